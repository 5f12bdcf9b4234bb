/- For every list of texts, JoinGrid of the program answers as JoinGrid of the specification, leaves its argument as it was, and hands back memory of its own: the law FnExactJoinGrid returns true, and its argument reads as it did. No condition. -/
import Derived.Test.YtkkifpjeafchnaaBunA
import Derived.Test.YtkkifpjeafchnaaHead
import Derived.Test.YtkkifpjeafchnaaLeaving
import Derived.Test.YtkkifpjeafchnaaBunD
import Derived.Test.YtkkifpjeafchnaaBunL
namespace Go.Proofs.Ytkkifpjeafchnaa.lawJoinGrid
open Go.ChangeShapes Go.WideShapes Go.ChangeAt Go.RowKit
open Go.ChangeMaps (open_string shut_string)

set_option maxRecDepth 100000 in
set_option maxHeartbeats 4000000 in
theorem walk (v : Value) (w : World) (hc : Came w v) :
    Calls Try.prog 12 #[v] w fun e w' => e = .returned (.bool true) ∧ Below w.heap.size w w' := by
  obtain ⟨A, c, ss, rfl, hstr, hlen, hsz⟩ := hc
  have hz := hid (szStringS_any A c w.heap.size ss 1048576 w hstr (by omega) (by omega) hlen hsz)
  have HS := hid hstr
  clear hlen hsz hstr
  go_enter Try.func12, Try.ntmps12
  go_wp2_with fail
  refine hz.out.mono ?_
  rintro e w0 ⟨r, rfl, rfl, hr⟩
  by_cases hneg : r < 0
  · clear hr
    go_wp2
    go_ret
    exact ⟨rfl, Below.refl _ _⟩
  have hpos : 0 ≤ r := by omega
  have hb := hr hpos
  have hn : ss.length ≤ 1048576 := by omega
  have HN := hid (show ∀ s ∈ ss, s.size ≤ 1048576 from fun s hs => by have := size_le_bytes hs; omega)
  clear hr hb
  -- the specification
  go_wp2_with fail
  refine (toStringS_any A c w.heap.size ss w HS.out (Nat.le_refl _) hn).mono ?_
  rintro e w1 ⟨rfl, C1, hw1, hC1⟩
  have HR1 := hid (madeRow hC1 hw1)
  have HB1 := hid (show Below w.heap.size w w1 by rw [hw1]; exact (Below.refl _ w).alloc (Nat.le_refl _) _)
  clear hw1 hC1
  go_wp2_with fail
  refine (specJoinGrid_any (some ⟨w.heap.size, 0, none⟩) ss.length w1.heap.size ss w1 (HR1.out.strs HR1.out.lt) (Nat.le_refl _) hn HN.out).mono ?_
  rintro e w2 ⟨hb2, A0, c0, res, ok, rfl, hout, hs0⟩
  have HO := hid hout
  have HS0 := hid hs0
  have HB2 := hid (HB1.out.trans (hb2.mono HB1.out.size))
  have HLr := hid hout.len
  clear hout hs0 hb2
  -- the program
  go_wp2_with fail
  refine (toStringS_any A c w.heap.size ss w2 (HS.out.below HB2.out (Nat.le_refl _)) HB2.out.size hn).mono ?_
  rintro e w3 ⟨rfl, C3, hw3, hC3⟩
  have HX3 := hid (madeRow hC3 hw3)
  have T3 := hid (show Below w2.heap.size w2 w3 by rw [hw3]; exact (Below.refl _ w2).alloc (Nat.le_refl _) _)
  clear hw3 hC3
  go_wp2_with fail
  refine (implJoinGrid_any (some ⟨w2.heap.size, 0, none⟩) ss.length ss w3 (HX3.out.strs HX3.out.lt) hn HN.out).mono ?_
  rintro e w4 ⟨hb4, Ag, cg, res', ok', rfl, hout, hown⟩
  obtain ⟨rfl, rfl⟩ := HO.out.uniq hout
  have HG4 := hid hown
  have T4 := hid (T3.out.trans (hb4.mono T3.out.size))
  have HX4 := hid (HX3.out.below hb4 HX3.out.lt)
  have L4 := hid hb4.size
  clear hout hown hb4
  go_wp2_with fail
  refine (eqIntS_same Ag A0 cg c0 w4.heap.size res' w4 HG4.out.ints ((HS0.out.below T4.out (Nat.le_refl _)).more T4.out.size) HLr.out).mono ?_
  rintro e w5 ⟨rfl, d5, rfl⟩
  have T5 := hid (below_drewN' T4.out d5)
  have E5 := hid (below_drewN' (Below.refl w4.heap.size w4) d5)
  have HG5 := hid (HG4.out.below E5.out)
  have HX5 := hid (HX4.out.below E5.out HX4.out.lt)
  have L5 := hid (Nat.le_trans L4.out E5.out.size)
  obtain ⟨w5, hw5⟩ : ∃ w5, w4.drewN d5 = w5 := ⟨_, rfl⟩
  rw [hw5] at T5 E5 HG5 HX5 L5 ⊢
  clear hw5
  -- the argument is as it was
  have HA5 := hid (HS.out.below (HB2.out.trans (T5.out.mono HB2.out.size)) (Nat.le_refl _))
  have HW5 := hid (Nat.le_trans HB2.out.size T5.out.size)
  go_wp2_with fail
  refine (toStringS_any A c w.heap.size ss w5 HA5.out HW5.out hn).mono ?_
  rintro e w6 ⟨rfl, C6, hw6, hC6⟩
  have HR6 := hid (madeRow hC6 hw6)
  have E6 := hid (show Below w5.heap.size w5 w6 by rw [hw6]; exact (Below.refl _ w5).alloc (Nat.le_refl _) _)
  have T6 := hid (T5.out.trans (E6.out.mono T5.out.size))
  have HG6 := hid (HG5.out.below E6.out)
  have HX6 := hid (HX5.out.below E6.out HX5.out.lt)
  have L6 := hid (Nat.le_trans L5.out E6.out.size)
  clear hw6 hC6
  go_wp2_with fail
  refine (eqStringS_same (some ⟨w2.heap.size, 0, none⟩) (some ⟨w5.heap.size, 0, none⟩) ss.length ss.length w6.heap.size ss w6 (HX6.out.strs HX6.out.lt) (HR6.out.strs HR6.out.lt) hn).mono ?_
  rintro e w7 ⟨rfl, d7, rfl⟩
  have T7 := hid (below_drewN' T6.out d7)
  have E7 := hid (below_drewN' (Below.refl w6.heap.size w6) d7)
  have HG7 := hid (HG6.out.below E7.out)
  have HX7 := hid (HX6.out.below E7.out HX6.out.lt)
  have L7 := hid (Nat.le_trans L6.out E7.out.size)
  obtain ⟨w7, hw7⟩ : ∃ w7, w6.drewN d7 = w7 := ⟨_, rfl⟩
  rw [hw7] at T7 E7 HG7 HX7 L7 ⊢
  clear hw7
  -- the argument is marked: the result stands
  obtain ⟨k1, hk1⟩ : ∃ k1, 1 + ss.length = k1 := ⟨_, rfl⟩
  have hmk := markStringS_row w2.heap.size ss.length ss.length 1 ss w7 rfl HX7.out (by omega) (by omega)
  rw [hk1] at hmk
  have HM := hid hmk
  have hk10 : 0 ≤ (k1 : Int) := Int.natCast_nonneg _
  clear hmk hk1
  go_wp2_with fail
  refine HM.out.mono ?_
  rintro e w8 ⟨rfl, hbut, _⟩
  have T8 := hid (T7.out.trans (hbut.below (Nat.le_refl _) T7.out.size))
  have HG8 := hid (HG7.out.but hbut (show w2.heap.size < w3.heap.size from HX3.out.lt))
  have L8 := hid (Nat.le_trans L7.out hbut.size)
  clear hbut
  go_wp2_with fail
  refine (eqIntS_same Ag A0 cg c0 w8.heap.size res' w8 HG8.out.ints ((HS0.out.below T8.out (Nat.le_refl _)).more T8.out.size) HLr.out).mono ?_
  rintro e w9 ⟨rfl, d9, rfl⟩
  have T9 := hid (below_drewN' T8.out d9)
  have E9 := hid (below_drewN' (Below.refl w8.heap.size w8) d9)
  have HG9 := hid (HG8.out.below E9.out)
  obtain ⟨w9, hw9⟩ : ∃ w9, w8.drewN d9 = w9 := ⟨_, rfl⟩
  rw [hw9] at T9 E9 HG9 ⊢
  clear hw9
  have L9 := hid (Nat.le_trans L8.out E9.out.size)
  clear L4 L5 L6 L7 L8 HX4 HX5 HX6 HX7 HG4 HG5 HG6 HG7 HG8 T4 T5 T6 T7 T8 E5 E6 E7 HM
  -- the result is marked, and holds its marks
  obtain ⟨k2, hk2⟩ : ∃ k2, 1 + res'.length = k2 := ⟨_, rfl⟩
  have HK2 := hid hk2
  have hk20 : 0 ≤ (k2 : Int) := Int.natCast_nonneg _
  clear hk2
  have HM := hid (markOwnI Ag cg w3.heap.size k2 res' w9 HG9.out L9.out HLr.out HK2.out)
  go_wp2_with fail
  refine HM.out.mono ?_
  rintro e w10 ⟨rfl, hb10, hg10⟩
  have T10 := hid (T9.out.trans (hb10.mono T3.out.size))
  have HG10 := hid hg10
  clear hb10 hg10
  have HD := hid (heldOwnI Ag cg w3.heap.size k2 res'.length w10 HG10.out HLr.out HK2.out)
  go_wp2_with fail
  refine HD.out.mono ?_
  rintro e w11 ⟨rfl, rfl⟩
  have T11 := T10
  have HG11 := HG10
  -- once more: the second result leaves the first as it is
  have HA11 := hid (HS.out.below (HB2.out.trans (T11.out.mono HB2.out.size)) (Nat.le_refl _))
  have HW11 := hid (Nat.le_trans HB2.out.size T11.out.size)
  go_wp2_with fail
  refine (toStringS_any A c w.heap.size ss w10 HA11.out HW11.out hn).mono ?_
  rintro e w12 ⟨rfl, C12, hw12, hC12⟩
  have HR12 := hid (madeRow hC12 hw12)
  have E12 := hid (show Below w10.heap.size w10 w12 by rw [hw12]; exact (Below.refl _ w10).alloc (Nat.le_refl _) _)
  have T12 := hid (T11.out.trans (E12.out.mono T11.out.size))
  have HG12 := hid (HG11.out.below E12.out)
  clear hw12 hC12
  go_wp2_with fail
  refine (implJoinGrid_any (some ⟨w10.heap.size, 0, none⟩) ss.length ss w12 (HR12.out.strs HR12.out.lt) hn HN.out).mono ?_
  rintro e w13 ⟨hb13, Ah, ch, res2, ok2, rfl, hout, hown⟩
  obtain ⟨rfl, rfl⟩ := HO.out.uniq hout
  have HH13 := hid hown
  have T13 := hid (T12.out.trans (hb13.mono T12.out.size))
  have HG13 := hid (HG12.out.below hb13)
  clear hout hown hb13
  go_wp2_with fail
  refine (eqIntS_same Ah A0 ch c0 w13.heap.size res2 w13 HH13.out.ints ((HS0.out.below T13.out (Nat.le_refl _)).more T13.out.size) HLr.out).mono ?_
  rintro e w14 ⟨rfl, d14, rfl⟩
  have T14 := hid (below_drewN' T13.out d14)
  have HG14 := hid (HG13.out.below (below_drewN' (Below.refl w13.heap.size w13) d14))
  have HD2 := hid (heldOwnI Ag cg w3.heap.size k2 res2.length (w13.drewN d14) HG14.out HLr.out HK2.out)
  go_wp2_with fail
  refine HD2.out.mono ?_
  rintro e w15 ⟨rfl, rfl⟩
  have T15 := T14
  go_wp2_with fail
  go_ret
  exact ⟨rfl, HB2.out.trans (T15.out.mono HB2.out.size)⟩

set_option maxRecDepth 100000 in
theorem lifted (os : Os) (started : os.Started) (H : Type) (enc : TypeId × Value → H) :
    ReturnsInHanded {} Try.checked os 12 .any (Rows.fnExactJoinGridSpec.pre6 enc Try.prog Try.f12 Rows.fnExactJoinGridRow.domain false) (Rows.fnExactJoinGridSpec.post enc Try.prog Try.f12 false true false false) := by
  refine returnsInHanded_of_change (C := Try.checked) Try.own started (by kernel_rfl) Try.func12
    (ChangeSpec.witness6 (enc := enc) (C := Try.checked) false ⟨#[], #[.slice none 0 0], []⟩ 8 (by kernel_rfl) (by kernel_rfl) (by kernel_rfl) (by kernel_rfl)) ?_
  intro W base args ds gs before hval0 hW hcnd _
  have hval : ∀ (j : Nat) t v, Try.f12.params[j]? = some t → args[j]? = some v → Value.okWide Try.prog W .any base t v := hval0
  have hW' := hW
  obtain ⟨p, q, hA0, hV, rfl, hfz, hnd⟩ := hW
  have hA : DataW.TrodAll enc Try.prog W 0 (fun _ => true) true Try.f12.params.toList args.toList ds p := hA0
  rw [Try.params12] at hA hval
  obtain ⟨v0, vs0, d0, ds0, p0, q0, hargs, rfl, rfl, h0, r0⟩ := trodAll_cons hA
  obtain ⟨rfl, rfl, rfl⟩ := trodAll_nil r0
  obtain rfl : args = #[v0] := by cases args; simp_all
  obtain ⟨rfl, rfl⟩ := trodVars_none hV
  have k0 := h0
  have lt0 : ∀ x ∈ p0, x.block < W.heap.size := by obtain ⟨m, hm⟩ := k0; exact DataW.trod_lt m _ _ _ hm
  have c0 := came_of (hval 0 30 v0 rfl rfl) h0
  clear hA0 hval0
  refine (walk v0 W c0).mono fun e W' ⟨he, bel⟩ => ?_
  subst he
  exact ⟨_, rfl, _, _, _, [], _, [], hW', trodAll_mk1 (shut_bool Try.underlying4 _), (trodAll_cons_mk (Below.trod Try.laidOut (by kernel_rfl) (of_decide_eq_true (by kernel_rfl)) k0 bel lt0) trodAll_mk0), rfl, bel.frame _, fun h => by cases h⟩

theorem closed : joinedFacts Try.pinned.checked.prog 12 Try.f12 Rows.fnExactJoinGridSpec Rows.fnExactJoinGridRow = true := by
  unfold joinedFacts
  exact and8 (by as_aux_lemma => kernel_rfl) head_enter head_lifts head_make (by as_aux_lemma => kernel_rfl) (by as_aux_lemma => kernel_rfl) (by as_aux_lemma => kernel_rfl) (by as_aux_lemma => kernel_rfl)

theorem proved : Rows.FnExactJoinGridSaid :=
  OpenClaim.holds_of_wide_leaving 12 Try.f12 rfl rfl rfl rfl rfl rfl rfl ⟨rfl, rfl, rfl, rfl, rfl⟩ rfl rfl rfl rfl rfl (by kernel_rfl) Try.func12 closed
    (of_decide_eq_true (by kernel_rfl)) (by unfold Func.isWrapper; first | (rw [if_pos (by decide +kernel)]; kernel_rfl) | (rw [if_neg (by decide +kernel)]; exact ⟨rfl, rfl⟩))
    (fun os started H enc _ => inLeaving (lifted os started H enc))
#print axioms proved

end Go.Proofs.Ytkkifpjeafchnaa.lawJoinGrid
