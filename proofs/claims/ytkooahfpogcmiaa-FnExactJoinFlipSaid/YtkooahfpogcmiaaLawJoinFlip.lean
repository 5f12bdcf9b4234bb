/- For all numbers of rows and columns and every list of integers, JoinFlip of the program answers as JoinFlip of the specification, leaves its argument as it was, and hands back memory of its own: the law FnExactJoinFlip returns true, and its argument reads as it did. No condition. -/
import Derived.Test.YtkooahfpogcmiaaBunA
import Derived.Test.YtkooahfpogcmiaaHead
import Derived.Test.YtkooahfpogcmiaaJoinSt
import Derived.Test.YtkooahfpogcmiaaCameI
namespace Go.Proofs.Ytkooahfpogcmiaa.lawJoinFlip
open Go.ChangeShapes Go.WideShapes Go.ChangeAt Go.RowKit
open Go.ChangeMaps (open_string shut_string)

set_option maxRecDepth 100000 in
set_option maxHeartbeats 4000000 in
theorem walk (v : Value) (a0 a1 : Int) (w : World) (hc : CameI w v) :
    Calls Try.prog 6 #[.int .i64 a0, .int .i64 a1, v] w fun e w' => e = .returned (.bool true) ∧ Below w.heap.size w w' := by
  obtain ⟨A, c, ss, rfl, hints, hlen⟩ := hc
  have HS := hid hints
  obtain ⟨n, hnl⟩ : ∃ n, ss.length = n := ⟨_, rfl⟩
  have HNL := hid hnl
  rw [hnl] at hlen ⊢
  clear hints
  go_enter Try.func6, Try.ntmps6
  by_cases hbig : 1048576 < n
  · have hbi : (1048576 : Int) < (n : Int) := by omega
    go_wp2
    go_ret
    exact ⟨rfl, Below.refl _ _⟩
  have hbi : ¬ (1048576 : Int) < (n : Int) := by omega
  have hn : ss.length ≤ 1048576 := by rw [hnl]; omega
  have HN := hid hn
  have HT := hid (fun (B : Nat) (W : World) (h : Ints W B A ss) hB => toIntS_any A c B ss W h hB hn)
  have HSP := hid (fun (B : Nat) (W : World) (h : Ints W B (some ⟨w.heap.size, 0, none⟩) ss) hB => specJoinFlip_any a0 a1 (some ⟨w.heap.size, 0, none⟩) ss.length B ss W h hB hn)
  have HIM := hid (fun (g : Nat) (W : World) (h : Ints W W.heap.size (some ⟨g, 0, none⟩) ss) => implJoinFlip_any a0 a1 (some ⟨g, 0, none⟩) ss.length ss W h hn)
  have HEQ := hid (fun (g g' B : Nat) (W : World) (h : Ints W B (some ⟨g, 0, none⟩) ss) (h' : Ints W B (some ⟨g', 0, none⟩) ss) => eqIntS_same (some ⟨g, 0, none⟩) (some ⟨g', 0, none⟩) ss.length ss.length B ss W h h' hn)
  have HMK := hid (fun (g k1 : Nat) (W : World) (h : Row8 W g ss) (hk : 1 + ss.length = k1) => show Calls Try.prog 19 #[.slice (some ⟨g, 0, none⟩) ss.length ss.length, .int .i64 1] W fun e w' => e = .returned (.int .i64 (k1 : Int)) ∧ But g W w' ∧ Row8 w' g (marksI 1 ss.length) by
    have := markIntS_row g ss.length ss.length 1 ss W rfl h (by omega)
    rwa [hk] at this)
  rw [hnl] at HT HSP HIM HEQ HMK
  clear hnl hn
  -- the specification
  go_wp2_with fail
  refine (HT.out w.heap.size w HS.out (Nat.le_refl _)).mono ?_
  rintro e w1 ⟨rfl, hbt, hrt⟩
  have HR1 := hid hrt
  have HB1 := hid hbt
  clear hbt hrt
  go_wp2_with fail
  refine (HSP.out w1.heap.size w1 (HR1.out.ints HR1.out.lt) (Nat.le_refl _)).mono ?_
  rintro e w2 ⟨hb2, A0, c0, res, ok, rfl, hout, hs0⟩
  have HO := hid hout
  have HS0 := hid hs0
  have HB2 := hid (HB1.out.trans (hb2.mono HB1.out.size))
  have HLr := hid (hout.len fun _ => by rw [flipL_length]; exact HN.out)
  clear hout hs0 hb2
  -- the program
  go_wp2_with fail
  refine (HT.out w.heap.size w2 (HS.out.below HB2.out (Nat.le_refl _)) HB2.out.size).mono ?_
  rintro e w3 ⟨rfl, hbt, hrt⟩
  have HX3 := hid hrt
  have T3 := hid hbt
  clear hbt hrt
  go_wp2_with fail
  refine (HIM.out w2.heap.size w3 (HX3.out.ints HX3.out.lt)).mono ?_
  rintro e w4 ⟨hb4, Ag, cg, res', ok', rfl, hout, hown⟩
  obtain ⟨rfl, rfl⟩ := HO.out.uniq hout
  have HG4 := hid hown
  have T4 := hid (T3.out.trans (hb4.mono T3.out.size))
  have HX4 := hid (HX3.out.below hb4 HX3.out.lt)
  have L4 := hid hb4.size
  clear hout hown hb4
  go_wp2_with fail
  refine (eqIntS_same Ag A0 cg c0 w4.heap.size res' w4 HG4.out.ints ((HS0.out.below T4.out (Nat.le_refl _)).more T4.out.size) HLr.out).mono ?_
  rintro e w5 ⟨rfl, d5, rfl⟩
  have T5 := hid (below_drewN' T4.out d5)
  have E5 := hid (below_drewN' (Below.refl w4.heap.size w4) d5)
  have HG5 := hid (HG4.out.below E5.out)
  have HX5 := hid (HX4.out.below E5.out HX4.out.lt)
  have L5 := hid (Nat.le_trans L4.out E5.out.size)
  obtain ⟨w5, hw5⟩ : ∃ w5, w4.drewN d5 = w5 := ⟨_, rfl⟩
  rw [hw5] at T5 E5 HG5 HX5 L5 ⊢
  clear hw5
  -- the argument is as it was
  have HA5 := hid (HS.out.below (HB2.out.trans (T5.out.mono HB2.out.size)) (Nat.le_refl _))
  have HW5 := hid (Nat.le_trans HB2.out.size T5.out.size)
  go_wp2_with fail
  refine (HT.out w.heap.size w5 HA5.out HW5.out).mono ?_
  rintro e w6 ⟨rfl, hbt, hrt⟩
  have HR6 := hid hrt
  have E6 := hid hbt
  have T6 := hid (T5.out.trans (E6.out.mono T5.out.size))
  have HG6 := hid (HG5.out.below E6.out)
  have HX6 := hid (HX5.out.below E6.out HX5.out.lt)
  have L6 := hid (Nat.le_trans L5.out E6.out.size)
  clear hbt hrt
  go_wp2_with fail
  refine (HEQ.out w2.heap.size w5.heap.size w6.heap.size w6 (HX6.out.ints HX6.out.lt) (HR6.out.ints HR6.out.lt)).mono ?_
  rintro e w7 ⟨rfl, d7, rfl⟩
  have T7 := hid (below_drewN' T6.out d7)
  have E7 := hid (below_drewN' (Below.refl w6.heap.size w6) d7)
  have HG7 := hid (HG6.out.below E7.out)
  have HX7 := hid (HX6.out.below E7.out HX6.out.lt)
  have L7 := hid (Nat.le_trans L6.out E7.out.size)
  obtain ⟨w7, hw7⟩ : ∃ w7, w6.drewN d7 = w7 := ⟨_, rfl⟩
  rw [hw7] at T7 E7 HG7 HX7 L7 ⊢
  clear hw7
  -- the argument is marked: the result stands
  obtain ⟨k1, hk1⟩ : ∃ k1, 1 + n = k1 := ⟨_, rfl⟩
  have HM := hid (HMK.out w2.heap.size k1 w7 HX7.out hk1)
  have hk10 : 0 ≤ (k1 : Int) := Int.natCast_nonneg _
  clear hk1
  go_wp2_with fail
  refine HM.out.mono ?_
  rintro e w8 ⟨rfl, hbut, _⟩
  have T8 := hid (T7.out.trans (hbut.below (Nat.le_refl _) T7.out.size))
  have HG8 := hid (HG7.out.but hbut (show w2.heap.size < w3.heap.size from HX3.out.lt))
  have L8 := hid (Nat.le_trans L7.out hbut.size)
  clear hbut
  go_wp2_with fail
  refine (eqIntS_same Ag A0 cg c0 w8.heap.size res' w8 HG8.out.ints ((HS0.out.below T8.out (Nat.le_refl _)).more T8.out.size) HLr.out).mono ?_
  rintro e w9 ⟨rfl, d9, rfl⟩
  have T9 := hid (below_drewN' T8.out d9)
  have E9 := hid (below_drewN' (Below.refl w8.heap.size w8) d9)
  have HG9 := hid (HG8.out.below E9.out)
  obtain ⟨w9, hw9⟩ : ∃ w9, w8.drewN d9 = w9 := ⟨_, rfl⟩
  rw [hw9] at T9 E9 HG9 ⊢
  clear hw9
  have L9 := hid (Nat.le_trans L8.out E9.out.size)
  clear L4 L5 L6 L7 L8 HX4 HX5 HX6 HX7 HG4 HG5 HG6 HG7 HG8 T4 T5 T6 T7 T8 E5 E6 E7 HM
  -- the result is marked, and holds its marks
  obtain ⟨k2, hk2⟩ : ∃ k2, 1 + res'.length = k2 := ⟨_, rfl⟩
  have HK2 := hid hk2
  have hk20 : 0 ≤ (k2 : Int) := Int.natCast_nonneg _
  clear hk2
  have HM := hid (markOwnI Ag cg w3.heap.size k2 res' w9 HG9.out L9.out HLr.out HK2.out)
  go_wp2_with fail
  refine HM.out.mono ?_
  rintro e w10 ⟨rfl, hb10, hg10⟩
  have T10 := hid (T9.out.trans (hb10.mono T3.out.size))
  have HG10 := hid hg10
  clear hb10 hg10
  have HD := hid (heldOwnI Ag cg w3.heap.size k2 res'.length w10 HG10.out HLr.out HK2.out)
  go_wp2_with fail
  refine HD.out.mono ?_
  rintro e w11 ⟨rfl, rfl⟩
  have T11 := T10
  have HG11 := HG10
  -- once more: the second result leaves the first as it is
  have HA11 := hid (HS.out.below (HB2.out.trans (T11.out.mono HB2.out.size)) (Nat.le_refl _))
  have HW11 := hid (Nat.le_trans HB2.out.size T11.out.size)
  go_wp2_with fail
  refine (HT.out w.heap.size w10 HA11.out HW11.out).mono ?_
  rintro e w12 ⟨rfl, hbt, hrt⟩
  have HR12 := hid hrt
  have E12 := hid hbt
  have T12 := hid (T11.out.trans (E12.out.mono T11.out.size))
  have HG12 := hid (HG11.out.below E12.out)
  clear hbt hrt
  go_wp2_with fail
  refine (HIM.out w10.heap.size w12 (HR12.out.ints HR12.out.lt)).mono ?_
  rintro e w13 ⟨hb13, Ah, ch, res2, ok2, rfl, hout, hown⟩
  obtain ⟨rfl, rfl⟩ := HO.out.uniq hout
  have HH13 := hid hown
  have T13 := hid (T12.out.trans (hb13.mono T12.out.size))
  have HG13 := hid (HG12.out.below hb13)
  clear hout hown hb13
  go_wp2_with fail
  refine (eqIntS_same Ah A0 ch c0 w13.heap.size res2 w13 HH13.out.ints ((HS0.out.below T13.out (Nat.le_refl _)).more T13.out.size) HLr.out).mono ?_
  rintro e w14 ⟨rfl, d14, rfl⟩
  have T14 := hid (below_drewN' T13.out d14)
  have HG14 := hid (HG13.out.below (below_drewN' (Below.refl w13.heap.size w13) d14))
  have HD2 := hid (heldOwnI Ag cg w3.heap.size k2 res2.length (w13.drewN d14) HG14.out HLr.out HK2.out)
  go_wp2_with fail
  refine HD2.out.mono ?_
  rintro e w15 ⟨rfl, rfl⟩
  have T15 := T14
  go_wp2_with fail
  go_ret
  exact ⟨rfl, HB2.out.trans (T15.out.mono HB2.out.size)⟩

set_option maxRecDepth 100000 in
theorem lifted (os : Os) (started : os.Started) (H : Type) (enc : TypeId × Value → H) :
    ReturnsInHanded {} Try.checked os 6 .any (Rows.fnExactJoinFlipSpec.pre6 enc Try.prog Try.f6 Rows.fnExactJoinFlipRow.domain false) (Rows.fnExactJoinFlipSpec.post enc Try.prog Try.f6 false true false false) := by
  refine returnsInHanded_of_change (C := Try.checked) Try.own started (by kernel_rfl) Try.func6
    (ChangeSpec.witness6 (enc := enc) (C := Try.checked) false ⟨#[], #[.int .i64 0, .int .i64 0, .slice none 0 0], []⟩ 8 (by kernel_rfl) (by kernel_rfl) (by kernel_rfl) (by kernel_rfl)) ?_
  intro W base args ds gs before hval0 hW hcnd _
  have hval : ∀ (j : Nat) t v, Try.f6.params[j]? = some t → args[j]? = some v → Value.okWide Try.prog W .any base t v := hval0
  have hW' := hW
  obtain ⟨p, q, hA0, hV, rfl, hfz, hnd⟩ := hW
  have hA : DataW.TrodAll enc Try.prog W 0 (fun _ => true) true Try.f6.params.toList args.toList ds p := hA0
  rw [Try.params6] at hA hval
  obtain ⟨v0, v1, v2, d0, d1, d2, p0, p1, p2, rfl, rfl, rfl, h0, h1, h2⟩ := trodAll_three hA
  obtain ⟨rfl, rfl⟩ := trodVars_none hV
  have k2 := h2
  have lt2 : ∀ x ∈ p2, x.block < W.heap.size := by obtain ⟨m, hm⟩ := k2; exact DataW.trod_lt m _ _ _ hm
  have c2 := cameI_of (hval 2 23 v2 rfl rfl) h2
  obtain ⟨a0, rfl, rfl, rfl, w0⟩ := open_int Try.underlying3 (hval 0 3 v0 rfl rfl) h0
  obtain ⟨a1, rfl, rfl, rfl, w1⟩ := open_int Try.underlying3 (hval 1 3 v1 rfl rfl) h1
  clear hA0 hval0
  refine (walk v2 a0 a1 W c2).mono fun e W' ⟨he, bel⟩ => ?_
  subst he
  exact ⟨_, rfl, _, _, _, [], _, [], hW', trodAll_mk1 (shut_bool Try.underlying4 _), trodAll_mk3 (shut_int Try.underlying3 w0) (shut_int Try.underlying3 w1) (Below.trod Try.laidOut (by kernel_rfl) (of_decide_eq_true (by kernel_rfl)) k2 bel lt2), rfl, bel.frame _, fun h => by cases h⟩

theorem closed : joinedFacts Try.pinned.checked.prog 6 Try.f6 Rows.fnExactJoinFlipSpec Rows.fnExactJoinFlipRow = true := by
  unfold joinedFacts
  exact and8 (by as_aux_lemma => kernel_rfl) head_enter head_lifts head_make (by as_aux_lemma => kernel_rfl) (by as_aux_lemma => kernel_rfl) (by as_aux_lemma => kernel_rfl) (by as_aux_lemma => kernel_rfl)

theorem proved : Rows.FnExactJoinFlipSaid :=
  OpenClaim.holds_of_wide 6 Try.f6 rfl rfl rfl rfl rfl rfl rfl ⟨rfl, rfl, rfl, rfl, rfl⟩ rfl rfl rfl rfl rfl (by kernel_rfl) Try.func6 closed
    (of_decide_eq_true (by kernel_rfl)) (by unfold Func.isWrapper; first | (rw [if_pos (by decide +kernel)]; kernel_rfl) | (rw [if_neg (by decide +kernel)]; exact ⟨rfl, rfl⟩))
    (fun os started H enc _ => lifted os started H enc)
#print axioms proved

end Go.Proofs.Ytkooahfpogcmiaa.lawJoinFlip
