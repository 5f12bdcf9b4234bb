/- For all numbers and every two lists of integers, JoinRounds of the program answers as JoinRounds of the specification, leaves its arguments as they were, and hands back memory of its own: the law FnExactJoinRounds returns true, and its arguments read as they did. No condition. -/
import Derived.Test.YtkooahfpogcmiaaBunA
import Derived.Test.YtkooahfpogcmiaaHead
import Derived.Test.YtkooahfpogcmiaaTwoS
import Derived.Test.YtkooahfpogcmiaaCameI
namespace Go.Proofs.Ytkooahfpogcmiaa.lawJoinRounds
open Go.ChangeShapes Go.WideShapes Go.ChangeAt Go.RowKit
open Go.ChangeMaps (open_string shut_string)

set_option maxRecDepth 100000 in
set_option maxHeartbeats 4000000 in
theorem walk (v v' : Value) (a0 a1 a3 : Int) (w : World) (hc : CameI w v) (hc' : CameI w v') :
    Calls Try.prog 5 #[.int .i64 a0, .int .i64 a1, v, .int .i64 a3, v'] w fun e w' => e = .returned (.bool true) ∧ Below w.heap.size w w' := by
  obtain ⟨A, c, ss, rfl, hints, hlen⟩ := hc
  obtain ⟨A', c', tt, rfl, hints', hlen'⟩ := hc'
  have HS := hid hints
  have HS' := hid hints'
  obtain ⟨n, hnl⟩ : ∃ n, ss.length = n := ⟨_, rfl⟩
  obtain ⟨n', hnl'⟩ : ∃ n', tt.length = n' := ⟨_, rfl⟩
  have HNL := hid hnl
  have HNL' := hid hnl'
  rw [hnl] at hlen ⊢
  rw [hnl'] at hlen' ⊢
  clear hints hints'
  go_enter Try.func5, Try.ntmps5
  by_cases hbig : 1048576 < n
  · have hbi : (1048576 : Int) < (n : Int) := by omega
    go_wp2
    go_ret
    exact ⟨rfl, Below.refl _ _⟩
  by_cases hbig' : 1048576 < n'
  · have hbi : ¬ (1048576 : Int) < (n : Int) := by omega
    have hbi' : (1048576 : Int) < (n' : Int) := by omega
    go_wp2
    go_ret
    exact ⟨rfl, Below.refl _ _⟩
  have hbi : ¬ (1048576 : Int) < (n : Int) := by omega
  have hbi' : ¬ (1048576 : Int) < (n' : Int) := by omega
  have hn : ss.length ≤ 1048576 := by rw [hnl]; omega
  have hn' : tt.length ≤ 1048576 := by rw [hnl']; omega
  have HT := hid (fun (B : Nat) (W : World) (h : Ints W B A ss) hB => toIntS_any A c B ss W h hB hn)
  have HT' := hid (fun (B : Nat) (W : World) (h : Ints W B A' tt) hB => toIntS_any A' c' B tt W h hB hn')
  have HSP := hid (fun (g g' B : Nat) (W : World) (h : Ints W B (some ⟨g, 0, none⟩) ss) (h' : Ints W B (some ⟨g', 0, none⟩) tt) hB => specJoinRounds_any a0 a1 (some ⟨g, 0, none⟩) ss.length ss a3 (some ⟨g', 0, none⟩) tt.length B tt W h h' hB hn hn')
  have HIM := hid (fun (g g' : Nat) (W : World) (h : Ints W W.heap.size (some ⟨g, 0, none⟩) ss) (h' : Ints W W.heap.size (some ⟨g', 0, none⟩) tt) => implJoinRounds_any a0 a1 (some ⟨g, 0, none⟩) ss.length ss a3 (some ⟨g', 0, none⟩) tt.length tt W h h' hn hn')
  have HEQ := hid (fun (g g' B : Nat) (W : World) (h : Ints W B (some ⟨g, 0, none⟩) ss) (h' : Ints W B (some ⟨g', 0, none⟩) ss) => eqIntS_same (some ⟨g, 0, none⟩) (some ⟨g', 0, none⟩) ss.length ss.length B ss W h h' hn)
  have HEQ' := hid (fun (g g' B : Nat) (W : World) (h : Ints W B (some ⟨g, 0, none⟩) tt) (h' : Ints W B (some ⟨g', 0, none⟩) tt) => eqIntS_same (some ⟨g, 0, none⟩) (some ⟨g', 0, none⟩) tt.length tt.length B tt W h h' hn')
  rw [hnl] at HT HSP HIM HEQ
  rw [hnl'] at HT' HSP HIM HEQ'
  clear hnl hn hnl' hn'
  -- the specification
  go_wp2_with fail
  refine (HT.out w.heap.size w HS.out (Nat.le_refl _)).mono ?_
  rintro e w1 ⟨rfl, hbt, hrt⟩
  have HR1 := hid hrt
  have HB1 := hid hbt
  clear hbt hrt
  go_wp2_with fail
  refine (HT'.out w.heap.size w1 (HS'.out.below HB1.out (Nat.le_refl _)) HB1.out.size).mono ?_
  rintro e w2 ⟨rfl, hbt, hrt⟩
  have HR2 := hid hrt
  have HR1b := hid (HR1.out.below hbt HR1.out.lt)
  have HB2 := hid (HB1.out.trans (hbt.mono HB1.out.size))
  clear hbt hrt
  go_wp2_with fail
  refine (HSP.out w.heap.size w1.heap.size w2.heap.size w2 (HR1b.out.ints HR1b.out.lt) (HR2.out.ints HR2.out.lt) (Nat.le_refl _)).mono ?_
  rintro e w3 ⟨hb3, res, ok, rfl, hout⟩
  have HO := hid hout
  have HB3 := hid (HB2.out.trans (hb3.mono HB2.out.size))
  clear hout hb3 HR1 HR1b HR2
  -- the program
  go_wp2_with fail
  refine (HT.out w.heap.size w3 (HS.out.below HB3.out (Nat.le_refl _)) HB3.out.size).mono ?_
  rintro e w4 ⟨rfl, hbt, hrt⟩
  have HX4 := hid hrt
  have T4 := hid hbt
  clear hbt hrt
  have HB4 := hid (HB3.out.trans (T4.out.mono HB3.out.size))
  go_wp2_with fail
  refine (HT'.out w.heap.size w4 (HS'.out.below HB4.out (Nat.le_refl _)) HB4.out.size).mono ?_
  rintro e w5 ⟨rfl, hbt, hrt⟩
  have HY5 := hid hrt
  have HX5 := hid (HX4.out.below hbt HX4.out.lt)
  have T5 := hid (T4.out.trans (hbt.mono T4.out.size))
  have HLX := hid (show w3.heap.size < w4.heap.size from HX4.out.lt)
  have HLY := hid (show w4.heap.size < w5.heap.size from HY5.out.lt)
  clear hbt hrt
  go_wp2_with fail
  refine (HIM.out w3.heap.size w4.heap.size w5 (HX5.out.ints HX5.out.lt) (HY5.out.ints HY5.out.lt)).mono ?_
  rintro e w7 ⟨hb7, res', ok', rfl, hout⟩
  obtain ⟨rfl, rfl⟩ := HO.out.uniq hout
  have T7 := hid (T5.out.trans (hb7.mono T5.out.size))
  have HX7 := hid (HX5.out.below hb7 HX5.out.lt)
  have HY7 := hid (HY5.out.below hb7 HY5.out.lt)
  clear hout hb7
  -- the arguments are as they were
  have HA7 := hid (HS.out.below (HB3.out.trans (T7.out.mono HB3.out.size)) (Nat.le_refl _))
  have HW7 := hid (Nat.le_trans HB3.out.size T7.out.size)
  go_wp2_with fail
  refine (HT.out w.heap.size w7 HA7.out HW7.out).mono ?_
  rintro e w8 ⟨rfl, hbt, hrt⟩
  have HR8 := hid hrt
  have E8 := hid hbt
  have T8 := hid (T7.out.trans (E8.out.mono T7.out.size))
  have HX8 := hid (HX7.out.below E8.out HX7.out.lt)
  have HY8 := hid (HY7.out.below E8.out HY7.out.lt)
  clear hbt hrt
  go_wp2_with fail
  refine (HEQ.out w3.heap.size w7.heap.size w8.heap.size w8 (HX8.out.ints HX8.out.lt) (HR8.out.ints HR8.out.lt)).mono ?_
  rintro e w9 ⟨rfl, d9, rfl⟩
  have T9 := hid (below_drewN' T8.out d9)
  have E9 := hid (below_drewN' (Below.refl w8.heap.size w8) d9)
  have HY9 := hid (HY8.out.below E9.out HY8.out.lt)
  obtain ⟨w9, hw9⟩ : ∃ w9, w8.drewN d9 = w9 := ⟨_, rfl⟩
  rw [hw9] at T9 E9 HY9 ⊢
  clear hw9
  have HA9 := hid (HS'.out.below (HB3.out.trans (T9.out.mono HB3.out.size)) (Nat.le_refl _))
  have HW9 := hid (Nat.le_trans HB3.out.size T9.out.size)
  go_wp2_with fail
  refine (HT'.out w.heap.size w9 HA9.out HW9.out).mono ?_
  rintro e w10 ⟨rfl, hbt, hrt⟩
  have HR10 := hid hrt
  have E10 := hid hbt
  have T10 := hid (T9.out.trans (E10.out.mono T9.out.size))
  have HY10 := hid (HY9.out.below E10.out HY9.out.lt)
  clear hbt hrt
  go_wp2_with fail
  refine (HEQ'.out w4.heap.size w9.heap.size w10.heap.size w10 (HY10.out.ints HY10.out.lt) (HR10.out.ints HR10.out.lt)).mono ?_
  rintro e w11 ⟨rfl, d11, rfl⟩
  have T11 := hid (below_drewN' T10.out d11)
  go_wp2_with fail
  go_ret
  exact ⟨rfl, HB3.out.trans (T11.out.mono HB3.out.size)⟩
set_option maxRecDepth 100000 in
theorem lifted (os : Os) (started : os.Started) (H : Type) (enc : TypeId × Value → H) :
    ReturnsInHanded {} Try.checked os 5 .any (Rows.fnExactJoinRoundsSpec.pre6 enc Try.prog Try.f5 Rows.fnExactJoinRoundsRow.domain false) (Rows.fnExactJoinRoundsSpec.post enc Try.prog Try.f5 false true false false) := by
  refine returnsInHanded_of_change (C := Try.checked) Try.own started (by kernel_rfl) Try.func5
    (ChangeSpec.witness6 (enc := enc) (C := Try.checked) false ⟨#[], #[.int .i64 0, .int .i64 0, .slice none 0 0, .int .i64 0, .slice none 0 0], []⟩ 8 (by kernel_rfl) (by kernel_rfl) (by kernel_rfl) (by kernel_rfl)) ?_
  intro W base args ds gs before hval0 hW hcnd _
  have hval : ∀ (j : Nat) t v, Try.f5.params[j]? = some t → args[j]? = some v → Value.okWide Try.prog W .any base t v := hval0
  have hW' := hW
  obtain ⟨p, q, hA0, hV, rfl, hfz, hnd⟩ := hW
  have hA : DataW.TrodAll enc Try.prog W 0 (fun _ => true) true Try.f5.params.toList args.toList ds p := hA0
  rw [Try.params5] at hA hval
  obtain ⟨v0, vs0, d0, ds0, p0, q0, hargs, rfl, rfl, h0, r0⟩ := trodAll_cons hA
  obtain ⟨v1, vs1, d1, ds1, p1, q1, rfl, rfl, rfl, h1, r1⟩ := trodAll_cons r0
  obtain ⟨v2, vs2, d2, ds2, p2, q2, rfl, rfl, rfl, h2, r2⟩ := trodAll_cons r1
  obtain ⟨v3, vs3, d3, ds3, p3, q3, rfl, rfl, rfl, h3, r3⟩ := trodAll_cons r2
  obtain ⟨v4, vs4, d4, ds4, p4, q4, rfl, rfl, rfl, h4, r4⟩ := trodAll_cons r3
  obtain ⟨rfl, rfl, rfl⟩ := trodAll_nil r4
  obtain rfl : args = #[v0, v1, v2, v3, v4] := by cases args; simp_all
  obtain ⟨rfl, rfl⟩ := trodVars_none hV
  have k2 := h2
  have k4 := h4
  have lt2 : ∀ x ∈ p2, x.block < W.heap.size := by obtain ⟨m, hm⟩ := k2; exact DataW.trod_lt m _ _ _ hm
  have lt4 : ∀ x ∈ p4, x.block < W.heap.size := by obtain ⟨m, hm⟩ := k4; exact DataW.trod_lt m _ _ _ hm
  have c2 := cameI_of (hval 2 23 v2 rfl rfl) h2
  have c4 := cameI_of (hval 4 23 v4 rfl rfl) h4
  obtain ⟨a0, rfl, rfl, rfl, w0⟩ := open_int Try.underlying3 (hval 0 3 v0 rfl rfl) h0
  obtain ⟨a1, rfl, rfl, rfl, w1⟩ := open_int Try.underlying3 (hval 1 3 v1 rfl rfl) h1
  obtain ⟨a3, rfl, rfl, rfl, w3⟩ := open_int Try.underlying3 (hval 3 3 v3 rfl rfl) h3
  clear hA0 hval0
  refine (walk v2 v4 a0 a1 a3 W c2 c4).mono fun e W' ⟨he, bel⟩ => ?_
  subst he
  exact ⟨_, rfl, _, _, _, [], _, [], hW', trodAll_mk1 (shut_bool Try.underlying4 _), (trodAll_cons_mk (shut_int Try.underlying3 w0) (trodAll_cons_mk (shut_int Try.underlying3 w1) (trodAll_cons_mk (Below.trod Try.laidOut (by kernel_rfl) (of_decide_eq_true (by kernel_rfl)) k2 bel lt2) (trodAll_cons_mk (shut_int Try.underlying3 w3) (trodAll_cons_mk (Below.trod Try.laidOut (by kernel_rfl) (of_decide_eq_true (by kernel_rfl)) k4 bel lt4) trodAll_mk0))))), rfl, bel.frame _, fun h => by cases h⟩

theorem closed : joinedFacts Try.pinned.checked.prog 5 Try.f5 Rows.fnExactJoinRoundsSpec Rows.fnExactJoinRoundsRow = true := by
  unfold joinedFacts
  exact and8 (by as_aux_lemma => kernel_rfl) head_enter head_lifts head_make (by as_aux_lemma => kernel_rfl) (by as_aux_lemma => kernel_rfl) (by as_aux_lemma => kernel_rfl) (by as_aux_lemma => kernel_rfl)

theorem proved : Rows.FnExactJoinRoundsSaid :=
  OpenClaim.holds_of_wide 5 Try.f5 rfl rfl rfl rfl rfl rfl rfl ⟨rfl, rfl, rfl, rfl, rfl⟩ rfl rfl rfl rfl rfl (by kernel_rfl) Try.func5 closed
    (of_decide_eq_true (by kernel_rfl)) (by unfold Func.isWrapper; first | (rw [if_pos (by decide +kernel)]; kernel_rfl) | (rw [if_neg (by decide +kernel)]; exact ⟨rfl, rfl⟩))
    (fun os started H enc _ => lifted os started H enc)
#print axioms proved

end Go.Proofs.Ytkooahfpogcmiaa.lawJoinRounds
