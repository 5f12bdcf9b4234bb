/- For all numbers and every two lists of integers, JoinPairs of the program answers as JoinPairs of the specification, leaves its arguments as they were, and hands back memory of its own: the law FnExactJoinPairs returns true, and its arguments read as they did. No condition. -/
import Derived.Test.YtkooahfpogcmiaaBunA
import Derived.Test.YtkooahfpogcmiaaHead
import Derived.Test.YtkooahfpogcmiaaTwoS
import Derived.Test.YtkooahfpogcmiaaCameI
namespace Go.Proofs.Ytkooahfpogcmiaa.lawJoinPairs
open Go.ChangeShapes Go.WideShapes Go.ChangeAt Go.RowKit
open Go.ChangeMaps (open_string shut_string)

set_option maxRecDepth 100000 in
set_option maxHeartbeats 4000000 in
theorem walk (v v' : Value) (a0 a1 a3 : Int) (w : World) (hc : CameI w v) (hc' : CameI w v') :
    Calls Try.prog 4 #[.int .i64 a0, .int .i64 a1, v, .int .i64 a3, v'] w fun e w' => e = .returned (.bool true) ∧ Below w.heap.size w w' := by
  obtain ⟨A, c, ss, rfl, hints, hlen⟩ := hc
  obtain ⟨A', c', tt, rfl, hints', hlen'⟩ := hc'
  have HS := hid hints
  have HS' := hid hints'
  obtain ⟨n, hnl⟩ : ∃ n, ss.length = n := ⟨_, rfl⟩
  obtain ⟨n', hnl'⟩ : ∃ n', tt.length = n' := ⟨_, rfl⟩
  have HNL := hid hnl
  have HNL' := hid hnl'
  rw [hnl] at hlen ⊢
  rw [hnl'] at hlen' ⊢
  clear hints hints'
  go_enter Try.func4, Try.ntmps4
  by_cases hbig : 1048576 < n
  · have hbi : (1048576 : Int) < (n : Int) := by omega
    go_wp2
    go_ret
    exact ⟨rfl, Below.refl _ _⟩
  by_cases hbig' : 1048576 < n'
  · have hbi : ¬ (1048576 : Int) < (n : Int) := by omega
    have hbi' : (1048576 : Int) < (n' : Int) := by omega
    go_wp2
    go_ret
    exact ⟨rfl, Below.refl _ _⟩
  have hbi : ¬ (1048576 : Int) < (n : Int) := by omega
  have hbi' : ¬ (1048576 : Int) < (n' : Int) := by omega
  have hn : ss.length ≤ 1048576 := by rw [hnl]; omega
  have hn' : tt.length ≤ 1048576 := by rw [hnl']; omega
  have HT := hid (fun (B : Nat) (W : World) (h : Ints W B A ss) hB => toIntS_any A c B ss W h hB hn)
  have HT' := hid (fun (B : Nat) (W : World) (h : Ints W B A' tt) hB => toIntS_any A' c' B tt W h hB hn')
  have HSP := hid (fun (g g' B : Nat) (W : World) (h : Ints W B (some ⟨g, 0, none⟩) ss) (h' : Ints W B (some ⟨g', 0, none⟩) tt) hB => specJoinPairs_any a0 a1 (some ⟨g, 0, none⟩) ss.length ss a3 (some ⟨g', 0, none⟩) tt.length B tt W h h' hB hn hn')
  have HIM := hid (fun (g g' : Nat) (W : World) (h : Ints W W.heap.size (some ⟨g, 0, none⟩) ss) (h' : Ints W W.heap.size (some ⟨g', 0, none⟩) tt) => implJoinPairs_any a0 a1 (some ⟨g, 0, none⟩) ss.length ss a3 (some ⟨g', 0, none⟩) tt.length tt W h h' hn hn')
  have HEQ := hid (fun (g g' B : Nat) (W : World) (h : Ints W B (some ⟨g, 0, none⟩) ss) (h' : Ints W B (some ⟨g', 0, none⟩) ss) => eqIntS_same (some ⟨g, 0, none⟩) (some ⟨g', 0, none⟩) ss.length ss.length B ss W h h' hn)
  have HEQ' := hid (fun (g g' B : Nat) (W : World) (h : Ints W B (some ⟨g, 0, none⟩) tt) (h' : Ints W B (some ⟨g', 0, none⟩) tt) => eqIntS_same (some ⟨g, 0, none⟩) (some ⟨g', 0, none⟩) tt.length tt.length B tt W h h' hn')
  have HMK := hid (fun (g k1 : Nat) (W : World) (h : Row8 W g ss) (hk : 1 + ss.length = k1) => show Calls Try.prog 19 #[.slice (some ⟨g, 0, none⟩) ss.length ss.length, .int .i64 1] W fun e w' => e = .returned (.int .i64 (k1 : Int)) ∧ But g W w' ∧ Row8 w' g (marksI 1 ss.length) by
    have := markIntS_row g ss.length ss.length 1 ss W rfl h (by omega)
    rwa [hk] at this)
  have HMK' := hid (fun (g k0 k1 : Nat) (W : World) (h : Row8 W g tt) (h0 : k0 ≤ 1048577) (hk : k0 + tt.length = k1) => show Calls Try.prog 19 #[.slice (some ⟨g, 0, none⟩) tt.length tt.length, .int .i64 (k0 : Int)] W fun e w' => e = .returned (.int .i64 (k1 : Int)) ∧ But g W w' ∧ Row8 w' g (marksI k0 tt.length) by
    have := markIntS_row g tt.length tt.length k0 tt W rfl h (by omega)
    rwa [hk] at this)
  rw [hnl] at HT HSP HIM HEQ HMK
  rw [hnl'] at HT' HSP HIM HEQ' HMK'
  have HNB := hid (show n ≤ 1048576 by omega)
  clear hnl hn hnl' hn'
  -- the specification
  go_wp2_with fail
  refine (HT.out w.heap.size w HS.out (Nat.le_refl _)).mono ?_
  rintro e w1 ⟨rfl, hbt, hrt⟩
  have HR1 := hid hrt
  have HB1 := hid hbt
  clear hbt hrt
  go_wp2_with fail
  refine (HT'.out w.heap.size w1 (HS'.out.below HB1.out (Nat.le_refl _)) HB1.out.size).mono ?_
  rintro e w2 ⟨rfl, hbt, hrt⟩
  have HR2 := hid hrt
  have HR1b := hid (HR1.out.below hbt HR1.out.lt)
  have HB2 := hid (HB1.out.trans (hbt.mono HB1.out.size))
  clear hbt hrt
  go_wp2_with fail
  refine (HSP.out w.heap.size w1.heap.size w2.heap.size w2 (HR1b.out.ints HR1b.out.lt) (HR2.out.ints HR2.out.lt) (Nat.le_refl _)).mono ?_
  rintro e w3 ⟨hb3, A0, c0, res, ok, rfl, hout, hs0⟩
  have HO := hid hout
  have HS0 := hid hs0
  have HB3 := hid (HB2.out.trans (hb3.mono HB2.out.size))
  have HLr := hid (hout.len fun hd => by
    rw [joinedL_length]
    have h1 : ss.length ≤ 20 := hd.1.2.2.1.2.1
    have h2 : tt.length ≤ 20 := hd.2.1.2.2.1.2.1
    unfold joinP
    omega)
  clear hout hs0 hb3 HR1 HR1b HR2
  -- the program
  go_wp2_with fail
  refine (HT.out w.heap.size w3 (HS.out.below HB3.out (Nat.le_refl _)) HB3.out.size).mono ?_
  rintro e w4 ⟨rfl, hbt, hrt⟩
  have HX4 := hid hrt
  have T4 := hid hbt
  clear hbt hrt
  have HB4 := hid (HB3.out.trans (T4.out.mono HB3.out.size))
  go_wp2_with fail
  refine (HT'.out w.heap.size w4 (HS'.out.below HB4.out (Nat.le_refl _)) HB4.out.size).mono ?_
  rintro e w5 ⟨rfl, hbt, hrt⟩
  have HY5 := hid hrt
  have HX5 := hid (HX4.out.below hbt HX4.out.lt)
  have T5 := hid (T4.out.trans (hbt.mono T4.out.size))
  have HLX := hid (show w3.heap.size < w4.heap.size from HX4.out.lt)
  have HLY := hid (show w4.heap.size < w5.heap.size from HY5.out.lt)
  clear hbt hrt
  go_wp2_with fail
  refine (HIM.out w3.heap.size w4.heap.size w5 (HX5.out.ints HX5.out.lt) (HY5.out.ints HY5.out.lt)).mono ?_
  rintro e w6 ⟨hb6, Ag, cg, res', ok', rfl, hout, hown⟩
  obtain ⟨rfl, rfl⟩ := HO.out.uniq hout
  have HG6 := hid hown
  have T6 := hid (T5.out.trans (hb6.mono T5.out.size))
  have HX6 := hid (HX5.out.below hb6 HX5.out.lt)
  have HY6 := hid (HY5.out.below hb6 HY5.out.lt)
  have L6 := hid hb6.size
  clear hout hown hb6
  go_wp2_with fail
  refine (eqIntS_same Ag A0 cg c0 w6.heap.size res' w6 HG6.out.ints ((HS0.out.below T6.out (Nat.le_refl _)).more T6.out.size) HLr.out).mono ?_
  rintro e w7 ⟨rfl, d7, rfl⟩
  have T7 := hid (below_drewN' T6.out d7)
  have E7 := hid (below_drewN' (Below.refl w6.heap.size w6) d7)
  have HG7 := hid (HG6.out.below E7.out)
  have HX7 := hid (HX6.out.below E7.out HX6.out.lt)
  have HY7 := hid (HY6.out.below E7.out HY6.out.lt)
  have L7 := hid (Nat.le_trans L6.out E7.out.size)
  obtain ⟨w7, hw7⟩ : ∃ w7, w6.drewN d7 = w7 := ⟨_, rfl⟩
  rw [hw7] at T7 E7 HG7 HX7 HY7 L7 ⊢
  clear hw7
  -- the arguments are as they were
  have HA7 := hid (HS.out.below (HB3.out.trans (T7.out.mono HB3.out.size)) (Nat.le_refl _))
  have HW7 := hid (Nat.le_trans HB3.out.size T7.out.size)
  go_wp2_with fail
  refine (HT.out w.heap.size w7 HA7.out HW7.out).mono ?_
  rintro e w8 ⟨rfl, hbt, hrt⟩
  have HR8 := hid hrt
  have E8 := hid hbt
  have T8 := hid (T7.out.trans (E8.out.mono T7.out.size))
  have HG8 := hid (HG7.out.below E8.out)
  have HX8 := hid (HX7.out.below E8.out HX7.out.lt)
  have HY8 := hid (HY7.out.below E8.out HY7.out.lt)
  have L8 := hid (Nat.le_trans L7.out E8.out.size)
  clear hbt hrt
  go_wp2_with fail
  refine (HEQ.out w3.heap.size w7.heap.size w8.heap.size w8 (HX8.out.ints HX8.out.lt) (HR8.out.ints HR8.out.lt)).mono ?_
  rintro e w9 ⟨rfl, d9, rfl⟩
  have T9 := hid (below_drewN' T8.out d9)
  have E9 := hid (below_drewN' (Below.refl w8.heap.size w8) d9)
  have HG9 := hid (HG8.out.below E9.out)
  have HX9 := hid (HX8.out.below E9.out HX8.out.lt)
  have HY9 := hid (HY8.out.below E9.out HY8.out.lt)
  have L9 := hid (Nat.le_trans L8.out E9.out.size)
  obtain ⟨w9, hw9⟩ : ∃ w9, w8.drewN d9 = w9 := ⟨_, rfl⟩
  rw [hw9] at T9 E9 HY9 HG9 HX9 L9 ⊢
  clear hw9
  have HA9 := hid (HS'.out.below (HB3.out.trans (T9.out.mono HB3.out.size)) (Nat.le_refl _))
  have HW9 := hid (Nat.le_trans HB3.out.size T9.out.size)
  go_wp2_with fail
  refine (HT'.out w.heap.size w9 HA9.out HW9.out).mono ?_
  rintro e w10 ⟨rfl, hbt, hrt⟩
  have HR10 := hid hrt
  have E10 := hid hbt
  have T10 := hid (T9.out.trans (E10.out.mono T9.out.size))
  have HG10 := hid (HG9.out.below E10.out)
  have HX10 := hid (HX9.out.below E10.out HX9.out.lt)
  have HY10 := hid (HY9.out.below E10.out HY9.out.lt)
  have L10 := hid (Nat.le_trans L9.out E10.out.size)
  clear hbt hrt
  go_wp2_with fail
  refine (HEQ'.out w4.heap.size w9.heap.size w10.heap.size w10 (HY10.out.ints HY10.out.lt) (HR10.out.ints HR10.out.lt)).mono ?_
  rintro e w11 ⟨rfl, d11, rfl⟩
  have T11 := hid (below_drewN' T10.out d11)
  have E11 := hid (below_drewN' (Below.refl w10.heap.size w10) d11)
  have HG11 := hid (HG10.out.below E11.out)
  have HX11 := hid (HX10.out.below E11.out HX10.out.lt)
  have HY11 := hid (HY10.out.below E11.out HY10.out.lt)
  have L11 := hid (Nat.le_trans L10.out E11.out.size)
  obtain ⟨w11, hw11⟩ : ∃ w11, w10.drewN d11 = w11 := ⟨_, rfl⟩
  rw [hw11] at T11 E11 HG11 HX11 HY11 L11 ⊢
  clear hw11
  -- the arguments are marked: the result stands
  obtain ⟨k1, hk1⟩ : ∃ k1, 1 + n = k1 := ⟨_, rfl⟩
  have HM := hid (HMK.out w3.heap.size k1 w11 HX11.out hk1)
  have hk10 : 0 ≤ (k1 : Int) := Int.natCast_nonneg _
  have HK1 := hid (show k1 ≤ 1048577 by have := HNB.out; omega)
  clear hk1
  go_wp2_with fail
  refine HM.out.mono ?_
  rintro e w12 ⟨rfl, hbut, _⟩
  have T12 := hid (T11.out.trans (hbut.below (Nat.le_refl _) T11.out.size))
  have HG12 := hid (HG11.out.but hbut (show w3.heap.size < w5.heap.size from Nat.lt_trans HLX.out HLY.out))
  have HY12 := hid (HY11.out.but hbut (Nat.ne_of_gt HLX.out))
  have L12 := hid (Nat.le_trans L11.out hbut.size)
  clear hbut
  obtain ⟨k1', hk1'⟩ : ∃ k1', k1 + n' = k1' := ⟨_, rfl⟩
  have HM' := hid (HMK'.out w4.heap.size k1 k1' w12 HY12.out HK1.out hk1')
  have hk10' : 0 ≤ (k1' : Int) := Int.natCast_nonneg _
  clear hk1'
  go_wp2_with fail
  refine HM'.out.mono ?_
  rintro e w13 ⟨rfl, hbut, _⟩
  have T13 := hid (T12.out.trans (hbut.below (Nat.le_of_lt HLX.out) T12.out.size))
  have HG13 := hid (HG12.out.but hbut (show w4.heap.size < w5.heap.size from HLY.out))
  have L13 := hid (Nat.le_trans L12.out hbut.size)
  clear hbut
  go_wp2_with fail
  refine (eqIntS_same Ag A0 cg c0 w13.heap.size res' w13 HG13.out.ints ((HS0.out.below T13.out (Nat.le_refl _)).more T13.out.size) HLr.out).mono ?_
  rintro e w14 ⟨rfl, d14, rfl⟩
  have T14 := hid (below_drewN' T13.out d14)
  have E14 := hid (below_drewN' (Below.refl w13.heap.size w13) d14)
  have HG14 := hid (HG13.out.below E14.out)
  have L14 := hid (Nat.le_trans L13.out E14.out.size)
  obtain ⟨w14, hw14⟩ : ∃ w14, w13.drewN d14 = w14 := ⟨_, rfl⟩
  rw [hw14] at T14 E14 HG14 L14 ⊢
  clear hw14
  clear L6 L7 L8 L9 L10 L11 L12 L13 HX4 HX5 HX6 HX7 HX8 HX9 HX10 HX11 HY5 HY6 HY7 HY8 HY9 HY10 HY11 HY12 HG6 HG7 HG8 HG9 HG10 HG11 HG12 HG13 T6 T7 T8 T9 T10 T11 T12 T13 E7 E8 E9 E10 E11 HM HM' HR8 HR10
  -- the result is marked, and holds its marks
  obtain ⟨k2, hk2⟩ : ∃ k2, 1 + res'.length = k2 := ⟨_, rfl⟩
  have HK2 := hid hk2
  have hk20 : 0 ≤ (k2 : Int) := Int.natCast_nonneg _
  clear hk2
  have HM := hid (markOwnI Ag cg w5.heap.size k2 res' w14 HG14.out L14.out HLr.out HK2.out)
  go_wp2_with fail
  refine HM.out.mono ?_
  rintro e w15 ⟨rfl, hb15, hg15⟩
  have T15 := hid (T14.out.trans (hb15.mono T5.out.size))
  have HG15 := hid hg15
  clear hb15 hg15
  have HD := hid (heldOwnI Ag cg w5.heap.size k2 res'.length w15 HG15.out HLr.out HK2.out)
  go_wp2_with fail
  refine HD.out.mono ?_
  rintro e wh ⟨rfl, rfl⟩
  -- once more: the second result leaves the first as it is
  have HA15 := hid (HS.out.below (HB3.out.trans (T15.out.mono HB3.out.size)) (Nat.le_refl _))
  have HW15 := hid (Nat.le_trans HB3.out.size T15.out.size)
  go_wp2_with fail
  refine (HT.out w.heap.size w15 HA15.out HW15.out).mono ?_
  rintro e w16 ⟨rfl, hbt, hrt⟩
  have HR16 := hid hrt
  have E16 := hid hbt
  have T16 := hid (T15.out.trans (E16.out.mono T15.out.size))
  have HG16 := hid (HG15.out.below E16.out)
  clear hbt hrt
  have HA16 := hid (HS'.out.below (HB3.out.trans (T16.out.mono HB3.out.size)) (Nat.le_refl _))
  have HW16 := hid (Nat.le_trans HB3.out.size T16.out.size)
  go_wp2_with fail
  refine (HT'.out w.heap.size w16 HA16.out HW16.out).mono ?_
  rintro e w17 ⟨rfl, hbt, hrt⟩
  have HR17 := hid hrt
  have E17 := hid hbt
  have HR16b := hid (HR16.out.below E17.out HR16.out.lt)
  have T17 := hid (T16.out.trans (E17.out.mono T16.out.size))
  have HG17 := hid (HG16.out.below E17.out)
  clear hbt hrt
  go_wp2_with fail
  refine (HIM.out w15.heap.size w16.heap.size w17 (HR16b.out.ints HR16b.out.lt) (HR17.out.ints HR17.out.lt)).mono ?_
  rintro e w18 ⟨hb18, Ah, ch, res2, ok2, rfl, hout, hown⟩
  obtain ⟨rfl, rfl⟩ := HO.out.uniq hout
  have HH18 := hid hown
  have T18 := hid (T17.out.trans (hb18.mono T17.out.size))
  have HG18 := hid (HG17.out.below hb18)
  clear hout hown hb18
  go_wp2_with fail
  refine (eqIntS_same Ah A0 ch c0 w18.heap.size res2 w18 HH18.out.ints ((HS0.out.below T18.out (Nat.le_refl _)).more T18.out.size) HLr.out).mono ?_
  rintro e w19 ⟨rfl, d19, rfl⟩
  have T19 := hid (below_drewN' T18.out d19)
  have HG19 := hid (HG18.out.below (below_drewN' (Below.refl w18.heap.size w18) d19))
  have HD2 := hid (heldOwnI Ag cg w5.heap.size k2 res2.length (w18.drewN d19) HG19.out HLr.out HK2.out)
  go_wp2_with fail
  refine HD2.out.mono ?_
  rintro e wh2 ⟨rfl, rfl⟩
  go_wp2_with fail
  go_ret
  exact ⟨rfl, HB3.out.trans (T19.out.mono HB3.out.size)⟩
set_option maxRecDepth 100000 in
theorem lifted (os : Os) (started : os.Started) (H : Type) (enc : TypeId × Value → H) :
    ReturnsInHanded {} Try.checked os 4 .any (Rows.fnExactJoinPairsSpec.pre6 enc Try.prog Try.f4 Rows.fnExactJoinPairsRow.domain false) (Rows.fnExactJoinPairsSpec.post enc Try.prog Try.f4 false true false false) := by
  refine returnsInHanded_of_change (C := Try.checked) Try.own started (by kernel_rfl) Try.func4
    (ChangeSpec.witness6 (enc := enc) (C := Try.checked) false ⟨#[], #[.int .i64 0, .int .i64 0, .slice none 0 0, .int .i64 0, .slice none 0 0], []⟩ 8 (by kernel_rfl) (by kernel_rfl) (by kernel_rfl) (by kernel_rfl)) ?_
  intro W base args ds gs before hval0 hW hcnd _
  have hval : ∀ (j : Nat) t v, Try.f4.params[j]? = some t → args[j]? = some v → Value.okWide Try.prog W .any base t v := hval0
  have hW' := hW
  obtain ⟨p, q, hA0, hV, rfl, hfz, hnd⟩ := hW
  have hA : DataW.TrodAll enc Try.prog W 0 (fun _ => true) true Try.f4.params.toList args.toList ds p := hA0
  rw [Try.params4] at hA hval
  obtain ⟨v0, vs0, d0, ds0, p0, q0, hargs, rfl, rfl, h0, r0⟩ := trodAll_cons hA
  obtain ⟨v1, vs1, d1, ds1, p1, q1, rfl, rfl, rfl, h1, r1⟩ := trodAll_cons r0
  obtain ⟨v2, vs2, d2, ds2, p2, q2, rfl, rfl, rfl, h2, r2⟩ := trodAll_cons r1
  obtain ⟨v3, vs3, d3, ds3, p3, q3, rfl, rfl, rfl, h3, r3⟩ := trodAll_cons r2
  obtain ⟨v4, vs4, d4, ds4, p4, q4, rfl, rfl, rfl, h4, r4⟩ := trodAll_cons r3
  obtain ⟨rfl, rfl, rfl⟩ := trodAll_nil r4
  obtain rfl : args = #[v0, v1, v2, v3, v4] := by cases args; simp_all
  obtain ⟨rfl, rfl⟩ := trodVars_none hV
  have k2 := h2
  have k4 := h4
  have lt2 : ∀ x ∈ p2, x.block < W.heap.size := by obtain ⟨m, hm⟩ := k2; exact DataW.trod_lt m _ _ _ hm
  have lt4 : ∀ x ∈ p4, x.block < W.heap.size := by obtain ⟨m, hm⟩ := k4; exact DataW.trod_lt m _ _ _ hm
  have c2 := cameI_of (hval 2 23 v2 rfl rfl) h2
  have c4 := cameI_of (hval 4 23 v4 rfl rfl) h4
  obtain ⟨a0, rfl, rfl, rfl, w0⟩ := open_int Try.underlying3 (hval 0 3 v0 rfl rfl) h0
  obtain ⟨a1, rfl, rfl, rfl, w1⟩ := open_int Try.underlying3 (hval 1 3 v1 rfl rfl) h1
  obtain ⟨a3, rfl, rfl, rfl, w3⟩ := open_int Try.underlying3 (hval 3 3 v3 rfl rfl) h3
  clear hA0 hval0
  refine (walk v2 v4 a0 a1 a3 W c2 c4).mono fun e W' ⟨he, bel⟩ => ?_
  subst he
  exact ⟨_, rfl, _, _, _, [], _, [], hW', trodAll_mk1 (shut_bool Try.underlying4 _), (trodAll_cons_mk (shut_int Try.underlying3 w0) (trodAll_cons_mk (shut_int Try.underlying3 w1) (trodAll_cons_mk (Below.trod Try.laidOut (by kernel_rfl) (of_decide_eq_true (by kernel_rfl)) k2 bel lt2) (trodAll_cons_mk (shut_int Try.underlying3 w3) (trodAll_cons_mk (Below.trod Try.laidOut (by kernel_rfl) (of_decide_eq_true (by kernel_rfl)) k4 bel lt4) trodAll_mk0))))), rfl, bel.frame _, fun h => by cases h⟩

theorem closed : joinedFacts Try.pinned.checked.prog 4 Try.f4 Rows.fnExactJoinPairsSpec Rows.fnExactJoinPairsRow = true := by
  unfold joinedFacts
  exact and8 (by as_aux_lemma => kernel_rfl) head_enter head_lifts head_make (by as_aux_lemma => kernel_rfl) (by as_aux_lemma => kernel_rfl) (by as_aux_lemma => kernel_rfl) (by as_aux_lemma => kernel_rfl)

theorem proved : Rows.FnExactJoinPairsSaid :=
  OpenClaim.holds_of_wide 4 Try.f4 rfl rfl rfl rfl rfl rfl rfl ⟨rfl, rfl, rfl, rfl, rfl⟩ rfl rfl rfl rfl rfl (by kernel_rfl) Try.func4 closed
    (of_decide_eq_true (by kernel_rfl)) (by unfold Func.isWrapper; first | (rw [if_pos (by decide +kernel)]; kernel_rfl) | (rw [if_neg (by decide +kernel)]; exact ⟨rfl, rfl⟩))
    (fun os started H enc _ => lifted os started H enc)
#print axioms proved

end Go.Proofs.Ytkooahfpogcmiaa.lawJoinPairs
