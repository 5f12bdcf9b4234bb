/- For every two lists of texts GridUnder of the program answers as GridUnder of the specification, leaves its arguments as they were, and hands back memory of its own: the law FnExactGridUnder returns true, and its arguments read as they did. No condition. -/
import Derived.Test.YtcomaodpnhoeaaaJoinU
namespace Go.Proofs.Ytcomaodpnhoeaaa.lawGridUnder
open Go.ChangeShapes Go.WideShapes Go.ChangeAt Go.RowKit

set_option maxRecDepth 100000 in
set_option maxHeartbeats 8000000 in
theorem walk (v u : Value) (w : World) (hc : Came w v) (hc' : Came w u) :
    Calls Try.prog 9 #[v, u] w fun e w' => e = .returned (.bool true) ∧ Below w.heap.size w w' := by
  obtain ⟨A, c, ss, rfl, hstr, hlen, hsz⟩ := hc
  obtain ⟨A', c', tt, rfl, hstr', hlen', hsz'⟩ := hc'
  have hz := hid (szStringS_any A c w.heap.size ss 1048576 w hstr (by omega) (by omega) hlen hsz)
  have hz2 := hid (fun (r : Int) (h0 : 0 ≤ r) (h1 : r ≤ 1048576) => szStringS_any A' c' w.heap.size tt r w hstr' h0 h1 hlen' hsz')
  have HS := hid hstr
  have HS' := hid hstr'
  clear hlen hsz hstr hlen' hsz' hstr'
  go_enter Try.func9, Try.ntmps9
  go_wp2_with fail
  refine hz.out.mono ?_
  rintro e w0 ⟨r, rfl, rfl, hr⟩
  by_cases hneg : r < 0
  · clear hr
    go_wp2
    go_ret
    exact ⟨rfl, Below.refl _ _⟩
  have hpos : 0 ≤ r := by omega
  have hb := hr hpos
  have hn : ss.length ≤ 1048576 := by omega
  have HN := hid (show ∀ s ∈ ss, s.size ≤ 1048576 from fun s hs => by have := size_le_bytes hs; omega)
  have hz3 := hid (hz2.out r hpos (by omega))
  have HR := hid (show r ≤ 1048576 by omega)
  clear hr hb hz hz2
  go_wp2_with fail
  refine hz3.out.mono ?_
  rintro e w0 ⟨r', rfl, rfl, hr⟩
  by_cases hneg' : r' < 0
  · clear hr
    go_wp2
    go_ret
    exact ⟨rfl, Below.refl _ _⟩
  have hpos' : 0 ≤ r' := by omega
  have hb := hr hpos'
  have hn' : tt.length ≤ 1048576 := by have := HR.out; omega
  have HN' := hid (show ∀ s ∈ tt, s.size ≤ 1048576 from fun s hs => by have := HR.out; have := size_le_bytes hs; omega)
  clear hr hb hz3 HR
  -- the specification
  go_wp2_with fail
  refine (toStringS_any A c w.heap.size ss w HS.out (Nat.le_refl _) hn).mono ?_
  rintro e w1 ⟨rfl, C1, hw1, hC1⟩
  have HR1 := hid (madeRow hC1 hw1)
  have HB1 := hid (show Below w.heap.size w w1 by rw [hw1]; exact (Below.refl _ w).alloc (Nat.le_refl _) _)
  clear hw1 hC1
  go_wp2_with fail
  refine (toStringS_any A' c' w.heap.size tt w1 (HS'.out.below HB1.out (Nat.le_refl _)) HB1.out.size hn').mono ?_
  rintro e w2 ⟨rfl, C2, hw2, hC2⟩
  have HR2 := hid (madeRow hC2 hw2)
  have E2 := hid (show Below w1.heap.size w1 w2 by rw [hw2]; exact (Below.refl _ w1).alloc (Nat.le_refl _) _)
  have HB2 := hid (HB1.out.trans (E2.out.mono HB1.out.size))
  have HR1b := hid (HR1.out.below E2.out HR1.out.lt)
  clear hw2 hC2
  go_wp2_with fail
  refine (specGridUnder_any (some ⟨w.heap.size, 0, none⟩) (some ⟨w1.heap.size, 0, none⟩) ss.length tt.length w2.heap.size ss tt w2 (HR1b.out.strs HR1b.out.lt) (HR2.out.strs HR2.out.lt) (Nat.le_refl _) hn HN.out hn' HN'.out).mono ?_
  rintro e w3 ⟨hb3, A0, c0, res, ok, rfl, hout, hs0⟩
  have HO := hid hout
  have HS0 := hid hs0
  have HB3 := hid (HB2.out.trans (hb3.mono HB2.out.size))
  have HLr := hid hout.len
  clear hout hs0 hb3 HR1 HR1b HR2 E2 HB1 HB2
  -- the program
  go_wp2_with fail
  refine (toStringS_any A c w.heap.size ss w3 (HS.out.below HB3.out (Nat.le_refl _)) HB3.out.size hn).mono ?_
  rintro e w4 ⟨rfl, C4, hw4, hC4⟩
  have HX4 := hid (madeRow hC4 hw4)
  have T4 := hid (show Below w3.heap.size w3 w4 by rw [hw4]; exact (Below.refl _ w3).alloc (Nat.le_refl _) _)
  clear hw4 hC4
  go_wp2_with fail
  refine (toStringS_any A' c' w.heap.size tt w4 (HS'.out.below (HB3.out.trans (T4.out.mono HB3.out.size)) (Nat.le_refl _)) (Nat.le_trans HB3.out.size T4.out.size) hn').mono ?_
  rintro e w5 ⟨rfl, C5, hw5, hC5⟩
  have HY5 := hid (madeRow hC5 hw5)
  have E5 := hid (show Below w4.heap.size w4 w5 by rw [hw5]; exact (Below.refl _ w4).alloc (Nat.le_refl _) _)
  have T5 := hid (T4.out.trans (E5.out.mono T4.out.size))
  have HX5 := hid (HX4.out.below E5.out HX4.out.lt)
  clear hw5 hC5
  go_wp2_with fail
  refine (implGridUnder_any (some ⟨w3.heap.size, 0, none⟩) (some ⟨w4.heap.size, 0, none⟩) ss.length tt.length ss tt w5 (HX5.out.strs HX5.out.lt) (HY5.out.strs HY5.out.lt) hn HN.out hn' HN'.out).mono ?_
  intro e w6 hje
  obtain ⟨Ag, res', ok', rfl, hout, hown, hb6⟩ := joinEnd_open hje
  obtain ⟨rfl, rfl⟩ := HO.out.uniq hout
  have HG6 := hid hown
  have T6 := hid (T5.out.trans (hb6.mono T5.out.size))
  have HX6 := hid (HX5.out.below hb6 HX5.out.lt)
  have HY6 := hid (HY5.out.below hb6 HY5.out.lt)
  have L6 := hid hb6.size
  clear hout hown hb6 hje
  obtain ⟨lo, hlo⟩ : ∃ lo, w5.heap.size = lo := ⟨_, rfl⟩
  rw [hlo] at HG6 L6
  have LX := hid (show w3.heap.size < lo by rw [← hlo]; exact HX5.out.lt)
  have LY := hid (show w4.heap.size < lo by rw [← hlo]; exact HY5.out.lt)
  have XY := hid (show w3.heap.size < w4.heap.size from HX4.out.lt)
  have L3 := hid (show w3.heap.size ≤ lo by rw [← hlo]; exact T5.out.size)
  clear HX4 HX5 HY5 E5 hlo
  obtain ⟨bx, hbx⟩ : ∃ bx, w3.heap.size = bx := ⟨_, rfl⟩
  obtain ⟨bY, hby⟩ : ∃ bY, w4.heap.size = bY := ⟨_, rfl⟩
  rw [hbx] at HX6 LX XY
  rw [hby] at HY6 LY XY
  have LB := hid (show w3.heap.size ≤ bx by rw [hbx]; exact Nat.le_refl _)
  have LBY := hid (show w3.heap.size ≤ bY by rw [← hby]; exact T4.out.size)
  try rw [hbx]
  try rw [hby]
  clear T4 T5 hbx hby
  go_wp2_with fail
  refine (eqStringS_same Ag A0 res'.length c0 w6.heap.size res' w6 HG6.out.strs ((HS0.out.below T6.out (Nat.le_refl _)).more T6.out.size) HLr.out).mono ?_
  rintro e w7 ⟨rfl, d7, rfl⟩
  have T7 := hid (below_drewN' T6.out d7)
  have E7 := hid (below_drewN' (Below.refl w6.heap.size w6) d7)
  have HG7 := hid (HG6.out.below E7.out)
  have HX7 := hid (HX6.out.below E7.out HX6.out.lt)
  have HY7 := hid (HY6.out.below E7.out HY6.out.lt)
  have L7 := hid (Nat.le_trans L6.out E7.out.size)
  obtain ⟨w7, hw7⟩ : ∃ w7, w6.drewN d7 = w7 := ⟨_, rfl⟩
  rw [hw7] at T7 E7 HG7 HX7 HY7 L7 ⊢
  clear hw7
  have HA7 := hid (HS.out.below (HB3.out.trans (T7.out.mono HB3.out.size)) (Nat.le_refl _))
  have HW7 := hid (Nat.le_trans HB3.out.size T7.out.size)
  go_wp2_with fail
  refine (toStringS_any A c w.heap.size ss w7 HA7.out HW7.out hn).mono ?_
  rintro e w8 ⟨rfl, C8, hw8, hC8⟩
  have HR8 := hid (madeRow hC8 hw8)
  have E8 := hid (show Below w7.heap.size w7 w8 by rw [hw8]; exact (Below.refl _ w7).alloc (Nat.le_refl _) _)
  have T8 := hid (T7.out.trans (E8.out.mono T7.out.size))
  have HG8 := hid (HG7.out.below E8.out)
  have HX8 := hid (HX7.out.below E8.out HX7.out.lt)
  have HY8 := hid (HY7.out.below E8.out HY7.out.lt)
  have L8 := hid (Nat.le_trans L7.out E8.out.size)
  clear hw8 hC8
  go_wp2_with fail
  refine (eqStringS_same (some ⟨bx, 0, none⟩) (some ⟨w7.heap.size, 0, none⟩) ss.length ss.length w8.heap.size ss w8 (HX8.out.strs HX8.out.lt) (HR8.out.strs HR8.out.lt) hn).mono ?_
  rintro e w9 ⟨rfl, d9, rfl⟩
  have T9 := hid (below_drewN' T8.out d9)
  have E9 := hid (below_drewN' (Below.refl w8.heap.size w8) d9)
  have HG9 := hid (HG8.out.below E9.out)
  have HX9 := hid (HX8.out.below E9.out HX8.out.lt)
  have HY9 := hid (HY8.out.below E9.out HY8.out.lt)
  have L9 := hid (Nat.le_trans L8.out E9.out.size)
  obtain ⟨w9, hw9⟩ : ∃ w9, w8.drewN d9 = w9 := ⟨_, rfl⟩
  rw [hw9] at T9 E9 HG9 HX9 HY9 L9 ⊢
  clear hw9 HA7 HW7 HR8 HG8 HX8 HY8 L8 E8 E9 T8 HG7 HX7 HY7 L7 T7
  have HA9 := hid (HS'.out.below (HB3.out.trans (T9.out.mono HB3.out.size)) (Nat.le_refl _))
  have HW9 := hid (Nat.le_trans HB3.out.size T9.out.size)
  go_wp2_with fail
  refine (toStringS_any A' c' w.heap.size tt w9 HA9.out HW9.out hn').mono ?_
  rintro e w10 ⟨rfl, C10, hw10, hC10⟩
  have HR10 := hid (madeRow hC10 hw10)
  have E10 := hid (show Below w9.heap.size w9 w10 by rw [hw10]; exact (Below.refl _ w9).alloc (Nat.le_refl _) _)
  have T10 := hid (T9.out.trans (E10.out.mono T9.out.size))
  have HG10 := hid (HG9.out.below E10.out)
  have HX10 := hid (HX9.out.below E10.out HX9.out.lt)
  have HY10 := hid (HY9.out.below E10.out HY9.out.lt)
  have L10 := hid (Nat.le_trans L9.out E10.out.size)
  clear hw10 hC10
  go_wp2_with fail
  refine (eqStringS_same (some ⟨bY, 0, none⟩) (some ⟨w9.heap.size, 0, none⟩) tt.length tt.length w10.heap.size tt w10 (HY10.out.strs HY10.out.lt) (HR10.out.strs HR10.out.lt) hn').mono ?_
  rintro e w11 ⟨rfl, d11, rfl⟩
  have T11 := hid (below_drewN' T10.out d11)
  have E11 := hid (below_drewN' (Below.refl w10.heap.size w10) d11)
  have HG11 := hid (HG10.out.below E11.out)
  have HX11 := hid (HX10.out.below E11.out HX10.out.lt)
  have HY11 := hid (HY10.out.below E11.out HY10.out.lt)
  have L11 := hid (Nat.le_trans L10.out E11.out.size)
  obtain ⟨w11, hw11⟩ : ∃ w11, w10.drewN d11 = w11 := ⟨_, rfl⟩
  rw [hw11] at T11 E11 HG11 HX11 HY11 L11 ⊢
  clear hw11 HA9 HW9 HR10 HG10 HX10 HY10 L10 E10 E11 T10 HG9 HX9 HY9 L9 T9
  obtain ⟨k1, hk1'⟩ : ∃ k1, 1 + ss.length = k1 := ⟨_, rfl⟩
  have hmk := markStringS_row bx ss.length ss.length 1 ss w11 rfl HX11.out (by omega) (by omega)
  rw [hk1'] at hmk
  have HM := hid hmk
  have hk1 := hid hk1'
  have hk10 : 0 ≤ (k1 : Int) := Int.natCast_nonneg _
  clear hmk hk1'
  go_wp2_with fail
  refine HM.out.mono ?_
  rintro e w12 ⟨rfl, hbut, _⟩
  have T12 := hid (T11.out.trans (hbut.below LB.out T11.out.size))
  have HG12 := hid (HG11.out.but hbut LX.out)
  have HY12 := hid (HY11.out.but hbut (by have := XY.out; omega))
  have L12 := hid (Nat.le_trans L11.out hbut.size)
  clear hbut HM HX11 HY11 HG11 T11 L11
  obtain ⟨k2, hk2'⟩ : ∃ k2, k1 + tt.length = k2 := ⟨_, rfl⟩
  have hmk := markStringS_row bY tt.length tt.length k1 tt w12 rfl HY12.out (by have := hk1.out; omega) (by have := hk1.out; omega)
  rw [hk2'] at hmk
  have HM := hid hmk
  have hk20 : 0 ≤ (k2 : Int) := Int.natCast_nonneg _
  clear hmk hk2'
  go_wp2_with fail
  refine HM.out.mono ?_
  rintro e w13 ⟨rfl, hbut, _⟩
  have T13 := hid (T12.out.trans (hbut.below LBY.out T12.out.size))
  have HG13 := hid (HG12.out.but hbut LY.out)
  have L13 := hid (Nat.le_trans L12.out hbut.size)
  clear hbut HM HY12 HG12 T12 L12
  go_wp2_with fail
  refine (eqStringS_same Ag A0 res'.length c0 w13.heap.size res' w13 HG13.out.strs ((HS0.out.below T13.out (Nat.le_refl _)).more T13.out.size) HLr.out).mono ?_
  rintro e w14 ⟨rfl, d14, rfl⟩
  have T14 := hid (below_drewN' T13.out d14)
  have E14 := hid (below_drewN' (Below.refl w13.heap.size w13) d14)
  have HG14 := hid (HG13.out.below E14.out)
  have L14 := hid (Nat.le_trans L13.out E14.out.size)
  obtain ⟨w14, hw14⟩ : ∃ w14, w13.drewN d14 = w14 := ⟨_, rfl⟩
  rw [hw14] at T14 E14 HG14  L14 ⊢
  clear hw14
  -- the result is marked, and holds its marks
  obtain ⟨k3, hk3⟩ : ∃ k3, 1 + res'.length = k3 := ⟨_, rfl⟩
  have HK3 := hid hk3
  have hk30 : 0 ≤ (k3 : Int) := Int.natCast_nonneg _
  clear hk3
  have HM := hid (markOwn Ag lo k3 res' w14 HG14.out L14.out HLr.out HK3.out)
  go_wp2_with fail
  refine HM.out.mono ?_
  rintro e w15 ⟨rfl, hb15, hg15⟩
  have T15 := hid (T14.out.trans (hb15.mono L3.out))
  have HG15 := hid hg15
  clear hb15 hg15
  have HD := hid (heldOwn Ag lo k3 res'.length w15 HG15.out HLr.out HK3.out)
  go_wp2_with fail
  refine HD.out.mono ?_
  rintro e w16 ⟨rfl, hb16⟩
  have T16 := hid (T15.out.trans (hb16.mono T15.out.size))
  have HG16 := hid (HG15.out.below hb16)
  clear hb16 HM HD
  -- once more: the second result leaves the first as it is
  have HA16 := hid (HS.out.below (HB3.out.trans (T16.out.mono HB3.out.size)) (Nat.le_refl _))
  have HW16 := hid (Nat.le_trans HB3.out.size T16.out.size)
  go_wp2_with fail
  refine (toStringS_any A c w.heap.size ss w16 HA16.out HW16.out hn).mono ?_
  rintro e w17 ⟨rfl, C17, hw17, hC17⟩
  have HR17 := hid (madeRow hC17 hw17)
  have E17 := hid (show Below w16.heap.size w16 w17 by rw [hw17]; exact (Below.refl _ w16).alloc (Nat.le_refl _) _)
  have T17 := hid (T16.out.trans (E17.out.mono T16.out.size))
  have HG17 := hid (HG16.out.below E17.out)
  clear hw17 hC17
  have HA17 := hid (HS'.out.below (HB3.out.trans (T17.out.mono HB3.out.size)) (Nat.le_refl _))
  have HW17 := hid (Nat.le_trans HB3.out.size T17.out.size)
  go_wp2_with fail
  refine (toStringS_any A' c' w.heap.size tt w17 HA17.out HW17.out hn').mono ?_
  rintro e w18 ⟨rfl, C18, hw18, hC18⟩
  have HR18 := hid (madeRow hC18 hw18)
  have E18 := hid (show Below w17.heap.size w17 w18 by rw [hw18]; exact (Below.refl _ w17).alloc (Nat.le_refl _) _)
  have T18 := hid (T17.out.trans (E18.out.mono T17.out.size))
  have HG18 := hid (HG17.out.below E18.out)
  have HR17b := hid (HR17.out.below E18.out HR17.out.lt)
  clear hw18 hC18
  go_wp2_with fail
  refine (implGridUnder_any (some ⟨w16.heap.size, 0, none⟩) (some ⟨w17.heap.size, 0, none⟩) ss.length tt.length ss tt w18 (HR17b.out.strs HR17b.out.lt) (HR18.out.strs HR18.out.lt) hn HN.out hn' HN'.out).mono ?_
  intro e w19 hje
  obtain ⟨Ah, res2, ok2, rfl, hout, hown, hb19⟩ := joinEnd_open hje
  obtain ⟨rfl, rfl⟩ := HO.out.uniq hout
  have HH19 := hid hown
  have T19 := hid (T18.out.trans (hb19.mono T18.out.size))
  have HG19 := hid (HG18.out.below hb19)
  clear hout hown hb19 hje
  go_wp2_with fail
  refine (eqStringS_same Ah A0 res2.length c0 w19.heap.size res2 w19 HH19.out.strs ((HS0.out.below T19.out (Nat.le_refl _)).more T19.out.size) HLr.out).mono ?_
  rintro e w20 ⟨rfl, d20, rfl⟩
  have T20 := hid (below_drewN' T19.out d20)
  have HG20 := hid (HG19.out.below (below_drewN' (Below.refl w19.heap.size w19) d20))
  have HD2 := hid (heldOwn Ag lo k3 res2.length (w19.drewN d20) HG20.out HLr.out HK3.out)
  go_wp2_with fail
  refine HD2.out.mono ?_
  rintro e w21 ⟨rfl, hb21⟩
  have T21 := hid (T20.out.trans (hb21.mono T20.out.size))
  clear hb21
  go_wp2_with fail
  go_ret
  exact ⟨rfl, HB3.out.trans (T21.out.mono HB3.out.size)⟩

set_option maxRecDepth 100000 in
theorem lifted (os : Os) (started : os.Started) (H : Type) (enc : TypeId × Value → H) :
    ReturnsInHanded {} Try.checked os 9 .any (Rows.fnExactGridUnderSpec.pre6 enc Try.prog Try.f9 Rows.fnExactGridUnderRow.domain false) (Rows.fnExactGridUnderSpec.post enc Try.prog Try.f9 false true false false) := by
  refine returnsInHanded_of_change (C := Try.checked) Try.own started (by kernel_rfl) Try.func9
    (ChangeSpec.witness6 (enc := enc) (C := Try.checked) false ⟨#[], #[.slice none 0 0, .slice none 0 0], []⟩ 8 (by kernel_rfl) (by kernel_rfl) (by kernel_rfl) (by kernel_rfl)) ?_
  intro W base args ds gs before hval0 hW hcnd _
  have hval : ∀ (j : Nat) t v, Try.f9.params[j]? = some t → args[j]? = some v → Value.okWide Try.prog W .any base t v := hval0
  have hW' := hW
  obtain ⟨p, q, hA0, hV, rfl, hfz, hnd⟩ := hW
  have hA : DataW.TrodAll enc Try.prog W 0 (fun _ => true) true Try.f9.params.toList args.toList ds p := hA0
  rw [Try.params9] at hA hval
  obtain ⟨v0, v1, d0, d1, p0, p1, rfl, rfl, rfl, h0, h1⟩ := trodAll_two hA
  obtain ⟨rfl, rfl⟩ := trodVars_none hV
  have k0 := h0
  have k1 := h1
  have lt0 : ∀ x ∈ p0, x.block < W.heap.size := by obtain ⟨m, hm⟩ := k0; exact DataW.trod_lt m _ _ _ hm
  have lt1 : ∀ x ∈ p1, x.block < W.heap.size := by obtain ⟨m, hm⟩ := k1; exact DataW.trod_lt m _ _ _ hm
  have c0 := came_of (hval 0 23 v0 rfl rfl) h0
  have c1 := came_of (hval 1 23 v1 rfl rfl) h1
  clear hA0 hval0
  refine (walk v0 v1 W c0 c1).mono fun e W' ⟨he, bel⟩ => ?_
  subst he
  exact ⟨_, rfl, _, _, _, [], _, [], hW', trodAll_mk1 (shut_bool Try.underlying4 _), trodAll_mk2 (Below.trod Try.laidOut (by kernel_rfl) (of_decide_eq_true (by kernel_rfl)) k0 bel lt0) (Below.trod Try.laidOut (by kernel_rfl) (of_decide_eq_true (by kernel_rfl)) k1 bel lt1), rfl, bel.frame _, fun h => by cases h⟩

theorem closed : joinedFacts Try.pinned.checked.prog 9 Try.f9 Rows.fnExactGridUnderSpec Rows.fnExactGridUnderRow = true := by
  unfold joinedFacts
  exact and8 (by as_aux_lemma => kernel_rfl) head_enter head_lifts head_make (by as_aux_lemma => kernel_rfl) (by as_aux_lemma => kernel_rfl) (by as_aux_lemma => kernel_rfl) (by as_aux_lemma => kernel_rfl)

theorem proved : Rows.FnExactGridUnderSaid :=
  OpenClaim.holds_of_wide 9 Try.f9 rfl rfl rfl rfl rfl rfl rfl ⟨rfl, rfl, rfl, rfl, rfl⟩ rfl rfl rfl rfl rfl (by kernel_rfl) Try.func9 closed
    (of_decide_eq_true (by kernel_rfl)) (by unfold Func.isWrapper; first | (rw [if_pos (by decide +kernel)]; kernel_rfl) | (rw [if_neg (by decide +kernel)]; exact ⟨rfl, rfl⟩))
    (fun os started H enc _ => lifted os started H enc)
#print axioms proved

end Go.Proofs.Ytcomaodpnhoeaaa.lawGridUnder
