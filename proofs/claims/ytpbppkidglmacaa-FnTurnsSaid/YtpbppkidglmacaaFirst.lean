/- BeamFirst of the program, by its contract. -/
import Derived.Test.YtpbppkidglmacaaTurns
namespace Go.Proofs.Ytpbppkidglmacaa
open Go.RowKit Go.Shelf
attribute [local go_sem] Oper.semAt_some

/-- Ways of which the last one alone has a mirror. -/
def LastMirror {L : Nat} (t : Int → Int → UInt8) (bw : Nat → Wy) (pre : List (Fin L)) (v : Int) (m : Nat) : Prop :=
  ∃ pre0 x, pre = pre0 ++ [x] ∧ (∀ y ∈ pre0, mirrorAt t bw y.val = false) ∧ mirrorAt t bw x.val = true ∧ v = ((cellN m (bw x.val) : Nat) : Int)
theorem first_upto {L k m : Nat} {t : Int → Int → UInt8} {bw : Nat → Wy} {v : Int} (hk : k ≤ L) (h : LastMirror t bw (upto L k) v m) : ∃ j, (List.range L).find? (mirrorAt t bw) = some j ∧ v = ((cellN m (bw j) : Nat) : Int) := by
  obtain ⟨pre0, x, e, h0, h1, hv⟩ := h
  cases k with
  | zero =>
    rw [upto_zero] at e
    have := congrArg List.length e
    simp at this
  | succ k =>
    rw [upto_succ (by omega)] at e
    obtain ⟨e1, e2⟩ := List.append_inj' e rfl
    subst e1
    have e3 : x.val = k := by
      have : (⟨k, by omega⟩ : Fin L) = x := by simpa using e2
      rw [← this]
    rw [e3] at h1 hv
    refine ⟨k, List.find?_range_eq_some.2 ⟨h1, List.mem_range.2 (by omega), fun j hj => ?_⟩, hv⟩
    have hm : (⟨j, by omega⟩ : Fin L) ∈ upto L k := by
      unfold upto
      rw [List.mem_take_iff_getElem]
      exact ⟨j, by simp; omega, by simp⟩
    rw [h0 _ hm]; rfl
theorem none_all {L : Nat} {t : Int → Int → UInt8} {bw : Nat → Wy} (h : ∀ y ∈ List.finRange L, mirrorAt t bw y.val = false) : (List.range L).find? (mirrorAt t bw) = none :=
  List.find?_eq_none.2 fun j hj => by rw [h ⟨j, List.mem_range.1 hj⟩ (List.mem_finRange _)]; decide

set_option maxRecDepth 100000 in
set_option maxHeartbeats 2000000 in
theorem implBeamFirst_any (A : Option Addr) (c : Nat) (ss : List ByteArray) (p : Int) (w : World) (h : Strs w w.heap.size A ss) (hn : ss.length ≤ 1048576) (hs : ∀ s ∈ ss, s.size ≤ 1048576) :
    Calls Try.prog 44 #[.slice A ss.length c, .int .i64 p] w fun e w' => Below w.heap.size w w' ∧ ∃ x ok, e = .returned (.tuple #[.int .i64 x, .bool ok]) ∧ BeamOut firstR ss p x ok := by
  have HR := hid (fun w' hb => gridWithPort_any A c ss p w' (h.below (B' := w.heap.size) hb (Nat.le_refl _) |>.more hb.size) hn hs)
  clear h hs
  have Y0 := heap_new1 w (.cells #[.int .i64 0] 3) (.cells #[.bool false] 4)
  have Y1 := heap_new0 (w.alloc (.cells #[.int .i64 0] 3)) (.cells #[.bool false] 4)
  have YB : Below w.heap.size w ((w.alloc (.cells #[.int .i64 0] 3)).alloc (.cells #[.bool false] 4)) := ((Below.refl _ w).alloc (Nat.le_refl _) _).alloc (by simp) _
  have YS : ((w.alloc (.cells #[.int .i64 0] 3)).alloc (.cells #[.bool false] 4)).heap.size = w.heap.size + 2 := by simp
  rw [World.size_alloc] at Y1
  have HY0 := hid Y0
  have HY1 := hid Y1
  have HYB := hid YB
  have HYS := hid YS
  clear Y0 Y1 YB YS
  refine (callsIn_wide (n := 3)).1 ?_
  refine callsIn_of_wp_marks Try.func44 rfl trivial ?_ rfl
  simp only [Try.ntmps44, List.size_toArray, List.length_cons, List.length_nil, Nat.reduceAdd, Nat.reduceSub, Array.replicate_succ, Array.replicate_zero, List.push_toArray, List.append_toArray, List.nil_append, List.cons_append]
  gi_wp2_with fail
  generalize World.alloc (World.alloc w _) _ = Z at HY0 HY1 HYB HYS
  refine ⟨trivial, callsIn_wide.2 ((HR.out Z HYB.out).mono ?_)⟩
  rintro e w1 ⟨hbel, ⟨n, m, q, hq, rfl⟩ | ⟨hno, rfl⟩⟩
  · have HB := hid (HYB.out.trans (hbel.mono HYB.out.size))
    have V0 := hid ((hbel.block _ (lt_of_block HY0.out)).trans HY0.out)
    have V1 := hid ((hbel.block _ (lt_of_block HY1.out)).trans HY1.out)
    have VS := hid (show w.heap.size + 2 ≤ w1.heap.size by rw [← HYS.out]; exact hbel.size)
    have hg := hq.1
    obtain rfl := hq.2.1
    have HQ := hid hq
    have hn5 := hg.2.2.1
    have hm5 := hg.2.2.2.2.1
    have HGC := hid (show (gcells n m (pad (flat ss))).size = 27 from hg.csize)
    have HWS := hid (fun (Bg Bp : Nat) (w' : World) h1 h2 => ways_stops 2 Bg Bp n m q (blen n m (lett m (pad (flat ss))) q) (pad (flat ss)) rfl hg.plen hn5 hm5 hq.2.2 w' h1 h2)
    have HAT := hid (show ∀ j, j < blen n m (lett m (pad (flat ss))) q → ∀ w', Calls Try.prog 59 #[.agg (gcells n m (pad (flat ss))), .agg #[.int .i64 (bway n m (lett m (pad (flat ss))) q j).i, .int .i64 (bway n m (lett m (pad (flat ss))) q j).k]] w' fun e w'' => e = .returned (.int .u8 (lett m (pad (flat ss)) (bway n m (lett m (pad (flat ss))) q j).i (bway n m (lett m (pad (flat ss))) q j).k).toNat) ∧ Below w'.heap.size w' w'' from fun j hj w' => by
      have hin := blen_in (n := n) (m := m) (t := lett m (pad (flat ss))) hj
      obtain ⟨p, hp, he, hb⟩ := inG_cell hg.plen hn5 hm5 hin
      exact at_any n m (pad (flat ss)) _ _ p _ w' hg.plen hp he ⟨hin.1, by have := hin.2.1; omega⟩ hm5 hb)
    have HCE := hid (show ∀ j, j < blen n m (lett m (pad (flat ss))) q → ∀ w', Calls Try.prog 55 #[.agg (gcells n m (pad (flat ss))), .agg #[.int .i64 (bway n m (lett m (pad (flat ss))) q j).i, .int .i64 (bway n m (lett m (pad (flat ss))) q j).k]] w' fun e w'' => e = .returned (.int .i64 ((cellN m (bway n m (lett m (pad (flat ss))) q j) : Nat) : Int)) ∧ Below w'.heap.size w' w'' from fun j hj w' => by
      have hin := blen_in (n := n) (m := m) (t := lett m (pad (flat ss))) hj
      have h1 := cellN_int hin
      have h2 := cellN_lt hin
      have h3 := hg.le25
      exact cell_cells _ _ _ m _ w' (gcells_1 _ _ _) (by omega) h1 ⟨hin.1, by have := hin.2.1; omega⟩ ⟨by omega, by omega⟩)
    have HRR := hid (show (match (List.range (blen n m (lett m (pad (flat ss))) q)).find? (mirrorAt (lett m (pad (flat ss))) (bway n m (lett m (pad (flat ss))) q)) with
      | some j => (((cellN m (bway n m (lett m (pad (flat ss))) q j) : Nat) : Int), true)
      | none => (0, false)) = firstR n m (lett m (pad (flat ss))) q from rfl)
    clear hbel hq hg
    have HONE := hid (gcells_one n m (pad (flat ss)))
    generalize gcells n m (pad (flat ss)) = cs at *
    generalize bway n m (lett m (pad (flat ss))) q = bw at *
    generalize blen n m (lett m (pad (flat ss))) q = L at *
    have HS := hid (show (Try.prog.info? 44).map (·.size) = some cs.size by rw [HGC.out]; exact Try.size_grid)
    have HZ := hid (show zeroG.size = cs.size by rw [HGC.out]; rfl)
    have HL := hid (setRow_heap (w1.alloc (.cells zeroG 44)) w1.heap.size zeroG cs 44 (0, 0) (heap_new0 w1 _))
    have HL0 := hid (show ((w1.alloc (.cells zeroG 44)).setRow w1.heap.size cs).heap[w.heap.size]? = some (.cells #[.int .i64 0] 3 (0, 0)) by
      rw [setRow_other _ _ _ _ (by have := VS.out; omega)]; exact (Below.heap_alloc _ _ _ (lt_of_block V0.out)).trans V0.out)
    have HL1 := hid (show ((w1.alloc (.cells zeroG 44)).setRow w1.heap.size cs).heap[w.heap.size + 1]? = some (.cells #[.bool false] 4 (0, 0)) by
      rw [setRow_other _ _ _ _ (by have := VS.out; omega)]; exact (Below.heap_alloc _ _ _ (lt_of_block V1.out)).trans V1.out)
    have HW := hid (HB.out.trans (below_setRow' ((Below.refl _ w1).alloc HB.out.size (.cells zeroG 44)) HB.out.size cs))
    have HWS1 := hid (show ((w1.alloc (.cells zeroG 44)).setRow w1.heap.size cs).heap.size = w1.heap.size + 1 by simp)
    generalize hX : (w1.alloc (.cells zeroG 44)).setRow w1.heap.size cs = X at HL HL0 HL1 HW HWS1
    have HX := hid hX
    clear hX
    gi_wp2_with (first
      | (refine wpListIn_store_row (Open.wide _) rfl 44 _ _ rfl w1.heap.size cs rfl rfl 44 zeroG (heap_new0 w1 _) HS.out HZ.out HONE.out ?_; rw [HX.out])
      | refine wpListIn_load_row (Open.wide _) rfl 44 _ rfl w1.heap.size rfl 44 cs (0, 0) _ HL.out Try.underlying44 rfl HS.out ?_)
    refine ⟨trivial, callsIn_wide.2 ((ways_any cs q _).mono ?_)⟩
    rintro e w2 ⟨rfl, hw2⟩
    have hs2 : w2.heap.size = w1.heap.size + 3 := by rw [hw2]; simp [HWS1.out]
    have HX2 := hid (show Below X.heap.size X w2 by rw [hw2]; exact ((Below.refl _ X).alloc (Nat.le_refl _) _).alloc (by simp) _)
    have K0 := hid (show Boxed w2 w.heap.size 3 (.int .i64 0) from (HX2.out.block _ (lt_of_block HL0.out)).trans HL0.out)
    have K1 := hid (show Boxed w2 (w.heap.size + 1) 4 (.bool false) from (HX2.out.block _ (lt_of_block HL1.out)).trans HL1.out)
    have K2 := hid ((HX2.out.block _ (lt_of_block HL.out)).trans HL.out)
    have KX := hid (show w2.heap[w1.heap.size + 1]? = some (.cells cs 44 (0, 0)) by
      rw [hw2]; simpa [HWS1.out] using heap_new1 X (.cells cs 44) (.cells #[.int .i64 q] 3))
    have KP := hid (show Boxed w2 (w1.heap.size + 2) 3 (.int .i64 q) by
      unfold Boxed
      rw [hw2]; simpa [HWS1.out] using heap_new0 (X.alloc (.cells cs 44)) (.cells #[.int .i64 q] 3))
    have KB := hid (HW.out.trans (HX2.out.mono HW.out.size))
    have KS := hid hs2
    have KW := hid VS.out
    clear hw2 hs2
    rw [HWS1.out]
    gi_wp2
    refine wpIn_rangeFunc_ownH rfl (by omega) (gf := 88) (lb := #[.pointer (some ⟨w1.heap.size + 1, 0, none⟩), .pointer (some ⟨w1.heap.size + 2, 0, none⟩)]) rfl trivial (enters_of Try.func88 (by kernel_rfl) rfl)
      (HWS.out (w1.heap.size + 1) (w1.heap.size + 2) w2 KX.out KP.out) KeepsW.trans (keepsW_b (lt_of_block KX.out)) (Below.refl _ _) (fun _ => rfl)
      (fun pre W => (((W.heap[w1.heap.size]? = some (.cells cs 44 (0, 0)) ∧ Boxed W w.heap.size 3 (.int .i64 0)) ∧ Boxed W (w.heap.size + 1) 4 (.bool false)) ∧ Below w.heap.size w2 W) ∧ ∀ y ∈ pre, mirrorAt (lett m (pad (flat ss))) bw y.val = false)
      (fun c pre W => ∃ v : Int, ((Boxed W w.heap.size 3 (.int .i64 v) ∧ Boxed W (w.heap.size + 1) 4 (.bool true)) ∧ Below w.heap.size w2 W) ∧ c = .ret ∧ LastMirror (lett m (pad (flat ss))) bw pre v m)
      (OwnFrom.and (OwnFrom.and (OwnFrom.and (OwnFrom.and (ownFrom_heap _ _ (fun _ => _) (fun _ => rfl)) (Own.from (boxed_own _ _ (fun _ => .int .i64 0)) _)) (Own.from (boxed_own _ _ (fun _ => .bool false)) _)) (ownFrom_below (by have := KS.out; have := KW.out; omega) (by have := KS.out; have := KW.out; omega))) (ownFrom_pure _ _))
      (fun c s W W' row hs hg hr => by
        obtain ⟨v, h1, h2⟩ := hs
        exact ⟨v, OwnFrom.and (OwnFrom.and (Own.from (boxed_own _ _ (fun (_ : Unit) => .int .i64 v)) _) (Own.from (boxed_own _ _ (fun _ => .bool true)) _)) (ownFrom_below (by have := KS.out; have := KW.out; omega) (by have := KS.out; have := KW.out; omega)) () W W' row h1 hg hr, h2⟩)
      ⟨⟨⟨⟨K2.out, K0.out⟩, K1.out⟩, Below.refl _ _⟩, fun y hy => by cases hy⟩
      (fun x a' W => ∃ Bx, w2.heap.size ≤ Bx ∧ W.heap[Bx]? = some (.cells (wayC (bw x.val)) 58 (0, 0)) ∧ ∃ u0 u1 u2 u3 u7 u9 u10 u11 u12 u13 u14 u15 u16 u17 u18 u19 u20 u21 u22 u23 u24 u25 u26 u27 u28 u29 : Value,
        a' = { tmps := #[u0, u1, u2, u3, .pointer (some ⟨w.heap.size, 0, none⟩), .pointer (some ⟨w.heap.size + 1, 0, none⟩), .pointer (some ⟨w1.heap.size, 0, none⟩), u7, .pointer (some ⟨Bx, 0, none⟩), u9, u10, u11, u12, u13, u14, u15, u16, u17, u18, u19, u20, u21, u22, u23, u24, u25, u26, u27, u28, u29], defers := [] })
      (fun x a' _ X Y row hs hg hr => by
        obtain ⟨Bx, h1, h2, h3⟩ := hs
        exact ⟨Bx, h1, ownFrom_heap _ Bx (fun (_ : Unit) => Obj.cells (wayC (bw x.val)) 58 (0, 0)) (fun _ => rfl) () X Y row h2 hg hr, h3⟩)
      ?assign ?body ?done ?stop
    case assign =>
      rintro l pre x W K ⟨⟨⟨⟨i0, i1⟩, i2⟩, i3⟩, i4⟩ hK
      have J0 := hid i0
      have J1 := hid i1
      have J2 := hid i2
      have J3 := hid i3
      have J4 := hid i4
      have JK := hid hK
      clear i0 i1 i2 i3 i4 hK
      obtain ⟨y, hy⟩ : ∃ y, bw x.val = y := ⟨_, rfl⟩
      unfold encW
      rw [hy] at JK ⊢
      clear hy
      obtain ⟨iv, kv, dv⟩ := y
      simp only [wayV, wayC] at JK ⊢
      gi_wp2
      have hsz : w2.heap.size ≤ W.heap.size := J3.out.size
      have hsz2 : w1.heap.size + 1 < W.heap.size := by have := KS.out; omega
      exact JK.out _ _ ((KeepsOthers.alloc _ _).from _) (KeepsW.below ((Below.refl _ W).alloc (Nat.le_refl _) _) hsz2)
        ⟨⟨⟨⟨(Below.heap_alloc _ _ _ (by omega)).trans J0.out, J1.out.alloc _⟩, J2.out.alloc _⟩, J3.out.alloc (by have := KW.out; omega) _⟩, J4.out⟩
        ⟨W.heap.size, hsz, heap_new0 W _, _, _, _, _, _, _, _, _, _, _, _, _, _, _, _, _, _, _, _, _, _, _, _, _, _, _, rfl⟩
    case body =>
      rintro l pre x a' W hlw ⟨r, hr⟩ ⟨⟨⟨⟨i0, i1⟩, i2⟩, i3⟩, i4⟩ ⟨Bx, hBx, hX, u0, u1, u2, u3, u7, u9, u10, u11, u12, u13, u14, u15, u16, u17, u18, u19, u20, u21, u22, u23, u24, u25, u26, u27, u28, u29, rfl⟩ hlt
      have hat := hid (HAT.out x.val x.isLt W)
      have hce := hid (HCE.out x.val x.isLt)
      have hne := byte_bne (lett m (pad (flat ss)) (bw x.val).i (bw x.val).k)
      have hma : mirrorAt (lett m (pad (flat ss))) bw x.val = (lett m (pad (flat ss)) (bw x.val).i (bw x.val).k != 46) := rfl
      generalize lett m (pad (flat ss)) (bw x.val).i (bw x.val).k = bb at hat hne hma
      have HCV := hid (show ((cellN m (bw x.val) : Nat) : Int) = ((cellN m (bw x.val) : Nat) : Int) from rfl)
      generalize hcv : ((cellN m (bw x.val) : Nat) : Int) = cv at hce HCV
      have HCVV := hid hcv
      clear hcv
      obtain ⟨y, hy⟩ : ∃ y, bw x.val = y := ⟨_, rfl⟩
      rw [hy] at hX hat hce
      clear hy HCV
      obtain ⟨iv, kv, dv⟩ := y
      simp only at hat hce
      have c0 : W.cell? ⟨Bx, 0, none⟩ = some (.int .i64 iv) := by rw [cell_of_row _ _ _ _ _ _ hX]; rfl
      have c1 : W.cell? ⟨Bx, 1, none⟩ = some (.int .i64 kv) := by rw [cell_of_row _ _ _ _ _ _ hX]; rfl
      obtain ⟨bv, hbv⟩ : ∃ bv : Int, (bb.toNat : Int) = bv := ⟨_, rfl⟩
      rw [hbv] at hne hat
      have I0 := hid i0
      have I1 := hid i1
      have I2 := hid i2
      have I3 := hid i3
      have I4 := hid i4
      have HMA := hid hma
      have GX := hid hX
      clear i0 i1 i2 i3 i4 hma hlt hbv hr hX hlw
      gi_wp2_with (refine wpListIn_load_row (Open.round _ l) rfl 44 _ rfl w1.heap.size rfl 44 cs (0, 0) _ I0.out Try.underlying44 rfl HS.out ?_)
      refine ⟨trivial, CallsIn.inRound l (callsIn_wide.2 (hat.out.mono ?_))⟩
      rintro e w3 ⟨rfl, hb3⟩
      have E0 := hid ((hb3.block _ (lt_of_block I0.out)).trans I0.out)
      have E1 := hid (show Boxed w3 w.heap.size 3 (.int .i64 0) from (hb3.block _ I1.out.lt).trans I1.out)
      have E2 := hid (show Boxed w3 (w.heap.size + 1) 4 (.bool false) from (hb3.block _ I2.out.lt).trans I2.out)
      have E3 := hid (I3.out.trans (hb3.mono (Nat.le_trans KB.out.size I3.out.size)))
      have EK := hid (keeps_below hb3)
      have EW := hid (KeepsW.below (g := w1.heap.size + 1) (n0 := w2.heap.size) hb3 (by have := I3.out.size; have := KS.out; omega))
      have EX := hid ((hb3.block _ (lt_of_block GX.out)).trans GX.out)
      have c0 : w3.cell? ⟨Bx, 0, none⟩ = some (.int .i64 iv) := by rw [cell_of_row _ _ _ _ _ _ EX.out]; rfl
      have c1 : w3.cell? ⟨Bx, 1, none⟩ = some (.int .i64 kv) := by rw [cell_of_row _ _ _ _ _ _ EX.out]; rfl
      clear hb3
      cases hb : (bb != 46) with
      | true =>
        rw [hb] at hne
        have HLM := hid (show LastMirror (lett m (pad (flat ss))) bw (pre ++ [x]) cv m from ⟨pre, x, rfl, I4.out, by rw [HMA.out]; exact hb, HCVV.out.symm⟩)
        clear hb
        gi_wp2_with (refine wpListIn_load_row (Open.round _ l) rfl 44 _ rfl w1.heap.size rfl 44 cs (0, 0) _ E0.out Try.underlying44 rfl HS.out ?_)
        refine ⟨trivial, CallsIn.inRound l (callsIn_wide.2 ((hce.out w3).mono ?_))⟩
        rintro e w4 ⟨rfl, hb4⟩
        have Q1 := hid (show Boxed w4 w.heap.size 3 (.int .i64 0) from (hb4.block _ E1.out.lt).trans E1.out)
        have Q2 := hid (show Boxed w4 (w.heap.size + 1) 4 (.bool false) from (hb4.block _ E2.out.lt).trans E2.out)
        have Q3 := hid (E3.out.trans (hb4.mono (Nat.le_trans KB.out.size E3.out.size)))
        have QK := hid (EK.out.trans (keeps_below hb4))
        have h1 := Q1.out.cell
        have h1f := Q1.out.frozen
        have h2 := Q2.out.cell
        have h2f := Q2.out.frozen
        clear hb4 c0 c1
        gi_wp2
        refine ⟨((QK.out.trans (KeepsOthers.setCell _ _ _)).trans (KeepsOthers.setCell _ _ _)).from _, cv, ⟨⟨?_, ?_⟩, ?_⟩, rfl, HLM.out⟩
        · exact Boxed.other (Q1.out.set _) (by simp) _
        · exact (Boxed.other Q2.out (by simp) _).set _
        · exact (Q3.out.setCell (p := ⟨w.heap.size, 0, none⟩) (Nat.le_refl _) _).setCell (p := ⟨w.heap.size + 1, 0, none⟩) (by simp) _
      | false =>
        rw [hb] at hne
        have HNX := hid (show ∀ y ∈ pre ++ [x], mirrorAt (lett m (pad (flat ss))) bw y.val = false from fun y hy => by
          rcases List.mem_append.1 hy with h | h
          · exact I4.out y h
          · obtain rfl := List.mem_singleton.1 h
            rw [HMA.out]; exact hb)
        clear hb
        gi_wp2
        exact ⟨EK.out.from _, EW.out, ⟨⟨⟨E0.out, E1.out⟩, E2.out⟩, E3.out⟩, HNX.out⟩
    case done =>
      rintro D xs W hD rfl ⟨⟨⟨⟨i0, i1⟩, i2⟩, i3⟩, i4⟩ hK
      have h1 := i1.cell
      have h1f := i1.frozen
      have h2 := i2.cell
      have h2f := i2.frozen
      have J1 := hid i1
      have J2 := hid i2
      have J3 := hid i3
      have J4 := hid (none_all i4)
      have JK := hid hK
      clear i0 i1 i2 i3 i4 hK
      gi_wp2
      have B1 : Boxed ((W.setCell ⟨w.heap.size, 0, none⟩ (.int .i64 0)).setCell ⟨w.heap.size + 1, 0, none⟩ (.bool false)) w.heap.size 3 (.int .i64 0) := Boxed.other (J1.out.set _) (by simp) _
      have B2 : Boxed ((W.setCell ⟨w.heap.size, 0, none⟩ (.int .i64 0)).setCell ⟨w.heap.size + 1, 0, none⟩ (.bool false)) (w.heap.size + 1) 4 (.bool false) := (Boxed.other J2.out (by simp) _).set _
      have hK' := ((KeepsOthers.setCell W ⟨w.heap.size, 0, none⟩ (.int .i64 0)).trans (KeepsOthers.setCell _ ⟨w.heap.size + 1, 0, none⟩ (.bool false))).same D _ JK.out rfl
      have hc1 := (cell_kept B1.cell (grownBy_putObj' _ D (.deferred none)) (fun r e => by cases e; exact ⟨_, hK', rfl⟩))
      have hc2 := (cell_kept B2.cell (grownBy_putObj' _ D (.deferred none)) (fun r e => by cases e; exact ⟨_, hK', rfl⟩))
      refine ⟨by simp, .inl ⟨_, _, rfl, run_takeDeferred hK', ?_⟩⟩
      refine ⟨.tuple #[.int .i64 0, .bool false], by simp [results, Try.results44, go_sem, hc1, hc2], ?_, 0, false, rfl, .inl ⟨n, m, q, HQ.out, ?_⟩⟩
      · exact (KB.out.trans ((J3.out.setCell (p := ⟨w.heap.size, 0, none⟩) (Nat.le_refl _) _).setCell (p := ⟨w.heap.size + 1, 0, none⟩) (by simp) _)).trans (belowK_b (w := w) (Nat.le_refl _) _ D _ _ (by have := KS.out; have := KW.out; omega) hK' rfl rfl)
      · rw [← HRR.out, J4.out]
    case stop =>
      rintro D c pre W hD ⟨k, hk, rfl⟩ ⟨v, ⟨⟨i1, i2⟩, i3⟩, rfl, i4⟩ hK
      obtain ⟨j, hj, hv⟩ := first_upto hk i4
      have J1 := hid i1
      have J2 := hid i2
      have J3 := hid i3
      have JK := hid hK
      have JJ := hid hj
      have JV := hid hv
      clear i1 i2 i3 i4 hK hj hv
      gi_wp2
      have hc1 := (cell_kept J1.out.cell (grownBy_putObj' _ D (.deferred none)) (fun r e => by cases e; exact ⟨_, JK.out, rfl⟩))
      have hc2 := (cell_kept J2.out.cell (grownBy_putObj' _ D (.deferred none)) (fun r e => by cases e; exact ⟨_, JK.out, rfl⟩))
      refine ⟨by simp, .inl ⟨_, _, rfl, run_takeDeferred JK.out, ?_⟩⟩
      refine ⟨.tuple #[.int .i64 v, .bool true], by simp [results, Try.results44, go_sem, hc1, hc2], ?_, v, true, rfl, .inl ⟨n, m, q, HQ.out, ?_⟩⟩
      · exact (KB.out.trans J3.out).trans (belowK_b (w := w) (Nat.le_refl _) _ D _ _ (by have := KS.out; have := KW.out; omega) JK.out rfl rfl)
      · rw [← HRR.out, JJ.out, JV.out]
  · have HB := hid (HYB.out.trans (hbel.mono HYB.out.size))
    have V0 := hid (show Boxed w1 w.heap.size 3 (.int .i64 0) from (hbel.block _ (lt_of_block HY0.out)).trans HY0.out)
    have V1 := hid (show Boxed w1 (w.heap.size + 1) 4 (.bool false) from (hbel.block _ (lt_of_block HY1.out)).trans HY1.out)
    have HGr := hid hno
    have VS := hid (show w.heap.size + 2 ≤ w1.heap.size by rw [← HYS.out]; exact hbel.size)
    have U0 := hid (show Boxed ((w1.alloc (.cells zeroG 44)).setRow w1.heap.size zeroG) w.heap.size 3 (.int .i64 0) by
      unfold Boxed
      rw [setRow_other _ _ _ _ (by have := VS.out; omega)]; exact V0.out.alloc _)
    have U1 := hid (show Boxed ((w1.alloc (.cells zeroG 44)).setRow w1.heap.size zeroG) (w.heap.size + 1) 4 (.bool false) by
      unfold Boxed
      rw [setRow_other _ _ _ _ (by have := VS.out; omega)]; exact V1.out.alloc _)
    have UB := hid (HB.out.trans (below_setRow' ((Below.refl _ w1).alloc HB.out.size (.cells zeroG 44)) HB.out.size zeroG))
    clear hbel hno
    generalize hX : (w1.alloc (.cells zeroG 44)).setRow w1.heap.size zeroG = X at U0 U1 UB
    have HX := hid hX
    clear hX
    have h1 := U0.out.cell
    have h1f := U0.out.frozen
    have h2 := U1.out.cell
    have h2f := U1.out.frozen
    gi_wp2_with (refine wpListIn_store_row (Open.wide _) rfl 44 _ _ rfl w1.heap.size zeroG rfl rfl 44 zeroG (heap_new0 w1 _) Try.size_grid rfl (gcells_one 0 0 (pad [])) ?_; rw [HX.out])
    have B1 : Boxed ((X.setCell ⟨w.heap.size, 0, none⟩ (.int .i64 0)).setCell ⟨w.heap.size + 1, 0, none⟩ (.bool false)) w.heap.size 3 (.int .i64 0) := Boxed.other (U0.out.set _) (by simp) _
    have B2 : Boxed ((X.setCell ⟨w.heap.size, 0, none⟩ (.int .i64 0)).setCell ⟨w.heap.size + 1, 0, none⟩ (.bool false)) (w.heap.size + 1) 4 (.bool false) := (Boxed.other U1.out (by simp) _).set _
    have hc1 := B1.cell
    have hc2 := B2.cell
    refine ⟨.tuple #[.int .i64 0, .bool false], by simp [results, Try.results44, go_sem, hc1, hc2], ?_, 0, false, rfl, .inr ⟨HGr.out, rfl, rfl⟩⟩
    exact (UB.out.setCell (p := ⟨w.heap.size, 0, none⟩) (Nat.le_refl _) _).setCell (p := ⟨w.heap.size + 1, 0, none⟩) (by simp) _

end Go.Proofs.Ytpbppkidglmacaa
