/- BeamTurns of the program, by its contract. -/
import Derived.Test.YtpbppkidglmacaaPort
import Derived.Test.YtpbppkidglmacaaSpecTurns
namespace Go.Proofs.Ytpbppkidglmacaa
open Go.RowKit Go.Shelf
attribute [local go_sem] Oper.semAt_some

/-- The mirrors among the ways that have come. -/
def mirrW {L : Nat} (t : Int → Int → UInt8) (bw : Nat → Wy) (pre : List (Fin L)) : Nat := pre.countP fun x => mirrorAt t bw x.val
theorem mirrW_snoc {L : Nat} (t : Int → Int → UInt8) (bw : Nat → Wy) (pre : List (Fin L)) (x : Fin L) : mirrW t bw (pre ++ [x]) = mirrW t bw pre + (if mirrorAt t bw x.val = true then 1 else 0) := by
  simp [mirrW, List.countP_append, List.countP_cons]
theorem mirrW_le {L : Nat} (t : Int → Int → UInt8) (bw : Nat → Wy) (pre : List (Fin L)) : mirrW t bw pre ≤ pre.length := List.countP_le_length
theorem mirrW_all (L : Nat) (t : Int → Int → UInt8) (bw : Nat → Wy) : mirrW t bw (List.finRange L) = turnsTo t bw L := by
  unfold mirrW turnsTo
  have e := upto_val (N := L) (k := L) (Nat.le_refl _)
  rw [upto_all] at e
  rw [← e, List.countP_map]
  rfl

set_option maxRecDepth 100000 in
set_option maxHeartbeats 2000000 in
theorem implBeamTurns_any (A : Option Addr) (c : Nat) (ss : List ByteArray) (p : Int) (w : World) (h : Strs w w.heap.size A ss) (hn : ss.length ≤ 1048576) (hs : ∀ s ∈ ss, s.size ≤ 1048576) :
    Calls Try.prog 28 #[.slice A ss.length c, .int .i64 p] w fun e w' => Below w.heap.size w w' ∧ ∃ x ok, e = .returned (.tuple #[.int .i64 x, .bool ok]) ∧ BeamOut turnsR ss p x ok := by
  have HR := hid (gridWithPort_any A c ss p w h hn hs)
  clear h hs
  refine (callsIn_wide (n := 3)).1 ?_
  refine callsIn_of_wp_marks Try.func28 rfl trivial ?_ rfl
  simp only [Try.ntmps28, List.size_toArray, List.length_cons, List.length_nil, Nat.reduceAdd, Nat.reduceSub, Array.replicate_succ, Array.replicate_zero, List.push_toArray, List.append_toArray, List.nil_append, List.cons_append]
  gi_wp2_with fail
  refine ⟨trivial, callsIn_wide.2 (HR.out.mono ?_)⟩
  rintro e w1 ⟨hbel, ⟨n, m, q, hq, rfl⟩ | ⟨hno, rfl⟩⟩
  · have HB := hid hbel
    have hg := hq.1
    obtain rfl := hq.2.1
    have HQ := hid hq
    have hn5 := hg.2.2.1
    have hm5 := hg.2.2.2.2.1
    have HGC := hid (show (gcells n m (pad (flat ss))).size = 27 from hg.csize)
    have HWS := hid (fun (Bg Bp : Nat) (w' : World) h1 h2 => ways_stops 2 Bg Bp n m q (blen n m (lett m (pad (flat ss))) q) (pad (flat ss)) rfl hg.plen hn5 hm5 hq.2.2 w' h1 h2)
    have HAT := hid (show ∀ j, j < blen n m (lett m (pad (flat ss))) q → ∀ w', Calls Try.prog 59 #[.agg (gcells n m (pad (flat ss))), .agg #[.int .i64 (bway n m (lett m (pad (flat ss))) q j).i, .int .i64 (bway n m (lett m (pad (flat ss))) q j).k]] w' fun e w'' => e = .returned (.int .u8 (lett m (pad (flat ss)) (bway n m (lett m (pad (flat ss))) q j).i (bway n m (lett m (pad (flat ss))) q j).k).toNat) ∧ Below w'.heap.size w' w'' from fun j hj w' => by
      have hin := blen_in (n := n) (m := m) (t := lett m (pad (flat ss))) hj
      obtain ⟨p, hp, he, hb⟩ := inG_cell hg.plen hn5 hm5 hin
      exact at_any n m (pad (flat ss)) _ _ p _ w' hg.plen hp he ⟨hin.1, by have := hin.2.1; omega⟩ hm5 hb)
    have HRR := hid (show ((((turnsTo (lett m (pad (flat ss))) (bway n m (lett m (pad (flat ss))) q) (blen n m (lett m (pad (flat ss))) q)) : Nat) : Int), true) = turnsR n m (lett m (pad (flat ss))) q from rfl)
    have hL100 : blen n m (lett m (pad (flat ss))) q ≤ 100 := by
      have h1 := blen_lt (t := lett m (pad (flat ss))) hq.2.2
      have h2 := hg.le25
      omega
    clear hbel hq hg
    have HONE := hid (gcells_one n m (pad (flat ss)))
    generalize gcells n m (pad (flat ss)) = cs at *
    generalize bway n m (lett m (pad (flat ss))) q = bw at *
    generalize blen n m (lett m (pad (flat ss))) q = L at *
    have HS := hid (show (Try.prog.info? 44).map (·.size) = some cs.size by rw [HGC.out]; exact Try.size_grid)
    have HZ := hid (show zeroG.size = cs.size by rw [HGC.out]; rfl)
    have HL := hid (setRow_heap (w1.alloc (.cells zeroG 44)) w1.heap.size zeroG cs 44 (0, 0) (heap_new0 w1 _))
    have HW := hid (HB.out.trans (below_setRow' ((Below.refl _ w1).alloc HB.out.size (.cells zeroG 44)) HB.out.size cs))
    have HWS1 := hid (show ((w1.alloc (.cells zeroG 44)).setRow w1.heap.size cs).heap.size = w1.heap.size + 1 by simp)
    generalize hX : (w1.alloc (.cells zeroG 44)).setRow w1.heap.size cs = X at HL HW HWS1
    have HX := hid hX
    clear hX
    have HL2 := hid ((Below.heap_alloc X (.cells #[.int .i64 0] 3) _ (lt_of_block HL.out)).trans HL.out)
    gi_wp2_with (first
      | (refine wpListIn_store_row (Open.wide _) rfl 44 _ _ rfl w1.heap.size cs rfl rfl 44 zeroG (heap_new0 w1 _) HS.out HZ.out HONE.out ?_; rw [HX.out])
      | refine wpListIn_load_row (Open.wide _) rfl 44 _ rfl w1.heap.size rfl 44 cs (0, 0) _ HL2.out Try.underlying44 rfl HS.out ?_)
    refine ⟨trivial, callsIn_wide.2 ((ways_any cs q _).mono ?_)⟩
    rintro e w2 ⟨rfl, hw2⟩
    have hs2 : w2.heap.size = w1.heap.size + 4 := by rw [hw2]; simp [HWS1.out]
    have K0 := hid (show w2.heap[w1.heap.size]? = some (.cells cs 44 (0, 0)) by
      rw [hw2, Below.heap_alloc _ _ _ (by simp [HWS1.out]; omega), Below.heap_alloc _ _ _ (by simp [HWS1.out]; omega)]; exact HL2.out)
    have K1 := hid (show Boxed w2 (w1.heap.size + 1) 3 (.int .i64 ((mirrW (lett m (pad (flat ss))) bw ([] : List (Fin L)) : Nat) : Int)) by
      unfold Boxed
      rw [hw2, ← HWS1.out]; exact heap_new2 X _ _ _)
    have KX := hid (show w2.heap[w1.heap.size + 2]? = some (.cells cs 44 (0, 0)) by
      rw [hw2]; simpa [HWS1.out] using heap_new1 (X.alloc (.cells #[.int .i64 0] 3)) (.cells cs 44) (.cells #[.int .i64 q] 3))
    have KP := hid (show Boxed w2 (w1.heap.size + 3) 3 (.int .i64 q) by
      unfold Boxed
      rw [hw2]; simpa [HWS1.out] using heap_new0 ((X.alloc (.cells #[.int .i64 0] 3)).alloc (.cells cs 44)) (.cells #[.int .i64 q] 3))
    have KB := hid (show Below w.heap.size w w2 by
      rw [hw2]; exact ((HW.out.alloc HW.out.size _).alloc (by have := HW.out.size; simp; omega) _).alloc (by have := HW.out.size; simp; omega) _)
    have KS := hid hs2
    have KW := hid (show w.heap.size ≤ w1.heap.size from HB.out.size)
    clear hw2 hs2
    rw [World.size_alloc, HWS1.out]
    gi_wp2
    refine wpIn_rangeFunc_ownH rfl (by omega) (gf := 88) (lb := #[.pointer (some ⟨w1.heap.size + 2, 0, none⟩), .pointer (some ⟨w1.heap.size + 3, 0, none⟩)]) rfl trivial (enters_of Try.func88 (by kernel_rfl) rfl)
      (HWS.out (w1.heap.size + 2) (w1.heap.size + 3) w2 KX.out KP.out) KeepsW.trans (keepsW_b (lt_of_block KX.out)) (Below.refl _ _) (fun _ => rfl)
      (fun pre W => (W.heap[w1.heap.size]? = some (.cells cs 44 (0, 0)) ∧ Boxed W (w1.heap.size + 1) 3 (.int .i64 ((mirrW (lett m (pad (flat ss))) bw pre : Nat) : Int))) ∧ Below w.heap.size w2 W)
      (fun _ _ _ => False)
      (OwnFrom.and (OwnFrom.and (ownFrom_heap _ _ (fun _ => _) (fun _ => rfl)) (Own.from (boxed_own _ _ (fun pre => .int .i64 ((mirrW (lett m (pad (flat ss))) bw pre : Nat) : Int))) _)) (ownFrom_below (by have := KS.out; have := KW.out; omega) (by have := KS.out; have := KW.out; omega)))
      (fun _ _ _ _ _ hs _ _ => hs)
      ⟨⟨K0.out, K1.out⟩, Below.refl _ _⟩
      (fun x a' W => ∃ Bx, w2.heap.size ≤ Bx ∧ W.heap[Bx]? = some (.cells (wayC (bw x.val)) 58 (0, 0)) ∧ ∃ u0 u1 u2 u3 u4 u5 u7 u10 u11 u12 u13 u14 u15 u16 u17 u18 u19 u20 u21 u22 u23 u24 u25 u26 u27 u28 u29 : Value,
        a' = { tmps := #[u0, u1, u2, u3, u4, u5, .pointer (some ⟨w1.heap.size, 0, none⟩), u7, .pointer (some ⟨w1.heap.size + 1, 0, none⟩), .pointer (some ⟨Bx, 0, none⟩), u10, u11, u12, u13, u14, u15, u16, u17, u18, u19, u20, u21, u22, u23, u24, u25, u26, u27, u28, u29], defers := [] })
      (fun x a' _ X Y row hs hg hr => by
        obtain ⟨Bx, h1, h2, h3⟩ := hs
        exact ⟨Bx, h1, ownFrom_heap _ Bx (fun (_ : Unit) => Obj.cells (wayC (bw x.val)) 58 (0, 0)) (fun _ => rfl) () X Y row h2 hg hr, h3⟩)
      ?assign ?body ?done ?stop
    case assign =>
      rintro l pre x W K ⟨⟨i0, i1⟩, i2⟩ hK
      have J0 := hid i0
      have J1 := hid i1
      have J2 := hid i2
      have JK := hid hK
      clear i0 i1 i2 hK
      obtain ⟨y, hy⟩ : ∃ y, bw x.val = y := ⟨_, rfl⟩
      unfold encW
      rw [hy] at JK ⊢
      clear hy
      obtain ⟨iv, kv, dv⟩ := y
      simp only [wayV, wayC] at JK ⊢
      gi_wp2
      have hsz : w2.heap.size ≤ W.heap.size := J2.out.size
      have hsz2 : w1.heap.size + 2 < W.heap.size := by have := KS.out; omega
      exact JK.out _ _ ((KeepsOthers.alloc _ _).from _) (KeepsW.below ((Below.refl _ W).alloc (Nat.le_refl _) _) hsz2)
        ⟨⟨(Below.heap_alloc _ _ _ (by omega)).trans J0.out, J1.out.alloc _⟩, J2.out.alloc (by have := KW.out; omega) _⟩
        ⟨W.heap.size, hsz, heap_new0 W _, _, _, _, _, _, _, _, _, _, _, _, _, _, _, _, _, _, _, _, _, _, _, _, _, _, _, _, rfl⟩
    case body =>
      rintro l pre x a' W hlw ⟨r, hr⟩ ⟨⟨i0, i1⟩, i2⟩ ⟨Bx, hBx, hX, u0, u1, u2, u3, u4, u5, u7, u10, u11, u12, u13, u14, u15, u16, u17, u18, u19, u20, u21, u22, u23, u24, u25, u26, u27, u28, u29, rfl⟩ hlt
      have hat := hid (HAT.out x.val x.isLt W)
      have hle := mirrW_le (lett m (pad (flat ss))) bw pre
      have hsn := mirrW_snoc (lett m (pad (flat ss))) bw pre x
      have hne := byte_bne (lett m (pad (flat ss)) (bw x.val).i (bw x.val).k)
      rw [show mirrorAt (lett m (pad (flat ss))) bw x.val = (lett m (pad (flat ss)) (bw x.val).i (bw x.val).k != 46) from rfl] at hsn
      generalize lett m (pad (flat ss)) (bw x.val).i (bw x.val).k = bb at hat hne hsn
      obtain ⟨y, hy⟩ : ∃ y, bw x.val = y := ⟨_, rfl⟩
      rw [hy] at hX hat
      clear hy
      obtain ⟨iv, kv, dv⟩ := y
      simp only at hat
      have c0 : W.cell? ⟨Bx, 0, none⟩ = some (.int .i64 iv) := by rw [cell_of_row _ _ _ _ _ _ hX]; rfl
      have c1 : W.cell? ⟨Bx, 1, none⟩ = some (.int .i64 kv) := by rw [cell_of_row _ _ _ _ _ _ hX]; rfl
      obtain ⟨bv, hbv⟩ : ∃ bv : Int, (bb.toNat : Int) = bv := ⟨_, rfl⟩
      rw [hbv] at hne hat
      obtain ⟨cv, hcv⟩ : ∃ cv : Int, ((mirrW (lett m (pad (flat ss))) bw pre : Nat) : Int) = cv := ⟨_, rfl⟩
      have hcb0 : 0 ≤ cv := by omega
      have hcb1 : cv < 100 := by omega
      rw [hcv] at i1
      have HC := hid hcv
      have I0 := hid i0
      have I1 := hid i1
      have I2 := hid i2
      have HSN := hid hsn
      clear hcv i0 i1 i2 hsn hle hlt hbv hr hX hlw
      gi_wp2_with (refine wpListIn_load_row (Open.round _ l) rfl 44 _ rfl w1.heap.size rfl 44 cs (0, 0) _ I0.out Try.underlying44 rfl HS.out ?_)
      refine ⟨trivial, CallsIn.inRound l (callsIn_wide.2 (hat.out.mono ?_))⟩
      rintro e w3 ⟨rfl, hb3⟩
      have E0 := hid ((hb3.block _ (lt_of_block I0.out)).trans I0.out)
      have E1 := hid (show Boxed w3 (w1.heap.size + 1) 3 (.int .i64 cv) from (hb3.block _ I1.out.lt).trans I1.out)
      have E2 := hid (I2.out.trans (hb3.mono (Nat.le_trans KB.out.size I2.out.size)))
      have EK := hid (keeps_below hb3)
      have EW := hid (KeepsW.below (g := w1.heap.size + 2) (n0 := w2.heap.size) hb3 (by have := I2.out.size; have := KS.out; omega))
      have hcell := E1.out.cell
      have hfr := E1.out.frozen
      clear hb3 c0 c1
      cases hb : (bb != 46) with
      | true =>
        rw [hb] at hne
        have HSX := hid (show mirrW (lett m (pad (flat ss))) bw (pre ++ [x]) = mirrW (lett m (pad (flat ss))) bw pre + 1 by rw [HSN.out, if_pos hb])
        clear hb
        gi_wp2
        refine ⟨(EK.out.trans (KeepsOthers.setCell _ _ _)).from _, EW.out.trans (KeepsW.setCell _ _ _ (by omega) (by have := KS.out; omega)), ⟨?_, ?_⟩, E2.out.setCell (p := ⟨w1.heap.size + 1, 0, none⟩) (by have := KW.out; show w.heap.size ≤ w1.heap.size + 1; omega) _⟩
        · rw [Below.heap_setCell _ _ _ _ (by simp)]; exact E0.out
        · rw [HSX.out, Int.natCast_add, HC.out]
          exact E1.out.set _
      | false =>
        rw [hb] at hne
        have HSX := hid (show mirrW (lett m (pad (flat ss))) bw (pre ++ [x]) = mirrW (lett m (pad (flat ss))) bw pre by rw [HSN.out, if_neg (by rw [hb]; decide), Nat.add_zero])
        clear hb
        gi_wp2
        refine ⟨EK.out.from _, EW.out, ⟨E0.out, ?_⟩, E2.out⟩
        rw [HSX.out, HC.out]
        exact E1.out
    case done =>
      rintro D xs W hD rfl ⟨⟨i0, i1⟩, i2⟩ hK
      rw [mirrW_all] at i1
      have hcell := i1.cell
      have J2 := hid i2
      have JK := hid hK
      clear i0 i1 i2 hK
      gi_wp2
      refine ⟨by simp, .inl ⟨_, _, rfl, run_takeDeferred JK.out, ?_⟩⟩
      refine ⟨_, results_tmp2 rfl _ _ _, ?_, _, true, rfl, .inl ⟨n, m, q, HQ.out, ?_⟩⟩
      · exact (KB.out.trans J2.out).trans (belowK_b (w := w) (Nat.le_refl _) _ D _ _ (by have := KS.out; have := KW.out; omega) JK.out rfl rfl)
      · rw [← HRR.out]
    case stop =>
      rintro D c pre W _ _ h _
      exact h.elim
  · have HB := hid hbel
    have HGr := hid hno
    clear hbel hno
    gi_wp2_with (refine wpListIn_store_row (Open.wide _) rfl 44 _ _ rfl w1.heap.size zeroG rfl rfl 44 zeroG (heap_new0 w1 _) Try.size_grid rfl (gcells_one 0 0 (pad [])) ?_)
    refine ⟨_, results_tmp2 rfl _ _ _, ?_, 0, false, rfl, .inr ⟨HGr.out, rfl, rfl⟩⟩
    exact HB.out.trans (below_setRow' ((Below.refl _ w1).alloc HB.out.size _) HB.out.size _)

end Go.Proofs.Ytpbppkidglmacaa
