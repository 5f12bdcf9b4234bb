/- The partner of a port, by its contract. -/
import Derived.Test.YtpbppkidglmacaaWays
namespace Go.Proofs.Ytpbppkidglmacaa
open Go.RowKit Go.Shelf
attribute [local go_sem] Oper.semAt_some

theorem KeepsW.setCell {g n0 b : Nat} (W : World) (o : Nat) (v : Value) (hg : b ≠ g) (hb : b < n0) : KeepsW g n0 W (W.setCell ⟨b, o, none⟩ v) :=
  ⟨by simp, Below.heap_setCell _ _ _ _ (Ne.symm hg), fun c _ hc h => by rw [Below.heap_setCell _ _ _ _ (by simp; omega)]; exact h⟩
theorem KeepsW.refl {g n0 : Nat} (W : World) : KeepsW g n0 W W := ⟨Nat.le_refl _, rfl, fun _ _ _ h => h⟩
/-- The last way that has come. -/
def lastOf {L : Nat} (pre : List (Fin L)) : Nat := match pre.getLast? with
  | some x => x.val
  | none => 0
theorem lastOf_snoc {L : Nat} (pre : List (Fin L)) (x : Fin L) : lastOf (pre ++ [x]) = x.val := by simp [lastOf]
theorem lastOf_all {L : Nat} (h : 1 ≤ L) : lastOf (List.finRange L) = L - 1 := by
  obtain ⟨k, rfl⟩ : ∃ k, L = k + 1 := ⟨L - 1, by omega⟩
  have := upto_succ (N := k + 1) (k := k) (by omega)
  rw [upto_all] at this
  rw [this, lastOf_snoc]; simp

set_option maxRecDepth 100000 in
set_option maxHeartbeats 2000000 in
theorem partner_any (n m p : Nat) (ls : List UInt8) (w : World) (hl : ls.length = 25) (hn1 : 1 ≤ n) (hn : n ≤ 5) (hm1 : 1 ≤ m) (hm : m ≤ 5) (hp : p < 2 * (n + m)) :
    Calls Try.prog 51 #[.agg (gcells n m ls), .int .i64 p] w fun e w' => e = .returned (.int .i64 ((bend_ n m (lett m ls) p : Nat) : Int)) ∧ Below w.heap.size w w' := by
  refine (callsIn_wide (n := 3)).1 ?_
  have HG := hid (show (Try.prog.info? 44).map (·.size) = some (gcells n m ls).size by rw [gcells_size hl]; exact Try.size_grid)
  have H0 := hid (heap_new0 w (.cells (gcells n m ls) 44))
  have HE := hid (fun w' => entry_any n m p ls w' hn hm hp)
  have hpos := blen_pos (t := lett m ls) hn1 hm1 hp
  obtain ⟨L, hL⟩ : ∃ L, L = blen n m (lett m ls) p := ⟨_, rfl⟩
  rw [← hL] at hpos
  have HLast := hid (show inG n m (bway n m (lett m ls) p (L - 1)) from blen_in (by omega))
  have HDL := hid (bway_d (n := n) (m := m) (t := lett m ls) p (L - 1))
  have HON := hid (fun w' => onward_any n m ls (bway n m (lett m ls) p (L - 1)) w' hl hn hm HLast.out HDL.out)
  have HNX := hid (show bway n m (lett m ls) p L = nxt (lett m ls) (bway n m (lett m ls) p (L - 1)) by obtain ⟨k, hk⟩ : ∃ k, L = k + 1 := ⟨L - 1, by omega⟩; rw [hk]; rfl)
  have HEND := hid (show ((bend_ n m (lett m ls) p : Nat) : Int) = leav n m (bway n m (lett m ls) p L) by rw [hL]; exact (bend_facts hn1 hm1 hp).1)
  have HWS := hid (fun (Bg Bp : Nat) (w' : World) h1 h2 => ways_stops 2 Bg Bp n m p L ls hL hl hn hm hp w' h1 h2)
  have HEX := hid (show ∀ w', Calls Try.prog 81 #[.agg (gcells n m ls), wayV (bway n m (lett m ls) p L)] w' fun e w'' => e = .returned (.int .i64 (leav n m (bway n m (lett m ls) p L))) ∧ Below w'.heap.size w' w'' from fun w' => by
    obtain ⟨y1, y2, y3, y4⟩ := HLast.out
    have hb4 := bend_lt (lett m ls (bway n m (lett m ls) p (L - 1)).i (bway n m (lett m ls) p (L - 1)).k) HDL.out
    have hbd : -100 ≤ (bway n m (lett m ls) p L).i ∧ (bway n m (lett m ls) p L).i ≤ 100 ∧ -100 ≤ (bway n m (lett m ls) p L).k ∧ (bway n m (lett m ls) p L).k ≤ 100 := by
      rw [HNX.out]
      unfold nxt
      simp only
      rcases four hb4 with e | e | e | e <;> rw [e] <;> simp [stepI, stepK] <;> omega
    exact exit_any n m ls _ w' hn hm (bway_d p L) ⟨hbd.1, hbd.2.1⟩ hbd.2.2)
  have HZ := hid (show bway n m (lett m ls) p 0 = entr n m p from rfl)
  rw [HEND.out]
  clear hL
  rw [← HZ.out] at HE
  rw [← HNX.out] at HON
  generalize bway n m (lett m ls) p = bw at *
  generalize hgc : gcells n m ls = cs at *
  generalize hlv : leav n m (bw L) = lv at *
  clear hlv HEND HZ HNX HDL HLast
  clear hgc
  generalize hx0 : bw 0 = x0 at HE
  have HX0 := hid hx0
  clear hx0
  obtain ⟨i0, k0, d0⟩ := x0
  simp only [wayV] at HE
  refine callsIn_of_wp_marks Try.func51 rfl trivial ?_ rfl
  simp only [Try.ntmps51, List.size_toArray, List.length_cons, List.length_nil, Nat.reduceAdd, Nat.reduceSub, Array.replicate_succ, Array.replicate_zero, List.push_toArray, List.append_toArray, List.nil_append, List.cons_append]
  gi_wp2_with (refine wpListIn_load_row (Open.wide _) rfl 44 _ rfl w.heap.size rfl 44 cs (0, 0) _ H0.out Try.underlying44 rfl HG.out ?_)
  refine ⟨trivial, callsIn_wide.2 ((HE.out _).mono ?_)⟩
  rintro e w1 ⟨rfl, hb1⟩
  have N0 := hid ((hb1.block _ (lt_of_block H0.out)).trans H0.out)
  have NB := hid (((Below.refl _ w).alloc (Nat.le_refl _) (.cells cs 44)).trans (hb1.mono (by simp)))
  have NS := hid (show w.heap.size + 1 ≤ w1.heap.size by have := hb1.size; simpa using this)
  have N1 := hid ((Below.heap_alloc w1 (.cells #[.int .i64 i0, .int .i64 k0, .int .i64 ((d0 : Nat) : Int)] 58) _ (lt_of_block N0.out)).trans N0.out)
  clear hb1
  gi_wp2_with (refine wpListIn_load_row (Open.wide _) rfl 44 _ rfl w.heap.size rfl 44 cs (0, 0) _ N1.out Try.underlying44 rfl HG.out ?_)
  refine ⟨trivial, callsIn_wide.2 ((ways_any cs p _).mono ?_)⟩
  rintro e w2 ⟨rfl, hw2⟩
  have hs2 : w2.heap.size = w1.heap.size + 1 + 1 + 1 := by rw [hw2]; simp
  have K0 := hid (show w2.heap[w.heap.size]? = some (.cells cs 44 (0, 0)) by
    rw [hw2, Below.heap_alloc _ _ _ (by have := NS.out; simp; omega), Below.heap_alloc _ _ _ (by have := NS.out; simp; omega)]; exact N1.out)
  have K1 := hid (show w2.heap[w1.heap.size]? = some (.cells (wayC (bw (lastOf ([] : List (Fin L))))) 58 (0, 0)) by
    rw [hw2]; exact (heap_new2 w1 _ _ _).trans (by rw [show lastOf ([] : List (Fin L)) = 0 from rfl, HX0.out]; rfl))
  have KX := hid (show w2.heap[w1.heap.size + 1]? = some (.cells cs 44 (0, 0)) by
    rw [hw2]; simpa using heap_new1 (w1.alloc (.cells #[.int .i64 i0, .int .i64 k0, .int .i64 ((d0 : Nat) : Int)] 58)) _ _)
  have KP := hid (show Boxed w2 (w1.heap.size + 1 + 1) 3 (.int .i64 p) by
    unfold Boxed
    rw [hw2]; simpa using heap_new0 ((w1.alloc (.cells #[.int .i64 i0, .int .i64 k0, .int .i64 ((d0 : Nat) : Int)] 58)).alloc (.cells cs 44)) (.cells #[.int .i64 p] 3))
  have KB := hid (show Below w.heap.size w w2 by
    rw [hw2]; exact ((NB.out.alloc NB.out.size _).alloc (by have := NB.out.size; simp; omega) _).alloc (by have := NB.out.size; simp; omega) _)
  have KS := hid hs2
  clear hw2 hs2
  rw [World.size_alloc]
  gi_wp2
  refine wpIn_rangeFunc_ownH rfl (by omega) (gf := 88) (lb := #[.pointer (some ⟨w1.heap.size + 1, 0, none⟩), .pointer (some ⟨w1.heap.size + 1 + 1, 0, none⟩)]) rfl trivial (enters_of Try.func88 (by kernel_rfl) rfl)
    (HWS.out (w1.heap.size + 1) (w1.heap.size + 1 + 1) w2 KX.out KP.out) KeepsW.trans (keepsW_b (lt_of_block KX.out)) (Below.refl _ _) (fun _ => rfl)
    (fun pre W => (W.heap[w.heap.size]? = some (.cells cs 44 (0, 0)) ∧ W.heap[w1.heap.size]? = some (.cells (wayC (bw (lastOf pre))) 58 (0, 0))) ∧ Below w.heap.size w2 W)
    (fun _ _ _ => False)
    (OwnFrom.and (OwnFrom.and (ownFrom_heap _ _ (fun _ => _) (fun _ => rfl)) (ownFrom_heap _ _ (fun pre => .cells (wayC (bw (lastOf pre))) 58 (0, 0)) (fun _ => rfl))) (ownFrom_below (by have := KS.out; have := NS.out; omega) (by have := KS.out; have := NS.out; omega)))
    (fun _ _ _ _ _ hs _ _ => hs)
    ⟨⟨K0.out, K1.out⟩, Below.refl _ _⟩
    (fun x a' W => ∃ Bx, w2.heap.size ≤ Bx ∧ W.heap[Bx]? = some (.cells (wayC (bw x.val)) 58 (0, 0)) ∧ ∃ u0 u1 u2 u3 u4 u7 u8 u9 u10 u11 u12 u13 u14 u15 u16 u17 u18 u19 : Value,
      a' = { tmps := #[u0, u1, u2, u3, u4, .pointer (some ⟨w1.heap.size, 0, none⟩), .pointer (some ⟨Bx, 0, none⟩), u7, u8, u9, u10, u11, u12, u13, u14, u15, u16, u17, u18, u19], defers := [] })
    (fun x a' _ X Y row hs hg hr => by
      obtain ⟨Bx, h1, h2, h3⟩ := hs
      exact ⟨Bx, h1, ownFrom_heap _ Bx (fun (_ : Unit) => Obj.cells (wayC (bw x.val)) 58 (0, 0)) (fun _ => rfl) () X Y row h2 hg hr, h3⟩)
    ?assign ?body ?done ?stop
  case assign =>
    rintro l pre x W K ⟨⟨i0, i1⟩, i2⟩ hK
    have J0 := hid i0
    have J1 := hid i1
    have J2 := hid i2
    have JK := hid hK
    clear i0 i1 i2 hK
    obtain ⟨y, hy⟩ : ∃ y, bw x.val = y := ⟨_, rfl⟩
    unfold encW
    rw [hy] at JK ⊢
    clear hy
    obtain ⟨iv, kv, dv⟩ := y
    simp only [wayV, wayC] at JK ⊢
    gi_wp2
    have hsz : w2.heap.size ≤ W.heap.size := J2.out.size
    have hsz2 : w1.heap.size + 1 < W.heap.size := by have := KS.out; omega
    have hsz3 : w.heap.size < W.heap.size := by have := NS.out; omega
    exact JK.out _ _ ((KeepsOthers.alloc _ _).from _) (KeepsW.below ((Below.refl _ W).alloc (Nat.le_refl _) _) hsz2)
      ⟨⟨(Below.heap_alloc _ _ _ hsz3).trans J0.out, (Below.heap_alloc _ _ _ (by omega)).trans J1.out⟩, J2.out.alloc (by omega) _⟩
      ⟨W.heap.size, hsz, heap_new0 W _, _, _, _, _, _, _, _, _, _, _, _, _, _, _, _, _, _, _, rfl⟩
  case body =>
    rintro l pre x a' W hlw ⟨r, hr⟩ ⟨⟨i0, i1⟩, i2⟩ ⟨Bx, hBx, hX, u0, u1, u2, u3, u4, u7, u8, u9, u10, u11, u12, u13, u14, u15, u16, u17, u18, u19, rfl⟩ hlt
    have hsnoc := lastOf_snoc pre x
    obtain ⟨y, hy⟩ : ∃ y, bw x.val = y := ⟨_, rfl⟩
    obtain ⟨z, hz⟩ : ∃ z, bw (lastOf pre) = z := ⟨_, rfl⟩
    rw [hy] at hX
    rw [hz] at i1
    have HY := hid (show bw (lastOf (pre ++ [x])) = y by rw [hsnoc, hy])
    clear hsnoc hy hz hr hlt hlw
    obtain ⟨iv, kv, dv⟩ := y
    obtain ⟨iz, kz, dz⟩ := z
    have c0 : W.cell? ⟨Bx, 0, none⟩ = some (.int .i64 iv) := by rw [cell_of_row _ _ _ _ _ _ hX]; rfl
    have c1 : W.cell? ⟨Bx, 1, none⟩ = some (.int .i64 kv) := by rw [cell_of_row _ _ _ _ _ _ hX]; rfl
    have c2 : W.cell? ⟨Bx, 2, none⟩ = some (.int .i64 ((dv : Nat) : Int)) := by rw [cell_of_row _ _ _ _ _ _ hX]; rfl
    have o0 : W.cell? ⟨w1.heap.size, 0, none⟩ = some (.int .i64 iz) := by rw [cell_of_row _ _ _ _ _ _ i1]; rfl
    have o1 : W.cell? ⟨w1.heap.size, 1, none⟩ = some (.int .i64 kz) := by rw [cell_of_row _ _ _ _ _ _ i1]; rfl
    have o2 : W.cell? ⟨w1.heap.size, 2, none⟩ = some (.int .i64 ((dz : Nat) : Int)) := by rw [cell_of_row _ _ _ _ _ _ i1]; rfl
    have f0 : W.frozen? ⟨w1.heap.size, 0, none⟩ = false := frozen_of_row _ _ _ _ _ i1
    have f1 : W.frozen? ⟨w1.heap.size, 1, none⟩ = false := frozen_of_row _ _ _ _ _ i1
    have f2 : W.frozen? ⟨w1.heap.size, 2, none⟩ = false := frozen_of_row _ _ _ _ _ i1
    have I0 := hid i0
    have I1 := hid i1
    have I2 := hid i2
    clear i0 i1 i2 hX
    gi_wp2
    have r0 := heap_setCell_same _ _ 0 _ _ (.int .i64 iv) I1.out
    have r1 := heap_setCell_same _ _ 1 _ _ (.int .i64 kv) r0
    have r2 := heap_setCell_same _ _ 2 _ _ (.int .i64 ((dv : Nat) : Int)) r1
    refine ⟨(((KeepsOthers.setCell _ _ _).trans (KeepsOthers.setCell _ _ _)).trans (KeepsOthers.setCell _ _ _)).from _,
      ((KeepsW.setCell _ _ _ (by omega) (by have := KS.out; omega)).trans (KeepsW.setCell _ _ _ (by omega) (by have := KS.out; omega))).trans (KeepsW.setCell _ _ _ (by omega) (by have := KS.out; omega)), ⟨?_, ?_⟩, ?_⟩
    · have hne : w.heap.size ≠ w1.heap.size := by have := NS.out; omega
      rw [Below.heap_setCell _ _ _ _ hne, Below.heap_setCell _ _ _ _ hne, Below.heap_setCell _ _ _ _ hne]; exact I0.out
    · rw [HY.out]; exact r2
    · have hle : w.heap.size ≤ w1.heap.size := by have := NS.out; omega
      exact ((I2.out.setCell (p := ⟨w1.heap.size, 0, none⟩) hle _).setCell (p := ⟨w1.heap.size, 1, none⟩) hle _).setCell (p := ⟨w1.heap.size, 2, none⟩) hle _
  case done =>
    rintro D xs W hD rfl ⟨⟨i0, i1⟩, i2⟩ hK
    rw [lastOf_all hpos] at i1
    have J0 := hid i0
    have J1 := hid i1
    have J2 := hid i2
    have JK := hid hK
    clear i0 i1 i2 hK
    rw [wayV_eq] at HON
    gi_wp2
    refine wpIn_region_quiet_tail (Open.wide _) 5 (Cls W) (by kernel_rfl) (by kernel_rfl) (Below.refl _ W).drew ?_
    simp only [List.take_succ_cons, List.take_zero, List.drop_succ_cons, List.drop_zero]
    refine wpQuiet_load_row rfl 44 _ rfl w.heap.size rfl 44 cs (0, 0) _ (fun w' hw => (hw.block _ (lt_of_block J0.out)).trans J0.out) Try.underlying44 rfl HG.out ?_
    refine wpQuiet_load_row rfl 44 _ rfl w.heap.size rfl 44 cs (0, 0) _ (fun w' hw => (hw.block _ (lt_of_block J0.out)).trans J0.out) Try.underlying44 rfl HG.out ?_
    refine wpQuiet_load_row rfl 58 _ rfl w1.heap.size rfl 58 (wayC (bw (L - 1))) (0, 0) _ (fun w' hw => (hw.block _ (lt_of_block J1.out)).trans J1.out) Try.underlying58 rfl Try.size_way ?_
    refine wpQuiet_call rfl 82 #[.agg cs, .agg (wayC (bw (L - 1)))] (wayV (bw L)) (fun w _ => by go_simp) (fun w' hw => (HON.out w').mono fun e w'' ⟨he, hb'⟩ => ⟨he, hw.trans (hb'.mono hw.size)⟩) ?_
    refine wpQuiet_call rfl 81 #[.agg cs, wayV (bw L)] (.int .i64 lv) (fun w _ => by go_simp) (fun w' hw => (HEX.out w').mono fun e w'' ⟨he, hb'⟩ => ⟨he, hw.trans (hb'.mono hw.size)⟩) ?_
    refine wpQuiet_nil ?_
    intro w3 hw3
    have hK3 := (hw3.block _ (lt_of_block JK.out)).trans JK.out
    have HB3 := hid (J2.out.trans (hw3.mono (Nat.le_trans KB.out.size J2.out.size)))
    have HK3 := hid hK3
    clear hw3 hK3
    gi_wp2
    refine ⟨by simp, .inl ⟨_, _, rfl, run_takeDeferred HK3.out, ?_⟩⟩
    refine ⟨_, results_tmp rfl _ _ _, rfl, ?_⟩
    exact (KB.out.trans HB3.out).trans (belowK_b (w := w) (Nat.le_refl _) _ D _ _ (by have := KS.out; have := NS.out; omega) HK3.out rfl rfl)
  case stop =>
    rintro D c pre W _ _ h _
    exact h.elim

end Go.Proofs.Ytpbppkidglmacaa
