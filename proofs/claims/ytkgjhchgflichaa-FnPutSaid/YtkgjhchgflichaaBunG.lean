/- Settled texts in one file. Each begins with what it holds. -/
import Derived.Test.YtkgjhchgflichaaBunC
import Derived.Test.YtkgjhchgflichaaBunB
import Derived.Test.YtkgjhchgflichaaBunA
import Derived.Deep.MidRow
import Derived.Test.YtkgjhchgflichaaBunD
/- The program's single steps of a beam, each by its contract: behind, next, holds, ports, hasPort, entry, exit, onward. -/
namespace Go.Proofs.Ytkgjhchgflichaa
open Go.RowKit

set_option maxRecDepth 100000 in
set_option maxHeartbeats 1000000 in
theorem behind_any (b : UInt8) (d : Nat) (hd : d < 4) (w : World) :
    Calls Try.prog 124 #[.int .i64 d, .int .u8 b.toNat] w fun e w' => e = .returned (.int .i64 ((bend b d : Nat) : Int)) ∧ w = w' := by
  by_cases h1 : b = 114
  · subst h1
    rcases four hd with rfl | rfl | rfl | rfl
    · have hx : ∀ W, (Instr.index 134 (.agg #[.int .i64 1, .int .i64 0, .int .i64 3, .int .i64 2]) (.int .i64 0)).run Try.prog W = .ok (.int .i64 1) W := fun W => by kernel_rfl
      change Calls Try.prog 124 #[.int .i64 0, .int .u8 114] w fun e w' => e = .returned (.int .i64 1) ∧ w = w'
      go_enter Try.func124, Try.ntmps124
      go_wp2
      go_ret
      exact ⟨rfl, rfl⟩
    · have hx : ∀ W, (Instr.index 134 (.agg #[.int .i64 1, .int .i64 0, .int .i64 3, .int .i64 2]) (.int .i64 1)).run Try.prog W = .ok (.int .i64 0) W := fun W => by kernel_rfl
      change Calls Try.prog 124 #[.int .i64 1, .int .u8 114] w fun e w' => e = .returned (.int .i64 0) ∧ w = w'
      go_enter Try.func124, Try.ntmps124
      go_wp2
      go_ret
      exact ⟨rfl, rfl⟩
    · have hx : ∀ W, (Instr.index 134 (.agg #[.int .i64 1, .int .i64 0, .int .i64 3, .int .i64 2]) (.int .i64 2)).run Try.prog W = .ok (.int .i64 3) W := fun W => by kernel_rfl
      change Calls Try.prog 124 #[.int .i64 2, .int .u8 114] w fun e w' => e = .returned (.int .i64 3) ∧ w = w'
      go_enter Try.func124, Try.ntmps124
      go_wp2
      go_ret
      exact ⟨rfl, rfl⟩
    · have hx : ∀ W, (Instr.index 134 (.agg #[.int .i64 1, .int .i64 0, .int .i64 3, .int .i64 2]) (.int .i64 3)).run Try.prog W = .ok (.int .i64 2) W := fun W => by kernel_rfl
      change Calls Try.prog 124 #[.int .i64 3, .int .u8 114] w fun e w' => e = .returned (.int .i64 2) ∧ w = w'
      go_enter Try.func124, Try.ntmps124
      go_wp2
      go_ret
      exact ⟨rfl, rfl⟩
  by_cases h2 : b = 102
  · subst h2
    rcases four hd with rfl | rfl | rfl | rfl
    · have hx : ∀ W, (Instr.index 134 (.agg #[.int .i64 3, .int .i64 2, .int .i64 1, .int .i64 0]) (.int .i64 0)).run Try.prog W = .ok (.int .i64 3) W := fun W => by kernel_rfl
      change Calls Try.prog 124 #[.int .i64 0, .int .u8 102] w fun e w' => e = .returned (.int .i64 3) ∧ w = w'
      go_enter Try.func124, Try.ntmps124
      go_wp2
      go_ret
      exact ⟨rfl, rfl⟩
    · have hx : ∀ W, (Instr.index 134 (.agg #[.int .i64 3, .int .i64 2, .int .i64 1, .int .i64 0]) (.int .i64 1)).run Try.prog W = .ok (.int .i64 2) W := fun W => by kernel_rfl
      change Calls Try.prog 124 #[.int .i64 1, .int .u8 102] w fun e w' => e = .returned (.int .i64 2) ∧ w = w'
      go_enter Try.func124, Try.ntmps124
      go_wp2
      go_ret
      exact ⟨rfl, rfl⟩
    · have hx : ∀ W, (Instr.index 134 (.agg #[.int .i64 3, .int .i64 2, .int .i64 1, .int .i64 0]) (.int .i64 2)).run Try.prog W = .ok (.int .i64 1) W := fun W => by kernel_rfl
      change Calls Try.prog 124 #[.int .i64 2, .int .u8 102] w fun e w' => e = .returned (.int .i64 1) ∧ w = w'
      go_enter Try.func124, Try.ntmps124
      go_wp2
      go_ret
      exact ⟨rfl, rfl⟩
    · have hx : ∀ W, (Instr.index 134 (.agg #[.int .i64 3, .int .i64 2, .int .i64 1, .int .i64 0]) (.int .i64 3)).run Try.prog W = .ok (.int .i64 0) W := fun W => by kernel_rfl
      change Calls Try.prog 124 #[.int .i64 3, .int .u8 102] w fun e w' => e = .returned (.int .i64 0) ∧ w = w'
      go_enter Try.func124, Try.ntmps124
      go_wp2
      go_ret
      exact ⟨rfl, rfl⟩
  rw [bend_e h1 h2]
  have e1 : ((b.toNat : Int) == 114) = false := by
    rw [beq_eq_false_iff_ne]; intro e; exact h1 (UInt8.toNat_inj.1 (by show b.toNat = 114; omega))
  have e2 : ((b.toNat : Int) == 102) = false := by
    rw [beq_eq_false_iff_ne]; intro e; exact h2 (UInt8.toNat_inj.1 (by show b.toNat = 102; omega))
  clear h1 h2
  generalize (b.toNat : Int) = x at e1 e2
  go_enter Try.func124, Try.ntmps124
  go_wp2
  go_ret
  exact ⟨rfl, rfl⟩

set_option maxRecDepth 100000 in
set_option maxHeartbeats 1000000 in
theorem next_any (i k : Int) (d : Nat) (hd : d < 4) (hi : -100 ≤ i ∧ i ≤ 100) (hk : -100 ≤ k ∧ k ≤ 100) (w : World) :
    Calls Try.prog 125 #[.agg #[.int .i64 i, .int .i64 k], .int .i64 d] w fun e w' => e = .returned (.agg #[.int .i64 (stepI i d), .int .i64 (stepK k d)]) ∧ Below w.heap.size w w' := by
  obtain ⟨i1, i2⟩ := hi
  obtain ⟨k1, k2⟩ := hk
  rcases four hd with rfl | rfl | rfl | rfl
  · change Calls Try.prog 125 #[.agg #[.int .i64 i, .int .i64 k], .int .i64 0] w fun e w' => e = .returned (.agg #[.int .i64 (i - 1), .int .i64 (k)]) ∧ Below w.heap.size w w'
    go_enter Try.func125, Try.ntmps125
    go_wp2
    exact bodyPost_ret (v := .agg #[.int .i64 (i - 1), .int .i64 (k)]) (by simp [results, Try.results125, go_sem]) rfl ⟨rfl, ((Below.refl _ w).alloc (Nat.le_refl _) _).alloc (by simp) _⟩
  · change Calls Try.prog 125 #[.agg #[.int .i64 i, .int .i64 k], .int .i64 1] w fun e w' => e = .returned (.agg #[.int .i64 (i), .int .i64 (k + 1)]) ∧ Below w.heap.size w w'
    go_enter Try.func125, Try.ntmps125
    go_wp2
    exact bodyPost_ret (v := .agg #[.int .i64 (i), .int .i64 (k + 1)]) (by simp [results, Try.results125, go_sem]) rfl ⟨rfl, ((Below.refl _ w).alloc (Nat.le_refl _) _).alloc (by simp) _⟩
  · change Calls Try.prog 125 #[.agg #[.int .i64 i, .int .i64 k], .int .i64 2] w fun e w' => e = .returned (.agg #[.int .i64 (i + 1), .int .i64 (k)]) ∧ Below w.heap.size w w'
    go_enter Try.func125, Try.ntmps125
    go_wp2
    exact bodyPost_ret (v := .agg #[.int .i64 (i + 1), .int .i64 (k)]) (by simp [results, Try.results125, go_sem]) rfl ⟨rfl, ((Below.refl _ w).alloc (Nat.le_refl _) _).alloc (by simp) _⟩
  · change Calls Try.prog 125 #[.agg #[.int .i64 i, .int .i64 k], .int .i64 3] w fun e w' => e = .returned (.agg #[.int .i64 (i), .int .i64 (k - 1)]) ∧ Below w.heap.size w w'
    go_enter Try.func125, Try.ntmps125
    go_wp2
    exact bodyPost_ret (v := .agg #[.int .i64 (i), .int .i64 (k - 1)]) (by simp [results, Try.results125, go_sem]) rfl ⟨rfl, ((Below.refl _ w).alloc (Nat.le_refl _) _).alloc (by simp) _⟩

set_option maxRecDepth 100000 in
set_option maxHeartbeats 1000000 in
theorem holds_any (n m : Nat) (ls : List UInt8) (x : Wy) (w : World) :
    Calls Try.prog 123 #[.agg (gcells n m ls), .agg #[.int .i64 x.i, .int .i64 x.k]] w fun e w' => e = .returned (.bool (decide (inG n m x))) ∧ Below w.heap.size w w' := by
  have h0 := gcells_0 n m ls
  have h1 := gcells_1 n m ls
  have hB : Below w.heap.size w ((w.alloc (.cells (gcells n m ls) 57)).alloc (.cells #[.int .i64 x.i, .int .i64 x.k] 72)) := ((Below.refl _ w).alloc (Nat.le_refl _) _).alloc (by simp) _
  have HB := hid hB
  clear hB
  generalize gcells n m ls = cs at h0 h1 HB
  unfold inG
  obtain ⟨i, k, d⟩ := x
  simp only at *
  by_cases a1 : 0 ≤ i
  · by_cases a2 : i < n
    · by_cases a3 : 0 ≤ k
      · by_cases a4 : k < m
        · rw [decide_eq_true (show 0 ≤ i ∧ i < (n : Int) ∧ 0 ≤ k ∧ k < (m : Int) from ⟨a1, a2, a3, a4⟩)]
          go_enter Try.func123, Try.ntmps123
          go_wp2
          go_ret
          exact ⟨rfl, HB.out⟩
        · rw [decide_eq_false (show ¬ (0 ≤ i ∧ i < (n : Int) ∧ 0 ≤ k ∧ k < (m : Int)) from fun h => a4 h.2.2.2)]
          go_enter Try.func123, Try.ntmps123
          go_wp2
          go_ret
          exact ⟨rfl, HB.out⟩
      · rw [decide_eq_false (show ¬ (0 ≤ i ∧ i < (n : Int) ∧ 0 ≤ k ∧ k < (m : Int)) from fun h => a3 h.2.2.1)]
        go_enter Try.func123, Try.ntmps123
        go_wp2
        go_ret
        exact ⟨rfl, HB.out⟩
    · rw [decide_eq_false (show ¬ (0 ≤ i ∧ i < (n : Int) ∧ 0 ≤ k ∧ k < (m : Int)) from fun h => a2 h.2.1)]
      go_enter Try.func123, Try.ntmps123
      go_wp2
      go_ret
      exact ⟨rfl, HB.out⟩
  · rw [decide_eq_false (show ¬ (0 ≤ i ∧ i < (n : Int) ∧ 0 ≤ k ∧ k < (m : Int)) from fun h => a1 h.1)]
    go_enter Try.func123, Try.ntmps123
    go_wp2
    go_ret
    exact ⟨rfl, HB.out⟩

set_option maxHeartbeats 400000 in
theorem ports_any (n m : Nat) (ls : List UInt8) (w : World) (hn : n ≤ 5) (hm : m ≤ 5) :
    Calls Try.prog 96 #[.agg (gcells n m ls)] w fun e w' => e = .returned (.int .i64 ((2 * (n + m) : Nat) : Int)) ∧ Below w.heap.size w w' := by
  have h0 := gcells_0 n m ls
  have h1 := gcells_1 n m ls
  generalize gcells n m ls = cs at h0 h1
  have hi : ((2 * (n + m) : Nat) : Int) = 2 * ((n : Int) + (m : Int)) := by omega
  rw [hi]
  clear hi
  go_enter Try.func96, Try.ntmps96
  go_wp2
  go_ret
  exact ⟨rfl, (Below.refl _ w).alloc (Nat.le_refl _) _⟩

/-- A way as a value. -/
def wayV (x : Wy) : Value := .agg #[.int .i64 x.i, .int .i64 x.k, .int .i64 ((x.d : Nat) : Int)]

end Go.Proofs.Ytkgjhchgflichaa

/- The way behind a way, by its contract. -/
namespace Go.Proofs.Ytkgjhchgflichaa
open Go.RowKit

theorem Try.size_way : (Try.prog.info? 107).map (·.size) = some 3 := by kernel_rfl
theorem Try.size_place : (Try.prog.info? 72).map (·.size) = some 2 := by kernel_rfl
/-- The cells of a way. -/
def wayC (x : Wy) : Array Value := #[.int .i64 x.i, .int .i64 x.k, .int .i64 ((x.d : Nat) : Int)]
theorem wayV_eq (x : Wy) : wayV x = .agg (wayC x) := rfl
theorem inG_cell {n m : Nat} {ls : List UInt8} {x : Wy} (hl : ls.length = 25) (hn : n ≤ 5) (hm : m ≤ 5) (hx : inG n m x) :
    ∃ p : Nat, p < 25 ∧ x.i * (m : Int) + x.k = (p : Int) ∧ ls[p]? = some (lett m ls x.i x.k) := by
  have h1 := cellN_int hx
  have h2 := cellN_lt hx
  have h3 : n * m ≤ 5 * 5 := Nat.mul_le_mul hn hm
  refine ⟨cellN m x, by omega, h1, ?_⟩
  unfold lett
  rw [h1, Int.toNat_natCast, List.getD_eq_getElem?_getD, List.getElem?_eq_getElem (by omega)]
  rfl

set_option maxRecDepth 100000 in
set_option maxHeartbeats 1000000 in
theorem onward_any (n m : Nat) (ls : List UInt8) (x : Wy) (w : World) (hl : ls.length = 25) (hn : n ≤ 5) (hm : m ≤ 5) (hx : inG n m x) (hd : x.d < 4) :
    Calls Try.prog 113 #[.agg (gcells n m ls), wayV x] w fun e w' => e = .returned (wayV (nxt (lett m ls) x)) ∧ Below w.heap.size w w' := by
  obtain ⟨p, hp, he, hb⟩ := inG_cell hl hn hm hx
  have hbd := bend_lt (lett m ls x.i x.k) hd
  obtain ⟨x1, x2, x3, x4⟩ := hx
  have HAT := hid (fun w' => at_any n m ls x.i x.k p (lett m ls x.i x.k) w' hl hp he ⟨x1, by omega⟩ hm hb)
  have HBE := hid (fun w' => behind_any (lett m ls x.i x.k) x.d hd w')
  have HNX := hid (fun w' => next_any x.i x.k (bend (lett m ls x.i x.k) x.d) hbd ⟨by omega, by omega⟩ ⟨by omega, by omega⟩ w')
  have HG := hid (show (Try.prog.info? 57).map (·.size) = some (gcells n m ls).size by rw [gcells_size hl]; exact Try.size_grid)
  unfold nxt
  rw [wayV_eq, wayV_eq]
  unfold wayC
  simp only
  generalize bend (lett m ls x.i x.k) x.d = d' at HBE HNX hbd ⊢
  generalize lett m ls x.i x.k = b at HAT HBE
  generalize hdd : ((x.d : Nat) : Int) = dv at HBE ⊢
  generalize x.i = i at *
  generalize x.k = k at *
  generalize hgc : gcells n m ls = cs at *
  clear hb he hp hbd x1 x2 x3 x4 hd hdd hl hgc
  go_enter Try.func113, Try.ntmps113
  go_wp2
  have F0 := heap_new2 w (.cells cs 57) (.cells #[.int .i64 i, .int .i64 k, .int .i64 dv] 107) (.cells #[.int .i64 0, .int .i64 0, .int .i64 0] 107)
  have F1 := heap_new1 (w.alloc (.cells cs 57)) (.cells #[.int .i64 i, .int .i64 k, .int .i64 dv] 107) (.cells #[.int .i64 0, .int .i64 0, .int .i64 0] 107)
  have F2 := heap_new0 ((w.alloc (.cells cs 57)).alloc (.cells #[.int .i64 i, .int .i64 k, .int .i64 dv] 107)) (.cells #[.int .i64 0, .int .i64 0, .int .i64 0] 107)
  have FB : Below w.heap.size w (((w.alloc (.cells cs 57)).alloc (.cells #[.int .i64 i, .int .i64 k, .int .i64 dv] 107)).alloc (.cells #[.int .i64 0, .int .i64 0, .int .i64 0] 107)) := (((Below.refl _ w).alloc (Nat.le_refl _) _).alloc (by simp) _).alloc (by simp; omega) _
  simp only [World.size_alloc] at F1 F2
  generalize World.alloc (World.alloc (World.alloc w _) _) _ = W at F0 F1 F2 FB ⊢
  have G0 := hid (show ∀ w', Cls W w' → w'.heap[w.heap.size]? = some (.cells cs 57 (0, 0)) from fun w' hw => (hw.block _ (lt_of_block F0)).trans F0)
  have G1 := hid (show ∀ w', Cls W w' → w'.heap[w.heap.size + 1]? = some (.cells #[.int .i64 i, .int .i64 k, .int .i64 dv] 107 (0, 0)) from fun w' hw => (hw.block _ (lt_of_block F1)).trans F1)
  have G2 := hid (show ∀ w', Cls W w' → w'.heap[w.heap.size + 1 + 1]? = some (.cells #[.int .i64 0, .int .i64 0, .int .i64 0] 107 (0, 0)) from fun w' hw => (hw.block _ (lt_of_block F2)).trans F2)
  have GB := hid FB
  have C0 := hid (show ∀ w', Cls W w' → w'.cell? ⟨w.heap.size + 1, 0, none⟩ = some (.int .i64 i) from fun w' hw => by rw [cell_of_row _ _ _ _ _ _ (G1.out w' hw)]; rfl)
  have C1 := hid (show ∀ w', Cls W w' → w'.cell? ⟨w.heap.size + 1, 1, none⟩ = some (.int .i64 k) from fun w' hw => by rw [cell_of_row _ _ _ _ _ _ (G1.out w' hw)]; rfl)
  have C2 := hid (show ∀ w', Cls W w' → w'.cell? ⟨w.heap.size + 1, 2, none⟩ = some (.int .i64 dv) from fun w' hw => by rw [cell_of_row _ _ _ _ _ _ (G1.out w' hw)]; rfl)
  clear F0 F1 F2 FB
  refine wp_region_quiet (C := Cls W) (by kernel_rfl) (by kernel_rfl) (Below.refl _ W).drew ?_
  quiet_step ((intro _; rfl))
  refine wpQuiet_value rfl (.int .i64 dv) (fun w' hw => by have hc := C2.out w' hw; go_simp) ?_
  refine wpQuiet_load_row rfl 57 _ rfl w.heap.size rfl 57 cs (0, 0) _ G0.out Try.underlying57 rfl HG.out ?_
  quiet_step ((intro _; rfl))
  refine wpQuiet_value rfl (.agg #[.int .i64 i, .int .i64 k]) (fun w' hw => by have hc := C0.out w' hw; have hc1 := C1.out w' hw; go_simp) ?_
  refine wpQuiet_call rfl 103 #[.agg cs, .agg #[.int .i64 i, .int .i64 k]] (.int .u8 b.toNat) (fun w _ => by go_simp) (fun w' hw => (HAT.out w').mono fun e w'' ⟨he, hb'⟩ => ⟨he, hw.trans (hb'.mono hw.size)⟩) ?_
  refine wpQuiet_call rfl 124 #[.int .i64 dv, .int .u8 b.toNat] (.int .i64 ((d' : Nat) : Int)) (fun w _ => by go_simp) (fun w' hw => (HBE.out w').mono fun e w'' ⟨he, hb'⟩ => ⟨he, by rw [← hb']; exact hw⟩) ?_
  quiet_step ((intro _; rfl))
  refine wpQuiet_nil ?_
  intro w2 hw2
  have c0 := C0.out w2 hw2
  have c1 := C1.out w2 hw2
  have g2 := hid (G2.out w2 hw2)
  have HB2 := hid (GB.out.trans (hw2.mono GB.out.size))
  clear hw2
  go_wp2_with fail
  refine (HNX.out _).mono ?_
  rintro e w3 ⟨rfl, hb3⟩
  have g3 := hid ((hb3.block _ (lt_of_block g2.out)).trans g2.out)
  have HB3 := hid (HB2.out.trans (hb3.mono HB2.out.size))
  clear hb3
  have k0 : w3.cell? ⟨w.heap.size + 1 + 1, 0, none⟩ = some (.int .i64 0) := by rw [cell_of_row _ _ _ _ _ _ g3.out]; rfl
  have k1 : w3.cell? ⟨w.heap.size + 1 + 1, 1, none⟩ = some (.int .i64 0) := by rw [cell_of_row _ _ _ _ _ _ g3.out]; rfl
  have k2 : w3.cell? ⟨w.heap.size + 1 + 1, 2, none⟩ = some (.int .i64 0) := by rw [cell_of_row _ _ _ _ _ _ g3.out]; rfl
  have f0 : w3.frozen? ⟨w.heap.size + 1 + 1, 0, none⟩ = false := frozen_of_row _ _ _ _ _ g3.out
  have f1 : w3.frozen? ⟨w.heap.size + 1 + 1, 1, none⟩ = false := frozen_of_row _ _ _ _ _ g3.out
  have f2 : w3.frozen? ⟨w.heap.size + 1 + 1, 2, none⟩ = false := frozen_of_row _ _ _ _ _ g3.out
  go_wp2
  have r0 := heap_setCell_same _ _ 0 _ _ (.int .i64 (stepI i d')) g3.out
  have r1 := heap_setCell_same _ _ 1 _ _ (.int .i64 (stepK k d')) r0
  have r2 := heap_setCell_same _ _ 2 _ _ (.int .i64 ((d' : Nat) : Int)) r1
  refine bodyPost_ret (results_cell_row Try.results113 _ _ (w.heap.size + 1 + 1) 107 #[.int .i64 (stepI i d'), .int .i64 (stepK k d'), .int .i64 ((d' : Nat) : Int)] (0, 0) _ (by rfl) r2 Try.underlying107 rfl Try.size_way) rfl ⟨rfl, ?_⟩
  exact ((HB3.out.setCell (p := ⟨w.heap.size + 1 + 1, 0, none⟩) (by simp; omega) _).setCell (p := ⟨w.heap.size + 1 + 1, 1, none⟩) (by simp; omega) _).setCell (p := ⟨w.heap.size + 1 + 1, 2, none⟩) (by simp; omega) _

/-- The way that stands in cells. -/
def readWay (cs : Array Value) : Wy := ⟨intOf (cs.getD 0 undef), intOf (cs.getD 1 undef), (intOf (cs.getD 2 undef)).toNat⟩
theorem readWay_wayC (x : Wy) : readWay (wayC x) = x := Wy.eq rfl rfl (by simp [readWay, wayC, intOf])
/-- The place of a way among the first ones. -/
def idxW (W : Nat → Wy) (L : Nat) (x : Wy) : Nat := (List.range (L + 1)).findIdx fun j => sameW (W j) x
theorem idxW_eq {W : Nat → Wy} {L j : Nat} (hj : j ≤ L) (hne : ∀ a b, a < b → b ≤ L → W a ≠ W b) : idxW W L (W j) = j := by
  unfold idxW
  rw [List.findIdx_eq (by simpa using Nat.lt_succ_of_le hj)]
  refine ⟨by simpa using sameW_iff.2 rfl, fun a ha => ?_⟩
  rw [List.getElem_range, Bool.eq_false_iff]
  exact fun e => hne a j ha hj (sameW_iff.1 e)

end Go.Proofs.Ytkgjhchgflichaa

/- A region that draws its order and holds guarded operations: quiet steps. No program is named. -/
namespace Go.Proofs.Ytkgjhchgflichaa
open Go Go.RowKit

section
variable {P : Program} {ops : Array Oper} {C : World → Prop} {Q : Act → Prop} {a : Act} {o : Oper} {rest : List Oper}
theorem wpQuiet_skipW (hw : Region.wanted o (yielded ops a.tmps) = false) (h : wpQuiet P ops C Q rest (a.put o.dst undef)) : wpQuiet P ops C Q (o :: rest) a := by
  unfold wpQuiet
  rw [hw]
  exact h
theorem wpQuiet_load_rowW (hw : Region.wanted o (yielded ops a.tmps) = true) (ty : TypeId) (x : Operand) (ho : o.op = .load ty x)
    (g : Nat) (hx : a.eval x = .pointer (some ⟨g, 0, none⟩)) (t : TypeId) (cs : Array Value) (fr : Nat × Nat) (d : TypeDesc) (hg : ∀ w, C w → w.heap[g]? = some (.cells cs t fr))
    (hu : P.underlying ty = some d) (hd : (match d with | .struct _ | .array _ _ => true | _ => false) = true) (hi : (P.info? ty).map (·.size) = some cs.size)
    (h : wpQuiet P ops C Q rest (a.put o.dst (.agg cs))) : wpQuiet P ops C Q (o :: rest) a := by
  unfold wpQuiet
  rw [if_pos hw]
  refine ⟨.agg cs, fun w hC => ?_, h⟩
  unfold Oper.quietAt execOp
  simp only [ho, hx, Instr.loadAt, Instr.sureAddr, Sem.run_bind, Sem.run_pure, Result.andThen_ok, run_loadVar_row w g t ty cs fr d (hg w hC) hu hd hi]
  exact ⟨rfl, rfl⟩
theorem wpQuiet_valueW (hw : Region.wanted o (yielded ops a.tmps) = true) (v : Value) (hv : ∀ w, C w → (execOp a.eval o).run P w = .ok (.value v) w) (h : wpQuiet P ops C Q rest (a.put o.dst v)) : wpQuiet P ops C Q (o :: rest) a := by
  unfold wpQuiet
  rw [if_pos hw]
  refine ⟨v, fun w hC => ?_, h⟩
  unfold Oper.quietAt
  rw [hv w hC]
  exact ⟨rfl, rfl⟩
theorem wpQuiet_callW (hw : Region.wanted o (yielded ops a.tmps) = true) (f : FuncId) (args : Array Value) (v : Value) (hv : ∀ w, C w → (execOp a.eval o).run P w = .ok (.enter f args) w) (hc : ∀ w, C w → Calls P f args w fun e w' => e = .returned v ∧ C w')
    (h : wpQuiet P ops C Q rest (a.put o.dst v)) : wpQuiet P ops C Q (o :: rest) a := by
  unfold wpQuiet
  rw [if_pos hw]
  refine ⟨v, fun w hC => ?_, h⟩
  unfold Oper.quietAt
  rw [hv w hC]
  exact ⟨rfl, hc w hC⟩
end

end Go.Proofs.Ytkgjhchgflichaa

/- The chart of a grid: its struct, and number, step, opposite, by their contracts. -/
namespace Go.Proofs.Ytkgjhchgflichaa
open Go.RowKit

section
variable {P : Program} {ops : Array Oper} {C : World → Prop} {Q : Act → Prop} {a : Act} {o : Oper} {rest : List Oper}
/-- A struct out of the middle of a block, in every world of the class. -/
theorem wpQuiet_load_mid (hw : Region.wanted o (yielded ops a.tmps) = true) (ty : TypeId) (x : Operand) (ho : o.op = .load ty x)
    (b off : Nat) (hx : a.eval x = .pointer (some ⟨b, off, none⟩)) (cs : Array Value) (d : TypeDesc) (hc : ∀ w, C w → w.rangeAt b off cs.toList)
    (hu : P.underlying ty = some d) (hd : d.isRow = true) (hi : (P.info? ty).map (·.size) = some cs.size)
    (h : wpQuiet P ops C Q rest (a.put o.dst (.agg cs))) : wpQuiet P ops C Q (o :: rest) a := by
  refine wpQuiet_valueW hw (.agg cs) (fun w hw' => ?_) h
  unfold execOp
  have := run_loadVar_mid (P := P) w b off ty cs.toList d (hc w hw') hu hd (by simpa using hi)
  simp only [ho, hx, Instr.loadAt, Instr.sureAddr, Sem.run_bind, Sem.run_pure, Result.andThen_ok, this]
end
theorem rangeAt_row {w : World} {b off : Nat} {all : Array Value} {t : TypeId} {fr : Nat × Nat} (hg : w.heap[b]? = some (.cells all t fr)) {cs : Array Value} (h : ∀ j v, cs[j]? = some v → all[off + j]? = some v) : w.rangeAt b off cs.toList := fun j v hv => by
  rw [cell_of_row _ _ _ _ _ _ hg]; exact h j v (by simpa using hv)

/-- The cells of a chart: the grid's, and the steps. -/
def chartC (cs : Array Value) (g N : Nat) : Array Value := cs.push (.slice (some ⟨g, 0, none⟩) N N)
theorem chartC_pre (cs : Array Value) (g N j : Nat) (v : Value) (h : cs[j]? = some v) : (chartC cs g N)[0 + j]? = some v := by
  unfold chartC
  rw [Nat.zero_add, Array.getElem?_push, if_neg (by have := (Array.getElem?_eq_some_iff.1 h).1; omega)]
  exact h
theorem chartC_steps {cs : Array Value} (h : cs.size = 27) (g N : Nat) : (chartC cs g N)[27]? = some (.slice (some ⟨g, 0, none⟩) N N) := by
  unfold chartC
  rw [Array.getElem?_push, if_pos h.symm]
theorem chartC_size {cs : Array Value} (h : cs.size = 27) (g N : Nat) : (chartC cs g N).size = 28 := by simp [chartC, h]
theorem chartC_one {cs : Array Value} (h : cs.all (·.oneCell') = true) (g N : Nat) : (chartC cs g N).all (·.oneCell') = true := by
  rw [Array.all_eq_true_iff_forall_mem] at h ⊢
  intro x hx
  unfold chartC at hx
  rcases Array.mem_push.1 hx with h1 | h1
  · exact h x h1
  · subst h1; rfl

end Go.Proofs.Ytkgjhchgflichaa

/- The steps of a chart in memory; chart.link, by its contract. -/
namespace Go.Proofs.Ytkgjhchgflichaa
open Go.RowKit
attribute [local go_sem] Oper.semAt_some

section
variable {F : Fence} {m : Nat} {P : Program} {ops : Array Oper} {Q : Exit → Act → World → Prop} {a : Act} {w : World} {rest : List Oper} {o : Oper}
/-- A struct out of the middle of a block, in a fence. -/
theorem wpListIn_load_mid (hO : Open F P) (hgd : o.guard = none) (ty : TypeId) (x : Operand) (ho : o.op = .load ty x)
    (b off : Nat) (hx : a.eval x = .pointer (some ⟨b, off, none⟩)) (cs : Array Value) (d : TypeDesc) (hc : w.rangeAt b off cs.toList)
    (hu : P.underlying ty = some d) (hd : d.isRow = true) (hi : (P.info? ty).map (·.size) = some cs.size)
    (h : wpListIn F m P ops Q rest (a.put o.dst (.agg cs)) w) : wpListIn F m P ops Q (o :: rest) a w := by
  unfold wpListIn
  have hw : Region.wanted o (yielded ops a.tmps) = true := by simp [Region.wanted, hgd]
  rw [if_pos hw]
  refine ⟨fun f _ => hO.fn f, ?_⟩
  rw [Oper.semAt_eq _ _ _ (fun c e => by rw [ho] at e; cases e)]
  unfold execOp
  have := run_loadVar_mid (P := P) w b off ty cs.toList d hc hu hd (by simpa using hi)
  simp only [ho, hx, Instr.loadAt, Instr.sureAddr, Sem.run_bind, Sem.run_pure, Result.andThen_ok, this]
  rw [Oper.uponIn_value]
  exact h
/-- A struct into the middle of a block, in a fence. -/
theorem wpListIn_store_mid (hO : Open F P) (hgd : o.guard = none) (ty : TypeId) (x y : Operand) (ho : o.op = .store ty x y)
    (b off : Nat) (cells : Array Value) (hx : a.eval x = .pointer (some ⟨b, off, none⟩)) (hy : a.eval y = .agg cells)
    (ht : w.there b off cells.size) (hi : (P.info? ty).map (·.size) = some cells.size) (h1 : cells.all (·.oneCell') = true)
    (h : wpListIn F m P ops Q rest (a.put o.dst undef) (w.setCells b off cells.toList)) : wpListIn F m P ops Q (o :: rest) a w := by
  unfold wpListIn
  have hw : Region.wanted o (yielded ops a.tmps) = true := by simp [Region.wanted, hgd]
  rw [if_pos hw]
  refine ⟨fun f _ => hO.fn f, ?_⟩
  rw [Oper.semAt_eq _ _ _ (fun c e => by rw [ho] at e; cases e)]
  unfold execOp
  simp only [ho, hx, hy, Instr.storeAt, Instr.sureAddr, Sem.run_bind, Sem.run_pure, Result.andThen_ok, run_storeVar_mid w b off ty cells ht hi h1]
  rw [Oper.uponIn_skip]
  exact h
end

/-- The pointer to the step behind a way. -/
def nextP (g n m : Nat) (t : Int → Int → UInt8) (x : Wy) : Value := if inG n m (nxt t x) then .pointer (some ⟨g, 5 * wcode m (nxt t x), none⟩) else .pointer none
/-- The cells of the step of a way. -/
def stepC (g n m : Nat) (t : Int → Int → UInt8) (x : Wy) : List Value := [.int .i64 x.i, .int .i64 x.k, .int .i64 ((x.d : Nat) : Int), nextP g n m t x, .pointer (some ⟨g, 5 * wcode m (rev t x), none⟩)]
def put5 (cs : Array Value) (o : Nat) (a0 a1 a2 b4 : Value) : Array Value := (((cs.setIfInBounds o a0).setIfInBounds (o + 1) a1).setIfInBounds (o + 1 + 1) a2).setIfInBounds (o + 4) b4
theorem put5_size (cs : Array Value) (o : Nat) (a0 a1 a2 b4 : Value) : (put5 cs o a0 a1 a2 b4).size = cs.size := by simp [put5]
theorem put5_at {cs : Array Value} {o : Nat} (a0 a1 a2 b4 : Value) (h : o + 4 < cs.size) (i : Nat) :
    (put5 cs o a0 a1 a2 b4)[i]? = if i = o + 4 then some b4 else if i = o + 1 + 1 then some a2 else if i = o + 1 then some a1 else if i = o then some a0 else cs[i]? := by
  unfold put5
  by_cases e4 : i = o + 4
  · subst e4; rw [Array.getElem?_setIfInBounds_self_of_lt (by simp; omega), if_pos rfl]
  rw [Array.getElem?_setIfInBounds_ne (fun e => e4 e.symm), if_neg e4]
  by_cases e2 : i = o + 1 + 1
  · subst e2; rw [Array.getElem?_setIfInBounds_self_of_lt (by simp; omega), if_pos rfl]
  rw [Array.getElem?_setIfInBounds_ne (fun e => e2 e.symm), if_neg e2]
  by_cases e1 : i = o + 1
  · subst e1; rw [Array.getElem?_setIfInBounds_self_of_lt (by simp; omega), if_pos rfl]
  rw [Array.getElem?_setIfInBounds_ne (fun e => e1 e.symm), if_neg e1]
  by_cases e0 : i = o
  · subst e0; rw [Array.getElem?_setIfInBounds_self_of_lt (by omega), if_pos rfl]
  rw [Array.getElem?_setIfInBounds_ne (fun e => e0 e.symm), if_neg e0]

end Go.Proofs.Ytkgjhchgflichaa

/- newChart, by its contract. -/
namespace Go.Proofs.Ytkgjhchgflichaa
open Go.RowKit
attribute [local go_sem] Oper.semAt_some

theorem lits27c {cs : Array Value} (h : cs.size = 27) : ∃ c0 c1 c2 c3 c4 c5 c6 c7 c8 c9 c10 c11 c12 c13 c14 c15 c16 c17 c18 c19 c20 c21 c22 c23 c24 c25 c26 : Value, cs = #[c0, c1, c2, c3, c4, c5, c6, c7, c8, c9, c10, c11, c12, c13, c14, c15, c16, c17, c18, c19, c20, c21, c22, c23, c24, c25, c26] := by
  refine ⟨cs[0], cs[1], cs[2], cs[3], cs[4], cs[5], cs[6], cs[7], cs[8], cs[9], cs[10], cs[11], cs[12], cs[13], cs[14], cs[15], cs[16], cs[17], cs[18], cs[19], cs[20], cs[21], cs[22], cs[23], cs[24], cs[25], cs[26], ?_⟩
  refine Array.ext (by simp [h]) (fun i h1 h2 => ?_)
  rw [h] at h1
  have : i = 0 ∨ i = 1 ∨ i = 2 ∨ i = 3 ∨ i = 4 ∨ i = 5 ∨ i = 6 ∨ i = 7 ∨ i = 8 ∨ i = 9 ∨ i = 10 ∨ i = 11 ∨ i = 12 ∨ i = 13 ∨ i = 14 ∨ i = 15 ∨ i = 16 ∨ i = 17 ∨ i = 18 ∨ i = 19 ∨ i = 20 ∨ i = 21 ∨ i = 22 ∨ i = 23 ∨ i = 24 ∨ i = 25 ∨ i = 26 := by omega
  rcases this with rfl | rfl | rfl | rfl | rfl | rfl | rfl | rfl | rfl | rfl | rfl | rfl | rfl | rfl | rfl | rfl | rfl | rfl | rfl | rfl | rfl | rfl | rfl | rfl | rfl | rfl | rfl <;> rfl
/-- The cells of the zero chart, of the zero step. -/
abbrev zeroK : Array Value := #[.int .i64 0, .int .i64 0, .int .u8 0, .int .u8 0, .int .u8 0, .int .u8 0, .int .u8 0, .int .u8 0, .int .u8 0, .int .u8 0, .int .u8 0, .int .u8 0, .int .u8 0, .int .u8 0, .int .u8 0, .int .u8 0, .int .u8 0, .int .u8 0, .int .u8 0, .int .u8 0, .int .u8 0, .int .u8 0, .int .u8 0, .int .u8 0, .int .u8 0, .int .u8 0, .int .u8 0, .slice none 0 0]
abbrev zeroS : Array Value := #[.int .i64 0, .int .i64 0, .int .i64 0, .pointer none, .pointer none]
theorem exec_load_row {P : Program} {o : Oper} {a : Act} {w : World} (ty : TypeId) (x : Operand) (ho : o.op = .load ty x)
    (g : Nat) (hx : a.eval x = .pointer (some ⟨g, 0, none⟩)) (t : TypeId) (cs : Array Value) (fr : Nat × Nat) (d : TypeDesc) (hg : w.heap[g]? = some (.cells cs t fr))
    (hu : P.underlying ty = some d) (hd : (match d with | .struct _ | .array _ _ => true | _ => false) = true) (hi : (P.info? ty).map (·.size) = some cs.size) : (execOp a.eval o).run P w = .ok (.value (.agg cs)) w := by
  unfold execOp
  simp only [ho, hx, Instr.loadAt, Instr.sureAddr, Sem.run_bind, Sem.run_pure, Result.andThen_ok, run_loadVar_row w g t ty cs fr d hg hu hd hi]

theorem but_grownN {g : Nat} {w w' : World} (h : But g w w') : w.grownBy w' (some g) := ⟨h.os, h.tape, h.output, h.size, fun k hk hne => h.block k hk (fun e => hne (by rw [e]))⟩
end Go.Proofs.Ytkgjhchgflichaa
