/- Settled texts in one file. Each begins with what it holds. -/
import Derived.Test.YtongjijkdjagdaaBunC
import Derived.Test.YtongjijkdjagdaaBunB
import Derived.Test.YtongjijkdjagdaaBunA
import Derived.Deep.MidRow
import Derived.Test.YtongjijkdjagdaaBunD
/- The program's single steps of a beam, each by its contract: behind, next, holds, ports, hasPort, entry, exit, onward. -/
namespace Go.Proofs.Ytongjijkdjagdaa
open Go.RowKit

set_option maxRecDepth 100000 in
set_option maxHeartbeats 1000000 in
theorem behind_any (b : UInt8) (d : Nat) (hd : d < 4) (w : World) :
    Calls Try.prog 66 #[.int .i64 d, .int .u8 b.toNat] w fun e w' => e = .returned (.int .i64 ((bend b d : Nat) : Int)) ∧ w = w' := by
  by_cases h1 : b = 114
  · subst h1
    rcases four hd with rfl | rfl | rfl | rfl
    · have hx : ∀ W, (Instr.index 110 (.agg #[.int .i64 1, .int .i64 0, .int .i64 3, .int .i64 2]) (.int .i64 0)).run Try.prog W = .ok (.int .i64 1) W := fun W => by kernel_rfl
      change Calls Try.prog 66 #[.int .i64 0, .int .u8 114] w fun e w' => e = .returned (.int .i64 1) ∧ w = w'
      go_enter Try.func66, Try.ntmps66
      go_wp2
      go_ret
      exact ⟨rfl, rfl⟩
    · have hx : ∀ W, (Instr.index 110 (.agg #[.int .i64 1, .int .i64 0, .int .i64 3, .int .i64 2]) (.int .i64 1)).run Try.prog W = .ok (.int .i64 0) W := fun W => by kernel_rfl
      change Calls Try.prog 66 #[.int .i64 1, .int .u8 114] w fun e w' => e = .returned (.int .i64 0) ∧ w = w'
      go_enter Try.func66, Try.ntmps66
      go_wp2
      go_ret
      exact ⟨rfl, rfl⟩
    · have hx : ∀ W, (Instr.index 110 (.agg #[.int .i64 1, .int .i64 0, .int .i64 3, .int .i64 2]) (.int .i64 2)).run Try.prog W = .ok (.int .i64 3) W := fun W => by kernel_rfl
      change Calls Try.prog 66 #[.int .i64 2, .int .u8 114] w fun e w' => e = .returned (.int .i64 3) ∧ w = w'
      go_enter Try.func66, Try.ntmps66
      go_wp2
      go_ret
      exact ⟨rfl, rfl⟩
    · have hx : ∀ W, (Instr.index 110 (.agg #[.int .i64 1, .int .i64 0, .int .i64 3, .int .i64 2]) (.int .i64 3)).run Try.prog W = .ok (.int .i64 2) W := fun W => by kernel_rfl
      change Calls Try.prog 66 #[.int .i64 3, .int .u8 114] w fun e w' => e = .returned (.int .i64 2) ∧ w = w'
      go_enter Try.func66, Try.ntmps66
      go_wp2
      go_ret
      exact ⟨rfl, rfl⟩
  by_cases h2 : b = 102
  · subst h2
    rcases four hd with rfl | rfl | rfl | rfl
    · have hx : ∀ W, (Instr.index 110 (.agg #[.int .i64 3, .int .i64 2, .int .i64 1, .int .i64 0]) (.int .i64 0)).run Try.prog W = .ok (.int .i64 3) W := fun W => by kernel_rfl
      change Calls Try.prog 66 #[.int .i64 0, .int .u8 102] w fun e w' => e = .returned (.int .i64 3) ∧ w = w'
      go_enter Try.func66, Try.ntmps66
      go_wp2
      go_ret
      exact ⟨rfl, rfl⟩
    · have hx : ∀ W, (Instr.index 110 (.agg #[.int .i64 3, .int .i64 2, .int .i64 1, .int .i64 0]) (.int .i64 1)).run Try.prog W = .ok (.int .i64 2) W := fun W => by kernel_rfl
      change Calls Try.prog 66 #[.int .i64 1, .int .u8 102] w fun e w' => e = .returned (.int .i64 2) ∧ w = w'
      go_enter Try.func66, Try.ntmps66
      go_wp2
      go_ret
      exact ⟨rfl, rfl⟩
    · have hx : ∀ W, (Instr.index 110 (.agg #[.int .i64 3, .int .i64 2, .int .i64 1, .int .i64 0]) (.int .i64 2)).run Try.prog W = .ok (.int .i64 1) W := fun W => by kernel_rfl
      change Calls Try.prog 66 #[.int .i64 2, .int .u8 102] w fun e w' => e = .returned (.int .i64 1) ∧ w = w'
      go_enter Try.func66, Try.ntmps66
      go_wp2
      go_ret
      exact ⟨rfl, rfl⟩
    · have hx : ∀ W, (Instr.index 110 (.agg #[.int .i64 3, .int .i64 2, .int .i64 1, .int .i64 0]) (.int .i64 3)).run Try.prog W = .ok (.int .i64 0) W := fun W => by kernel_rfl
      change Calls Try.prog 66 #[.int .i64 3, .int .u8 102] w fun e w' => e = .returned (.int .i64 0) ∧ w = w'
      go_enter Try.func66, Try.ntmps66
      go_wp2
      go_ret
      exact ⟨rfl, rfl⟩
  rw [bend_e h1 h2]
  have e1 : ((b.toNat : Int) == 114) = false := by
    rw [beq_eq_false_iff_ne]; intro e; exact h1 (UInt8.toNat_inj.1 (by show b.toNat = 114; omega))
  have e2 : ((b.toNat : Int) == 102) = false := by
    rw [beq_eq_false_iff_ne]; intro e; exact h2 (UInt8.toNat_inj.1 (by show b.toNat = 102; omega))
  clear h1 h2
  generalize (b.toNat : Int) = x at e1 e2
  go_enter Try.func66, Try.ntmps66
  go_wp2
  go_ret
  exact ⟨rfl, rfl⟩

set_option maxRecDepth 100000 in
set_option maxHeartbeats 1000000 in
theorem next_any (i k : Int) (d : Nat) (hd : d < 4) (hi : -100 ≤ i ∧ i ≤ 100) (hk : -100 ≤ k ∧ k ≤ 100) (w : World) :
    Calls Try.prog 67 #[.agg #[.int .i64 i, .int .i64 k], .int .i64 d] w fun e w' => e = .returned (.agg #[.int .i64 (stepI i d), .int .i64 (stepK k d)]) ∧ Below w.heap.size w w' := by
  obtain ⟨i1, i2⟩ := hi
  obtain ⟨k1, k2⟩ := hk
  rcases four hd with rfl | rfl | rfl | rfl
  · change Calls Try.prog 67 #[.agg #[.int .i64 i, .int .i64 k], .int .i64 0] w fun e w' => e = .returned (.agg #[.int .i64 (i - 1), .int .i64 (k)]) ∧ Below w.heap.size w w'
    go_enter Try.func67, Try.ntmps67
    go_wp2
    exact bodyPost_ret (v := .agg #[.int .i64 (i - 1), .int .i64 (k)]) (by simp [results, Try.results67, go_sem]) rfl ⟨rfl, ((Below.refl _ w).alloc (Nat.le_refl _) _).alloc (by simp) _⟩
  · change Calls Try.prog 67 #[.agg #[.int .i64 i, .int .i64 k], .int .i64 1] w fun e w' => e = .returned (.agg #[.int .i64 (i), .int .i64 (k + 1)]) ∧ Below w.heap.size w w'
    go_enter Try.func67, Try.ntmps67
    go_wp2
    exact bodyPost_ret (v := .agg #[.int .i64 (i), .int .i64 (k + 1)]) (by simp [results, Try.results67, go_sem]) rfl ⟨rfl, ((Below.refl _ w).alloc (Nat.le_refl _) _).alloc (by simp) _⟩
  · change Calls Try.prog 67 #[.agg #[.int .i64 i, .int .i64 k], .int .i64 2] w fun e w' => e = .returned (.agg #[.int .i64 (i + 1), .int .i64 (k)]) ∧ Below w.heap.size w w'
    go_enter Try.func67, Try.ntmps67
    go_wp2
    exact bodyPost_ret (v := .agg #[.int .i64 (i + 1), .int .i64 (k)]) (by simp [results, Try.results67, go_sem]) rfl ⟨rfl, ((Below.refl _ w).alloc (Nat.le_refl _) _).alloc (by simp) _⟩
  · change Calls Try.prog 67 #[.agg #[.int .i64 i, .int .i64 k], .int .i64 3] w fun e w' => e = .returned (.agg #[.int .i64 (i), .int .i64 (k - 1)]) ∧ Below w.heap.size w w'
    go_enter Try.func67, Try.ntmps67
    go_wp2
    exact bodyPost_ret (v := .agg #[.int .i64 (i), .int .i64 (k - 1)]) (by simp [results, Try.results67, go_sem]) rfl ⟨rfl, ((Below.refl _ w).alloc (Nat.le_refl _) _).alloc (by simp) _⟩

set_option maxRecDepth 100000 in
set_option maxHeartbeats 1000000 in
theorem holds_any (n m : Nat) (ls : List UInt8) (x : Wy) (w : World) :
    Calls Try.prog 56 #[.agg (gcells n m ls), .agg #[.int .i64 x.i, .int .i64 x.k]] w fun e w' => e = .returned (.bool (decide (inG n m x))) ∧ Below w.heap.size w w' := by
  have h0 := gcells_0 n m ls
  have h1 := gcells_1 n m ls
  have hB : Below w.heap.size w ((w.alloc (.cells (gcells n m ls) 37)).alloc (.cells #[.int .i64 x.i, .int .i64 x.k] 60)) := ((Below.refl _ w).alloc (Nat.le_refl _) _).alloc (by simp) _
  have HB := hid hB
  clear hB
  generalize gcells n m ls = cs at h0 h1 HB
  unfold inG
  obtain ⟨i, k, d⟩ := x
  simp only at *
  by_cases a1 : 0 ≤ i
  · by_cases a2 : i < n
    · by_cases a3 : 0 ≤ k
      · by_cases a4 : k < m
        · rw [decide_eq_true (show 0 ≤ i ∧ i < (n : Int) ∧ 0 ≤ k ∧ k < (m : Int) from ⟨a1, a2, a3, a4⟩)]
          go_enter Try.func56, Try.ntmps56
          go_wp2
          go_ret
          exact ⟨rfl, HB.out⟩
        · rw [decide_eq_false (show ¬ (0 ≤ i ∧ i < (n : Int) ∧ 0 ≤ k ∧ k < (m : Int)) from fun h => a4 h.2.2.2)]
          go_enter Try.func56, Try.ntmps56
          go_wp2
          go_ret
          exact ⟨rfl, HB.out⟩
      · rw [decide_eq_false (show ¬ (0 ≤ i ∧ i < (n : Int) ∧ 0 ≤ k ∧ k < (m : Int)) from fun h => a3 h.2.2.1)]
        go_enter Try.func56, Try.ntmps56
        go_wp2
        go_ret
        exact ⟨rfl, HB.out⟩
    · rw [decide_eq_false (show ¬ (0 ≤ i ∧ i < (n : Int) ∧ 0 ≤ k ∧ k < (m : Int)) from fun h => a2 h.2.1)]
      go_enter Try.func56, Try.ntmps56
      go_wp2
      go_ret
      exact ⟨rfl, HB.out⟩
  · rw [decide_eq_false (show ¬ (0 ≤ i ∧ i < (n : Int) ∧ 0 ≤ k ∧ k < (m : Int)) from fun h => a1 h.1)]
    go_enter Try.func56, Try.ntmps56
    go_wp2
    go_ret
    exact ⟨rfl, HB.out⟩

set_option maxHeartbeats 400000 in
theorem ports_any (n m : Nat) (ls : List UInt8) (w : World) (hn : n ≤ 5) (hm : m ≤ 5) :
    Calls Try.prog 53 #[.agg (gcells n m ls)] w fun e w' => e = .returned (.int .i64 ((2 * (n + m) : Nat) : Int)) ∧ Below w.heap.size w w' := by
  have h0 := gcells_0 n m ls
  have h1 := gcells_1 n m ls
  generalize gcells n m ls = cs at h0 h1
  have hi : ((2 * (n + m) : Nat) : Int) = 2 * ((n : Int) + (m : Int)) := by omega
  rw [hi]
  clear hi
  go_enter Try.func53, Try.ntmps53
  go_wp2
  go_ret
  exact ⟨rfl, (Below.refl _ w).alloc (Nat.le_refl _) _⟩

/-- A way as a value. -/
def wayV (x : Wy) : Value := .agg #[.int .i64 x.i, .int .i64 x.k, .int .i64 ((x.d : Nat) : Int)]

end Go.Proofs.Ytongjijkdjagdaa

/- The way behind a way, by its contract. -/
namespace Go.Proofs.Ytongjijkdjagdaa
open Go.RowKit

theorem Try.size_way : (Try.prog.info? 75).map (·.size) = some 3 := by kernel_rfl
theorem Try.size_place : (Try.prog.info? 60).map (·.size) = some 2 := by kernel_rfl
/-- The cells of a way. -/
def wayC (x : Wy) : Array Value := #[.int .i64 x.i, .int .i64 x.k, .int .i64 ((x.d : Nat) : Int)]
theorem wayC_one (x : Wy) : (wayC x).all (·.oneCell') = true := by
  rw [Array.all_eq_true_iff_forall_mem]
  intro u hu
  simp [wayC] at hu
  rcases hu with rfl | rfl | rfl <;> rfl
theorem wayV_eq (x : Wy) : wayV x = .agg (wayC x) := rfl
theorem inG_cell {n m : Nat} {ls : List UInt8} {x : Wy} (hl : ls.length = 25) (hn : n ≤ 5) (hm : m ≤ 5) (hx : inG n m x) :
    ∃ p : Nat, p < 25 ∧ x.i * (m : Int) + x.k = (p : Int) ∧ ls[p]? = some (lett m ls x.i x.k) := by
  have h1 := cellN_int hx
  have h2 := cellN_lt hx
  have h3 : n * m ≤ 5 * 5 := Nat.mul_le_mul hn hm
  refine ⟨cellN m x, by omega, h1, ?_⟩
  unfold lett
  rw [h1, Int.toNat_natCast, List.getD_eq_getElem?_getD, List.getElem?_eq_getElem (by omega)]
  rfl

/-- The way behind a cell with a letter. -/
def nxtB (b : UInt8) (x : Wy) : Wy := ⟨stepI x.i (bend b x.d), stepK x.k (bend b x.d), bend b x.d⟩
theorem nxtB_nxt (t : Int → Int → UInt8) (x : Wy) : nxtB (t x.i x.k) x = nxt t x := rfl

set_option maxRecDepth 100000 in
set_option maxHeartbeats 1000000 in
theorem wayOn_any (b : UInt8) (x : Wy) (w : World) (hd : x.d < 4) (h1 : -90 ≤ x.i ∧ x.i ≤ 90) (h2 : -90 ≤ x.k ∧ x.k ≤ 90) :
    Calls Try.prog 59 #[wayV x, .int .u8 b.toNat] w fun e w' => e = .returned (wayV (nxtB b x)) ∧ Below w.heap.size w w' := by
  have hbd := bend_lt b hd
  have HBE := hid (fun w' => behind_any b x.d hd w')
  have HNX := hid (fun w' => next_any x.i x.k (bend b x.d) hbd ⟨by omega, by omega⟩ ⟨by omega, by omega⟩ w')
  unfold nxtB
  rw [wayV_eq, wayV_eq]
  unfold wayC
  simp only
  generalize bend b x.d = d' at HBE HNX hbd ⊢
  generalize hdd : ((x.d : Nat) : Int) = dv at HBE ⊢
  generalize x.i = i at *
  generalize x.k = k at *
  generalize ((b.toNat : Nat) : Int) = bv at *
  clear hbd h1 h2 hd hdd
  go_enter Try.func59, Try.ntmps59
  go_wp2_with fail
  have F0 := heap_new1 w (.cells #[.int .i64 i, .int .i64 k, .int .i64 dv] 75) (.cells #[.int .i64 0, .int .i64 0, .int .i64 0] 75)
  have F1 := heap_new0 (w.alloc (.cells #[.int .i64 i, .int .i64 k, .int .i64 dv] 75)) (.cells #[.int .i64 0, .int .i64 0, .int .i64 0] 75)
  have FB : Below w.heap.size w ((w.alloc (.cells #[.int .i64 i, .int .i64 k, .int .i64 dv] 75)).alloc (.cells #[.int .i64 0, .int .i64 0, .int .i64 0] 75)) := ((Below.refl _ w).alloc (Nat.le_refl _) _).alloc (by simp) _
  simp only [World.size_alloc] at F0 F1
  generalize World.alloc (World.alloc w _) _ = W at F0 F1 FB ⊢
  refine (HBE.out _).mono ?_
  rintro e w2 ⟨rfl, rfl⟩
  have c0 : W.cell? ⟨w.heap.size, 0, none⟩ = some (.int .i64 i) := by rw [cell_of_row _ _ _ _ _ _ F0]; rfl
  have c1 : W.cell? ⟨w.heap.size, 1, none⟩ = some (.int .i64 k) := by rw [cell_of_row _ _ _ _ _ _ F0]; rfl
  go_wp2_with fail
  refine (HNX.out _).mono ?_
  rintro e w3 ⟨rfl, hb3⟩
  have g3 := (hb3.block _ (lt_of_block F1)).trans F1
  have HB3 := hid (FB.trans (hb3.mono FB.size))
  clear hb3 F0 F1 FB c0 c1
  have k0 : w3.cell? ⟨w.heap.size + 1, 0, none⟩ = some (.int .i64 0) := by rw [cell_of_row _ _ _ _ _ _ g3]; rfl
  have k1 : w3.cell? ⟨w.heap.size + 1, 1, none⟩ = some (.int .i64 0) := by rw [cell_of_row _ _ _ _ _ _ g3]; rfl
  have k2 : w3.cell? ⟨w.heap.size + 1, 2, none⟩ = some (.int .i64 0) := by rw [cell_of_row _ _ _ _ _ _ g3]; rfl
  have f0 : w3.frozen? ⟨w.heap.size + 1, 0, none⟩ = false := frozen_of_row _ _ _ _ _ g3
  have f1 : w3.frozen? ⟨w.heap.size + 1, 1, none⟩ = false := frozen_of_row _ _ _ _ _ g3
  have f2 : w3.frozen? ⟨w.heap.size + 1, 2, none⟩ = false := frozen_of_row _ _ _ _ _ g3
  go_wp2_with fail
  have r0 := heap_setCell_same _ _ 0 _ _ (.int .i64 (stepI i d')) g3
  have r1 := heap_setCell_same _ _ 1 _ _ (.int .i64 (stepK k d')) r0
  have r2 := heap_setCell_same _ _ 2 _ _ (.int .i64 ((d' : Nat) : Int)) r1
  refine bodyPost_ret (results_cell_row Try.results59 _ _ (w.heap.size + 1) 75 #[.int .i64 (stepI i d'), .int .i64 (stepK k d'), .int .i64 ((d' : Nat) : Int)] (0, 0) _ (by rfl) r2 Try.underlying75 rfl Try.size_way) rfl ⟨rfl, ?_⟩
  exact ((HB3.out.setCell (p := ⟨w.heap.size + 1, 0, none⟩) (by simp) _).setCell (p := ⟨w.heap.size + 1, 1, none⟩) (by simp) _).setCell (p := ⟨w.heap.size + 1, 2, none⟩) (by simp) _

def onRel (g : Nat) (cs : Array Value) (x y : Wy) (b : UInt8) (i : Nat) (v : Value) (_ : World) : Prop :=
  match i with
  | 0 => v = .agg (wayC x)
  | 1 => v = .agg cs
  | 2 => v = .pointer (some ⟨g, 0, none⟩)
  | 3 => v = .agg #[.int .i64 x.i, .int .i64 x.k]
  | 4 => v = .int .u8 b.toNat
  | 5 => v = .agg (wayC y)
  | _ => True

set_option maxRecDepth 100000 in
set_option maxHeartbeats 2000000 in
theorem onward_any (n m : Nat) (ls : List UInt8) (x : Wy) (w : World) (hl : ls.length = 25) (hn : n ≤ 5) (hm : m ≤ 5) (hx : inG n m x) (hd : x.d < 4) :
    Calls Try.prog 48 #[.agg (gcells n m ls), wayV x] w fun e w' => e = .returned (wayV (nxt (lett m ls) x)) ∧ Below w.heap.size w w' := by
  obtain ⟨p, hp, he, hb⟩ := inG_cell hl hn hm hx
  have hx1 := hx
  obtain ⟨x1, x2, x3, x4⟩ := hx1
  obtain ⟨y, hy⟩ : ∃ y, nxt (lett m ls) x = y := ⟨_, rfl⟩
  have HAT := hid (show ∀ w', Calls Try.prog 52 #[.agg (gcells n m ls), .agg #[.int .i64 x.i, .int .i64 x.k]] w' fun e w'' => ∃ v, e = .returned v ∧ onRel (w.heap.size + 1) (gcells n m ls) x y (lett m ls x.i x.k) 4 v w'' ∧ Below w'.heap.size w' w'' from fun w' => (at_any n m ls x.i x.k p (lett m ls x.i x.k) w' hl hp he ⟨x1, by omega⟩ hm hb).mono fun e w'' ⟨h1, h2⟩ => ⟨_, h1, rfl, h2⟩)
  have HON := hid (show ∀ w', Calls Try.prog 59 #[.agg (wayC x), .int .u8 (lett m ls x.i x.k).toNat] w' fun e w'' => ∃ v, e = .returned v ∧ onRel (w.heap.size + 1) (gcells n m ls) x y (lett m ls x.i x.k) 5 v w'' ∧ Below w'.heap.size w' w'' from fun w' => (wayOn_any (lett m ls x.i x.k) x w' hd ⟨by omega, by omega⟩ ⟨by omega, by omega⟩).mono fun e w'' ⟨h1, h2⟩ => ⟨_, h1, by rw [nxtB_nxt, hy]; rfl, h2⟩)
  have HG := hid (show (Try.prog.info? 37).map (·.size) = some (gcells n m ls).size by rw [gcells_size hl]; exact Try.size_grid)
  rw [hy, wayV_eq, wayV_eq]
  generalize lett m ls x.i x.k = b at HAT HON
  generalize hgc : gcells n m ls = cs at *
  clear hb he hp x1 x2 x3 x4 hd hgc hl hy hx
  go_enter Try.func48, Try.ntmps48
  go_wp2_with fail
  have F0 := heap_new2 w (.cells cs 37) (.cells (wayC x) 75) (.cells #[.int .i64 0, .int .i64 0, .int .i64 0] 75)
  have F1 := heap_new1 (w.alloc (.cells cs 37)) (.cells (wayC x) 75) (.cells #[.int .i64 0, .int .i64 0, .int .i64 0] 75)
  have F2 := heap_new0 ((w.alloc (.cells cs 37)).alloc (.cells (wayC x) 75)) (.cells #[.int .i64 0, .int .i64 0, .int .i64 0] 75)
  have FB : Below w.heap.size w (((w.alloc (.cells cs 37)).alloc (.cells (wayC x) 75)).alloc (.cells #[.int .i64 0, .int .i64 0, .int .i64 0] 75)) := (((Below.refl _ w).alloc (Nat.le_refl _) _).alloc (by simp) _).alloc (by simp; omega) _
  simp only [World.size_alloc] at F1 F2
  have G0 := hid F0
  have G1 := hid F1
  have G2 := hid F2
  have GB := hid FB
  clear F0 F1 F2 FB
  generalize World.alloc (World.alloc (World.alloc w _) _) _ = W0 at *
  refine wp_region_rel_tail (by kernel_rfl) 6 (by kernel_rfl) (fun us => { tmps := #[.agg cs, .agg (wayC x), .pointer (some ⟨w.heap.size, 0, none⟩), .pointer (some ⟨w.heap.size + 1, 0, none⟩), .pointer (some ⟨w.heap.size + 1 + 1, 0, none⟩), us 0, us 1, us 2, us 3, us 4, us 5], defers := [] }) (fun _ => undef) rfl (onRel (w.heap.size + 1) cs x y b) (fun i v W W' h hb => h) (fun i us v hi => ?_) (fun i us W hi hb hd => ?_) (fun us W hb hr => ?_)
  · match i, hi with
    | 0, _ => rfl
    | 1, _ => rfl
    | 2, _ => rfl
    | 3, _ => rfl
    | 4, _ => rfl
    | 5, _ => rfl
  · have L0 := hid ((hb.block _ (lt_of_block G0.out)).trans G0.out)
    have L1 := hid ((hb.block _ (lt_of_block G1.out)).trans G1.out)
    match i, hi with
    | 0, _ => exact wpOp_val rfl rfl (exec_load_row 75 _ rfl (w.heap.size + 1) rfl 75 (wayC x) (0, 0) _ L1.out Try.underlying75 rfl Try.size_way) rfl
    | 1, _ => exact wpOp_val rfl rfl (exec_load_row 37 _ rfl w.heap.size rfl 37 cs (0, 0) _ L0.out Try.underlying37 rfl HG.out) rfl
    | 2, _ => exact wpOp_val rfl rfl (by go_simp) rfl
    | 3, _ =>
      have h0 : us 2 = _ := hd _ rfl { on := 2, ground := .data } (by simp) rfl
      rw [h0]
      have hc : W.cell? ⟨w.heap.size + 1, 0, none⟩ = some (.int .i64 x.i) := by rw [cell_of_row _ _ _ _ _ _ L1.out]; rfl
      have hc1 : W.cell? ⟨w.heap.size + 1, 1, none⟩ = some (.int .i64 x.k) := by rw [cell_of_row _ _ _ _ _ _ L1.out]; rfl
      exact wpOp_val (u := .agg #[.int .i64 x.i, .int .i64 x.k]) rfl rfl (by go_simp) rfl
    | 4, _ =>
      have h0 : us 1 = _ := hd _ rfl { on := 1, ground := .data } (by simp) rfl
      have h1 : us 3 = _ := hd _ rfl { on := 3, ground := .data } (by simp) rfl
      rw [h0, h1]
      exact wpOp_call rfl rfl (by go_simp) (HAT.out W)
    | 5, _ =>
      have h0 : us 0 = _ := hd _ rfl { on := 0, ground := .data } (by simp) rfl
      have h1 : us 4 = _ := hd _ rfl { on := 4, ground := .data } (by simp) rfl
      rw [h0, h1]
      exact wpOp_call rfl rfl (by go_simp) (HON.out W)
  · have h5 : us 5 = .agg (wayC y) := hr 5 (by omega)
    rw [h5]
    have L2 := hid ((hb.block _ (lt_of_block G2.out)).trans G2.out)
    have HB := hid (GB.out.trans (hb.mono GB.out.size))
    clear hr hb
    refine wpList_store_row rfl 75 _ _ rfl (w.heap.size + 1 + 1) (wayC y) rfl rfl 75 #[.int .i64 0, .int .i64 0, .int .i64 0] L2.out Try.size_way rfl (wayC_one y) ?_
    have r2 := hid (setRow_heap W (w.heap.size + 1 + 1) #[.int .i64 0, .int .i64 0, .int .i64 0] (wayC y) 75 (0, 0) L2.out)
    have HB2 := hid (below_setRow' HB.out (show w.heap.size ≤ w.heap.size + 1 + 1 by omega) (wayC y))
    go_wp2_with fail
    refine bodyPost_ret (results_cell_row Try.results48 _ _ (w.heap.size + 1 + 1) 75 _ (0, 0) _ (by rfl) r2.out Try.underlying75 rfl Try.size_way) rfl ?_
    exact ⟨rfl, HB2.out⟩

/-- The way that stands in cells. -/
def readWay (cs : Array Value) : Wy := ⟨intOf (cs.getD 0 undef), intOf (cs.getD 1 undef), (intOf (cs.getD 2 undef)).toNat⟩
theorem readWay_wayC (x : Wy) : readWay (wayC x) = x := Wy.eq rfl rfl (by simp [readWay, wayC, intOf])
/-- The place of a way among the first ones. -/
def idxW (W : Nat → Wy) (L : Nat) (x : Wy) : Nat := (List.range (L + 1)).findIdx fun j => sameW (W j) x
theorem idxW_eq {W : Nat → Wy} {L j : Nat} (hj : j ≤ L) (hne : ∀ a b, a < b → b ≤ L → W a ≠ W b) : idxW W L (W j) = j := by
  unfold idxW
  rw [List.findIdx_eq (by simpa using Nat.lt_succ_of_le hj)]
  refine ⟨by simpa using sameW_iff.2 rfl, fun a ha => ?_⟩
  rw [List.getElem_range, Bool.eq_false_iff]
  exact fun e => hne a j ha hj (sameW_iff.1 e)

end Go.Proofs.Ytongjijkdjagdaa

/- The chart of a grid: its struct, and number, step, opposite, by their contracts. -/
namespace Go.Proofs.Ytongjijkdjagdaa
open Go.RowKit

section
variable {P : Program} {ops : Array Oper} {C : World → Prop} {Q : Act → Prop} {a : Act} {o : Oper} {rest : List Oper}
/-- A struct out of the middle of a block, in every world of the class. -/
theorem wpQuiet_load_mid (hw : Region.wanted o (yielded ops a.tmps) = true) (ty : TypeId) (x : Operand) (ho : o.op = .load ty x)
    (b off : Nat) (hx : a.eval x = .pointer (some ⟨b, off, none⟩)) (cs : Array Value) (d : TypeDesc) (hc : ∀ w, C w → w.rangeAt b off cs.toList)
    (hu : P.underlying ty = some d) (hd : d.isRow = true) (hi : (P.info? ty).map (·.size) = some cs.size)
    (h : wpQuiet P ops C Q rest (a.put o.dst (.agg cs))) : wpQuiet P ops C Q (o :: rest) a := by
  refine wpQuiet_valueW hw (.agg cs) (fun w hw' => ?_) h
  unfold execOp
  have := run_loadVar_mid (P := P) w b off ty cs.toList d (hc w hw') hu hd (by simpa using hi)
  simp only [ho, hx, Instr.loadAt, Instr.sureAddr, Sem.run_bind, Sem.run_pure, Result.andThen_ok, this]
end
theorem rangeAt_row {w : World} {b off : Nat} {all : Array Value} {t : TypeId} {fr : Nat × Nat} (hg : w.heap[b]? = some (.cells all t fr)) {cs : Array Value} (h : ∀ j v, cs[j]? = some v → all[off + j]? = some v) : w.rangeAt b off cs.toList := fun j v hv => by
  rw [cell_of_row _ _ _ _ _ _ hg]; exact h j v (by simpa using hv)

/-- The cells of a chart: the grid's, and the steps. -/
def chartC (cs : Array Value) (g N : Nat) : Array Value := cs.push (.slice (some ⟨g, 0, none⟩) N N)
theorem chartC_pre (cs : Array Value) (g N j : Nat) (v : Value) (h : cs[j]? = some v) : (chartC cs g N)[0 + j]? = some v := by
  unfold chartC
  rw [Nat.zero_add, Array.getElem?_push, if_neg (by have := (Array.getElem?_eq_some_iff.1 h).1; omega)]
  exact h
theorem chartC_steps {cs : Array Value} (h : cs.size = 27) (g N : Nat) : (chartC cs g N)[27]? = some (.slice (some ⟨g, 0, none⟩) N N) := by
  unfold chartC
  rw [Array.getElem?_push, if_pos h.symm]
theorem chartC_size {cs : Array Value} (h : cs.size = 27) (g N : Nat) : (chartC cs g N).size = 28 := by simp [chartC, h]
theorem chartC_one {cs : Array Value} (h : cs.all (·.oneCell') = true) (g N : Nat) : (chartC cs g N).all (·.oneCell') = true := by
  rw [Array.all_eq_true_iff_forall_mem] at h ⊢
  intro x hx
  unfold chartC at hx
  rcases Array.mem_push.1 hx with h1 | h1
  · exact h x h1
  · subst h1; rfl

end Go.Proofs.Ytongjijkdjagdaa

/- The steps of a chart in memory; chart.link, by its contract. -/
namespace Go.Proofs.Ytongjijkdjagdaa
open Go.RowKit
attribute [local go_sem] Oper.semAt_some

section
variable {F : Fence} {m : Nat} {P : Program} {ops : Array Oper} {Q : Exit → Act → World → Prop} {a : Act} {w : World} {rest : List Oper} {o : Oper}
/-- A struct out of the middle of a block, in a fence. -/
theorem wpListIn_load_mid (hO : Open F P) (hgd : o.guard = none) (ty : TypeId) (x : Operand) (ho : o.op = .load ty x)
    (b off : Nat) (hx : a.eval x = .pointer (some ⟨b, off, none⟩)) (cs : Array Value) (d : TypeDesc) (hc : w.rangeAt b off cs.toList)
    (hu : P.underlying ty = some d) (hd : d.isRow = true) (hi : (P.info? ty).map (·.size) = some cs.size)
    (h : wpListIn F m P ops Q rest (a.put o.dst (.agg cs)) w) : wpListIn F m P ops Q (o :: rest) a w := by
  unfold wpListIn
  have hw : Region.wanted o (yielded ops a.tmps) = true := by simp [Region.wanted, hgd]
  rw [if_pos hw]
  refine ⟨fun f _ => hO.fn f, ?_⟩
  rw [Oper.semAt_eq _ _ _ (fun c e => by rw [ho] at e; cases e)]
  unfold execOp
  have := run_loadVar_mid (P := P) w b off ty cs.toList d hc hu hd (by simpa using hi)
  simp only [ho, hx, Instr.loadAt, Instr.sureAddr, Sem.run_bind, Sem.run_pure, Result.andThen_ok, this]
  rw [Oper.uponIn_value]
  exact h
/-- A struct into the middle of a block, in a fence. -/
theorem wpListIn_store_mid (hO : Open F P) (hgd : o.guard = none) (ty : TypeId) (x y : Operand) (ho : o.op = .store ty x y)
    (b off : Nat) (cells : Array Value) (hx : a.eval x = .pointer (some ⟨b, off, none⟩)) (hy : a.eval y = .agg cells)
    (ht : w.there b off cells.size) (hi : (P.info? ty).map (·.size) = some cells.size) (h1 : cells.all (·.oneCell') = true)
    (h : wpListIn F m P ops Q rest (a.put o.dst undef) (w.setCells b off cells.toList)) : wpListIn F m P ops Q (o :: rest) a w := by
  unfold wpListIn
  have hw : Region.wanted o (yielded ops a.tmps) = true := by simp [Region.wanted, hgd]
  rw [if_pos hw]
  refine ⟨fun f _ => hO.fn f, ?_⟩
  rw [Oper.semAt_eq _ _ _ (fun c e => by rw [ho] at e; cases e)]
  unfold execOp
  simp only [ho, hx, hy, Instr.storeAt, Instr.sureAddr, Sem.run_bind, Sem.run_pure, Result.andThen_ok, run_storeVar_mid w b off ty cells ht hi h1]
  rw [Oper.uponIn_skip]
  exact h
end

/-- The pointer to the step behind a way. -/
def nextP (g n m : Nat) (t : Int → Int → UInt8) (x : Wy) : Value := if inG n m (nxt t x) then .pointer (some ⟨g, 5 * wcode m (nxt t x), none⟩) else .pointer none
/-- The cells of the step of a way. -/
def stepC (g n m : Nat) (t : Int → Int → UInt8) (x : Wy) : List Value := [.int .i64 x.i, .int .i64 x.k, .int .i64 ((x.d : Nat) : Int), nextP g n m t x, .pointer (some ⟨g, 5 * wcode m (rev t x), none⟩)]
def put5 (cs : Array Value) (o : Nat) (a0 a1 a2 b4 : Value) : Array Value := (((cs.setIfInBounds o a0).setIfInBounds (o + 1) a1).setIfInBounds (o + 1 + 1) a2).setIfInBounds (o + 4) b4
theorem put5_size (cs : Array Value) (o : Nat) (a0 a1 a2 b4 : Value) : (put5 cs o a0 a1 a2 b4).size = cs.size := by simp [put5]
theorem put5_at {cs : Array Value} {o : Nat} (a0 a1 a2 b4 : Value) (h : o + 4 < cs.size) (i : Nat) :
    (put5 cs o a0 a1 a2 b4)[i]? = if i = o + 4 then some b4 else if i = o + 1 + 1 then some a2 else if i = o + 1 then some a1 else if i = o then some a0 else cs[i]? := by
  unfold put5
  by_cases e4 : i = o + 4
  · subst e4; rw [Array.getElem?_setIfInBounds_self_of_lt (by simp; omega), if_pos rfl]
  rw [Array.getElem?_setIfInBounds_ne (fun e => e4 e.symm), if_neg e4]
  by_cases e2 : i = o + 1 + 1
  · subst e2; rw [Array.getElem?_setIfInBounds_self_of_lt (by simp; omega), if_pos rfl]
  rw [Array.getElem?_setIfInBounds_ne (fun e => e2 e.symm), if_neg e2]
  by_cases e1 : i = o + 1
  · subst e1; rw [Array.getElem?_setIfInBounds_self_of_lt (by simp; omega), if_pos rfl]
  rw [Array.getElem?_setIfInBounds_ne (fun e => e1 e.symm), if_neg e1]
  by_cases e0 : i = o
  · subst e0; rw [Array.getElem?_setIfInBounds_self_of_lt (by omega), if_pos rfl]
  rw [Array.getElem?_setIfInBounds_ne (fun e => e0 e.symm), if_neg e0]

end Go.Proofs.Ytongjijkdjagdaa

/- newChart, by its contract. -/
namespace Go.Proofs.Ytongjijkdjagdaa
open Go.RowKit
attribute [local go_sem] Oper.semAt_some

theorem lits27c {cs : Array Value} (h : cs.size = 27) : ∃ c0 c1 c2 c3 c4 c5 c6 c7 c8 c9 c10 c11 c12 c13 c14 c15 c16 c17 c18 c19 c20 c21 c22 c23 c24 c25 c26 : Value, cs = #[c0, c1, c2, c3, c4, c5, c6, c7, c8, c9, c10, c11, c12, c13, c14, c15, c16, c17, c18, c19, c20, c21, c22, c23, c24, c25, c26] := by
  refine ⟨cs[0], cs[1], cs[2], cs[3], cs[4], cs[5], cs[6], cs[7], cs[8], cs[9], cs[10], cs[11], cs[12], cs[13], cs[14], cs[15], cs[16], cs[17], cs[18], cs[19], cs[20], cs[21], cs[22], cs[23], cs[24], cs[25], cs[26], ?_⟩
  refine Array.ext (by simp [h]) (fun i h1 h2 => ?_)
  rw [h] at h1
  have : i = 0 ∨ i = 1 ∨ i = 2 ∨ i = 3 ∨ i = 4 ∨ i = 5 ∨ i = 6 ∨ i = 7 ∨ i = 8 ∨ i = 9 ∨ i = 10 ∨ i = 11 ∨ i = 12 ∨ i = 13 ∨ i = 14 ∨ i = 15 ∨ i = 16 ∨ i = 17 ∨ i = 18 ∨ i = 19 ∨ i = 20 ∨ i = 21 ∨ i = 22 ∨ i = 23 ∨ i = 24 ∨ i = 25 ∨ i = 26 := by omega
  rcases this with rfl | rfl | rfl | rfl | rfl | rfl | rfl | rfl | rfl | rfl | rfl | rfl | rfl | rfl | rfl | rfl | rfl | rfl | rfl | rfl | rfl | rfl | rfl | rfl | rfl | rfl | rfl <;> rfl
/-- The cells of the zero chart, of the zero step. -/
abbrev zeroK : Array Value := #[.int .i64 0, .int .i64 0, .int .u8 0, .int .u8 0, .int .u8 0, .int .u8 0, .int .u8 0, .int .u8 0, .int .u8 0, .int .u8 0, .int .u8 0, .int .u8 0, .int .u8 0, .int .u8 0, .int .u8 0, .int .u8 0, .int .u8 0, .int .u8 0, .int .u8 0, .int .u8 0, .int .u8 0, .int .u8 0, .int .u8 0, .int .u8 0, .int .u8 0, .int .u8 0, .int .u8 0, .slice none 0 0]
abbrev zeroS : Array Value := #[.int .i64 0, .int .i64 0, .int .i64 0, .pointer none, .pointer none]
theorem but_grownN {g : Nat} {w w' : World} (h : But g w w') : w.grownBy w' (some g) := ⟨h.os, h.tape, h.output, h.size, fun k hk hne => h.block k hk (fun e => hne (by rw [e]))⟩
end Go.Proofs.Ytongjijkdjagdaa
