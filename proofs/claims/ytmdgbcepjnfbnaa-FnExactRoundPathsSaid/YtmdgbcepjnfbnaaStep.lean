/- The program's single steps of a beam, each by its contract: behind, next, holds, ports, hasPort, entry, exit, onward. -/
import Derived.Test.YtmdgbcepjnfbnaaCells1
import Derived.Test.YtmdgbcepjnfbnaaIter
import Derived.Test.YtmdgbcepjnfbnaaBeamN
namespace Go.Proofs.Ytmdgbcepjnfbnaa
open Go.RowKit

set_option maxRecDepth 100000 in
set_option maxHeartbeats 1000000 in
theorem behind_any (b : UInt8) (d : Nat) (hd : d < 4) (w : World) :
    Calls Try.prog 153 #[.int .i64 d, .int .u8 b.toNat] w fun e w' => e = .returned (.int .i64 ((bend b d : Nat) : Int)) ∧ w = w' := by
  by_cases h1 : b = 114
  · subst h1
    rcases four hd with rfl | rfl | rfl | rfl
    · have hx : ∀ W, (Instr.index 175 (.agg #[.int .i64 1, .int .i64 0, .int .i64 3, .int .i64 2]) (.int .i64 0)).run Try.prog W = .ok (.int .i64 1) W := fun W => by kernel_rfl
      change Calls Try.prog 153 #[.int .i64 0, .int .u8 114] w fun e w' => e = .returned (.int .i64 1) ∧ w = w'
      go_enter Try.func153, Try.ntmps153
      go_wp2
      go_ret
      exact ⟨rfl, rfl⟩
    · have hx : ∀ W, (Instr.index 175 (.agg #[.int .i64 1, .int .i64 0, .int .i64 3, .int .i64 2]) (.int .i64 1)).run Try.prog W = .ok (.int .i64 0) W := fun W => by kernel_rfl
      change Calls Try.prog 153 #[.int .i64 1, .int .u8 114] w fun e w' => e = .returned (.int .i64 0) ∧ w = w'
      go_enter Try.func153, Try.ntmps153
      go_wp2
      go_ret
      exact ⟨rfl, rfl⟩
    · have hx : ∀ W, (Instr.index 175 (.agg #[.int .i64 1, .int .i64 0, .int .i64 3, .int .i64 2]) (.int .i64 2)).run Try.prog W = .ok (.int .i64 3) W := fun W => by kernel_rfl
      change Calls Try.prog 153 #[.int .i64 2, .int .u8 114] w fun e w' => e = .returned (.int .i64 3) ∧ w = w'
      go_enter Try.func153, Try.ntmps153
      go_wp2
      go_ret
      exact ⟨rfl, rfl⟩
    · have hx : ∀ W, (Instr.index 175 (.agg #[.int .i64 1, .int .i64 0, .int .i64 3, .int .i64 2]) (.int .i64 3)).run Try.prog W = .ok (.int .i64 2) W := fun W => by kernel_rfl
      change Calls Try.prog 153 #[.int .i64 3, .int .u8 114] w fun e w' => e = .returned (.int .i64 2) ∧ w = w'
      go_enter Try.func153, Try.ntmps153
      go_wp2
      go_ret
      exact ⟨rfl, rfl⟩
  by_cases h2 : b = 102
  · subst h2
    rcases four hd with rfl | rfl | rfl | rfl
    · have hx : ∀ W, (Instr.index 175 (.agg #[.int .i64 3, .int .i64 2, .int .i64 1, .int .i64 0]) (.int .i64 0)).run Try.prog W = .ok (.int .i64 3) W := fun W => by kernel_rfl
      change Calls Try.prog 153 #[.int .i64 0, .int .u8 102] w fun e w' => e = .returned (.int .i64 3) ∧ w = w'
      go_enter Try.func153, Try.ntmps153
      go_wp2
      go_ret
      exact ⟨rfl, rfl⟩
    · have hx : ∀ W, (Instr.index 175 (.agg #[.int .i64 3, .int .i64 2, .int .i64 1, .int .i64 0]) (.int .i64 1)).run Try.prog W = .ok (.int .i64 2) W := fun W => by kernel_rfl
      change Calls Try.prog 153 #[.int .i64 1, .int .u8 102] w fun e w' => e = .returned (.int .i64 2) ∧ w = w'
      go_enter Try.func153, Try.ntmps153
      go_wp2
      go_ret
      exact ⟨rfl, rfl⟩
    · have hx : ∀ W, (Instr.index 175 (.agg #[.int .i64 3, .int .i64 2, .int .i64 1, .int .i64 0]) (.int .i64 2)).run Try.prog W = .ok (.int .i64 1) W := fun W => by kernel_rfl
      change Calls Try.prog 153 #[.int .i64 2, .int .u8 102] w fun e w' => e = .returned (.int .i64 1) ∧ w = w'
      go_enter Try.func153, Try.ntmps153
      go_wp2
      go_ret
      exact ⟨rfl, rfl⟩
    · have hx : ∀ W, (Instr.index 175 (.agg #[.int .i64 3, .int .i64 2, .int .i64 1, .int .i64 0]) (.int .i64 3)).run Try.prog W = .ok (.int .i64 0) W := fun W => by kernel_rfl
      change Calls Try.prog 153 #[.int .i64 3, .int .u8 102] w fun e w' => e = .returned (.int .i64 0) ∧ w = w'
      go_enter Try.func153, Try.ntmps153
      go_wp2
      go_ret
      exact ⟨rfl, rfl⟩
  rw [bend_e h1 h2]
  have e1 : ((b.toNat : Int) == 114) = false := by
    rw [beq_eq_false_iff_ne]; intro e; exact h1 (UInt8.toNat_inj.1 (by show b.toNat = 114; omega))
  have e2 : ((b.toNat : Int) == 102) = false := by
    rw [beq_eq_false_iff_ne]; intro e; exact h2 (UInt8.toNat_inj.1 (by show b.toNat = 102; omega))
  clear h1 h2
  generalize (b.toNat : Int) = x at e1 e2
  go_enter Try.func153, Try.ntmps153
  go_wp2
  go_ret
  exact ⟨rfl, rfl⟩

set_option maxRecDepth 100000 in
set_option maxHeartbeats 1000000 in
theorem next_any (i k : Int) (d : Nat) (hd : d < 4) (hi : -100 ≤ i ∧ i ≤ 100) (hk : -100 ≤ k ∧ k ≤ 100) (w : World) :
    Calls Try.prog 154 #[.agg #[.int .i64 i, .int .i64 k], .int .i64 d] w fun e w' => e = .returned (.agg #[.int .i64 (stepI i d), .int .i64 (stepK k d)]) ∧ Below w.heap.size w w' := by
  obtain ⟨i1, i2⟩ := hi
  obtain ⟨k1, k2⟩ := hk
  rcases four hd with rfl | rfl | rfl | rfl
  · change Calls Try.prog 154 #[.agg #[.int .i64 i, .int .i64 k], .int .i64 0] w fun e w' => e = .returned (.agg #[.int .i64 (i - 1), .int .i64 (k)]) ∧ Below w.heap.size w w'
    go_enter Try.func154, Try.ntmps154
    go_wp2
    exact bodyPost_ret (v := .agg #[.int .i64 (i - 1), .int .i64 (k)]) (by simp [results, Try.results154, go_sem]) rfl ⟨rfl, ((Below.refl _ w).alloc (Nat.le_refl _) _).alloc (by simp) _⟩
  · change Calls Try.prog 154 #[.agg #[.int .i64 i, .int .i64 k], .int .i64 1] w fun e w' => e = .returned (.agg #[.int .i64 (i), .int .i64 (k + 1)]) ∧ Below w.heap.size w w'
    go_enter Try.func154, Try.ntmps154
    go_wp2
    exact bodyPost_ret (v := .agg #[.int .i64 (i), .int .i64 (k + 1)]) (by simp [results, Try.results154, go_sem]) rfl ⟨rfl, ((Below.refl _ w).alloc (Nat.le_refl _) _).alloc (by simp) _⟩
  · change Calls Try.prog 154 #[.agg #[.int .i64 i, .int .i64 k], .int .i64 2] w fun e w' => e = .returned (.agg #[.int .i64 (i + 1), .int .i64 (k)]) ∧ Below w.heap.size w w'
    go_enter Try.func154, Try.ntmps154
    go_wp2
    exact bodyPost_ret (v := .agg #[.int .i64 (i + 1), .int .i64 (k)]) (by simp [results, Try.results154, go_sem]) rfl ⟨rfl, ((Below.refl _ w).alloc (Nat.le_refl _) _).alloc (by simp) _⟩
  · change Calls Try.prog 154 #[.agg #[.int .i64 i, .int .i64 k], .int .i64 3] w fun e w' => e = .returned (.agg #[.int .i64 (i), .int .i64 (k - 1)]) ∧ Below w.heap.size w w'
    go_enter Try.func154, Try.ntmps154
    go_wp2
    exact bodyPost_ret (v := .agg #[.int .i64 (i), .int .i64 (k - 1)]) (by simp [results, Try.results154, go_sem]) rfl ⟨rfl, ((Below.refl _ w).alloc (Nat.le_refl _) _).alloc (by simp) _⟩

set_option maxRecDepth 100000 in
set_option maxHeartbeats 1000000 in
theorem holds_any (n m : Nat) (ls : List UInt8) (x : Wy) (w : World) :
    Calls Try.prog 136 #[.agg (gcells n m ls), .agg #[.int .i64 x.i, .int .i64 x.k]] w fun e w' => e = .returned (.bool (decide (inG n m x))) ∧ Below w.heap.size w w' := by
  have h0 := gcells_0 n m ls
  have h1 := gcells_1 n m ls
  have hB : Below w.heap.size w ((w.alloc (.cells (gcells n m ls) 57)).alloc (.cells #[.int .i64 x.i, .int .i64 x.k] 75)) := ((Below.refl _ w).alloc (Nat.le_refl _) _).alloc (by simp) _
  have HB := hid hB
  clear hB
  generalize gcells n m ls = cs at h0 h1 HB
  unfold inG
  obtain ⟨i, k, d⟩ := x
  simp only at *
  by_cases a1 : 0 ≤ i
  · by_cases a2 : i < n
    · by_cases a3 : 0 ≤ k
      · by_cases a4 : k < m
        · rw [decide_eq_true (show 0 ≤ i ∧ i < (n : Int) ∧ 0 ≤ k ∧ k < (m : Int) from ⟨a1, a2, a3, a4⟩)]
          go_enter Try.func136, Try.ntmps136
          go_wp2
          go_ret
          exact ⟨rfl, HB.out⟩
        · rw [decide_eq_false (show ¬ (0 ≤ i ∧ i < (n : Int) ∧ 0 ≤ k ∧ k < (m : Int)) from fun h => a4 h.2.2.2)]
          go_enter Try.func136, Try.ntmps136
          go_wp2
          go_ret
          exact ⟨rfl, HB.out⟩
      · rw [decide_eq_false (show ¬ (0 ≤ i ∧ i < (n : Int) ∧ 0 ≤ k ∧ k < (m : Int)) from fun h => a3 h.2.2.1)]
        go_enter Try.func136, Try.ntmps136
        go_wp2
        go_ret
        exact ⟨rfl, HB.out⟩
    · rw [decide_eq_false (show ¬ (0 ≤ i ∧ i < (n : Int) ∧ 0 ≤ k ∧ k < (m : Int)) from fun h => a2 h.2.1)]
      go_enter Try.func136, Try.ntmps136
      go_wp2
      go_ret
      exact ⟨rfl, HB.out⟩
  · rw [decide_eq_false (show ¬ (0 ≤ i ∧ i < (n : Int) ∧ 0 ≤ k ∧ k < (m : Int)) from fun h => a1 h.1)]
    go_enter Try.func136, Try.ntmps136
    go_wp2
    go_ret
    exact ⟨rfl, HB.out⟩

set_option maxHeartbeats 400000 in
theorem ports_any (n m : Nat) (ls : List UInt8) (w : World) (hn : n ≤ 5) (hm : m ≤ 5) :
    Calls Try.prog 123 #[.agg (gcells n m ls)] w fun e w' => e = .returned (.int .i64 ((2 * (n + m) : Nat) : Int)) ∧ Below w.heap.size w w' := by
  have h0 := gcells_0 n m ls
  have h1 := gcells_1 n m ls
  generalize gcells n m ls = cs at h0 h1
  have hi : ((2 * (n + m) : Nat) : Int) = 2 * ((n : Int) + (m : Int)) := by omega
  rw [hi]
  clear hi
  go_enter Try.func123, Try.ntmps123
  go_wp2
  go_ret
  exact ⟨rfl, (Below.refl _ w).alloc (Nat.le_refl _) _⟩

/-- A way as a value. -/
def wayV (x : Wy) : Value := .agg #[.int .i64 x.i, .int .i64 x.k, .int .i64 ((x.d : Nat) : Int)]

end Go.Proofs.Ytmdgbcepjnfbnaa
