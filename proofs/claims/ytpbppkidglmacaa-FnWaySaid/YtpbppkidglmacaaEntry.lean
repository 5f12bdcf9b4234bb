/- grid.entry and grid.exit, by their contracts. -/
import Derived.Test.YtpbppkidglmacaaBunG
namespace Go.Proofs.Ytpbppkidglmacaa
open Go.RowKit

set_option maxRecDepth 100000 in
set_option maxHeartbeats 1000000 in
theorem entry_any (n m p : Nat) (ls : List UInt8) (w : World) (hn : n ≤ 5) (hm : m ≤ 5) (hp : p < 2 * (n + m)) :
    Calls Try.prog 80 #[.agg (gcells n m ls), .int .i64 p] w fun e w' => e = .returned (wayV (entr n m p)) ∧ Below w.heap.size w w' := by
  have h0 := gcells_0 n m ls
  have h1 := gcells_1 n m ls
  generalize gcells n m ls = cs at h0 h1
  unfold entr
  by_cases c1 : p < m
  · rw [if_pos c1]
    show Calls _ _ _ _ fun e w' => e = .returned (.agg #[.int .i64 0, .int .i64 (p : Int), .int .i64 2]) ∧ _
    have c1' : (p : Int) < (m : Int) := by omega
    clear c1
    go_enter Try.func80, Try.ntmps80
    go_wp2
    exact bodyPost_ret (v := .agg #[.int .i64 0, .int .i64 (p : Int), .int .i64 2]) (by simp [results, Try.results80, go_sem]) rfl ⟨rfl, ((Below.refl _ w).alloc (Nat.le_refl _) _).alloc (by simp) _⟩
  rw [if_neg c1]
  have c1' : ¬ (p : Int) < (m : Int) := by omega
  by_cases c2 : p < m + n
  · rw [if_pos c2]
    show Calls _ _ _ _ fun e w' => e = .returned (.agg #[.int .i64 ((p : Int) - m), .int .i64 ((m : Int) - 1), .int .i64 3]) ∧ _
    have c2' : (p : Int) < (m : Int) + (n : Int) := by omega
    clear c1 c2
    go_enter Try.func80, Try.ntmps80
    go_wp2
    exact bodyPost_ret (v := .agg #[.int .i64 ((p : Int) - m), .int .i64 ((m : Int) - 1), .int .i64 3]) (by simp [results, Try.results80, go_sem]) rfl ⟨rfl, ((Below.refl _ w).alloc (Nat.le_refl _) _).alloc (by simp) _⟩
  rw [if_neg c2]
  have c2' : ¬ (p : Int) < (m : Int) + (n : Int) := by omega
  by_cases c3 : p < 2 * m + n
  · rw [if_pos c3]
    have e3 : (2 * (m : Int) + n - 1 - p) = (m : Int) + (n : Int) + (m : Int) - 1 - (p : Int) := by omega
    rw [e3]
    show Calls _ _ _ _ fun e w' => e = .returned (.agg #[.int .i64 ((n : Int) - 1), .int .i64 ((m : Int) + (n : Int) + (m : Int) - 1 - (p : Int)), .int .i64 0]) ∧ _
    have c3' : (p : Int) < (m : Int) + (n : Int) + (m : Int) := by omega
    clear c1 c2 c3 e3
    go_enter Try.func80, Try.ntmps80
    go_wp2
    exact bodyPost_ret (v := .agg #[.int .i64 ((n : Int) - 1), .int .i64 ((m : Int) + (n : Int) + (m : Int) - 1 - (p : Int)), .int .i64 0]) (by simp [results, Try.results80, go_sem]) rfl ⟨rfl, ((Below.refl _ w).alloc (Nat.le_refl _) _).alloc (by simp) _⟩
  rw [if_neg c3]
  have c3' : ¬ (p : Int) < (m : Int) + (n : Int) + (m : Int) := by omega
  have e4 : (2 * ((n : Int) + m) - 1 - p) = 2 * ((m : Int) + (n : Int)) - 1 - (p : Int) := by omega
  rw [e4]
  show Calls _ _ _ _ fun e w' => e = .returned (.agg #[.int .i64 (2 * ((m : Int) + (n : Int)) - 1 - (p : Int)), .int .i64 0, .int .i64 1]) ∧ _
  clear c1 c2 c3 e4
  go_enter Try.func80, Try.ntmps80
  go_wp2
  exact bodyPost_ret (v := .agg #[.int .i64 (2 * ((m : Int) + (n : Int)) - 1 - (p : Int)), .int .i64 0, .int .i64 1]) (by simp [results, Try.results80, go_sem]) rfl ⟨rfl, ((Below.refl _ w).alloc (Nat.le_refl _) _).alloc (by simp) _⟩

set_option maxRecDepth 100000 in
set_option maxHeartbeats 1000000 in
theorem exit_any (n m : Nat) (ls : List UInt8) (x : Wy) (w : World) (hn : n ≤ 5) (hm : m ≤ 5) (hd : x.d < 4) (hi : -100 ≤ x.i ∧ x.i ≤ 100) (hk : -100 ≤ x.k ∧ x.k ≤ 100) :
    Calls Try.prog 81 #[.agg (gcells n m ls), wayV x] w fun e w' => e = .returned (.int .i64 (leav n m x)) ∧ Below w.heap.size w w' := by
  have h0 := gcells_0 n m ls
  have h1 := gcells_1 n m ls
  generalize gcells n m ls = cs at h0 h1
  obtain ⟨i, k, d⟩ := x
  obtain ⟨i1, i2⟩ := hi
  obtain ⟨k1, k2⟩ := hk
  simp only at hd i1 i2 k1 k2
  rcases four hd with rfl | rfl | rfl | rfl
  · have hv : leav n m ⟨i, k, 0⟩ = k := by simp [leav] <;> omega
    rw [hv]
    clear hv
    show Calls Try.prog _ #[.agg cs, .agg #[.int .i64 i, .int .i64 k, .int .i64 0]] w _
    go_enter Try.func81, Try.ntmps81
    go_wp2
    go_ret
    exact ⟨rfl, ((Below.refl _ w).alloc (Nat.le_refl _) _).alloc (by simp) _⟩
  · have hv : leav n m ⟨i, k, 1⟩ = (m : Int) + i := by simp [leav] <;> omega
    rw [hv]
    clear hv
    show Calls Try.prog _ #[.agg cs, .agg #[.int .i64 i, .int .i64 k, .int .i64 1]] w _
    go_enter Try.func81, Try.ntmps81
    go_wp2
    go_ret
    exact ⟨rfl, ((Below.refl _ w).alloc (Nat.le_refl _) _).alloc (by simp) _⟩
  · have hv : leav n m ⟨i, k, 2⟩ = (m : Int) + (n : Int) + (m : Int) - 1 - k := by simp [leav] <;> omega
    rw [hv]
    clear hv
    show Calls Try.prog _ #[.agg cs, .agg #[.int .i64 i, .int .i64 k, .int .i64 2]] w _
    go_enter Try.func81, Try.ntmps81
    go_wp2
    go_ret
    exact ⟨rfl, ((Below.refl _ w).alloc (Nat.le_refl _) _).alloc (by simp) _⟩
  · have hv : leav n m ⟨i, k, 3⟩ = 2 * ((m : Int) + (n : Int)) - 1 - i := by simp [leav] <;> omega
    rw [hv]
    clear hv
    show Calls Try.prog _ #[.agg cs, .agg #[.int .i64 i, .int .i64 k, .int .i64 3]] w _
    go_enter Try.func81, Try.ntmps81
    go_wp2
    go_ret
    exact ⟨rfl, ((Below.refl _ w).alloc (Nat.le_refl _) _).alloc (by simp) _⟩

end Go.Proofs.Ytpbppkidglmacaa
