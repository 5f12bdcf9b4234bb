/- The drawings' reader: l6Open, by its contract. -/
import Derived.Test.YtkkifpjeafchnaaPick
namespace Go.Proofs.Ytkkifpjeafchnaa
open Go.RowKit

set_option maxRecDepth 100000 in
set_option maxHeartbeats 1000000 in
theorem l6Open_any (A : Option Addr) (len cap : Nat) (w : World) (hl : len ≤ 9223372036854775807) (hc : len ≤ cap) (hc2 : cap ≤ 9223372036854775807) :
    Calls Try.prog 70 #[.slice A len cap] w fun e w' => e = .returned (.pointer (some ⟨w.heap.size, 0, none⟩)) ∧ ∃ len', len' ≤ len ∧ len' ≤ 2000 ∧ (len' = 0 ↔ len = 0) ∧ w' = w.alloc (.cells #[.slice A len' cap, .int .i64 0] 115) := by
  go_enter Try.func70, Try.ntmps70
  by_cases h : 2000 < len
  · have hi : (2000 : Int) < (len : Int) := by omega
    have hci : (2000 : Int) ≤ (cap : Int) := by omega
    go_wp2
    go_ret
    exact ⟨rfl, 2000, by omega, Nat.le_refl _, by omega, rfl⟩
  · have hi : ¬ (2000 : Int) < (len : Int) := by omega
    go_wp2
    go_ret
    exact ⟨rfl, len, Nat.le_refl _, by omega, Iff.rfl, rfl⟩

set_option maxRecDepth 100000 in
set_option maxHeartbeats 1000000 in
/-- pick on an empty code: nought. -/
theorem pick_empty (g cap p n : Nat) (A : Option Addr) (w : World) (hg : w.heap[g]? = some (.cells #[.slice A 0 cap, .int .i64 p] 115 (0, 0))) (hp : p ≤ 100000) (hn : 1 ≤ n) :
    Calls Try.prog 71 #[.pointer (some ⟨g, 0, none⟩), .int .i64 n] w fun e w' => e = .returned (.int .i64 0) ∧ w' = w.setCell ⟨g, 1, none⟩ (.int .i64 ((p : Int) + 1)) := by
  have c0 : w.cell? ⟨g, 0, none⟩ = some (.slice A 0 cap) := by rw [cell_of_row _ _ _ _ _ _ hg]; rfl
  have c1 : w.cell? ⟨g, 1, none⟩ = some (.int .i64 p) := by rw [cell_of_row _ _ _ _ _ _ hg]; rfl
  have f1 : w.frozen? ⟨g, 1, none⟩ = false := frozen_of_row _ _ _ _ _ hg
  have hnl : decide ((n : Int) < 1) = false := by simp; omega
  clear hg
  go_enter Try.func71, Try.ntmps71
  go_wp2
  go_ret
  exact ⟨rfl, rfl⟩

end Go.Proofs.Ytkkifpjeafchnaa
