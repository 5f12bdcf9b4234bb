/- The grid's small methods: size, place, and cells, which hands back the iterator. -/
import Derived.Test.YtmdgbcepjnfbnaaGrid1
import Derived.Test.YtmdgbcepjnfbnaaQTail
import Derived.RegionTactic
namespace Go.Proofs.Ytmdgbcepjnfbnaa
open Go.RowKit

set_option maxHeartbeats 400000 in
theorem size_any (n m : Nat) (ls : List UInt8) (w : World) (hn : n ≤ 5) (hm : m ≤ 5) :
    Calls Try.prog 114 #[.agg (gcells n m ls)] w fun e w' => e = .returned (.int .i64 ((n * m : Nat) : Int)) ∧ Below w.heap.size w w' := by
  have h0 := gcells_0 n m ls
  have h1 := gcells_1 n m ls
  have hnm : n * m ≤ 5 * 5 := Nat.mul_le_mul hn hm
  have hi : (n : Int) * (m : Int) = ((n * m : Nat) : Int) := by simp
  have hi1 : 0 ≤ (n : Int) * (m : Int) := by rw [hi]; omega
  have hi2 : (n : Int) * (m : Int) ≤ 25 := by rw [hi]; omega
  have HI := hid hi
  clear hi hnm
  generalize gcells n m ls = cs at h0 h1
  go_enter Try.func114, Try.ntmps114
  go_wp2
  go_ret
  exact ⟨by rw [← HI.out]; rfl, (Below.refl _ w).alloc (Nat.le_refl _) _⟩

set_option maxHeartbeats 400000 in
theorem place_any (n m k : Nat) (ls : List UInt8) (w : World) (hm : 1 ≤ m) (hm5 : m ≤ 5) (hk : k < 25) :
    Calls Try.prog 71 #[.agg (gcells n m ls), .int .i64 k] w fun e w' => e = .returned (.agg #[.int .i64 ((k / m : Nat) : Int), .int .i64 ((k % m : Nat) : Int)]) ∧ Below w.heap.size w w' := by
  have h1 := gcells_1 n m ls
  have hm0 : (0 : Int) < (m : Int) := by omega
  have hmz : ((m : Int) == 0) = false := by simp; omega
  have q1 : 0 ≤ (k : Int) / (m : Int) := by rw [← Int.natCast_ediv]; exact Int.natCast_nonneg _
  have q2 : (k : Int) / (m : Int) < 25 := by
    rw [← Int.natCast_ediv]
    exact Int.ofNat_lt.2 (Nat.lt_of_le_of_lt (Nat.div_le_self k m) hk)
  generalize gcells n m ls = cs at h1
  go_enter Try.func71, Try.ntmps71
  go_wp2
  go_region
  go_wp2
  exact bodyPost_ret (v := .agg #[.int .i64 ((k / m : Nat) : Int), .int .i64 ((k % m : Nat) : Int)]) (by simp [results, Try.results71, go_sem]) rfl ⟨rfl, (((Below.refl _ w).alloc (Nat.le_refl _) _).alloc (by simp) _).drew⟩

set_option maxHeartbeats 400000 in
theorem cells_any (cs : Array Value) (w : World) :
    Calls Try.prog 105 #[.agg cs] w fun e w' => e = .returned (.func (.func 132) #[] #[.pointer (some ⟨w.heap.size, 0, none⟩)]) ∧ w' = w.alloc (.cells cs 57) := by
  go_enter Try.func105, Try.ntmps105
  go_wp2
  go_ret
  exact ⟨rfl, rfl⟩

end Go.Proofs.Ytmdgbcepjnfbnaa
