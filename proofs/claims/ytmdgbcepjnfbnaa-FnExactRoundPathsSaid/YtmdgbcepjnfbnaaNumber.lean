/- The number that tells a grid, by its contract. -/
import Derived.Test.YtmdgbcepjnfbnaaMirrors
import Derived.Test.YtmdgbcepjnfbnaaLetter
namespace Go.Proofs.Ytmdgbcepjnfbnaa
open Go.RowKit Go.Shelf
attribute [local go_sem] Oper.semAt_some

/-- The digit of a letter. -/
def dig (b : UInt8) : Nat := if b == 114 then 1 else if b == 102 then 2 else 0
theorem dig_le (b : UInt8) : dig b ≤ 2 := by unfold dig; split <;> (try split) <;> omega
theorem dig_index (b : UInt8) (h : isLet b = true) : Lib.indexByte [46, 114, 102] b = (dig b : Int) := by
  simp only [isLet, Bool.or_eq_true, beq_iff_eq] at h
  rcases h with (rfl | rfl) | rfl <;> decide
/-- The number of the cells that have come, and the weight of the next one. -/
def numP {N : Nat} (ls : List UInt8) (pre : List (Fin N)) : Nat × Nat := pre.foldl (fun a x => (a.1 + a.2 * dig (ls.getD x.val 0), a.2 * 3)) (0, 1)
theorem numP_snoc {N : Nat} (ls : List UInt8) (pre : List (Fin N)) (x : Fin N) : numP ls (pre ++ [x]) = ((numP ls pre).1 + (numP ls pre).2 * dig (ls.getD x.val 0), (numP ls pre).2 * 3) := by
  simp [numP, List.foldl_append]
theorem numP_lt {N : Nat} (ls : List UInt8) (k : Nat) : ∀ (pre : List (Fin N)), pre.length = k → (numP ls pre).1 < (numP ls pre).2 ∧ (numP ls pre).2 = 3 ^ k := by
  induction k with
  | zero => intro pre h; obtain rfl := List.eq_nil_of_length_eq_zero h; simp [numP]
  | succ k ih =>
    intro pre h
    obtain ⟨ys, y, rfl⟩ : ∃ ys y, pre = ys ++ [y] := ⟨pre.dropLast, pre.getLast (by rintro rfl; simp at h), (List.dropLast_concat_getLast _).symm⟩
    have ⟨h1, h2⟩ := ih ys (by simpa using h)
    rw [numP_snoc]
    have hd := dig_le (ls.getD y.val 0)
    have hm : (numP ls ys).2 * dig (ls.getD y.val 0) ≤ (numP ls ys).2 * 2 := Nat.mul_le_mul_left _ hd
    refine ⟨by dsimp only; omega, by dsimp only; rw [h2, Nat.pow_succ]⟩

end Go.Proofs.Ytmdgbcepjnfbnaa
