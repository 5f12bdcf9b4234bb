/- JoinFlip, JoinTurn of the specification, by their contracts. -/
import Derived.Test.YtkkifpjeafchnaaJoinS
namespace Go.Proofs.Ytkkifpjeafchnaa
open Go.RowKit Go.Shelf

/-- The first numbers. -/
def numsI (f : Nat → Nat) (k : Nat) : List Int := (List.range k).map fun q => ((f q : Nat) : Int)
theorem numsI_length (f : Nat → Nat) (k : Nat) : (numsI f k).length = k := by simp [numsI]
theorem numsI_at {f : Nat → Nat} {k q : Nat} (h : q < k) : (numsI f k)[q]? = some ((f q : Nat) : Int) := by simp [numsI, h]
theorem numsI_succ (f : Nat → Nat) (k : Nat) : numsI f (k + 1) = numsI f k ++ [((f k : Nat) : Int)] := by simp [numsI, List.range_succ]

/-- Ports with numbers k greater. -/
def spinF (p k i : Nat) : Nat := (i + k) % p
def spinG (p k j : Nat) : Nat := (j + (p - k % p)) % p
end Go.Proofs.Ytkkifpjeafchnaa
