/- The pairing of empty grids: unitPairing, JoinUnit of the program, by their contracts. -/
import Derived.Test.YtkkifpjeafchnaaJoinFt
namespace Go.Proofs.Ytkkifpjeafchnaa
open Go.RowKit Go.Shelf

/-- The pairing of the ends of rows and columns. -/
def unitL (n m : Nat) : List Int := listS (2 * (n + m)) (unitN n m)
theorem unitL_length (n m : Nat) : (unitL n m).length = 2 * (n + m) := listS_length _ _
theorem unitN_cover {n m q : Nat} (hq : q < 2 * (n + m)) : q < m + n ∨ unitN n m q < m + n := by
  rcases Nat.lt_or_ge q (m + n) with h | h
  · exact .inl h
  · right
    unfold unitN
    rw [if_neg (by omega), if_neg (by omega)]
    split <;> omega
theorem unitL_pair {n m : Nat} (h1 : 1 ≤ n) (h2 : 1 ≤ m) (h3 : n ≤ 5) (h4 : m ≤ 5) : IsPair (unitL n m) := listS_pair unitN_mates (by omega) (by omega)
/-- What the operations hand back that tell both ends of a row. -/
def rowRel (g n m k : Nat) (cs : Array Value) (i : Nat) (v : Value) (_ : World) : Prop :=
  match i with
  | 0 => v = .pointer (some ⟨g, 0, none⟩)
  | 1 => v = .agg cs
  | 2 => v = .int .i64 (k : Int)
  | 3 => v = .int .i64 ((m + k : Nat) : Int)
  | 4 => v = .agg cs
  | 5 => v = .int .i64 (k : Int)
  | 6 => v = .int .i64 ((2 * n + 2 * m - 1 - k : Nat) : Int)
  | _ => True

end Go.Proofs.Ytkkifpjeafchnaa
