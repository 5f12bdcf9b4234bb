/- Joined pairings flipped, by their contracts: flipped, JoinFlip, JoinTurn of the program. -/
import Derived.Test.YtkkifpjeafchnaaJoinFb
namespace Go.Proofs.Ytkkifpjeafchnaa
open Go.RowKit Go.Shelf

/-- What the operations hand back that make a joined pairing. -/
def madeRel (b : Nat) (n m r : Nat) (i : Nat) (v : Value) (W : World) : Prop :=
  match i with
  | 0 => v = .agg (pairC idL)
  | 1 => v = .pointer (some ⟨b, 20, none⟩)
  | 2 => v = .int .i64 (n : Int)
  | 3 => v = .pointer (some ⟨b, 21, none⟩)
  | 4 => v = .int .i64 (m : Int)
  | 5 => v = .pointer (some ⟨b, 22, none⟩)
  | 6 => v = .int .i64 (r : Int)
  | 7 => v = .agg (pairC (joinL idL n m r))
  | 8 => ∃ g, v = .pointer (some ⟨g, 0, none⟩) ∧ W.heap[g]? = some (.cells zeroJ 80 (0, 0)) ∧ b + 1 < g
  | _ => True
/-- What the operations hand back that turn both numbers. -/
def behindRel (g P m k q : Nat) (cs : Array Value) (i : Nat) (v : Value) (_ : World) : Prop :=
  match i with
  | 0 => v = .pointer (some ⟨g, 0, none⟩)
  | 1 => v = .agg cs
  | 2 => v = .int .i64 (k : Int)
  | 3 => v = .int .i64 ((flipN P m k : Nat) : Int)
  | 4 => v = .agg cs
  | 5 => v = .int .i64 (q : Int)
  | 6 => v = .int .i64 ((flipN P m q : Nat) : Int)
  | _ => True

end Go.Proofs.Ytkkifpjeafchnaa
