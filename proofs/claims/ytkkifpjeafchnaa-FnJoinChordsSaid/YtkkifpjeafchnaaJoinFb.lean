/- Joined pairings seen from behind: fromBehind, flipped of the program, by their contracts. -/
import Derived.Test.YtkkifpjeafchnaaJoinF
import Derived.Test.YtkkifpjeafchnaaBunG
namespace Go.Proofs.Ytkkifpjeafchnaa
open Go.RowKit Go.Shelf

theorem rangeAt_head {w : World} {b : Nat} {all : Array Value} {t : TypeId} {fr : Nat × Nat} {cs : Array Value} (hg : w.heap[b]? = some (.cells all t fr)) (hpre : ∀ (j : Nat) (v : Value), cs[j]? = some v → all[j]? = some v) : w.rangeAt b 0 cs.toList := fun j v hv => by
  rw [cell_of_row _ _ _ _ _ _ hg, Nat.zero_add]
  exact hpre j v (by simpa using hv)

end Go.Proofs.Ytkkifpjeafchnaa
