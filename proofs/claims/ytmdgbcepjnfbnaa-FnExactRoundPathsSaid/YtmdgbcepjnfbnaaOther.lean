/- The grid with its mirrors exchanged, by its contract. -/
import Derived.Test.YtmdgbcepjnfbnaaTurned
namespace Go.Proofs.Ytmdgbcepjnfbnaa
open Go.RowKit Go.Shelf
attribute [local go_sem] Oper.semAt_some

/-- Each letter stays where it is. -/
def samePos (k : Nat) : Nat := k

end Go.Proofs.Ytmdgbcepjnfbnaa
