/- GridOther of the specification, by its contract. -/
import Derived.Test.YtmdgbcepjnfbnaaSpecTF
namespace Go.Proofs.Ytmdgbcepjnfbnaa
open Go.RowKit Go.Shelf

/-- The inner loop, upwards. -/
def InUp (K L r : Nat) (f : Nat → Nat → UInt8) (w wo : World) (ov : Value) (v i : Value) (wr : World) : Prop :=
  ∃ p : Nat, p ≤ L ∧ i = .int .i64 p ∧ GrowB wr wo.heap.size v ((ruleL L (f r)).take p) ∧ GrowS wr w.heap.size ov ((ruleG K L f).take r) ∧ Below w.heap.size w wr ∧ wo.heap.size ≤ wr.heap.size

end Go.Proofs.Ytmdgbcepjnfbnaa
