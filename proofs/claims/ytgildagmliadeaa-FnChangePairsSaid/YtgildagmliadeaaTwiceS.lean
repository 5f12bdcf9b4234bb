/- BeamTwice of the specification and of the program, by their contracts. -/
import Derived.Test.YtgildagmliadeaaBunO
namespace Go.Proofs.Ytgildagmliadeaa
open Go.RowKit Go.Shelf

def SpareRel (l : List Nat) (w : World) (nv iv : Value) (wr : World) : Prop :=
  ∃ k : Nat, k ≤ l.length ∧ nv = .int .i64 ((spare l k : Nat) : Int) ∧ iv = .int .i64 (k : Int) ∧ ∃ d, wr = w.drewN d
theorem cellsI_bcells (n m : Nat) (t : Int → Int → UInt8) (p k : Nat) (h : k < blen n m t p) : (cellsI m (bway n m t p) (blen n m t p))[k]? = some (((cellN m (bway n m t p k) : Nat)) : Int) ∧ (bcells n m t p)[k]? = some (cellN m (bway n m t p k)) := by
  constructor
  · exact cellsI_atT h
  · simp [bcells, h]

end Go.Proofs.Ytgildagmliadeaa
