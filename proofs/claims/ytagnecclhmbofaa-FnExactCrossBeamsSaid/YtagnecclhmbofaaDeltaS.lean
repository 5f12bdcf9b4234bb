/- l4Given, l4Mirror, l4Exchange, ChangeDelta and ChangeEmpty of the specification, by their contracts. -/
import Derived.Test.YtagnecclhmbofaaPutG
import Derived.Test.YtagnecclhmbofaaDeltaI
namespace Go.Proofs.Ytagnecclhmbofaa
open Go.RowKit Go.Shelf

/-- What l4Given comes to. -/
def CellEnd (ss : List ByteArray) (cell : Int) (w : World) (e : Ending) (w' : World) : Prop :=
  ∃ ok : Bool, e = .returned (.bool ok) ∧ ((ok = true ∧ ∃ n m c, CellIn ss cell n m c) ∨ (ok = false ∧ ∀ n m c, ¬ CellIn ss cell n m c)) ∧ ∃ d, w' = w.drewN d
/-- What l4Mirror comes to. -/
def MirBEnd (ss : List ByteArray) (cell : Int) (w : World) (e : Ending) (w' : World) : Prop :=
  ∃ ok : Bool, e = .returned (.bool ok) ∧ ((ok = true ∧ ∃ n m c, MirrorIn ss cell n m c) ∨ (ok = false ∧ ∀ n m c, ¬ MirrorIn ss cell n m c)) ∧ ∃ d, w' = w.drewN d

/-- The letter of a cell, as the list of all letters has it. -/
theorem lett_cell {n m c : Nat} {ss : List ByteArray} (hg : IsGrid n m ss) (hc : c < n * m) : (flat ss)[c]? = some (lett m (pad (flat ss)) ((c / m : Nat) : Int) ((c % m : Nat) : Int)) := by
  have h := lett_flat hg (placeN_in hc)
  rw [cellN_place] at h
  exact h

end Go.Proofs.Ytagnecclhmbofaa
