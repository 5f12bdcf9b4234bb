/- ChangeDelta and ChangeEmpty of the program, by their contracts. -/
import Derived.Test.YtagnecclhmbofaaMirrorIn
namespace Go.Proofs.Ytagnecclhmbofaa
open Go.RowKit Go.Shelf

/-- What a question on a cell with a mirror comes to, where the answer is an integer and a bool. -/
def MirOut (R : Nat → Nat → List UInt8 → Nat → Int × Bool) (ss : List ByteArray) (cell : Int) (x : Int) (ok : Bool) : Prop :=
  (∃ n m c, MirrorIn ss cell n m c ∧ (x, ok) = R n m (pad (flat ss)) c) ∨ ((∀ n m c, ¬ MirrorIn ss cell n m c) ∧ x = 0 ∧ ok = false)
theorem MirOut.uniq {R : Nat → Nat → List UInt8 → Nat → Int × Bool} {ss : List ByteArray} {cell x x' : Int} {ok ok' : Bool} (h : MirOut R ss cell x ok) (h' : MirOut R ss cell x' ok') : x' = x ∧ ok' = ok := by
  rcases h with ⟨n, m, c, h1, h2⟩ | ⟨h1, rfl, rfl⟩ <;> rcases h' with ⟨n', m', c', h1', h2'⟩ | ⟨h1', rfl, rfl⟩
  · obtain ⟨rfl, rfl, rfl⟩ := h1.1.uniq h1'.1
    have := h2'.trans h2.symm
    cases this
    exact ⟨rfl, rfl⟩
  · exact absurd h1 (h1' _ _ _)
  · exact absurd h1' (h1 _ _ _)
  · exact ⟨rfl, rfl⟩
/-- How many paths more come if a cell becomes a letter. -/
def diffR (n m : Nat) (ls : List UInt8) (c : Nat) (b : UInt8) : Int := (pathsR n m (lett m (ls.set c b))).1 - (pathsR n m (lett m ls)).1
def deltaR (n m : Nat) (ls : List UInt8) (c : Nat) : Int × Bool := (diffR n m ls c (oth (lett m ls ((c / m : Nat) : Int) ((c % m : Nat) : Int))), true)
def emptyR (n m : Nat) (ls : List UInt8) (c : Nat) : Int × Bool := (diffR n m ls c 46, true)

end Go.Proofs.Ytagnecclhmbofaa
