/- Outcomes of questions on a port. -/
import Derived.Test.YtpbppkidglmacaaBunE
import Derived.Test.YtpbppkidglmacaaSpecEnd
namespace Go.Proofs.Ytpbppkidglmacaa
open Go.RowKit Go.Shelf

/-- What a question on a port comes to, where the answer is an integer and a bool. -/
def BeamOut (R : Nat → Nat → (Int → Int → UInt8) → Nat → Int × Bool) (ss : List ByteArray) (p x : Int) (ok : Bool) : Prop :=
  (∃ n m q, PortIn ss p n m q ∧ (x, ok) = R n m (lett m (pad (flat ss))) q) ∨ (NoPort ss p ∧ x = 0 ∧ ok = false)
theorem BeamOut.uniq {R : Nat → Nat → (Int → Int → UInt8) → Nat → Int × Bool} {ss : List ByteArray} {p x x' : Int} {ok ok' : Bool} (h : BeamOut R ss p x ok) (h' : BeamOut R ss p x' ok') : x' = x ∧ ok' = ok := by
  rcases h with ⟨n, m, q, h1, h2⟩ | ⟨h1, rfl, rfl⟩ <;> rcases h' with ⟨n', m', q', h1', h2'⟩ | ⟨h1', rfl, rfl⟩
  · obtain ⟨rfl, rfl, rfl⟩ := h1.uniq h1'
    have := h2'.trans h2.symm
    cases this
    exact ⟨rfl, rfl⟩
  · exact absurd h1 (h1' _ _ _)
  · exact absurd h1' (h1 _ _ _)
  · exact ⟨rfl, rfl⟩
/-- Is there a mirror on the way's cell? -/
def mirrorAt (t : Int → Int → UInt8) (bw : Nat → Wy) (j : Nat) : Bool := t (bw j).i (bw j).k != 46
def turnsR (n m : Nat) (t : Int → Int → UInt8) (q : Nat) : Int × Bool := ((((List.range (blen n m t q)).countP (mirrorAt t (bway n m t q)) : Nat) : Int), true)
def firstR (n m : Nat) (t : Int → Int → UInt8) (q : Nat) : Int × Bool :=
  match (List.range (blen n m t q)).find? (mirrorAt t (bway n m t q)) with
  | some j => (((cellN m (bway n m t q j) : Nat) : Int), true)
  | none => (0, false)

end Go.Proofs.Ytpbppkidglmacaa
