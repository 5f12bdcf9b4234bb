/- What a question on a port comes to, where the answer is a list of integers. -/
import Derived.Test.YtpbppkidglmacaaPort
namespace Go.Proofs.Ytpbppkidglmacaa

/-- What a question on a port comes to, where the answer is a list of integers and a bool. -/
def ListOut (R : Nat → Nat → (Int → Int → UInt8) → Nat → List Int) (ss : List ByteArray) (p : Int) (l : List Int) (ok : Bool) : Prop :=
  (∃ n m q, PortIn ss p n m q ∧ l = R n m (lett m (pad (flat ss))) q ∧ (R n m (lett m (pad (flat ss))) q).length ≤ 1000 ∧ ok = true) ∨ (NoPort ss p ∧ l = [] ∧ ok = false)
theorem ListOut.uniq {R : Nat → Nat → (Int → Int → UInt8) → Nat → List Int} {ss : List ByteArray} {p : Int} {l l' : List Int} {ok ok' : Bool} (h : ListOut R ss p l ok) (h' : ListOut R ss p l' ok') : ok' = ok ∧ l' = l := by
  rcases h with ⟨n, m, q, h1, rfl, _, rfl⟩ | ⟨h1, rfl, rfl⟩ <;> rcases h' with ⟨n', m', q', h1', rfl, _, rfl⟩ | ⟨h1', rfl, rfl⟩
  · obtain ⟨rfl, rfl, rfl⟩ := h1.uniq h1'
    exact ⟨rfl, rfl⟩
  · exact absurd h1 (h1' _ _ _)
  · exact absurd h1' (h1 _ _ _)
  · exact ⟨rfl, rfl⟩
theorem ListOut.len {R : Nat → Nat → (Int → Int → UInt8) → Nat → List Int} {ss : List ByteArray} {p : Int} {l : List Int} {ok : Bool} (h : ListOut R ss p l ok) : l.length ≤ 1048576 := by
  rcases h with ⟨n, m, q, _, rfl, h1, _⟩ | ⟨_, rfl, _⟩
  · omega
  · simp

end Go.Proofs.Ytpbppkidglmacaa
