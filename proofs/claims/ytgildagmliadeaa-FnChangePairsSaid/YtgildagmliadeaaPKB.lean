/- The contracts of the functions of chapter 2 on grids and ports that are given, in one form. -/
import Derived.Test.YtgildagmliadeaaPK
import Derived.Test.YtgildagmliadeaaPKE
import Derived.Test.YtgildagmliadeaaBunO
import Derived.Test.YtgildagmliadeaaBunJ
import Derived.Test.YtgildagmliadeaaBunP
import Derived.Test.YtgildagmliadeaaBunU
namespace Go.Proofs.Ytgildagmliadeaa
open Go.RowKit

theorem BeamOut.yes {R : Nat → Nat → (Int → Int → UInt8) → Nat → Int × Bool} {ss : List ByteArray} {p x : Int} {ok : Bool} {n m q : Nat} (h : BeamOut R ss p x ok) (hp : PortIn ss p n m q) : (x, ok) = R n m (lett m (pad (flat ss))) q := by
  rcases h with ⟨n', m', q', h1, h2⟩ | ⟨h1, _, _⟩
  · obtain ⟨rfl, rfl, rfl⟩ := hp.uniq h1
    exact h2
  · exact absurd hp (h1 _ _ _)
theorem ListOut.yes {R : Nat → Nat → (Int → Int → UInt8) → Nat → List Int} {ss : List ByteArray} {p : Int} {l : List Int} {ok : Bool} {n m q : Nat} (h : ListOut R ss p l ok) (hp : PortIn ss p n m q) : l = R n m (lett m (pad (flat ss))) q ∧ ok = true := by
  rcases h with ⟨n', m', q', h1, h2, _, h3⟩ | ⟨h1, _, _⟩
  · obtain ⟨rfl, rfl, rfl⟩ := hp.uniq h1
    exact ⟨h2, h3⟩
  · exact absurd hp (h1 _ _ _)
theorem iend_beam {R : Nat → Nat → (Int → Int → UInt8) → Nat → Int × Bool} {ss : List ByteArray} {p x : Int} {ok : Bool} {n m q : Nat} {w w' : World} {e : Ending}
    (hp : PortIn ss p n m q) (hv : R n m (lett m (pad (flat ss))) q = (x, ok)) (h : Below w.heap.size w w' ∧ ∃ x ok, e = .returned (.tuple #[.int .i64 x, .bool ok]) ∧ BeamOut R ss p x ok) : IEnd x ok w e w' := by
  obtain ⟨hb, x', ok', rfl, ho⟩ := h
  have e := ho.yes hp
  rw [hv] at e
  cases e
  exact ⟨hb, rfl⟩
section
variable {n m q c : Nat} {A : Option Addr} {ss : List ByteArray} {w : World} {p x : Int} {ok : Bool} {l : List Int}
theorem nBeamLength (h : LS w A ss) (hp : PortIn ss p n m q) (hv : lengthR n m (lett m (pad (flat ss))) q = (x, ok)) :
    Calls Try.prog 44 #[.slice A ss.length c, .int .i64 p] w (IEnd x ok w) :=
  (implBeamLength_any A c ss p w h (gsmall hp.1).1 (gsmall hp.1).2).mono fun _ _ => iend_beam hp hv
end
end Go.Proofs.Ytgildagmliadeaa
