/- The number of rounds and the pairs of a grid that is given: the contracts, with few texts below them. -/
import Derived.Test.YtminailbhgimkaaPKE
import Derived.Test.YtminailbhgimkaaBunP
import Derived.Test.YtminailbhgimkaaBunF
import Derived.Test.YtminailbhgimkaaBunQ
namespace Go.Proofs.Ytminailbhgimkaa
open Go.RowKit

theorem GridOut.yes {R : Nat → Nat → (Int → Int → UInt8) → Int × Bool} {ss : List ByteArray} {x : Int} {ok : Bool} {n m : Nat} (h : GridOut R ss x ok) (hg : IsGrid n m ss) : (x, ok) = R n m (lett m (pad (flat ss))) := by
  rcases h with ⟨n', m', h1, h2⟩ | ⟨h1, _, _⟩
  · obtain ⟨rfl, rfl⟩ := hg.uniq h1
    exact h2
  · exact absurd hg (h1 _ _)
theorem iend_grid {R : Nat → Nat → (Int → Int → UInt8) → Int × Bool} {ss : List ByteArray} {x : Int} {ok : Bool} {n m : Nat} {w w' : World} {e : Ending}
    (hg : IsGrid n m ss) (hv : R n m (lett m (pad (flat ss))) = (x, ok)) (h : Below w.heap.size w w' ∧ ∃ x ok, e = .returned (.tuple #[.int .i64 x, .bool ok]) ∧ GridOut R ss x ok) : IEnd x ok w e w' := by
  obtain ⟨hb, x', ok', rfl, ho⟩ := h
  have e := ho.yes hg
  rw [hv] at e
  cases e
  exact ⟨hb, rfl⟩
section
variable {n m c : Nat} {A : Option Addr} {ss : List ByteArray} {w : World} {x : Int} {ok : Bool} {l : List Int}
theorem nRoundMany (h : LS w A ss) (hg : IsGrid n m ss) (hv : manyR n m (lett m (pad (flat ss))) = (x, ok)) :
    Calls Try.prog 27 #[.slice A ss.length c] w (IEnd x ok w) :=
  (implRoundMany_any A c ss w h (gsmall hg).1 (gsmall hg).2).mono fun _ _ => iend_grid hg hv
end
end Go.Proofs.Ytminailbhgimkaa
