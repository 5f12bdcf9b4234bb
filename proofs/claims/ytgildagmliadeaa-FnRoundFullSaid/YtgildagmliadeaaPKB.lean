/- The contracts of the functions of chapter 2 on grids and ports that are given, in one form. -/
import Derived.Test.YtgildagmliadeaaPK
import Derived.Test.YtgildagmliadeaaBunO
import Derived.Test.YtgildagmliadeaaBunJ
import Derived.Test.YtgildagmliadeaaBunP
import Derived.Test.YtgildagmliadeaaBunU
namespace Go.Proofs.Ytgildagmliadeaa
open Go.RowKit

theorem BeamOut.yes {R : Nat → Nat → (Int → Int → UInt8) → Nat → Int × Bool} {ss : List ByteArray} {p x : Int} {ok : Bool} {n m q : Nat} (h : BeamOut R ss p x ok) (hp : PortIn ss p n m q) : (x, ok) = R n m (lett m (pad (flat ss))) q := by
  rcases h with ⟨n', m', q', h1, h2⟩ | ⟨h1, _, _⟩
  · obtain ⟨rfl, rfl, rfl⟩ := hp.uniq h1
    exact h2
  · exact absurd hp (h1 _ _ _)
theorem ListOut.yes {R : Nat → Nat → (Int → Int → UInt8) → Nat → List Int} {ss : List ByteArray} {p : Int} {l : List Int} {ok : Bool} {n m q : Nat} (h : ListOut R ss p l ok) (hp : PortIn ss p n m q) : l = R n m (lett m (pad (flat ss))) q ∧ ok = true := by
  rcases h with ⟨n', m', q', h1, h2, _, h3⟩ | ⟨h1, _, _⟩
  · obtain ⟨rfl, rfl, rfl⟩ := hp.uniq h1
    exact ⟨h2, h3⟩
  · exact absurd hp (h1 _ _ _)
/-- What a question on a port hands back, in one form. -/
def IEnd (x : Int) (ok : Bool) (w : World) (e : Ending) (w' : World) : Prop := Below w.heap.size w w' ∧ e = .returned (.tuple #[.int .i64 x, .bool ok])
theorem iend_beam {R : Nat → Nat → (Int → Int → UInt8) → Nat → Int × Bool} {ss : List ByteArray} {p x : Int} {ok : Bool} {n m q : Nat} {w w' : World} {e : Ending}
    (hp : PortIn ss p n m q) (hv : R n m (lett m (pad (flat ss))) q = (x, ok)) (h : Below w.heap.size w w' ∧ ∃ x ok, e = .returned (.tuple #[.int .i64 x, .bool ok]) ∧ BeamOut R ss p x ok) : IEnd x ok w e w' := by
  obtain ⟨hb, x', ok', rfl, ho⟩ := h
  have e := ho.yes hp
  rw [hv] at e
  cases e
  exact ⟨hb, rfl⟩
theorem own_li {w' : World} {lo : Nat} {A : Option Addr} {l : List Int} (h : Own3 w' lo A l) : LI w' A l := h.ints
/-- Texts, and what a function that hands back integers comes to. -/
def LEnd (O : List Int → Bool → Prop) (w : World) (e : Ending) (w' : World) : Prop := Below w.heap.size w w' ∧ ∃ A c l ok, e = .returned (.tuple #[.slice A l.length c, .bool ok]) ∧ O l ok ∧ LI w' A l
theorem lend_own {O : List Int → Bool → Prop} {w w' : World} {e : Ending} (h : Below w.heap.size w w' ∧ ∃ A c l ok, e = .returned (.tuple #[.slice A l.length c, .bool ok]) ∧ O l ok ∧ Own3 w' w.heap.size A l) : LEnd O w e w' := by
  obtain ⟨hb, A, c, l, ok, he, ho, hl⟩ := h
  exact ⟨hb, A, c, l, ok, he, ho, hl.ints⟩
theorem lend_spec {O : List Int → Bool → Prop} {w w' : World} {e : Ending} (h : Below w.heap.size w w' ∧ ∃ A c l ok, e = .returned (.tuple #[.slice A l.length c, .bool ok]) ∧ O l ok ∧ Ints w' w'.heap.size A l) : LEnd O w e w' := h
theorem LEnd.yes {O : List Int → Bool → Prop} {w w' : World} {e : Ending} {l : List Int} (h : LEnd O w e w') (hO : ∀ r ok, O r ok → r = l ∧ ok = true) : Below w.heap.size w w' ∧ ∃ A c, e = .returned (.tuple #[.slice A l.length c, .bool true]) ∧ LI w' A l := by
  obtain ⟨hb, A, c, r, ok, rfl, ho, hl⟩ := h
  obtain ⟨rfl, rfl⟩ := hO _ _ ho
  exact ⟨hb, A, c, rfl, hl⟩
section
variable {n m q c : Nat} {A : Option Addr} {ss : List ByteArray} {w : World} {p x : Int} {ok : Bool} {l : List Int}
theorem nBeamLength (h : LS w A ss) (hp : PortIn ss p n m q) (hv : lengthR n m (lett m (pad (flat ss))) q = (x, ok)) :
    Calls Try.prog 44 #[.slice A ss.length c, .int .i64 p] w (IEnd x ok w) :=
  (implBeamLength_any A c ss p w h (gsmall hp.1).1 (gsmall hp.1).2).mono fun _ _ => iend_beam hp hv
end
end Go.Proofs.Ytgildagmliadeaa
