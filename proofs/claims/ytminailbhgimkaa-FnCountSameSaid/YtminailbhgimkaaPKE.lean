/- The ends of functions that hand back an integer or a list of integers, in one form. -/
import Derived.Test.YtminailbhgimkaaPK
namespace Go.Proofs.Ytminailbhgimkaa
open Go.RowKit

/-- What a question on a port hands back, in one form. -/
def IEnd (x : Int) (ok : Bool) (w : World) (e : Ending) (w' : World) : Prop := Below w.heap.size w w' ∧ e = .returned (.tuple #[.int .i64 x, .bool ok])
theorem own_li {w' : World} {lo : Nat} {A : Option Addr} {l : List Int} (h : Own3 w' lo A l) : LI w' A l := h.ints
/-- Texts, and what a function that hands back integers comes to. -/
def LEnd (O : List Int → Bool → Prop) (w : World) (e : Ending) (w' : World) : Prop := Below w.heap.size w w' ∧ ∃ A c l ok, e = .returned (.tuple #[.slice A l.length c, .bool ok]) ∧ O l ok ∧ LI w' A l
theorem lend_own {O : List Int → Bool → Prop} {w w' : World} {e : Ending} (h : Below w.heap.size w w' ∧ ∃ A c l ok, e = .returned (.tuple #[.slice A l.length c, .bool ok]) ∧ O l ok ∧ Own3 w' w.heap.size A l) : LEnd O w e w' := by
  obtain ⟨hb, A, c, l, ok, he, ho, hl⟩ := h
  exact ⟨hb, A, c, l, ok, he, ho, hl.ints⟩
theorem lend_spec {O : List Int → Bool → Prop} {w w' : World} {e : Ending} (h : Below w.heap.size w w' ∧ ∃ A c l ok, e = .returned (.tuple #[.slice A l.length c, .bool ok]) ∧ O l ok ∧ Ints w' w'.heap.size A l) : LEnd O w e w' := h
theorem LEnd.yes {O : List Int → Bool → Prop} {w w' : World} {e : Ending} {l : List Int} (h : LEnd O w e w') (hO : ∀ r ok, O r ok → r = l ∧ ok = true) : Below w.heap.size w w' ∧ ∃ A c, e = .returned (.tuple #[.slice A l.length c, .bool true]) ∧ LI w' A l := by
  obtain ⟨hb, A, c, r, ok, rfl, ho, hl⟩ := h
  obtain ⟨rfl, rfl⟩ := hO _ _ ho
  exact ⟨hb, A, c, rfl, hl⟩
end Go.Proofs.Ytminailbhgimkaa
