/- A grid and one of its cells with a mirror, by the contract of mirrorIn. -/
import Derived.Test.YtagnecclhmbofaaDelta
import Derived.Test.YtagnecclhmbofaaRelT
namespace Go.Proofs.Ytagnecclhmbofaa
open Go.RowKit Go.Shelf

/-- The place of a cell. -/
def placeN (m c : Nat) : Wy := ⟨((c / m : Nat) : Int), ((c % m : Nat) : Int), 0⟩
theorem placeN_in {n m c : Nat} (h : c < n * m) : inG n m (placeN m c) := by
  have h1 := wayN_in (n := n) (m := m) (c := 4 * c + 0) (by omega)
  rwa [wayN_cell (by decide)] at h1
theorem cellN_place (m c : Nat) : cellN m (placeN m c) = c := by
  have h1 := cellN_way (m := m) (4 * c + 0)
  rw [wayN_cell (by decide)] at h1
  have : (4 * c + 0) / 4 = c := by omega
  rw [this] at h1
  exact h1
/-- A grid, the number of one of its cells, a mirror there. -/
def MirrorIn (ss : List ByteArray) (cell : Int) (n m c : Nat) : Prop := CellIn ss cell n m c ∧ lett m (pad (flat ss)) ((c / m : Nat) : Int) ((c % m : Nat) : Int) ≠ 46
def MirrorEnd (ss : List ByteArray) (cell : Int) (w : World) (e : Ending) (w' : World) : Prop :=
  Below w.heap.size w w' ∧ ((∃ n m c, MirrorIn ss cell n m c ∧ e = .returned (.tuple #[.agg (gcells n m (pad (flat ss))), .agg #[.int .i64 ((c / m : Nat) : Int), .int .i64 ((c % m : Nat) : Int)], .bool true])) ∨
    ((∀ n m c, ¬ MirrorIn ss cell n m c) ∧ e = .returned (.tuple #[.agg zeroG, .agg #[.int .i64 0, .int .i64 0], .bool false])))
theorem CellIn.uniq {ss : List ByteArray} {cell : Int} {n m c n' m' c' : Nat} (h : CellIn ss cell n m c) (h' : CellIn ss cell n' m' c') : n = n' ∧ m = m' ∧ c = c' := by
  obtain ⟨rfl, rfl⟩ := h.1.uniq h'.1
  have := h.2.1.symm.trans h'.2.1
  exact ⟨rfl, rfl, by omega⟩
theorem int2_one (a b : Int) : (#[.int .i64 a, .int .i64 b] : Array Value).all (·.oneCell') = true := by
  rw [Array.all_eq_true_iff_forall_mem]
  intro u hu
  simp at hu
  rcases hu with rfl | rfl <;> rfl
/-- What the operations of mirrorIn's last statement hand back. -/
def mirRel (a b : Nat) (gc : Array Value) (qv rv : Int) (i : Nat) (v : Value) (W : World) : Prop :=
  match i with
  | 0 => v = .agg gc
  | 1 => v = .agg #[.int .i64 qv, .int .i64 rv]
  | 2 => W.heap[a]? = some (.cells gc 46 (0, 0))
  | 3 => W.heap[b]? = some (.cells #[.int .i64 qv, .int .i64 rv] 90 (0, 0))
  | 4 => v = .bool true
  | _ => True

end Go.Proofs.Ytagnecclhmbofaa
