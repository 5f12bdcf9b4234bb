/- JoinClose of the specification, by its contract. -/
import Derived.Test.YtkkifpjeafchnaaUnitS
import Derived.Test.YtkkifpjeafchnaaBunF
namespace Go.Proofs.Ytkkifpjeafchnaa
open Go.RowKit Go.Shelf

/-- The value that tells to what a port is sewn. -/
def otherV (t : Nat → Nat) (i : Nat) : Int := if t i = i then (-1 : Int) else ((t i : Nat) : Int)
theorem othersL_at' {N i : Nat} {t : Nat → Nat} (h : i < N) : (othersL N t)[i]? = some (otherV t i) := othersL_at h
theorem Ints.cellB {w : World} {B : Nat} {A : Option Addr} {l : List Int} (h : Ints w B A l) (hB : B ≤ w.heap.size) (h0 : 0 < l.length) : ∃ b off, A = some ⟨b, off, none⟩ ∧ b < w.heap.size ∧ ∀ wr, Below w.heap.size w wr → ∀ (k : Nat) (x : Int), l[k]? = some x → wr.cell? ⟨b, off + k, none⟩ = some (.int .i64 x) := by
  obtain ⟨b, off, e, hb, hc⟩ := h h0
  exact ⟨b, off, e, by omega, fun wr hw k x hk => (hw.cell (p := ⟨b, off + k, none⟩) (by show b < w.heap.size; omega)).trans (hc k x hk)⟩
/-- Marks outlive the growth of a slice of integers. -/
theorem MarksAt.grown {W W' : World} {g N base : Nat} {M : Nat → Prop} {v : Value} {l : List Int} (h : MarksAt W g N M) (hrow : GrowI W base v l) (hg : W.grownBy W' v.ownBlock) : MarksAt W' g N M := by
  obtain ⟨cs, h1, h2⟩ := h
  exact ⟨cs, grownI_heap hrow hg h1 (by decide), h2⟩

theorem cell_far2 {w : World} {g h i j k : Nat} {u v x : Value} (hn : h ≠ g) (hx : w.cell? ⟨h, k, none⟩ = some x) : ((w.setCell ⟨g, i, none⟩ u).setCell ⟨g, j, none⟩ v).cell? ⟨h, k, none⟩ = some x := by
  rw [World.cell?_setCell_other (h := fun e => hn (congrArg Addr.block e).symm), World.cell?_setCell_other (h := fun e => hn (congrArg Addr.block e).symm)]
  exact hx

end Go.Proofs.Ytkkifpjeafchnaa
