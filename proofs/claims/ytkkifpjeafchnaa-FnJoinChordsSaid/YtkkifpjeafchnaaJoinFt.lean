/- JoinFlip, JoinTurn of the program, by their contracts. -/
import Derived.Test.YtkkifpjeafchnaaJoinFl
namespace Go.Proofs.Ytkkifpjeafchnaa
open Go.RowKit Go.Shelf

/-- A list is told just if a condition holds. -/
def LOut (D : Prop) (R res : List Int) (ok : Bool) : Prop := (D ∧ res = R ∧ ok = true) ∨ (¬ D ∧ res = [] ∧ ok = false)
theorem LOut.uniq {D : Prop} {R r r' : List Int} {ok ok' : Bool} (h : LOut D R r ok) (h' : LOut D R r' ok') : ok' = ok ∧ r' = r := by
  rcases h with ⟨h1, rfl, rfl⟩ | ⟨h1, rfl, rfl⟩ <;> rcases h' with ⟨h2, rfl, rfl⟩ | ⟨h2, rfl, rfl⟩
  · exact ⟨rfl, rfl⟩
  · exact absurd h1 h2
  · exact absurd h2 h1
  · exact ⟨rfl, rfl⟩
theorem LOut.len {D : Prop} {R r : List Int} {ok : Bool} (h : LOut D R r ok) (hR : D → R.length ≤ 1048576) : r.length ≤ 1048576 := by
  rcases h with ⟨h1, rfl, _⟩ | ⟨_, rfl, _⟩
  · exact hR h1
  · simp
/-- An integer is told just if a condition holds. -/
def IOut (D : Prop) (V res : Int) (ok : Bool) : Prop := (D ∧ res = V ∧ ok = true) ∨ (¬ D ∧ res = 0 ∧ ok = false)
theorem IOut.uniq {D : Prop} {V r r' : Int} {ok ok' : Bool} (h : IOut D V r ok) (h' : IOut D V r' ok') : ok' = ok ∧ r' = r := by
  rcases h with ⟨h1, rfl, rfl⟩ | ⟨h1, rfl, rfl⟩ <;> rcases h' with ⟨h2, rfl, rfl⟩ | ⟨h2, rfl, rfl⟩
  · exact ⟨rfl, rfl⟩
  · exact absurd h1 h2
  · exact absurd h2 h1
  · exact ⟨rfl, rfl⟩
theorem pair_plist (l : List Int) (w : World) (hp : IsPair l) :
    Calls Try.prog 74 #[.agg (pairC (padTo l))] w fun e w' => ∃ v, e = .returned v ∧ GrowI w' w.heap.size v l ∧ Below w.heap.size w w' := plist_any l w hp.2.1 hp.ports
theorem turnL_pair {l : List Int} (k : Nat) (h : IsPair l) : IsPair (turnL l k) := by
  rw [turnL_ren]
  exact listS_pair (renS_mates turn_names h.mates_of) h.1 h.2.1

end Go.Proofs.Ytkkifpjeafchnaa
