/- ChangeBest of the program, by its contract. -/
import Derived.Test.YtkaiadgldppbiaaBest
namespace Go.Proofs.Ytkaiadgldppbiaa
open Go.RowKit Go.Shelf

/-- The best exchange of a grid. -/
def bestR (n m : Nat) (ls : List UInt8) : Option (Wy × UInt8) × Int := bestTo n m ls (mirI m ls (List.finRange (n * m)))
theorem bestTo_or (n m : Nat) (ls : List UInt8) (hn : 1 ≤ n) (l : List (Wy × UInt8)) : (l = [] ∧ bestTo n m ls l = (none, 0)) ∨ ∃ e, e ∈ l ∧ (bestTo n m ls l).1 = some e ∧ (bestTo n m ls l).2 = pathsX n m ls e ∧ 0 < (bestTo n m ls l).2 := by
  have key : ∀ (l : List (Wy × UInt8)) (s : Option (Wy × UInt8) × Int) (q : List (Wy × UInt8)), (∃ e, e ∈ q ∧ s.1 = some e ∧ s.2 = pathsX n m ls e ∧ 0 < s.2) → ∃ e, e ∈ q ++ l ∧ (l.foldl (fun s e => if s.2 < pathsX n m ls e then (some e, pathsX n m ls e) else s) s).1 = some e ∧ (l.foldl (fun s e => if s.2 < pathsX n m ls e then (some e, pathsX n m ls e) else s) s).2 = pathsX n m ls e ∧ 0 < (l.foldl (fun s e => if s.2 < pathsX n m ls e then (some e, pathsX n m ls e) else s) s).2 := by
    intro l
    induction l with
    | nil => intro s q h; rw [List.append_nil]; exact h
    | cons e l ih =>
      intro s q h
      rw [List.foldl_cons]
      have e1 : q ++ e :: l = (q ++ [e]) ++ l := by simp
      rw [e1]
      refine ih _ _ ?_
      split
      · exact ⟨e, by simp, rfl, rfl, pathsX_pos hn⟩
      · obtain ⟨x, h1, h2⟩ := h
        exact ⟨x, by simp [h1], h2⟩
  cases l with
  | nil => exact .inl ⟨rfl, rfl⟩
  | cons e l =>
    refine .inr ?_
    unfold bestTo
    rw [List.foldl_cons, if_pos (pathsX_pos hn)]
    exact key l _ [e] ⟨e, by simp, rfl, rfl, pathsX_pos hn⟩
/-- What ChangeBest comes to. -/
def BestOut (ss : List ByteArray) (x y : Int) (ok : Bool) : Prop :=
  (∃ n m e, IsGrid n m ss ∧ bestR n m (pad (flat ss)) = (some e, y) ∧ x = ((cellN m e.1 : Nat) : Int) ∧ ok = true) ∨ ((∀ n m, IsGrid n m ss → mirI m (pad (flat ss)) (List.finRange (n * m)) = []) ∧ x = 0 ∧ y = 0 ∧ ok = false)
theorem BestOut.uniq {ss : List ByteArray} {x y x' y' : Int} {ok ok' : Bool} (h : BestOut ss x y ok) (h' : BestOut ss x' y' ok') : x' = x ∧ y' = y ∧ ok' = ok := by
  rcases h with ⟨n, m, e, h1, h2, rfl, rfl⟩ | ⟨h1, rfl, rfl, rfl⟩ <;> rcases h' with ⟨n', m', e', h1', h2', rfl, rfl⟩ | ⟨h1', rfl, rfl, rfl⟩
  · obtain ⟨rfl, rfl⟩ := h1.uniq h1'
    have := h2.symm.trans h2'
    cases this
    exact ⟨rfl, rfl, rfl⟩
  · have h3 := h1' _ _ h1
    unfold bestR at h2
    rw [h3] at h2
    cases h2
  · have h3 := h1 _ _ h1'
    unfold bestR at h2'
    rw [h3] at h2'
    cases h2'
  · exact ⟨rfl, rfl, rfl⟩

end Go.Proofs.Ytkaiadgldppbiaa
