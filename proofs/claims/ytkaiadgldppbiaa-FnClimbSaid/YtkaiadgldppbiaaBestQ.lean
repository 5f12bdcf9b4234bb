/- The best exchange is best, and the first of the best ones. -/
import Derived.Test.YtkaiadgldppbiaaBestI
import Derived.Test.YtkaiadgldppbiaaExch
namespace Go.Proofs.Ytkaiadgldppbiaa

theorem best_key (n m : Nat) (ls : List UInt8) : ∀ (l : List (Wy × UInt8)) (s : Option (Wy × UInt8) × Int), s.2 ≤ (l.foldl (fun s e => if s.2 < pathsX n m ls e then (some e, pathsX n m ls e) else s) s).2 ∧
    (∀ e ∈ l, pathsX n m ls e ≤ (l.foldl (fun s e => if s.2 < pathsX n m ls e then (some e, pathsX n m ls e) else s) s).2) ∧
    (l.foldl (fun s e => if s.2 < pathsX n m ls e then (some e, pathsX n m ls e) else s) s = s ∨ ∃ l1 e l2, l = l1 ++ e :: l2 ∧ l.foldl (fun s e => if s.2 < pathsX n m ls e then (some e, pathsX n m ls e) else s) s = (some e, pathsX n m ls e) ∧ s.2 < pathsX n m ls e ∧ ∀ e' ∈ l1, pathsX n m ls e' < pathsX n m ls e)
  | [], s => ⟨Int.le_refl _, fun e he => (by cases he), .inl rfl⟩
  | e :: l, s => by
    rw [List.foldl_cons]
    by_cases h : s.2 < pathsX n m ls e
    · rw [if_pos h]
      obtain ⟨h1, h2, h3⟩ := best_key n m ls l (some e, pathsX n m ls e)
      refine ⟨Int.le_trans (Int.le_of_lt h) h1, fun e' he' => ?_, .inr ?_⟩
      · rcases List.mem_cons.1 he' with rfl | he'
        · exact h1
        · exact h2 e' he'
      · rcases h3 with h3 | ⟨l1, e2, l2, rfl, h4, h5, h6⟩
        · exact ⟨[], e, l, rfl, h3, h, fun e' he' => by cases he'⟩
        · refine ⟨e :: l1, e2, l2, rfl, h4, Int.lt_trans h h5, fun e' he' => ?_⟩
          rcases List.mem_cons.1 he' with rfl | he'
          · exact h5
          · exact h6 e' he'
    · rw [if_neg h]
      obtain ⟨h1, h2, h3⟩ := best_key n m ls l s
      refine ⟨h1, fun e' he' => ?_, ?_⟩
      · rcases List.mem_cons.1 he' with rfl | he'
        · exact Int.le_trans (Int.not_lt.1 h) h1
        · exact h2 e' he'
      · rcases h3 with h3 | ⟨l1, e2, l2, rfl, h4, h5, h6⟩
        · exact .inl h3
        · refine .inr ⟨e :: l1, e2, l2, rfl, h4, h5, fun e' he' => ?_⟩
          rcases List.mem_cons.1 he' with rfl | he'
          · exact Int.lt_of_le_of_lt (Int.not_lt.1 h) h5
          · exact h6 e' he'
theorem mirI_sorted {N : Nat} (m : Nat) (ls : List UInt8) : (mirI m ls (List.finRange N)).Pairwise fun a b => cellN m a.1 < cellN m b.1 := by
  unfold mirI
  rw [List.pairwise_map]
  refine List.Pairwise.imp ?_ (List.Pairwise.filter _ (List.pairwise_lt_finRange N))
  intro a b hab
  rw [cellN_place, cellN_place]
  exact hab
end Go.Proofs.Ytkaiadgldppbiaa
