/- slices.Insert at []int, of slices of the call's own: by the library's contracts. -/
import Derived.Test.YtgapdlokljcpbaaBunV
import Derived.Test.YtgapdlokljcpbaaInsLay
namespace Go.Proofs.Ytgapdlokljcpbaa
open Go.RowKit Go.Shelf

theorem but_setCells (g : Nat) : ∀ (vs : List Value) (o : Nat) (w : World), But g w (w.setCells g o vs)
  | [], _, w => But.refl g w
  | v :: r, o, w => (But.setCell w o v).trans (but_setCells g r (o + 1) _)
theorem intsV_at {l : List Int} {k : Nat} {v : Value} (h : (intsV l)[k]? = some v) : ∃ x, l[k]? = some x ∧ v = .int .i64 x := by
  unfold intsV at h
  rw [List.getElem?_map] at h
  cases hk : l[k]? with
  | none => rw [hk] at h; cases h
  | some x => rw [hk] at h; exact ⟨x, rfl, (Option.some.inj h).symm⟩
theorem intsV_get {l : List Int} {k : Nat} {x : Int} (h : l[k]? = some x) : (intsV l)[k]? = some (.int .i64 x) := by simp [intsV, h]
theorem intsV_len (l : List Int) : (intsV l).length = l.length := by simp [intsV]
theorem intsV_drop (l : List Int) (m : Nat) : (intsV l).drop m = intsV (l.drop m) := by simp [intsV]
/-- The cells of block g from place o on, set to integers. -/
theorem set_in {w : World} {g o j : Nat} {l : List Int} {x : Int} (h : ∀ i, i < l.length → (w.cell? ⟨g, o + i, none⟩).isSome = true) (hj : l[j]? = some x) : (w.setCells g o (intsV l)).cell? ⟨g, o + j, none⟩ = some (.int .i64 x) := by
  obtain ⟨hl, hx⟩ := List.getElem?_eq_some_iff.1 hj
  have h1 := World.cell?_setCells_in g (intsV l) o w (fun i hi => h i (by rwa [intsV_len] at hi)) j (by rw [intsV_len]; exact hl)
  rw [h1]
  have h2 := intsV_get hj
  rw [List.getElem?_eq_getElem (by rw [intsV_len]; exact hl)] at h2
  exact h2
theorem set_out {w : World} {g o k : Nat} {l : List Int} (h : k < o ∨ o + l.length ≤ k) : (w.setCells g o (intsV l)).cell? ⟨g, k, none⟩ = w.cell? ⟨g, k, none⟩ :=
  World.cell?_setCells_out g _ _ _ _ (fun _ _ => by rw [intsV_len]; exact h)
theorem ins_split {l1 l2 : List Int} {m k : Nat} {x : Int} (hm : m ≤ l1.length) (h : (l1.take m ++ l2 ++ l1.drop m)[k]? = some x) : (k < m ∧ l1[k]? = some x) ∨ (m ≤ k ∧ k < m + l2.length ∧ l2[k - m]? = some x) ∨ (m + l2.length ≤ k ∧ (l1.drop m)[k - (m + l2.length)]? = some x) := by
  have ht : (l1.take m).length = m := by rw [List.length_take]; omega
  by_cases h1 : k < m
  · left
    rw [List.append_assoc, List.getElem?_append_left (by omega), List.getElem?_take_of_lt h1] at h
    exact ⟨h1, h⟩
  · by_cases h2 : k < m + l2.length
    · right; left
      rw [List.getElem?_append_left (by rw [List.length_append]; omega), List.getElem?_append_right (by omega), ht] at h
      exact ⟨by omega, h2, h⟩
    · right; right
      rw [List.getElem?_append_right (by rw [List.length_append]; omega), List.length_append, ht] at h
      exact ⟨by omega, h⟩

end Go.Proofs.Ytgapdlokljcpbaa
