/- Sorted lists of integers; the library's sort on a slice of the call's own. -/
import Derived.Test.YtgildagmliadeaaBunE
import Derived.Test.YtgildagmliadeaaSortLay
import Derived.Sort.OwnSortedInts
namespace Go.Proofs.Ytgildagmliadeaa
open Go.RowKit Go.Shelf

/-- The integers in order. -/
def sortI (l : List Int) : List Int := l.mergeSort fun x y => decide (x ≤ y)
theorem sortI_perm (l : List Int) : (sortI l).Perm l := List.mergeSort_perm l _
theorem sortI_length (l : List Int) : (sortI l).length = l.length := (sortI_perm l).length_eq
theorem sortI_of {l l' : List Int} (hp : l'.Perm l) (hs : l'.Pairwise (· ≤ ·)) : l' = sortI l := by
  refine List.Perm.eq_of_pairwise (le := fun a b : Int => a ≤ b) (fun a b _ _ h1 h2 => by omega) hs ?_ (hp.trans (sortI_perm l).symm)
  have h := List.pairwise_mergeSort (le := fun x y : Int => decide (x ≤ y)) (fun a b c h1 h2 => by simp at *; omega) (fun a b => by simp; omega) l
  exact h.imp (fun h => by simpa using h)
/-- An integer put between those that are not greater and those that are greater. -/
theorem ins_sorted {l : List Int} {x : Int} {k : Nat} (hs : l.Pairwise (· ≤ ·)) (hk : k ≤ l.length) (h1 : ∀ j v, k ≤ j → l[j]? = some v → x ≤ v) (h2 : ∀ v, 0 < k → l[k - 1]? = some v → v ≤ x) : (l.take k ++ [x] ++ l.drop k).Pairwise (· ≤ ·) := by
  have hlow : ∀ a ∈ l.take k, a ≤ x := fun a ha => by
    obtain ⟨i, hi, rfl⟩ := List.getElem_of_mem ha
    rw [List.length_take] at hi
    rw [List.getElem_take]
    have hk1 : k - 1 < l.length := by omega
    have h3 := h2 _ (by omega) (List.getElem?_eq_getElem hk1)
    rcases Nat.lt_or_ge i (k - 1) with h4 | h4
    · have := (List.pairwise_iff_getElem.1 hs) i (k - 1) (by omega) hk1 h4
      omega
    · have e : i = k - 1 := by omega
      subst e
      exact h3
  have hhigh : ∀ a ∈ l.drop k, x ≤ a := fun a ha => by
    obtain ⟨i, hi, rfl⟩ := List.getElem_of_mem ha
    rw [List.length_drop] at hi
    rw [List.getElem_drop]
    exact h1 (k + i) _ (by omega) (List.getElem?_eq_getElem (by omega))
  rw [List.append_assoc, List.pairwise_append]
  refine ⟨hs.sublist (List.take_sublist _ _), ?_, fun a ha b hb => ?_⟩
  · rw [List.singleton_append, List.pairwise_cons]
    exact ⟨hhigh, hs.sublist (List.drop_sublist _ _)⟩
  · rw [List.singleton_append, List.mem_cons] at hb
    rcases hb with rfl | hb
    · exact hlow a ha
    · have := hlow a ha
      have := hhigh b hb
      omega
theorem ins_perm (l : List Int) (x : Int) (k : Nat) : (l.take k ++ [x] ++ l.drop k).Perm (l ++ [x]) := by
  have h1 : (l.take k ++ [x] ++ l.drop k).Perm (l.take k ++ (l.drop k ++ [x])) := by
    rw [List.append_assoc]
    exact List.Perm.append_left _ List.perm_append_comm
  rw [← List.append_assoc, List.take_append_drop] at h1
  exact h1

set_option maxRecDepth 100000 in
theorem sort_any (base g cap : Nat) (l : List Int) (w : World) (h : GrowI w base (.slice (some ⟨g, 0, none⟩) l.length cap) l) (hl : l.length ≤ 1000000) :
    Calls Try.prog 98 #[.slice (some ⟨g, 0, none⟩) l.length cap] w fun e w' => e = .returned (.tuple #[]) ∧ GrowI w' base (.slice (some ⟨g, 0, none⟩) l.length cap) (sortI l) ∧ w.grownBy w' (some g) := by
  rcases h.2 with ⟨h0, _⟩ | ⟨g', cap', cur, hv, hbase, hb, h1, h2, h3, h4⟩
  · cases h0
  cases hv
  rw [Nat.mul_one] at h4
  have hH := holds_of_blockI (ss := l) hb h4
  have hc : Calls Try.prog 98 #[.slice (some ⟨g, 0, none⟩) l.length cap] w _ := calls_of_every_depth fun D => AnyS.slices_Sort_int_in Try.lays189 D g 0 cap l w hH (lt_of_block hb) (by omega)
  refine hc.mono ?_
  rintro e w' ⟨rfl, n, os, rfl⟩
  refine ⟨rfl, ?_, grownBy_sortedI _⟩
  have h5 := ownsRow_sortedI (n := n) (os := os) (ts := sortI l) (ss := l) (sortI_length l) hbase hb h1 h2 h3
  unfold GrowI
  rw [sortI_length]
  exact h5
end Go.Proofs.Ytgildagmliadeaa
