/- sameTexts on equal lists; grids changed twice: plain words. -/
import Derived.Test.YtongjijkdjagdaaDoorBunF
namespace Go.Proofs.YtongjijkdjagdaaDoor
open Go.RowKit

theorem oth_oth (b : UInt8) : oth (oth b) = b := by
  unfold oth
  by_cases h1 : b = 114
  · subst h1; rfl
  · by_cases h2 : b = 102
    · subst h2; rfl
    · rw [if_neg h1, if_neg h2, if_neg h1, if_neg h2]
theorem oth_let (b : UInt8) (h : isLet b = true) : isLet (oth b) = true := by
  simp only [isLet, Bool.or_eq_true, beq_iff_eq] at h
  rcases h with (rfl | rfl) | rfl <;> rfl
theorem rule_eq {n m : Nat} {f g : Nat → Nat → UInt8} (h : ∀ r, r < n → ∀ q, q < m → f r q = g r q) : ruleG n m f = ruleG n m g := by
  unfold ruleG
  apply List.map_congr_left
  intro r hr
  congr 2
  unfold ruleL
  apply List.map_congr_left
  intro q hq
  exact h r (List.mem_range.1 hr) q (List.mem_range.1 hq)
theorem rule_at {n m r : Nat} {f : Nat → Nat → UInt8} (hr : r < n) : (ruleG n m f)[r]? = some ⟨(ruleL m (f r)).toArray⟩ := by simp [ruleG, hr]
theorem rule_flat {n m r q : Nat} {f : Nat → Nat → UInt8} (hr : r < n) (hq : q < m) : (flat (ruleG n m f)).getD (r * m + q) 0 = f r q := by
  have e := flat_at (m := m) (ruleG n m f) r q ⟨(ruleL m (f r)).toArray⟩ (fun i t hi ht => by
    rw [rule_at (by omega)] at ht
    cases ht
    rw [Lib.size_eq]; simp [ruleL]) (rule_at hr) (by rw [Lib.size_eq]; simpa [ruleL] using hq)
  rw [List.getD_eq_getElem?_getD, e]
  simp [ruleL, hq]
theorem rule_grid {n m : Nat} {f : Nat → Nat → UInt8} (hn : 1 ≤ n) (hn5 : n ≤ 5) (hm : 1 ≤ m) (hm5 : m ≤ 5) (hf : ∀ r, r < n → ∀ q, q < m → isLet (f r q) = true) : IsGrid n m (ruleG n m f) := by
  refine ⟨ruleG_length _ _ _, hn, hn5, hm, hm5, fun s hs => ?_⟩
  obtain ⟨r, hr, rfl⟩ := List.mem_map.1 hs
  refine ⟨by rw [Lib.size_eq]; simp [ruleL], fun b hb => ?_⟩
  obtain ⟨q, hq, rfl⟩ := List.mem_map.1 hb
  exact hf r (List.mem_range.1 hr) q (List.mem_range.1 hq)
theorem grid_rule {n m : Nat} {ss : List ByteArray} (h : IsGrid n m ss) : ruleG n m (fun r q => (flat ss).getD (r * m + q) 0) = ss := by
  apply List.ext_getElem?
  intro r
  by_cases hr : r < n
  · have hrs : r < ss.length := by rw [h.1]; exact hr
    have hk := List.getElem?_eq_getElem hrs
    have hsz : (ss[r]).size = m := (h.2.2.2.2.2 _ (List.mem_of_getElem? hk)).1
    have hlen : (ss[r]).data.toList.length = m := by rw [← Lib.size_eq]; exact hsz
    rw [rule_at hr, hk]
    congr 1
    have e : ruleL m (fun q => (flat ss).getD (r * m + q) 0) = (ss[r]).data.toList := by
      apply List.ext_getElem?
      intro q
      by_cases hq : q < m
      · have e2 := flat_at ss r q _ (fun i t _ ht => (h.2.2.2.2.2 t (List.mem_of_getElem? ht)).1) hk (by rw [hsz]; exact hq)
        obtain ⟨x, hx⟩ : ∃ x, (ss[r]).data.toList[q]? = some x := ⟨((ss[r]).data.toList)[q]'(by omega), List.getElem?_eq_getElem (l := (ss[r]).data.toList) (by omega)⟩
        rw [hx] at e2 ⊢
        simp only [ruleL, List.getElem?_map, List.getElem?_range hq, Option.map_some, List.getD_eq_getElem?_getD, e2, Option.getD_some]
      · rw [List.getElem?_eq_none (by rw [ruleL_length]; omega), List.getElem?_eq_none (by omega)]
    rw [e]
  · rw [List.getElem?_eq_none (by rw [ruleG_length]; omega), List.getElem?_eq_none (by rw [h.1]; omega)]
theorem flat_let {n m r q : Nat} {ss : List ByteArray} (h : IsGrid n m ss) (hr : r < n) (hq : q < m) : isLet ((flat ss).getD (r * m + q) 0) = true := by
  have hl : r * m + q < (flat ss).length := by rw [h.flen]; exact lt_of_parts hr hq
  rw [List.getD_eq_getElem?_getD, List.getElem?_eq_getElem hl]
  exact h.lets _ (List.getElem_mem hl)

/-- The grid flipped, turned: they are grids. -/
theorem flip_grid {n m : Nat} {ss : List ByteArray} (h : IsGrid n m ss) : IsGrid n m (ruleG n m (flipF m (flat ss))) :=
  rule_grid h.2.1 h.2.2.1 h.2.2.2.1 h.2.2.2.2.1 fun _ hr _ _ => oth_let _ (flat_let h hr (by have := h.2.2.2.1; omega))
theorem turn_grid {n m : Nat} {ss : List ByteArray} (h : IsGrid n m ss) : IsGrid m n (ruleG m n (turnF n m (flat ss))) :=
  rule_grid h.2.2.2.1 h.2.2.2.2.1 h.2.1 h.2.2.1 fun _ hr _ _ => oth_let _ (flat_let h (by have := h.2.1; omega) hr)
/-- Flipped twice: the grid. -/
theorem flip_flip {n m : Nat} {ss : List ByteArray} (h : IsGrid n m ss) : ruleG n m (flipF m (flat (ruleG n m (flipF m (flat ss))))) = ss := by
  conv => rhs; rw [← grid_rule h]
  refine rule_eq fun r hr q hq => ?_
  show oth ((flat (ruleG n m (flipF m (flat ss)))).getD (r * m + (m - 1 - q)) 0) = _
  rw [rule_flat hr (by omega)]
  unfold flipF
  rw [oth_oth, show m - 1 - (m - 1 - q) = q by omega]
/-- Turned, flipped, turned: flipped. -/
theorem turn_flip_turn {n m : Nat} {ss : List ByteArray} (h : IsGrid n m ss) : ruleG n m (turnF m n (flat (ruleG m n (flipF n (flat (ruleG m n (turnF n m (flat ss)))))))) = ruleG n m (flipF m (flat ss)) := by
  have hn := h.2.1
  have hm := h.2.2.2.1
  refine rule_eq fun r hr q hq => ?_
  show oth ((flat (ruleG m n (flipF n (flat (ruleG m n (turnF n m (flat ss))))))).getD ((m - 1 - q) * n + r) 0) = _
  rw [rule_flat (by omega) hr]
  show oth (oth ((flat (ruleG m n (turnF n m (flat ss)))).getD ((m - 1 - q) * n + (n - 1 - r)) 0)) = _
  rw [rule_flat (by omega) (by omega), oth_oth]
  unfold turnF flipF
  rw [show n - 1 - (n - 1 - r) = r by omega]

end Go.Proofs.YtongjijkdjagdaaDoor
