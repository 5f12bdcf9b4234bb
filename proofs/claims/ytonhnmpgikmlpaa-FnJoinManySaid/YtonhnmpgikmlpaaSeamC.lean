/- Columns joined tell the grid's pairs and rounds. -/
import Derived.Test.YtonhnmpgikmlpaaSeamQ
import Derived.Test.YtonhnmpgikmlpaaBunL
namespace Go.Proofs.Ytonhnmpgikmlpaa

theorem col_lett {n m k : Nat} {ss : List ByteArray} (hg : IsGrid n m ss) (hk : k < m) {i : Int} (h1 : 0 ≤ i) (h2 : i < n) : lett 1 (pad (flat (colT n m k ss))) i 0 = lett m (pad (flat ss)) i k := by
  obtain ⟨r, rfl⟩ := Int.eq_ofNat_of_zero_le h1
  have hr : r < n := by omega
  have hcg := colT_grid hg hk
  have hlt : r * 1 + 0 < (flat (colT n m k ss)).length := by rw [hcg.flen]; exact parts_lt hr (by omega)
  have hlt2 : r * m + k < (flat ss).length := by rw [hg.flen]; exact parts_lt hr hk
  unfold lett pad
  rw [show ((r : Int) * ((1 : Nat) : Int) + 0).toNat = r * 1 + 0 by omega, show ((r : Int) * (m : Int) + (k : Int)).toNat = r * m + k by rw [← Int.natCast_mul, ← Int.natCast_add, Int.toNat_natCast], List.getD_eq_getElem?_getD, List.getD_eq_getElem?_getD, List.getElem?_append_left hlt, List.getElem?_append_left hlt2, ← List.getD_eq_getElem?_getD, ← List.getD_eq_getElem?_getD]
  unfold colT
  rw [rule_flat hr (by omega)]
  show (flat ss).getD ((0 + r) * m + (k + 0)) 0 = _
  rw [Nat.zero_add, Nat.add_zero]
theorem col_beside {n m c : Nat} {ss : List ByteArray} (hg : IsGrid n m ss) (hc : c + 1 < m) : Beside2 n (c + 1) 1 (lett m (pad (flat ss))) (lett 1 (pad (flat (colT n m (c + 1) ss)))) (lett m (pad (flat ss))) where
  l _ _ _ _ _ _ := rfl
  r i c' h1 h2 h3 h4 := by
    obtain rfl : c' = 0 := by omega
    rw [col_lett hg hc h1 h2, Int.zero_add]
/-- The columns, joined. -/
theorem cols_pairs {n m : Nat} {ss : List ByteArray} (hg : IsGrid n m ss) : ∀ c, c < m → colsL n m ss c = pairsR n (c + 1) (lett m (pad (flat ss))) ∧ colsR n m ss c = (leads n (c + 1) (lett m (pad (flat ss)))).length
  | 0, h => by
    have hn := hg.2.1
    have hs : ∀ i k : Int, 0 ≤ i → i < n → 0 ≤ k → k < ((1 : Nat) : Int) → lett 1 (pad (flat (colT n m 0 ss))) i k = lett m (pad (flat ss)) i k := fun i k h1 h2 h3 h4 => by
      obtain rfl : k = 0 := by omega
      exact col_lett hg h h1 h2
    refine ⟨pairs_same hs hn (Nat.le_refl _), ?_⟩
    show 0 = _
    rw [← leads_same hs, no_lead fun c _ => col_onR hn (wayN_d c)]
    rfl
  | c + 1, h => by
    have hn := hg.2.1
    obtain ⟨e1, e2⟩ := cols_pairs hg c (by omega)
    have B := col_beside hg h
    have h1 := B.pairs hn (by omega) (Nat.le_refl _)
    have h2 := B.many hn (by omega) (Nat.le_refl _)
    have hz : (leads n 1 (lett 1 (pad (flat (colT n m (c + 1) ss))))).length = 0 := by rw [no_lead fun c _ => col_onR hn (wayN_d c)]; rfl
    refine ⟨?_, ?_⟩
    · show joinedL n (c + 1) (colsL n m ss c) (pairsR n 1 _) = _
      rw [e1]
      exact h1
    · show colsR n m ss c + joinedR n (c + 1) (colsL n m ss c) (pairsR n 1 _) = _
      rw [e1, e2, h2, hz]
      omega
end Go.Proofs.Ytonhnmpgikmlpaa
