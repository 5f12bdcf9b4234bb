/- Grids turned and exchanged, sums over cells: plain words for the promises. No program is named. -/
import Derived.Test.YtongjijkdjagdaaDoorTwice
import Derived.Test.YtongjijkdjagdaaDoorBunB
import Derived.Test.YtongjijkdjagdaaDoorBunD
import Derived.Test.YtongjijkdjagdaaDoorSumQ
namespace Go.Proofs.YtongjijkdjagdaaDoor

/-- The cells of a letter. -/
theorem cnt_rule (b : UInt8) (n m : Nat) (f : Nat → Nat → UInt8) : cntOf b (flat (ruleG n m f)) = sumN (fun r => sumN (fun q => if (f r q == b) = true then 1 else 0) m) n := by
  unfold cntOf flat ruleG
  induction n with
  | zero => rfl
  | succ n ih =>
    rw [List.range_succ, List.map_append, List.flatMap_append, List.countP_append, ih, sumN]
    congr 1
    rw [← countP_range, List.map_singleton, List.flatMap_singleton]
    show (ruleL m (f n)).countP _ = _
    unfold ruleL
    rw [List.countP_map]
    rfl
theorem oth_46 (b : UInt8) : (oth b == 46) = (b == 46) := by
  by_cases h1 : b = 114
  · subst h1; rfl
  · by_cases h2 : b = 102
    · subst h2; rfl
    · unfold oth; rw [if_neg h1, if_neg h2]
theorem cnt_grid {n m : Nat} {ss : List ByteArray} (h : IsGrid n m ss) (b : UInt8) : cntOf b (flat ss) = sumN (fun r => sumN (fun q => if ((flat ss).getD (r * m + q) 0 == b) = true then 1 else 0) m) n := by
  conv => lhs; rw [← grid_rule h]
  exact cnt_rule b n m _
theorem turn_emp {n m : Nat} {ss : List ByteArray} (h : IsGrid n m ss) : cntOf 46 (flat (ruleG m n (turnF n m (flat ss)))) = cntOf 46 (flat ss) := by
  rw [cnt_rule, cnt_grid h, sumN_swap2]
  rw [← sumN_rev n (fun r => sumN (fun q => if ((flat ss).getD (r * m + q) 0 == 46) = true then 1 else 0) m)]
  refine sumN_congr n fun q _ => sumN_congr m fun r _ => ?_
  unfold turnF
  rw [oth_46]
theorem other_emp {n m : Nat} {ss : List ByteArray} (h : IsGrid n m ss) : cntOf 46 (flat (ruleG n m (otherF m (flat ss)))) = cntOf 46 (flat ss) := by
  rw [cnt_rule, cnt_grid h]
  refine sumN_congr n fun q _ => sumN_congr m fun r _ => ?_
  unfold otherF
  rw [oth_46]
/-- The mirrors and the empty cells are all. -/
theorem mir_emp {n m : Nat} {ss : List ByteArray} (h : IsGrid n m ss) : cntOf 114 (flat ss) + cntOf 102 (flat ss) + cntOf 46 (flat ss) = n * m := by
  have h1 := mirr_two (flat ss) h.lets
  have h2 := mirr_all (flat ss)
  rw [h.flen] at h2
  omega
theorem other_grid {n m : Nat} {ss : List ByteArray} (h : IsGrid n m ss) : IsGrid n m (ruleG n m (otherF m (flat ss))) :=
  rule_grid h.2.1 h.2.2.1 h.2.2.2.1 h.2.2.2.2.1 fun _ hr _ hq => oth_let _ (flat_let h hr hq)
theorem other_other {n m : Nat} {ss : List ByteArray} (h : IsGrid n m ss) : ruleG n m (otherF m (flat (ruleG n m (otherF m (flat ss))))) = ss := by
  conv => rhs; rw [← grid_rule h]
  refine rule_eq fun r hr q hq => ?_
  show oth ((flat (ruleG n m (otherF m (flat ss)))).getD (r * m + q) 0) = _
  rw [rule_flat hr hq]
  unfold otherF
  rw [oth_oth]
theorem turn_other {n m : Nat} {ss : List ByteArray} (h : IsGrid n m ss) : ruleG m n (otherF n (flat (ruleG m n (turnF n m (flat ss))))) = ruleG m n (turnF n m (flat (ruleG n m (otherF m (flat ss))))) := by
  have hn := h.2.1
  refine rule_eq fun r hr q hq => ?_
  show oth ((flat (ruleG m n (turnF n m (flat ss)))).getD (r * n + q) 0) = oth ((flat (ruleG n m (otherF m (flat ss)))).getD ((n - 1 - q) * m + r) 0)
  rw [rule_flat hr hq, rule_flat (by omega) hr]
  rfl
/-- Turned four times. -/
theorem turn_four {n m : Nat} {ss : List ByteArray} (h : IsGrid n m ss) : ruleG n m (turnF m n (flat (ruleG m n (turnF n m (flat (ruleG n m (turnF m n (flat (ruleG m n (turnF n m (flat ss)))))))))))  = ss := by
  have hn := h.2.1
  have hm := h.2.2.2.1
  conv => rhs; rw [← grid_rule h]
  refine rule_eq fun r hr q hq => ?_
  show oth ((flat (ruleG m n (turnF n m (flat (ruleG n m (turnF m n (flat (ruleG m n (turnF n m (flat ss)))))))))).getD ((m - 1 - q) * n + r) 0) = _
  rw [rule_flat (by omega) hr]
  show oth (oth ((flat (ruleG n m (turnF m n (flat (ruleG m n (turnF n m (flat ss))))))).getD ((n - 1 - r) * m + (m - 1 - q)) 0)) = _
  rw [rule_flat (by omega) (by omega), oth_oth]
  show oth ((flat (ruleG m n (turnF n m (flat ss)))).getD ((m - 1 - (m - 1 - q)) * n + (n - 1 - r)) 0) = _
  rw [rule_flat (by omega) (by omega)]
  unfold turnF
  rw [oth_oth, show n - 1 - (n - 1 - r) = r by omega, show m - 1 - (m - 1 - q) = q by omega]
end Go.Proofs.YtongjijkdjagdaaDoor
