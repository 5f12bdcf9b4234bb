/- Grids turned, exchanged, joined, cut, put, numbered: plain words for the promises of chapter 1. No program is named. -/
import Derived.Test.YtonhnmpgikmlpaaGridQ
import Derived.Test.YtonhnmpgikmlpaaBunW
import Derived.Test.YtonhnmpgikmlpaaBunR
import Derived.Test.YtonhnmpgikmlpaaBunD
namespace Go.Proofs.Ytonhnmpgikmlpaa

theorem beside_grid5 {n m m' : Nat} {ss tt : List ByteArray} (h : IsGrid n m ss) (h' : IsGrid n m' tt) (h5 : m + m' ≤ 5) : IsGrid n (m + m') (ruleG n (m + m') (besideF m m' (flat ss) (flat tt))) := by
  refine rule_grid h.2.1 h.2.2.1 (by have := h.2.2.2.1; omega) h5 fun r hr q hq => ?_
  unfold besideF
  split
  · exact flat_let h hr (by omega)
  · exact flat_let h' hr (by omega)
theorem under_grid5 {n n' m : Nat} {ss tt : List ByteArray} (h : IsGrid n m ss) (h' : IsGrid n' m tt) (h5 : n + n' ≤ 5) : IsGrid (n + n') m (ruleG (n + n') m (underF n m (flat ss) (flat tt))) := by
  refine rule_grid (by have := h.2.1; omega) h5 h.2.2.2.1 h.2.2.2.2.1 fun r hr q hq => ?_
  unfold underF
  split
  · exact flat_let h (by omega) hq
  · exact flat_let h' (by omega) hq
theorem beside_left {n m m' : Nat} {ss tt : List ByteArray} (h : IsGrid n m ss) : ruleG n m (partF (m + m') 0 0 (flat (ruleG n (m + m') (besideF m m' (flat ss) (flat tt))))) = ss := by
  conv => rhs; rw [← grid_rule h]
  refine rule_eq fun r hr q hq => ?_
  show (flat (ruleG n (m + m') (besideF m m' (flat ss) (flat tt)))).getD ((0 + r) * (m + m') + (0 + q)) 0 = _
  rw [Nat.zero_add, Nat.zero_add, rule_flat hr (by omega)]
  unfold besideF
  rw [if_pos hq]
theorem beside_right {n m m' : Nat} {ss tt : List ByteArray} (h' : IsGrid n m' tt) : ruleG n m' (partF (m + m') 0 m (flat (ruleG n (m + m') (besideF m m' (flat ss) (flat tt))))) = tt := by
  conv => rhs; rw [← grid_rule h']
  refine rule_eq fun r hr q hq => ?_
  show (flat (ruleG n (m + m') (besideF m m' (flat ss) (flat tt)))).getD ((0 + r) * (m + m') + (m + q)) 0 = _
  rw [Nat.zero_add, rule_flat hr (by omega)]
  unfold besideF
  rw [if_neg (by omega), show m + q - m = q by omega]
theorem under_turn {n n' m : Nat} {ss tt : List ByteArray} (h : IsGrid n m ss) (h' : IsGrid n' m tt) :
    ruleG m (n + n') (turnF (n + n') m (flat (ruleG (n + n') m (underF n m (flat ss) (flat tt))))) = ruleG m (n' + n) (besideF n' n (flat (ruleG m n' (turnF n' m (flat tt)))) (flat (ruleG m n (turnF n m (flat ss))))) := by
  have hn := h.2.1
  have hn' := h'.2.1
  rw [Nat.add_comm n' n]
  refine rule_eq fun r hr q hq => ?_
  show oth ((flat (ruleG (n + n') m (underF n m (flat ss) (flat tt)))).getD ((n + n' - 1 - q) * m + r) 0) = _
  rw [rule_flat (by omega) hr]
  unfold underF besideF
  by_cases hlt : q < n'
  · rw [if_neg (by omega), if_pos hlt, rule_flat hr hlt]
    unfold turnF
    rw [show n + n' - 1 - q - n = n' - 1 - q by omega]
  · rw [if_pos (by omega), if_neg hlt, rule_flat hr (by omega)]
    unfold turnF
    rw [show n + n' - 1 - q = n - 1 - (q - n') by omega]
theorem part_grid {n m a n1 l m1 : Nat} {ss : List ByteArray} (h : IsGrid n m ss) (h1 : 1 ≤ n1) (h2 : a + n1 ≤ n) (h3 : 1 ≤ m1) (h4 : l + m1 ≤ m) : IsGrid n1 m1 (ruleG n1 m1 (partF m a l (flat ss))) :=
  rule_grid h1 (by have := h.2.2.1; omega) h3 (by have := h.2.2.2.2.1; omega) fun _ hr _ hq => flat_let h (by omega) (by omega)
theorem part_all {n m : Nat} {ss : List ByteArray} (h : IsGrid n m ss) : ruleG n m (partF m 0 0 (flat ss)) = ss := by
  conv => rhs; rw [← grid_rule h]
  refine rule_eq fun r hr q hq => ?_
  unfold partF
  rw [Nat.zero_add, Nat.zero_add]
theorem textsP_flat {n m : Nat} {ss : List ByteArray} (h : IsGrid n m ss) : textsOf n m (pad (flat ss)) = ss := by
  rw [rows_eq n m (pad (flat ss)) (fun r q => (flat ss).getD (r * m + q) 0) (fun r hr q hq => ?_)]
  · exact grid_rule h
  · have hl : r * m + q < (flat ss).length := by rw [h.flen]; exact lt_of_parts hr hq
    rw [pad, List.getElem?_append_left hl, List.getD_eq_getElem?_getD, List.getElem?_eq_getElem hl]
    rfl
/-- A cell put, and the old letter put back. -/
theorem put_back {n m c : Nat} {ss : List ByteArray} {b b0 : UInt8} (h : IsGrid n m ss) (hc : c < n * m) (hb : isLet b = true) (h0 : (flat ss)[c]? = some b0) :
    textsOf n m ((pad (flat (textsOf n m ((pad (flat ss)).set c b)))).set c b0) = ss := by
  rw [(put_grid h hc hb).2, List.set_set]
  have hcl : c < (flat ss).length := by rw [h.flen]; exact hc
  rw [pad_set_in hcl]
  have e : (flat ss).set c b0 = flat ss := by
    apply List.ext_getElem?
    intro i
    by_cases hi : c = i
    · subst hi; rw [List.getElem?_set_self hcl, h0]
    · rw [List.getElem?_set_ne hi]
  rw [e, textsP_flat h]
theorem dig_letD (d : Nat) (h : d < 3) : dig (letD d) = d := by
  rcases (by omega : d = 0 ∨ d = 1 ∨ d = 2) with rfl | rfl | rfl <;> rfl
theorem letD_dig (b : UInt8) (h : isLet b = true) : letD (dig b) = b := by
  simp only [isLet, Bool.or_eq_true, beq_iff_eq] at h
  rcases h with (rfl | rfl) | rfl <;> rfl
theorem letD_let (d : Nat) (h : d < 3) : isLet (letD d) = true := by
  rcases (by omega : d = 0 ∨ d = 1 ∨ d = 2) with rfl | rfl | rfl <;> rfl
theorem ofL_head (k c : Nat) : ofL k (c + 1) = letD (k % 3) :: ofL (k / 3) c := by
  unfold ofL
  rw [List.range_succ_eq_map, List.map_cons, List.map_map]
  congr 1
  · rw [Nat.pow_zero, Nat.div_one]
  · refine List.map_congr_left fun j _ => ?_
    show letD (k / 3 ^ (j + 1) % 3) = letD (k / 3 / 3 ^ j % 3)
    rw [Nat.pow_succ, Nat.div_div_eq_div_mul, Nat.mul_comm]
theorem numOf_ofL : ∀ (c k : Nat), k < 3 ^ c → numOf (ofL k c) = k
  | 0, k, h => by
    have : k = 0 := by simpa using h
    subst this; rfl
  | c + 1, k, h => by
    rw [ofL_head]
    show dig (letD (k % 3)) + 3 * numOf (ofL (k / 3) c) = k
    rw [dig_letD _ (Nat.mod_lt _ (by omega)), numOf_ofL c (k / 3) (by rw [Nat.pow_succ] at h; omega)]
    omega
theorem ofL_numOf : ∀ (fl : List UInt8), (∀ b ∈ fl, isLet b = true) → ofL (numOf fl) fl.length = fl
  | [], _ => rfl
  | b :: fl, h => by
    have hd := dig_le b
    rw [List.length_cons, ofL_head]
    show letD ((dig b + 3 * numOf fl) % 3) :: ofL ((dig b + 3 * numOf fl) / 3) fl.length = b :: fl
    rw [show (dig b + 3 * numOf fl) % 3 = dig b by omega, show (dig b + 3 * numOf fl) / 3 = numOf fl by omega, letD_dig b (h b (by simp)), ofL_numOf fl (fun x hx => h x (by simp [hx]))]
theorem of_flat {n m k : Nat} (hm : 0 < m) : flat (ruleG n m (ofF m k)) = ofL k (n * m) := by
  rw [← of_same, (flat_texts hm (ofL_length _ _)).1]
theorem of_grid2 {n m k : Nat} (hn : 1 ≤ n) (hn5 : n ≤ 5) (hm : 1 ≤ m) (hm5 : m ≤ 5) : IsGrid n m (ruleG n m (ofF m k)) :=
  rule_grid hn hn5 hm hm5 fun _ _ _ _ => letD_let _ (Nat.mod_lt _ (by omega))
theorem of_num {n m : Nat} {ss : List ByteArray} (h : IsGrid n m ss) : ruleG n m (ofF m (numOf (flat ss))) = ss := by
  rw [← of_same, show ofL (numOf (flat ss)) (n * m) = flat ss by rw [← h.flen]; exact ofL_numOf _ h.lets, textsP_flat h]
end Go.Proofs.Ytonhnmpgikmlpaa
