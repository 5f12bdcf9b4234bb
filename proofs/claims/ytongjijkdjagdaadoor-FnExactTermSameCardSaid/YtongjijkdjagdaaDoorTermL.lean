/- The letters of changed grids as the program keeps them, in plain words. -/
import Derived.Test.YtongjijkdjagdaaDoorTermG
import Derived.Test.YtongjijkdjagdaaDoorBunD
import Derived.Test.YtongjijkdjagdaaDoorBunC
import Derived.Test.YtongjijkdjagdaaDoorBunW
namespace Go.Proofs.YtongjijkdjagdaaDoor
open Go.RowKit

theorem texts_get {K M r q : Nat} {L : List UInt8} {f : Nat → Nat → UInt8} (h : textsOf K M L = ruleG K M f) (hr : r < K) (hq : q < M) : L[r * M + q]? = some (f r q) := by
  have e1 : (textsOf K M L)[r]? = some (rowText M L r) := textsOf_at hr
  rw [h, rule_at hr] at e1
  have e2 := congrArg (fun s : ByteArray => s.data.toList[q]?) (Option.some.inj e1)
  simp only [rowText] at e2
  rw [List.getElem?_take_of_lt hq, List.getElem?_drop] at e2
  rw [← e2]
  simp [ruleL, hq]
theorem pad_of_texts {K M : Nat} {L : List UInt8} {f : Nat → Nat → UInt8} (h25 : K * M ≤ 25) (hl : L.length = 25) (hz : ∀ p, K * M ≤ p → p < 25 → L[p]? = some 0) (h : textsOf K M L = ruleG K M f) : L = pad (flat (ruleG K M f)) := by
  have hfl : (flat (ruleG K M f)).length = K * M := by
    rw [flat_length (m := M) _ (fun s hs => ?_), ruleG_length]
    obtain ⟨r, hr, rfl⟩ := List.mem_map.1 hs
    show (ruleL M (f r)).toArray.size = M
    simp [ruleL_length]
  refine List.ext_getElem? fun p => ?_
  by_cases hp : p < K * M
  · have hM : 0 < M := by
      rcases Nat.eq_zero_or_pos M with e | e
      · subst e; omega
      · exact e
    have hr : p / M < K := by rw [Nat.div_lt_iff_lt_mul hM]; exact hp
    have hq : p % M < M := Nat.mod_lt _ hM
    have e := Nat.div_add_mod p M
    rw [Nat.mul_comm] at e
    have h1 := texts_get h hr hq
    have h2 : (flat (ruleG K M f)).getD (p / M * M + p % M) 0 = f (p / M) (p % M) := rule_flat hr hq
    rw [e] at h1 h2
    rw [h1, pad, List.getElem?_append_left (by omega), ← h2, List.getD_eq_getElem?_getD, List.getElem?_eq_getElem (by omega)]
    rfl
  · by_cases h2 : p < 25
    · rw [hz p (by omega) h2, pad, List.getElem?_append_right (by omega), List.getElem?_replicate, if_pos (by omega)]
    · rw [List.getElem?_eq_none (by omega), List.getElem?_eq_none (by rw [pad_length (by omega)]; omega)]
theorem put_zero {N p : Nat} (pos : Nat → Nat) (val : Nat → UInt8) (acc : List UInt8) (hp : acc[p]? = some 0) (hn : ∀ x, x < N → pos x ≠ p) : (putAll pos val (List.finRange N) acc)[p]? = some 0 :=
  putAll_at pos val p 0 _ acc (List.getElem?_eq_some_iff.1 hp).1 (fun x _ hx => absurd hx (hn x.val x.isLt)) (.inr hp)
theorem pad_nil_at {p : Nat} (h : p < 25) : (pad [])[p]? = some 0 := by
  unfold pad
  rw [List.nil_append, List.getElem?_replicate, if_pos (by simpa using h)]
theorem pad_turn {n m : Nat} {ss : List ByteArray} (h : IsGrid n m ss) : putAll (turnPos n m) (turnVal (pad (flat ss))) (List.finRange (n * m)) (pad []) = pad (flat (ruleG m n (turnF n m (flat ss)))) := by
  have h25 := h.le25
  have hn := h.2.1
  have hm := h.2.2.2.1
  refine pad_of_texts (by rw [Nat.mul_comm]; exact h25) (by rw [putAll_length]; rfl) (fun p h1 h2 => put_zero _ _ _ (pad_nil_at h2) fun x hx e => ?_) (turn_same h)
  unfold turnPos at e
  have e1 : x % m < m := Nat.mod_lt _ (by omega)
  have e2 := lt_of_parts (n := m) (m := n) (a := x % m) (b := n - 1 - x / m) e1 (Nat.lt_of_le_of_lt (Nat.sub_le _ _) (by omega))
  omega
theorem pad_flip {n m : Nat} {ss : List ByteArray} (h : IsGrid n m ss) : putAll (flipPos m) (turnVal (pad (flat ss))) (List.finRange (n * m)) (pad []) = pad (flat (ruleG n m (flipF m (flat ss)))) := by
  have h25 := h.le25
  have hm := h.2.2.2.1
  refine pad_of_texts h25 (by rw [putAll_length]; rfl) (fun p h1 h2 => put_zero _ _ _ (pad_nil_at h2) fun x hx e => ?_) (flip_same h)
  unfold flipPos at e
  have e1 : x / m < n := by rw [Nat.div_lt_iff_lt_mul (by omega)]; exact hx
  have e2 := lt_of_parts (n := n) (m := m) (a := x / m) (b := m - 1 - x % m) e1 (by omega)
  omega
theorem pad_other {n m : Nat} {ss : List ByteArray} (h : IsGrid n m ss) : putAll samePos (turnVal (pad (flat ss))) (List.finRange (n * m)) (pad []) = pad (flat (ruleG n m (otherF m (flat ss)))) := by
  refine pad_of_texts h.le25 (by rw [putAll_length]; rfl) (fun p h1 h2 => put_zero _ _ _ (pad_nil_at h2) fun x hx e => ?_) (other_same h)
  unfold samePos at e
  omega
theorem pad_beside {n m k : Nat} {ss tt : List ByteArray} (h : IsGrid n m ss) (h' : IsGrid n k tt) (h5 : m + k ≤ 5) : joinG n m n k (m + k) 0 m (pad (flat ss)) (pad (flat tt)) = pad (flat (ruleG n (m + k) (besideF m k (flat ss) (flat tt)))) := by
  have h1 := h.2.2.1
  have hm := h.2.2.2.1
  have hk := h'.2.2.2.1
  have h25 : n * (m + k) ≤ 5 * 5 := Nat.mul_le_mul h1 h5
  refine pad_of_texts h25 (by unfold joinG; rw [putAll_length, putAll_length]; rfl) (fun p g1 g2 => put_zero _ _ _ (put_zero _ _ _ (pad_nil_at g2) fun x hx e => ?_) fun x hx e => ?_) (beside_same h h' h5)
  · unfold joinPos at e
    have e1 : x / m < n := by rw [Nat.div_lt_iff_lt_mul (by omega)]; exact hx
    have e3 : x % m < m := Nat.mod_lt _ (by omega)
    have e2 := lt_of_parts (n := n) (m := m + k) (a := 0 + x / m) (b := 0 + x % m) (by omega) (by omega)
    omega
  · unfold joinPos at e
    have e1 : x / k < n := by rw [Nat.div_lt_iff_lt_mul (by omega)]; exact hx
    have e3 : x % k < k := Nat.mod_lt _ (by omega)
    have e2 := lt_of_parts (n := n) (m := m + k) (a := 0 + x / k) (b := m + x % k) (by omega) (by omega)
    omega
theorem pad_under {n k m : Nat} {ss tt : List ByteArray} (h : IsGrid n m ss) (h' : IsGrid k m tt) (h5 : n + k ≤ 5) : joinG n m k m m n 0 (pad (flat ss)) (pad (flat tt)) = pad (flat (ruleG (n + k) m (underF n m (flat ss) (flat tt)))) := by
  have h1 := h.2.2.2.2.1
  have hm := h.2.2.2.1
  have h25 : (n + k) * m ≤ 5 * 5 := Nat.mul_le_mul h5 h1
  refine pad_of_texts h25 (by unfold joinG; rw [putAll_length, putAll_length]; rfl) (fun p g1 g2 => put_zero _ _ _ (put_zero _ _ _ (pad_nil_at g2) fun x hx e => ?_) fun x hx e => ?_) (under_same h h' h5)
  · unfold joinPos at e
    have e1 : x / m < n := by rw [Nat.div_lt_iff_lt_mul (by omega)]; exact hx
    have e3 : x % m < m := Nat.mod_lt _ (by omega)
    have e2 := lt_of_parts (n := n + k) (m := m) (a := 0 + x / m) (b := 0 + x % m) (by omega) (by omega)
    omega
  · unfold joinPos at e
    have e1 : x / m < k := by rw [Nat.div_lt_iff_lt_mul (by omega)]; exact hx
    have e3 : x % m < m := Nat.mod_lt _ (by omega)
    have e2 := lt_of_parts (n := n + k) (m := m) (a := n + x / m) (b := 0 + x % m) (by omega) (by omega)
    omega
end Go.Proofs.YtongjijkdjagdaaDoor
