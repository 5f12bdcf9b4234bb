/- The changed grids of the program and of the specification are the same lists: plain words. -/
import Derived.Test.YtmdgbcepjnfbnaaSpecFlip
import Derived.Test.YtmdgbcepjnfbnaaChanged
namespace Go.Proofs.Ytmdgbcepjnfbnaa
open Go.RowKit

theorem rows_eq (n m : Nat) (L : List UInt8) (f : Nat → Nat → UInt8) (h : ∀ r, r < n → ∀ q, q < m → L[r * m + q]? = some (f r q)) : textsOf n m L = ruleG n m f := by
  unfold textsOf ruleG
  apply List.map_congr_left
  intro r hr
  have hr' : r < n := List.mem_range.1 hr
  unfold rowText
  congr 2
  apply List.ext_getElem?
  intro q
  by_cases hq : q < m
  · rw [List.getElem?_take_of_lt hq, List.getElem?_drop, h r hr' q hq]
    simp [ruleL, hq]
  · rw [List.getElem?_eq_none (by rw [List.length_take]; omega), List.getElem?_eq_none (by rw [ruleL_length]; omega)]
theorem putAll_at {N : Nat} (pos : Nat → Nat) (val : Nat → UInt8) (p : Nat) (v : UInt8) : ∀ (ks : List (Fin N)) (acc : List UInt8), p < acc.length → (∀ x ∈ ks, pos x.val = p → val x.val = v) →
    ((∃ x ∈ ks, pos x.val = p) ∨ acc[p]? = some v) → (putAll pos val ks acc)[p]? = some v
  | [], acc, _, _, h => by
    rcases h with ⟨x, hx, _⟩ | h
    · cases hx
    · exact h
  | k :: ks, acc, hp, hv, h => by
    show (putAll pos val ks (acc.set (pos k.val) (val k.val)))[p]? = some v
    refine putAll_at pos val p v ks _ (by rw [List.length_set]; exact hp) (fun x hx => hv x (List.mem_cons_of_mem _ hx)) ?_
    by_cases hk : pos k.val = p
    · right
      rw [hk, List.getElem?_set_self hp, hv k (by simp) hk]
    · rcases h with ⟨x, hx, hxp⟩ | h
      · rcases List.mem_cons.1 hx with rfl | hx
        · exact absurd hxp hk
        · exact .inl ⟨x, hx, hxp⟩
      · right
        rw [List.getElem?_set_ne hk]; exact h
theorem put_all {N : Nat} (pos : Nat → Nat) (val : Nat → UInt8) (p : Nat) (x0 : Nat) (hx0 : x0 < N) (hp : p < 25) (h0 : pos x0 = p) (hu : ∀ x, x < N → pos x = p → x = x0) : (putAll pos val (List.finRange N) (pad []))[p]? = some (val x0) :=
  putAll_at pos val p _ _ _ (by simpa [pad] using hp) (fun x _ hx => by rw [hu x.val x.isLt hx]) (.inl ⟨⟨x0, hx0⟩, List.mem_finRange _, h0⟩)
theorem mul_inj {m a b r q : Nat} (h : a * m + b = r * m + q) (hb : b < m) (hq : q < m) : a = r ∧ b = q := by
  have hm : 0 < m := by omega
  have e1 : (a * m + b) / m = a := by rw [Nat.mul_comm, Nat.mul_add_div hm, Nat.div_eq_of_lt hb]; rfl
  have e2 : (r * m + q) / m = r := by rw [Nat.mul_comm, Nat.mul_add_div hm, Nat.div_eq_of_lt hq]; rfl
  rw [h, e2] at e1
  subst e1
  exact ⟨rfl, by omega⟩
theorem div_of {m a b : Nat} (hb : b < m) : (a * m + b) / m = a ∧ (a * m + b) % m = b := by
  have hm : 0 < m := by omega
  refine ⟨by rw [Nat.mul_comm, Nat.mul_add_div hm, Nat.div_eq_of_lt hb]; rfl, by rw [Nat.mul_comm, Nat.mul_add_mod, Nat.mod_eq_of_lt hb]⟩
theorem lt_of_parts {n m a b : Nat} (ha : a < n) (hb : b < m) : a * m + b < n * m := by
  have : (a + 1) * m ≤ n * m := Nat.mul_le_mul_right m ha
  rw [Nat.add_mul] at this; omega
theorem pad_getD (fl : List UInt8) (k : Nat) (h : k < fl.length) : (pad fl).getD k 0 = fl.getD k 0 := by
  rw [List.getD_eq_getElem?_getD, List.getD_eq_getElem?_getD, pad, List.getElem?_append_left h]

def flipF (m : Nat) (fl : List UInt8) (r q : Nat) : UInt8 := oth (fl.getD (r * m + (m - 1 - q)) 0)
def otherF (m : Nat) (fl : List UInt8) (r q : Nat) : UInt8 := oth (fl.getD (r * m + q) 0)
def turnF (n m : Nat) (fl : List UInt8) (r q : Nat) : UInt8 := oth (fl.getD ((n - 1 - q) * m + r) 0)

theorem flip_same {n m : Nat} {ss : List ByteArray} (h : IsGrid n m ss) : flipG n m (pad (flat ss)) = ruleG n m (flipF m (flat ss)) := by
  have hn5 := h.2.2.1
  have hm5 := h.2.2.2.2.1
  have hfl := h.flen
  have h25 := h.le25
  refine rows_eq _ _ _ _ fun r hr q hq => ?_
  have hp := lt_of_parts hr hq
  have hx : r * m + (m - 1 - q) < n * m := lt_of_parts hr (by omega)
  have hd := div_of (a := r) (m := m) (b := m - 1 - q) (by omega)
  rw [put_all (flipPos m) (turnVal (pad (flat ss))) (r * m + q) (r * m + (m - 1 - q)) hx (by omega) ?_ ?_]
  · unfold turnVal flipF
    rw [pad_getD _ _ (by rw [hfl]; exact hx)]
  · unfold flipPos
    rw [hd.1, hd.2]; omega
  · intro x hxl hxp
    unfold flipPos at hxp
    have hmod : x % m < m := Nat.mod_lt _ (by omega)
    obtain ⟨e1, e2⟩ := mul_inj hxp (by omega) hq
    have e3 := Nat.div_add_mod x m
    rw [e1, Nat.mul_comm] at e3
    omega
theorem other_same {n m : Nat} {ss : List ByteArray} (h : IsGrid n m ss) : otherG n m (pad (flat ss)) = ruleG n m (otherF m (flat ss)) := by
  have hfl := h.flen
  have h25 := h.le25
  refine rows_eq _ _ _ _ fun r hr q hq => ?_
  have hp := lt_of_parts hr hq
  rw [put_all samePos (turnVal (pad (flat ss))) (r * m + q) (r * m + q) hp (by omega) rfl (fun x _ hx => hx)]
  unfold turnVal otherF
  rw [pad_getD _ _ (by rw [hfl]; exact hp)]
theorem turn_same {n m : Nat} {ss : List ByteArray} (h : IsGrid n m ss) : turnG n m (pad (flat ss)) = ruleG m n (turnF n m (flat ss)) := by
  have hfl := h.flen
  have h25 := h.le25
  refine rows_eq _ _ _ _ fun r hr q hq => ?_
  have hp : r * n + q < m * n := lt_of_parts hr hq
  rw [Nat.mul_comm m n] at hp
  have hx : (n - 1 - q) * m + r < n * m := lt_of_parts (by omega) hr
  have hd := div_of (a := n - 1 - q) (m := m) (b := r) hr
  rw [put_all (turnPos n m) (turnVal (pad (flat ss))) (r * n + q) ((n - 1 - q) * m + r) hx (by omega) ?_ ?_]
  · unfold turnVal turnF
    rw [pad_getD _ _ (by rw [hfl]; exact hx)]
  · unfold turnPos
    rw [hd.1, hd.2]; omega
  · intro x hxl hxp
    unfold turnPos at hxp
    have hdiv : x / m < n := by rw [Nat.div_lt_iff_lt_mul (by omega)]; exact hxl
    have e3 := Nat.div_add_mod x m
    obtain ⟨y, hy⟩ : ∃ y : Nat, x / m = y := ⟨_, rfl⟩
    rw [hy] at hdiv hxp e3
    obtain ⟨e1, e2⟩ := mul_inj hxp (by omega) hq
    obtain rfl : y = n - 1 - q := by omega
    rw [e1, Nat.mul_comm] at e3
    omega

end Go.Proofs.Ytmdgbcepjnfbnaa
