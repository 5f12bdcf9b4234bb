/- Grids seen from elsewhere: beams carried over, for grids turned and flipped. No program is named. -/
import Derived.Test.YtminailbhgimkaaSymQ
namespace Go.Proofs.Ytminailbhgimkaa

section
variable {n m n' m' : Nat} {t t' : Int → Int → UInt8} {φ : Wy → Wy} {π : Nat → Nat}
theorem entr_inj {n m p q : Nat} (hp : p < 2 * (n + m)) (hq : q < 2 * (n + m)) (e : entr n m p = entr n m q) : p = q := by
  have h1 := (entr_back (t := fun _ _ => 46) hp).2
  have h2 := (entr_back (t := fun _ _ => 46) hq).2
  rw [e] at h1
  omega
/-- A beam of a grid seen from elsewhere. -/
theorem Sym.beam (S : Sym n m t n' m' t' φ) (hn : 1 ≤ n) (hm : 1 ≤ m) (hn' : 1 ≤ n') (hm' : 1 ≤ m') (hπ : ∀ p, p < 2 * (n + m) → π p < 2 * (n' + m') ∧ φ (entr n m p) = entr n' m' (π p)) {p : Nat} (hp : p < 2 * (n + m)) :
    blen n' m' t' (π p) = blen n m t p ∧ bend_ n' m' t' (π p) = π (bend_ n m t p) ∧ ∀ j, j ≤ blen n m t p → bway n' m' t' (π p) j = φ (bway n m t p j) := by
  obtain ⟨hp', he⟩ := hπ p hp
  have hw : ∀ j, j ≤ blen n m t p → bway n' m' t' (π p) j = φ (bway n m t p j) := fun j hj => by
    unfold bway
    rw [← he]
    exact (S.iter (entr_d n m p) j fun i hi => blen_in (t := t) (p := p) (by omega)).symm
  have hL : blen n' m' t' (π p) = blen n m t p := blen_of hp' (fun j hj => by
      rw [hw j (by omega)]; exact (S.inn _).2 (blen_in hj)) (by
      rw [hw _ (Nat.le_refl _), S.inn]; exact blen_out hp)
  refine ⟨hL, ?_, hw⟩
  have hpos := blen_pos (t := t) hn hm hp
  have f1 := bend_facts (t := t) hn hm hp
  have f2 := bend_facts (t := t') hn' hm' hp'
  obtain ⟨hb', hbe⟩ := hπ _ f1.2.1
  refine entr_inj f2.2.1 hb' ?_
  rw [f2.2.2, hL, hw _ (by omega), ← hbe, f1.2.2]
  exact (S.rv _ (bway_d p _) (blen_in (by omega))).symm
end
section
variable {n m : Nat} {t t' : Int → Int → UInt8}
theorem turn_port {p : Nat} (hn : 1 ≤ n) (hm : 1 ≤ m) (hp : p < 2 * (n + m)) : (p + n) % (2 * (n + m)) < 2 * (m + n) ∧ turnW n (entr n m p) = entr m n ((p + n) % (2 * (n + m))) := by
  refine ⟨by have := Nat.mod_lt (p + n) (show 0 < 2 * (n + m) by omega); omega, ?_⟩
  by_cases h4 : p < 2 * m + n
  · rw [Nat.mod_eq_of_lt (by omega)]
    unfold entr turnW
    by_cases h1 : p < m
    · rw [if_pos h1, if_neg (by omega), if_pos (by omega)]
      refine Wy.eq ?_ ?_ ?_ <;> simp only <;> omega
    · rw [if_neg h1]
      by_cases h2 : p < m + n
      · rw [if_pos h2, if_neg (by omega), if_neg (by omega), if_pos (by omega)]
        refine Wy.eq ?_ ?_ ?_ <;> simp only <;> omega
      · rw [if_neg h2, if_pos h4, if_neg (by omega), if_neg (by omega), if_neg (by omega)]
        refine Wy.eq ?_ ?_ ?_ <;> simp only <;> omega
  · rw [show p + n = (p + n - 2 * (n + m)) + 2 * (n + m) by omega, Nat.add_mod_right, Nat.mod_eq_of_lt (by omega)]
    unfold entr turnW
    rw [if_neg (by omega), if_neg (by omega), if_neg h4, if_pos (by omega)]
    refine Wy.eq ?_ ?_ ?_ <;> simp only <;> omega
theorem flip_port {p : Nat} (hn : 1 ≤ n) (hm : 1 ≤ m) (hp : p < 2 * (n + m)) : (2 * (n + m) + m - 1 - p) % (2 * (n + m)) < 2 * (n + m) ∧ flipW m (entr n m p) = entr n m ((2 * (n + m) + m - 1 - p) % (2 * (n + m))) := by
  refine ⟨Nat.mod_lt _ (by omega), ?_⟩
  by_cases h1 : p < m
  · rw [show 2 * (n + m) + m - 1 - p = (m - 1 - p) + 2 * (n + m) by omega, Nat.add_mod_right, Nat.mod_eq_of_lt (by omega)]
    unfold entr flipW
    rw [if_pos h1, if_pos (by omega)]
    refine Wy.eq ?_ ?_ ?_ <;> simp only <;> omega
  · rw [Nat.mod_eq_of_lt (by omega)]
    unfold entr flipW
    rw [if_neg h1]
    by_cases h2 : p < m + n
    · rw [if_pos h2, if_neg (by omega), if_neg (by omega), if_neg (by omega)]
      refine Wy.eq ?_ ?_ ?_ <;> simp only <;> omega
    · rw [if_neg h2]
      by_cases h3 : p < 2 * m + n
      · rw [if_pos h3, if_neg (by omega), if_neg (by omega), if_pos (by omega)]
        refine Wy.eq ?_ ?_ ?_ <;> simp only <;> omega
      · rw [if_neg h3, if_neg (by omega), if_pos (by omega)]
        refine Wy.eq ?_ ?_ ?_ <;> simp only <;> omega
/-- A turned grid has its beams moved on by the number of its rows. -/
theorem beam_turn (h : ∀ i k : Int, 0 ≤ i → i < n → 0 ≤ k → k < m → t' k ((n : Int) - 1 - i) = swapM (t i k)) (hn : 1 ≤ n) (hm : 1 ≤ m) {p : Nat} (hp : p < 2 * (n + m)) :
    bend_ m n t' ((p + n) % (2 * (n + m))) = (bend_ n m t p + n) % (2 * (n + m)) :=
  ((turn_sym h).beam (π := fun p => (p + n) % (2 * (n + m))) hn hm hm hn (fun _ hp => turn_port hn hm hp) hp).2.1
/-- A flipped grid has its beams flipped. -/
theorem beam_flip (h : ∀ i k : Int, 0 ≤ i → i < n → 0 ≤ k → k < m → t' i ((m : Int) - 1 - k) = swapM (t i k)) (hn : 1 ≤ n) (hm : 1 ≤ m) {p : Nat} (hp : p < 2 * (n + m)) :
    bend_ n m t' ((2 * (n + m) + m - 1 - p) % (2 * (n + m))) = (2 * (n + m) + m - 1 - bend_ n m t p) % (2 * (n + m)) :=
  ((flip_sym h).beam (π := fun p => (2 * (n + m) + m - 1 - p) % (2 * (n + m))) hn hm hn hm (fun _ hp => flip_port hn hm hp) hp).2.1
end
section
variable {n m : Nat}
/-- Letters that agree in the grid. -/
theorem same_sym {t t' : Int → Int → UInt8} (h : ∀ i k : Int, 0 ≤ i → i < n → 0 ≤ k → k < m → t' i k = t i k) : Sym n m t n m t' id where
  d _ h := h
  inn _ := Iff.rfl
  nx x _ hi := by
    have e := h x.i x.k hi.1 hi.2.1 hi.2.2.1 hi.2.2.2
    show nxt t x = nxt t' x
    unfold nxt
    rw [e]
  rv x _ hi := by
    have e := h x.i x.k hi.1 hi.2.1 hi.2.2.1 hi.2.2.2
    show rev t x = rev t' x
    unfold rev
    rw [e]
  inj _ _ _ _ e := e
  nm := rfl
theorem leads_same {t t' : Int → Int → UInt8} (h : ∀ i k : Int, 0 ≤ i → i < n → 0 ≤ k → k < m → t' i k = t i k) : (leads n m t').length = (leads n m t).length :=
  leads_sym (same_sym h) (same_sym fun i k h1 h2 h3 h4 => (h i k h1 h2 h3 h4).symm)
/-- Beams of letters that agree. -/
theorem beam_agree {t t' : Int → Int → UInt8} (h : ∀ i k : Int, 0 ≤ i → i < n → 0 ≤ k → k < m → t' i k = t i k) (hn : 1 ≤ n) (hm : 1 ≤ m) {p : Nat} (hp : p < 2 * (n + m)) : bend_ n m t' p = bend_ n m t p :=
  ((same_sym h).beam (π := id) hn hm hn hm (fun _ hp => ⟨hp, rfl⟩) hp).2.1
end
end Go.Proofs.Ytminailbhgimkaa
