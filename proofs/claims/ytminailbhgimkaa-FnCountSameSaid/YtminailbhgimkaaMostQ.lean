/- The greatest number of rounds of full grids: every full grid has a number; as great for rows and columns exchanged. -/
import Derived.Test.YtminailbhgimkaaMostI
import Derived.Test.YtminailbhgimkaaRoundF
import Derived.Test.YtminailbhgimkaaCntQ
import Derived.Test.YtminailbhgimkaaGridQ
namespace Go.Proofs.Ytminailbhgimkaa

theorem full_num : ∀ (N : Nat) (b : Nat → Bool), ∃ x, x < 2 ^ N ∧ ∀ c, c < N → x / 2 ^ c % 2 = (b c).toNat
  | 0, _ => ⟨0, by decide, fun c h => by omega⟩
  | N + 1, b => by
    obtain ⟨x, hx, h⟩ := full_num N b
    have hb : (b N).toNat ≤ 1 := by cases b N <;> decide
    refine ⟨x + 2 ^ N * (b N).toNat, ?_, fun c hc => ?_⟩
    · rw [Nat.pow_succ]
      rcases (show (b N).toNat = 0 ∨ (b N).toNat = 1 by omega) with e | e <;> rw [e] <;> omega
    · by_cases e : c = N
      · subst e
        rw [Nat.add_mul_div_left _ _ (Nat.two_pow_pos c), Nat.div_eq_of_lt hx, Nat.zero_add]
        omega
      · have hcN : c < N := by omega
        rw [← h c hcN]
        obtain ⟨d, rfl⟩ := Nat.exists_eq_add_of_lt hcN
        rw [show 2 ^ (c + d + 1) * (b (c + d + 1)).toNat = 2 ^ c * (2 ^ d * (b (c + d + 1)).toNat * 2) by rw [Nat.pow_succ, Nat.pow_add]; simp only [Nat.mul_comm, Nat.mul_left_comm], Nat.add_mul_div_left _ _ (Nat.two_pow_pos c), Nat.add_mul_mod_self_right]
section
variable {n m : Nat}
theorem full_lett {x : Nat} (h25 : n * m ≤ 25) {i k : Int} (h1 : 0 ≤ i) (h2 : i < n) (h3 : 0 ≤ k) (h4 : k < m) : lett m (fullL (n * m) x) i k = mirV x (i.toNat * m + k.toNat) := by
  obtain ⟨r, rfl⟩ := Int.eq_ofNat_of_zero_le h1
  obtain ⟨q, rfl⟩ := Int.eq_ofNat_of_zero_le h3
  have hlt := parts_lt (a := r) (n := n) (m := m) (b := q) (by omega) (by omega)
  unfold lett
  rw [show ((r : Int) * (m : Int) + (q : Int)).toNat = r * m + q by rw [← Int.natCast_mul, ← Int.natCast_add, Int.toNat_natCast], Int.toNat_natCast, Int.toNat_natCast, List.getD_eq_getElem?_getD]
  unfold fullL
  rw [put_all samePos (mirV x) (r * m + q) (r * m + q) hlt (by omega) rfl (fun y _ hy => hy)]
  rfl
theorem mirV_of {x c : Nat} {b : Bool} (h : x / 2 ^ c % 2 = b.toNat) : mirV x c = if b = true then 102 else 114 := by
  unfold mirV
  rw [h]
  cases b <;> rfl
/-- A full lettering has a number. -/
theorem full_of (h25 : n * m ≤ 25) (t : Int → Int → UInt8) (ht : ∀ i k : Int, 0 ≤ i → i < n → 0 ≤ k → k < m → t i k = 114 ∨ t i k = 102) : ∃ x, x < 2 ^ (n * m) ∧ cntF n m x = (leads n m t).length := by
  obtain ⟨x, hx, hb⟩ := full_num (n * m) fun c => t ((c / m : Nat) : Int) ((c % m : Nat) : Int) == 102
  refine ⟨x, hx, leads_same fun i k h1 h2 h3 h4 => ?_⟩
  have hk : k.toNat < m := by omega
  have hlt := parts_lt (a := i.toNat) (n := n) (m := m) (b := k.toNat) (by omega) hk
  have e := mirV_of (hb _ hlt)
  have hm : 0 < m := by omega
  rw [Nat.mul_comm i.toNat m, Nat.mul_add_div hm, Nat.div_eq_of_lt hk, Nat.add_zero, Nat.mul_add_mod, Nat.mod_eq_of_lt hk, Int.toNat_of_nonneg h1, Int.toNat_of_nonneg h3] at e
  rw [full_lett h25 h1 h2 h3 h4, Nat.mul_comm i.toNat m, e]
  rcases ht i k h1 h2 h3 h4 with h | h
  · rw [h]; rfl
  · rw [h]; rfl
theorem most_ge {M : Nat} : ∀ (l : List (Fin M)) (s : Nat), s ≤ l.foldl (fun s x => max s (cntF n m x.val)) s ∧ ∀ x ∈ l, cntF n m x.val ≤ l.foldl (fun s x => max s (cntF n m x.val)) s
  | [], s => ⟨Nat.le_refl _, fun x hx => by simp at hx⟩
  | y :: l, s => by
    obtain ⟨h1, h2⟩ := most_ge l (max s (cntF n m y.val))
    rw [List.foldl_cons]
    refine ⟨Nat.le_trans (Nat.le_max_left _ _) h1, fun x hx => ?_⟩
    rcases List.mem_cons.1 hx with rfl | hx
    · exact Nat.le_trans (Nat.le_max_right _ _) h1
    · exact h2 x hx
theorem most_le {M B : Nat} : ∀ (l : List (Fin M)) (s : Nat), s ≤ B → (∀ x ∈ l, cntF n m x.val ≤ B) → l.foldl (fun s x => max s (cntF n m x.val)) s ≤ B
  | [], _, h, _ => h
  | y :: l, s, h, hx => most_le l _ (Nat.max_le.2 ⟨h, hx y (by simp)⟩) fun x h' => hx x (by simp [h'])
theorem most_full (h25 : n * m ≤ 25) (t : Int → Int → UInt8) (ht : ∀ i k : Int, 0 ≤ i → i < n → 0 ≤ k → k < m → t i k = 114 ∨ t i k = 102) : (leads n m t).length ≤ mostTo n m (List.finRange (2 ^ (n * m))) := by
  obtain ⟨x, hx, e⟩ := full_of h25 t ht
  rw [← e]
  exact (most_ge (n := n) (m := m) (List.finRange (2 ^ (n * m))) 0).2 ⟨x, hx⟩ (List.mem_finRange _)
theorem swapM_mir {x c : Nat} : swapM (mirV x c) = 114 ∨ swapM (mirV x c) = 102 := by
  unfold mirV
  split
  · exact .inr rfl
  · exact .inl rfl
theorem most_turn_le (h25 : n * m ≤ 25) : mostTo n m (List.finRange (2 ^ (n * m))) ≤ mostTo m n (List.finRange (2 ^ (m * n))) := by
  refine most_le _ _ (Nat.zero_le _) fun x _ => ?_
  have hl := leads_turn (n := n) (m := m) (t := lett m (fullL (n * m) x.val)) (t' := fun i k => swapM (lett m (fullL (n * m) x.val) ((n : Int) - 1 - k) i)) fun i k h1 h2 h3 h4 => by
    show swapM (lett m (fullL (n * m) x.val) ((n : Int) - 1 - ((n : Int) - 1 - i)) k) = _
    rw [show (n : Int) - 1 - ((n : Int) - 1 - i) = i by omega]
  unfold cntF
  rw [← hl]
  refine most_full (by rw [Nat.mul_comm]; exact h25) _ fun i k h1 h2 h3 h4 => ?_
  show swapM (lett m (fullL (n * m) x.val) ((n : Int) - 1 - k) i) = 114 ∨ swapM (lett m (fullL (n * m) x.val) ((n : Int) - 1 - k) i) = 102
  rw [full_lett h25 (by omega) (by omega) h1 h2]
  exact swapM_mir
theorem most_turn (h25 : n * m ≤ 25) : mostTo m n (List.finRange (2 ^ (m * n))) = mostTo n m (List.finRange (2 ^ (n * m))) :=
  Nat.le_antisymm (most_turn_le (by rw [Nat.mul_comm]; exact h25)) (most_turn_le h25)
theorem fullF_mir {r q : Nat} : fullF r q = 114 ∨ fullF r q = 102 := by
  unfold fullF
  split
  · exact .inl rfl
  · exact .inr rfl
theorem fullF_grid (hn : 1 ≤ n) (hn5 : n ≤ 5) (hm : 1 ≤ m) (hm5 : m ≤ 5) : IsGrid n m (ruleG n m fullF) :=
  rule_grid hn hn5 hm hm5 fun r _ q _ => by
    rcases fullF_mir (r := r) (q := q) with h | h <;> rw [h] <;> rfl
theorem fullF_lett {i k : Int} (h1 : 0 ≤ i) (h2 : i < n) (h3 : 0 ≤ k) (h4 : k < m) (hg : IsGrid n m (ruleG n m fullF)) : lett m (pad (flat (ruleG n m fullF))) i k = fullF i.toNat k.toNat := by
  obtain ⟨r, rfl⟩ := Int.eq_ofNat_of_zero_le h1
  obtain ⟨q, rfl⟩ := Int.eq_ofNat_of_zero_le h3
  have hlt := parts_lt (a := r) (n := n) (m := m) (b := q) (by omega) (by omega)
  unfold lett pad
  rw [show ((r : Int) * (m : Int) + (q : Int)).toNat = r * m + q by rw [← Int.natCast_mul, ← Int.natCast_add, Int.toNat_natCast], List.getD_eq_getElem?_getD, List.getElem?_append_left (by rw [hg.flen]; exact hlt), ← List.getD_eq_getElem?_getD, rule_flat (by omega) (by omega), Int.toNat_natCast, Int.toNat_natCast]
end
end Go.Proofs.Ytminailbhgimkaa
