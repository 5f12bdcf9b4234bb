/- Cells counted in a grid turned: as many rounds go through each cell, one path through as many. No program is named. -/
import Derived.Test.YtminailbhgimkaaSymB
import Derived.Test.YtminailbhgimkaaBunR
import Derived.Test.YtminailbhgimkaaRlenQ
namespace Go.Proofs.Ytminailbhgimkaa

theorem cnt_inj (p q : Nat → Bool) (f : Nat → Nat) (N M : Nat) (h : ∀ a, a < N → p a = true → f a < M ∧ q (f a) = true) (hi : ∀ a b, a < N → b < N → f a = f b → a = b) : (List.range N).countP p ≤ (List.range M).countP q := by
  rw [List.countP_eq_length_filter, List.countP_eq_length_filter]
  refine inj_le (fun a b => b = f a) _ _ (List.nodup_range.filter _) (fun a ha => ?_) fun a a' b ha ha' h1 h2 => ?_
  · obtain ⟨h1, h2⟩ := List.mem_filter.1 ha
    obtain ⟨h3, h4⟩ := h a (List.mem_range.1 h1) h2
    exact ⟨f a, List.mem_filter.2 ⟨List.mem_range.2 h3, h4⟩, rfl⟩
  · exact hi a a' (List.mem_range.1 (List.mem_filter.1 ha).1) (List.mem_range.1 (List.mem_filter.1 ha').1) (h1.symm.trans h2)
section
variable {n m : Nat} {t t' : Int → Int → UInt8}
/-- A cell's number in the grid turned. -/
def turnC (n m c : Nat) : Nat := c % m * n + (n - 1 - c / m)
theorem cell_parts {n m c : Nat} (hc : c < n * m) : c / m < n ∧ c % m < m ∧ c / m * m + c % m = c := by
  have hm : 0 < m := by
    rcases Nat.eq_zero_or_pos m with h0 | h0
    · subst h0; simp at hc
    · exact h0
  refine ⟨?_, Nat.mod_lt _ hm, by rw [Nat.mul_comm]; exact Nat.div_add_mod c m⟩
  rw [Nat.div_lt_iff_lt_mul hm]; exact hc
theorem turnC_lt {c : Nat} (hc : c < n * m) : turnC n m c < m * n := by
  obtain ⟨h1, h2, _⟩ := cell_parts hc
  unfold turnC
  generalize c / m = r at *
  exact parts_lt h2 (by omega)
theorem turnC_parts {c : Nat} (hc : c < n * m) : turnC n m c / n = c % m ∧ turnC n m c % n = n - 1 - c / m := by
  obtain ⟨h1, h2, _⟩ := cell_parts hc
  unfold turnC
  generalize c / m = r at *
  have hn : 0 < n := by omega
  constructor
  · rw [Nat.mul_comm, Nat.mul_add_div hn, Nat.div_eq_of_lt (by omega), Nat.add_zero]
  · rw [Nat.mul_comm, Nat.mul_add_mod, Nat.mod_eq_of_lt (by omega)]
theorem turnC_inj {c c' : Nat} (hc : c < n * m) (hc' : c' < n * m) (e : turnC n m c = turnC n m c') : c = c' := by
  obtain ⟨h1, h2, h3⟩ := cell_parts hc
  obtain ⟨h1', h2', h3'⟩ := cell_parts hc'
  obtain ⟨a1, a2⟩ := turnC_parts hc
  obtain ⟨b1, b2⟩ := turnC_parts hc'
  rw [e] at a1 a2
  generalize c / m = r at *
  generalize c' / m = r' at *
  generalize c % m = q at *
  generalize c' % m = q' at *
  generalize turnC n m c' / n = x at *
  generalize turnC n m c' % n = y at *
  obtain rfl : r = r' := by omega
  obtain rfl : q = q' := by omega
  rw [← h3, ← h3']
theorem turnW_cell {c d : Nat} (hc : c < n * m) (hd : d < 4) : turnW n (wayN m (4 * c + d)) = wayN n (4 * turnC n m c + (d + 1) % 4) := by
  obtain ⟨h1, h2, _⟩ := cell_parts hc
  obtain ⟨a1, a2⟩ := turnC_parts hc
  rw [wayN_cell hd, wayN_cell (Nat.mod_lt _ (by decide)), a1, a2]
  unfold turnW
  refine Wy.eq rfl ?_ rfl
  simp only
  generalize c / m = r at *
  omega
theorem at_turn (h : ∀ i k : Int, 0 ≤ i → i < n → 0 ≤ k → k < m → t' k ((n : Int) - 1 - i) = swapM (t i k)) {c : Nat} (hc : c < n * m) : atN m n t' (turnC n m c) = atN n m t c := by
  have e : ∀ d, d < 4 → onR m n t' (wayN n (4 * turnC n m c + (d + 1) % 4)) = onR n m t (wayN m (4 * c + d)) := fun d hd => by
    rw [← turnW_cell hc hd]
    exact (turn_sym h).on (wayN_d _)
  have e0 := e 0 (by decide)
  have e1 := e 1 (by decide)
  have e2 := e 2 (by decide)
  have e3 := e 3 (by decide)
  unfold atN
  rw [upT_four, upT_four]
  simp only [Nat.reduceAdd, Nat.reduceMod] at e0 e1 e2 e3
  rw [← e0, ← e1, ← e2, ← e3]
  congr 1
  omega
theorem backC_turn {c : Nat} (hc : c < m * n) : ∃ c', c' < n * m ∧ turnC n m c' = c := by
  obtain ⟨h1, h2, h3⟩ := cell_parts hc
  generalize c / n = r at *
  generalize c % n = q at *
  refine ⟨(n - 1 - q) * m + r, parts_lt (by omega) h1, ?_⟩
  have hm : 0 < m := by omega
  unfold turnC
  have e1 : ((n - 1 - q) * m + r) % m = r := by rw [Nat.mul_comm, Nat.mul_add_mod, Nat.mod_eq_of_lt h1]
  have e2 : ((n - 1 - q) * m + r) / m = n - 1 - q := by rw [Nat.mul_comm, Nat.mul_add_div hm, Nat.div_eq_of_lt h1, Nat.add_zero]
  rw [e1, e2, show n - 1 - (n - 1 - q) = q by omega]
  exact h3
/-- Cells counted, turned. -/
theorem cnt_turn {p p' : Nat → Bool} (h : ∀ c, c < n * m → p' (turnC n m c) = p c) : (List.range (m * n)).countP p' = (List.range (n * m)).countP p := by
  refine Nat.le_antisymm ?_ (cnt_inj p p' (turnC n m) _ _ (fun a ha hp => ⟨turnC_lt ha, by rw [h a ha]; exact hp⟩) fun a b ha hb e => turnC_inj ha hb e)
  have hb : ∀ c : Nat, ∃ c', c < m * n → c' < n * m ∧ turnC n m c' = c := fun c => by
    by_cases hc : c < m * n
    · obtain ⟨c', h1, h2⟩ := backC_turn hc
      exact ⟨c', fun _ => ⟨h1, h2⟩⟩
    · exact ⟨0, fun h => absurd h hc⟩
  refine cnt_inj p' p (fun c => Classical.choose (hb c)) _ _ (fun a ha hp => ?_) fun a b ha hb' e => ?_
  · obtain ⟨h1, h2⟩ := Classical.choose_spec (hb a) ha
    refine ⟨h1, ?_⟩
    rw [← h _ h1, h2]
    exact hp
  · have e1 := (Classical.choose_spec (hb a) ha).2
    have e2 := (Classical.choose_spec (hb b) hb').2
    rw [← e1, ← e2]
    exact congrArg (turnC n m) e
end

section
variable {n m : Nat} {t : Int → Int → UInt8} {i k : Int}
theorem goL_turn {x : Wy} (hd : x.d < 4) (hx : inG n m x) {j : Nat} (hj : j < goL n m t x) : j < goL n m t (rev t (iter t x j)) := by
  have g := goL_facts (t := t) hd hx
  have hdj := iter_d (t := t) hd j
  have hin := g.2.2.1 j hj
  have g2 := goL_facts (t := t) (x := rev t (iter t x j)) (rev_d _) (rev_in.2 hin)
  refine Nat.lt_of_not_le fun hle => ?_
  cases hon : onR n m t x with
  | true =>
    have h1 := (g.2.2.2.2.1 hon).2
    have h2 := (g2.2.2.2.2.1 (onR_rev hdj (onR_iter hd hon j))).2
    rw [rlen_ring hd hon ⟨j, .inr rfl⟩] at h2
    omega
  | false =>
    have hon2 : onR n m t (rev t (iter t x j)) = false := by
      rw [Bool.eq_false_iff]
      intro h2
      have h3 := onR_back hdj h2
      have h4 := onR_rev hdj h3
      have h5 := onR_iter (rev_d _) h4 j
      have h6 := iter_rev (t := t) hd 0 j
      rw [Nat.zero_add] at h6
      rw [h6] at h5
      have := onR_back hd h5
      rw [hon] at this; cases this
    have h3 := g2.2.2.2.2.2 hon2
    refine h3 ?_
    obtain ⟨a, ha⟩ := Nat.exists_eq_add_of_le hle
    have h6 := iter_rev (t := t) hd a (goL n m t (rev t (iter t x j)))
    rw [show a + goL n m t (rev t (iter t x j)) = j by omega] at h6
    rw [h6]
    exact rev_in.2 (g.2.2.1 a (by omega))
/-- Whichever way is taken through the cell. -/
def selfD (n m : Nat) (t : Int → Int → UInt8) (i k : Int) (d : Nat) : Bool := retB n m t i k ⟨i, k, d⟩ || retB n m t i k (rev t ⟨i, k, d⟩)
theorem four_ways {b : UInt8} {d e f : Nat} (hd : d < 4) (he : e < 4) (hf : f < 4) (h1 : e ≠ d) (h2 : e ≠ opp (bend b d)) : f = d ∨ f = opp (bend b d) ∨ f = e ∨ f = opp (bend b e) := by
  by_cases hb : b = 114
  · subst hb; rcases four hd with rfl | rfl | rfl | rfl <;> rcases four he with rfl | rfl | rfl | rfl <;> rcases four hf with rfl | rfl | rfl | rfl <;> simp [bend, opp] at *
  · by_cases hb2 : b = 102
    · subst hb2; rcases four hd with rfl | rfl | rfl | rfl <;> rcases four he with rfl | rfl | rfl | rfl <;> rcases four hf with rfl | rfl | rfl | rfl <;> simp [bend, opp] at *
    · rw [bend_e hb hb2] at *
      rw [bend_e hb hb2] at *
      rcases four hd with rfl | rfl | rfl | rfl <;> rcases four he with rfl | rfl | rfl | rfl <;> rcases four hf with rfl | rfl | rfl | rfl <;> simp [opp] at *
theorem ret_any {d f : Nat} (hd : d < 4) (hf : f < 4) (hx : inG n m ⟨i, k, 0⟩) (h : retB n m t i k ⟨i, k, d⟩ = true) : selfD n m t i k f = true := by
  obtain ⟨j, h1, h2, h3⟩ := retB_iff.1 h
  have hxd : inG n m ⟨i, k, d⟩ := hx
  have g := goL_facts (t := t) (x := ⟨i, k, d⟩) hd hxd
  obtain ⟨e, he⟩ : ∃ e, iter t ⟨i, k, d⟩ j = ⟨i, k, e⟩ := ⟨_, atC_eq h3⟩
  have he4 : e < 4 := by have := iter_d (t := t) (x := ⟨i, k, d⟩) hd j; rw [he] at this; exact this
  have hne : e ≠ d := fun ee => by
    subst ee
    exact g.2.2.2.1 0 j h1 h2 he.symm
  have hne2 : e ≠ opp (bend (t i k) d) := fun ee => by
    refine iter_ne_rev (t := t) (x := ⟨i, k, d⟩) hd j 0 ?_
    rw [he, ee]
    rfl
  have hb := goL_turn (t := t) (x := ⟨i, k, d⟩) hd hxd h2
  have hir := iter_rev (t := t) (x := ⟨i, k, d⟩) hd 0 j
  rw [Nat.zero_add] at hir
  have hre : retB n m t i k (rev t ⟨i, k, e⟩) = true := by
    rw [← he]
    refine retB_iff.2 ⟨j, h1, hb, ?_⟩
    rw [hir]
    exact ⟨rfl, rfl⟩
  unfold selfD
  rw [Bool.or_eq_true]
  rcases four_ways (b := t i k) hd he4 hf hne hne2 with rfl | rfl | rfl | rfl
  · exact .inl h
  · refine .inr ?_
    have e2 : rev t ⟨i, k, opp (bend (t i k) d)⟩ = ⟨i, k, d⟩ := rev_rev (t := t) (x := ⟨i, k, d⟩) hd
    rw [e2]
    exact h
  · exact .inr hre
  · exact .inl hre
theorem self_any {d f : Nat} (hd : d < 4) (hf : f < 4) (hx : inG n m ⟨i, k, 0⟩) (h : selfD n m t i k d = true) : selfD n m t i k f = true := by
  unfold selfD at h
  rw [Bool.or_eq_true] at h
  rcases h with h | h
  · exact ret_any hd hf hx h
  · exact ret_any (d := opp (bend (t i k) d)) (opp_lt _) hf hx h
theorem self_all {d : Nat} (hd : d < 4) (hx : inG n m ⟨i, k, 0⟩) : selfD n m t i k d = selfB n m t i k := by
  rw [Bool.eq_iff_iff]
  exact ⟨self_any hd (by decide) hx, self_any (by decide) hd hx⟩
end
section
variable {n m n' m' : Nat} {t t' : Int → Int → UInt8} {φ : Wy → Wy}
theorem Sym.runL (S : Sym n m t n' m' t' φ) : ∀ (f : Nat) (x : Wy), x.d < 4 → runL n' m' t' f (φ x) = Go.Proofs.Ytminailbhgimkaa.runL n m t f x
  | 0, _, _ => rfl
  | f + 1, x, hd => by
    unfold Go.Proofs.Ytminailbhgimkaa.runL
    by_cases hi : inG n m x
    · rw [if_pos hi, if_pos ((S.inn x).2 hi), ← S.nx x hd hi, S.runL f _ (nxt_d hd)]
    · rw [if_neg hi, if_neg (fun h => hi ((S.inn x).1 h))]
theorem Sym.rlen (S : Sym n m t n' m' t' φ) {x : Wy} (hd : x.d < 4) (hon : onR n m t x = true) : rlen n' m' t' (φ x) = Go.Proofs.Ytminailbhgimkaa.rlen n m t x := by
  have f1 := rlen_facts hd hon
  have hon' : onR n' m' t' (φ x) = true := by rw [S.on hd]; exact hon
  have f2 := rlen_facts (S.d x hd) hon'
  have e : ∀ j, φ (Go.Proofs.Ytminailbhgimkaa.iter t x j) = Go.Proofs.Ytminailbhgimkaa.iter t' (φ x) j := fun j => S.iter hd j fun i _ => onR_all hd hon i
  refine Nat.le_antisymm (rlen_le (S.d x hd) hon' f1.1 ?_) (rlen_le hd hon f2.1 ?_)
  · rw [← e, f1.2.2.1]
  · refine S.inj _ _ (iter_d hd _) hd ?_
    rw [e, f2.2.2.1]
theorem Sym.goL (S : Sym n m t n' m' t' φ) {x : Wy} (hd : x.d < 4) : goL n' m' t' (φ x) = Go.Proofs.Ytminailbhgimkaa.goL n m t x := by
  unfold Go.Proofs.Ytminailbhgimkaa.goL
  rw [S.on hd, S.nm, S.runL _ _ hd]
  by_cases h : onR n m t x = true
  · rw [if_pos h, if_pos h, S.rlen hd h]
  · rw [if_neg h, if_neg h]
theorem Sym.ret (S : Sym n m t n' m' t' φ) {i k i' k' : Int} (hc : ∀ x, inG n m x → x.d < 4 → (atC i' k' (φ x) ↔ atC i k x)) {x : Wy} (hd : x.d < 4) (hx : inG n m x) : retB n' m' t' i' k' (φ x) = retB n m t i k x := by
  rw [Bool.eq_iff_iff, retB_iff, retB_iff, S.goL hd]
  have g := goL_facts (t := t) hd hx
  have e : ∀ j, j < Go.Proofs.Ytminailbhgimkaa.goL n m t x → (atC i' k' (Go.Proofs.Ytminailbhgimkaa.iter t' (φ x) j) ↔ atC i k (Go.Proofs.Ytminailbhgimkaa.iter t x j)) := fun j hj => by
    rw [← S.iter hd j fun i hi => g.2.2.1 i (by omega)]
    exact hc _ (g.2.2.1 j hj) (iter_d hd j)
  constructor
  · rintro ⟨j, h1, h2, h3⟩; exact ⟨j, h1, h2, (e j h2).1 h3⟩
  · rintro ⟨j, h1, h2, h3⟩; exact ⟨j, h1, h2, (e j h2).2 h3⟩
end
section
variable {n m : Nat} {t t' : Int → Int → UInt8}
/-- One path goes twice through a cell just if it does so in the grid turned. -/
theorem self_turn (h : ∀ i k : Int, 0 ≤ i → i < n → 0 ≤ k → k < m → t' k ((n : Int) - 1 - i) = swapM (t i k)) {i k : Int} (hx : inG n m ⟨i, k, 0⟩) : selfB m n t' k ((n : Int) - 1 - i) = selfB n m t i k := by
  have S := turn_sym h
  have hx' : inG m n ⟨k, (n : Int) - 1 - i, 0⟩ := (S.inn ⟨i, k, 0⟩).2 hx
  have hc : ∀ x, inG n m x → x.d < 4 → (atC k ((n : Int) - 1 - i) (turnW n x) ↔ atC i k x) := fun x _ _ => by
    unfold atC turnW
    simp only
    omega
  rw [← self_all (d := 1) (by decide) hx', ← self_all (d := 0) (by decide) hx]
  have hz : (⟨i, k, 0⟩ : Wy).d < 4 := Nat.zero_lt_succ 3
  unfold selfD
  have e1 := S.ret hc (x := ⟨i, k, 0⟩) hz hx
  have e2 := S.ret hc (x := rev t ⟨i, k, 0⟩) (rev_d _) (rev_in.2 hx)
  rw [S.rv _ hz hx] at e2
  rw [← e1, ← e2]
  rfl
end
section
variable {n m : Nat} {t t' : Int → Int → UInt8} {i k : Int}
def selfS (b : UInt8) (s : Nat → Nat) : Bool := (fit b s 0 1 < 4 && fit b s 0 1 != 0) || (fit b s (opp (bend b 0)) 1 < 4 && fit b s (opp (bend b 0)) 1 != opp (bend b 0))
theorem ret_fit {s : Nat → Nat} (hs : StrandsAt n m t i k s) (hx : inG n m ⟨i, k, 0⟩) {d : Nat} (hd : d < 4) (h : retB n m t i k ⟨i, k, d⟩ = true) : (fit (t i k) s d 1 < 4 && fit (t i k) s d 1 != d) = true := by
  obtain ⟨j0, h1, h2, h3⟩ := retB_iff.1 h
  have hxd : inG n m ⟨i, k, d⟩ := hx
  have g := goL_facts (t := t) (x := ⟨i, k, d⟩) hd hxd
  obtain ⟨j, hj, hlow⟩ := least_at (fun j => decide (0 < j ∧ atC i k (iter t ⟨i, k, d⟩ j))) j0 (decide_eq_true ⟨h1, h3⟩)
  have hj' := of_decide_eq_true hj
  have hjl : j ≤ j0 := Nat.le_of_not_lt fun hlt => by
    have := hlow j0 hlt
    rw [decide_eq_true ⟨h1, h3⟩] at this
    cases this
  obtain ⟨j, rfl⟩ : ∃ a, j = a + 1 := ⟨j - 1, by omega⟩
  obtain ⟨e, he⟩ : ∃ e, iter t ⟨i, k, d⟩ (j + 1) = ⟨i, k, e⟩ := ⟨_, atC_eq hj'.2⟩
  have he4 : e < 4 := by have := iter_d (t := t) (x := ⟨i, k, d⟩) hd (j + 1); rw [he] at this; exact this
  have hne : e ≠ d := fun ee => by
    subst ee
    exact g.2.2.2.1 0 (j + 1) (by omega) (by omega) he.symm
  have hb := bend_lt (t i k) hd
  have hst : Strand n m t i k (bend (t i k) d) e := by
    refine ⟨j, ?_, fun a ha => ?_⟩
    · rw [← nxt_at, ← iter_succ']; exact he
    · rw [← nxt_at, ← iter_succ']
      refine ⟨g.2.2.1 (a + 1) (by omega), fun hat => ?_⟩
      have := hlow (a + 1) (by omega)
      rw [decide_eq_true ⟨by omega, hat⟩] at this
      cases this
  have hf : fit (t i k) s d 1 = e := by
    show (if fit (t i k) s d 0 < 4 then s (bend (t i k) (fit (t i k) s d 0)) else 4) = e
    have h0 : fit (t i k) s d 0 = d := rfl
    rw [h0, if_pos hd]
    exact hs.eq hb hst
  rw [hf, Bool.and_eq_true, decide_eq_true_iff, bne_iff_ne]
  exact ⟨he4, hne⟩
theorem self_fit {s : Nat → Nat} (hs : StrandsAt n m t i k s) (hx : inG n m ⟨i, k, 0⟩) (h : selfB n m t i k = true) : selfS (t i k) s = true := by
  unfold selfB at h
  unfold selfS
  rw [Bool.or_eq_true] at h ⊢
  rcases h with h | h
  · exact .inl (ret_fit hs hx (by decide) h)
  · exact .inr (ret_fit hs hx (opp_lt _) h)
/-- Light that leaves the cell does not come back by the way it left. -/
def none4 (s : Nat → Nat) : Bool := (List.range 4).all fun h => s h != opp h
theorem strand_no {h : Nat} (hh : h < 4) : ¬ Strand n m t i k h (opp h) := by
  rintro ⟨j, h1, _⟩
  have hd : (⟨i, k, opp (bend (t i k) (opp h))⟩ : Wy).d < 4 := opp_lt _
  have hn : nxt t ⟨i, k, opp (bend (t i k) (opp h))⟩ = outW i k h := by
    rw [nxt_at, bend_opp _ (opp_lt h), opp_opp hh]
  rw [← hn, ← iter_succ'] at h1
  refine iter_ne_rev (t := t) hd (j + 1) 0 ?_
  rw [h1]
  refine Wy.eq rfl rfl ?_
  show opp h = opp (bend (t i k) (opp (bend (t i k) (opp h))))
  rw [bend_opp _ (opp_lt h), opp_opp hh]
def checkSelf : Bool := (List.range 5).all fun a => (List.range 5).all fun b => (List.range 5).all fun c => (List.range 5).all fun d =>
  !symm4 (four4 a b c d) || !none4 (four4 a b c d) || ((!selfS 114 (four4 a b c d) || decide (viaN 114 (four4 a b c d) ≤ viaN 102 (four4 a b c d))) && (!selfS 102 (four4 a b c d) || decide (viaN 102 (four4 a b c d) ≤ viaN 114 (four4 a b c d))))
theorem checked_self : checkSelf = true := by decide +kernel
/-- A mirror that one path meets twice makes no path less when it is exchanged. -/
theorem self_leads (hx : inG n m ⟨i, k, 0⟩) (h1 : OffSame n m t t' i k) (h : (t i k = 114 ∧ t' i k = 102) ∨ (t i k = 102 ∧ t' i k = 114)) (hself : selfB n m t i k = true) : (leads n m t).length ≤ (leads n m t').length := by
  obtain ⟨a, b, c, d, hs⟩ := strands_ex n m t i k
  have l0 := leads_count hs hx
  have l1 := leads_count (hs.same h1) hx
  rw [← avoid_count h1] at l1
  have ha := (hs 0 (by decide)).1
  have hb := (hs 1 (by decide)).1
  have hcc := (hs 2 (by decide)).1
  have hd := (hs 3 (by decide)).1
  have hsym : symm4 (four4 a b c d) = true := by
    unfold symm4
    rw [List.all_eq_true]
    intro h hh
    have hh := List.mem_range.1 hh
    rw [Bool.or_eq_true, beq_iff_eq, beq_iff_eq]
    by_cases e : four4 a b c d h = 4
    · exact .inl e
    · exact .inr (hs.back hh (by have := (hs h hh).1; omega) rfl)
  have hnone : none4 (four4 a b c d) = true := by
    unfold none4
    rw [List.all_eq_true]
    intro h hh
    have hh := List.mem_range.1 hh
    rw [bne_iff_ne]
    intro e
    have h1 := (hs h hh).2.1 (by rw [e]; exact opp_lt _)
    rw [e] at h1
    exact strand_no hh h1
  have hall := checked_self
  unfold checkSelf at hall
  have p1 := List.all_eq_true.1 hall a (List.mem_range.2 (by have : a ≤ 4 := ha; omega))
  have p2 := List.all_eq_true.1 p1 b (List.mem_range.2 (by have : b ≤ 4 := hb; omega))
  have p3 := List.all_eq_true.1 p2 c (List.mem_range.2 (by have : c ≤ 4 := hcc; omega))
  have p4 := List.all_eq_true.1 p3 d (List.mem_range.2 (by have : d ≤ 4 := hd; omega))
  rw [hsym, hnone, Bool.not_true, Bool.false_or, Bool.false_or, Bool.and_eq_true] at p4
  have hf := self_fit hs hx hself
  rcases h with ⟨e, e'⟩ | ⟨e, e'⟩
  · rw [e] at hf l0
    rw [e'] at l1
    have p5 := p4.1
    rw [hf, Bool.not_true, Bool.false_or, decide_eq_true_iff] at p5
    omega
  · rw [e] at hf l0
    rw [e'] at l1
    have p5 := p4.2
    rw [hf, Bool.not_true, Bool.false_or, decide_eq_true_iff] at p5
    omega
end
end Go.Proofs.Ytminailbhgimkaa
