/- Plain words on paths: one path goes through a cell twice. No program is named. -/
import Derived.Test.YtagnecclhmbofaaBunB
namespace Go.Proofs.Ytagnecclhmbofaa

section
variable {n m : Nat} {t : Int → Int → UInt8} {i k : Int}
/-- A way and a way backwards are never on one way's course. -/
theorem iter_ne_rev {x : Wy} (hd : x.d < 4) (a b : Nat) : iter t x a ≠ rev t (iter t x b) := by
  have main : ∀ (s a b : Nat), b = a + s → iter t x a ≠ rev t (iter t x b) := by
    intro s
    induction s using Nat.strongRecOn with
    | ind s ih =>
      intro a b hs e
      match s, hs with
      | 0, hs =>
        subst hs
        exact rev_ne (iter_d hd _) e.symm
      | 1, hs =>
        subst hs
        have h2 : rev t (iter t x a) = nxt t (iter t x a) := by
          rw [e, rev_rev (iter_d hd (a + 1))]
          conv => rhs; rw [← e]
          rfl
        exact rev_ne_nxt (iter_d hd a) h2
      | s + 2, hs =>
        obtain ⟨b, rfl⟩ : ∃ c, b = c + 1 := ⟨b - 1, by omega⟩
        refine ih s (by omega) (a + 1) b (by omega) ?_
        show nxt t (iter t x a) = _
        rw [e]
        exact nxt_rev_nxt (iter_d hd b)
  intro e
  by_cases h : a ≤ b
  · exact main (b - a) a b (by omega) e
  · refine main (a - b) b a (by omega) ?_
    rw [e, rev_rev (iter_d hd b)]

/-- How often a way's course goes through the cell, until it closes or leaves. -/
def cntAt (n m : Nat) (t : Int → Int → UInt8) (i k : Int) (x : Wy) : Nat := (List.range (goL n m t x)).countP fun j => decide (atC i k (iter t x j))
/-- It comes into the cell again. -/
def retB (n m : Nat) (t : Int → Int → UInt8) (i k : Int) (x : Wy) : Bool := (List.range (goL n m t x)).any fun j => decide (0 < j ∧ atC i k (iter t x j))
theorem retB_iff {x : Wy} : retB n m t i k x = true ↔ ∃ j, 0 < j ∧ j < goL n m t x ∧ atC i k (iter t x j) := by
  unfold retB
  rw [List.any_eq_true]
  constructor
  · rintro ⟨j, hj, h⟩
    have h := of_decide_eq_true h
    exact ⟨j, h.1, List.mem_range.1 hj, h.2⟩
  · rintro ⟨j, h1, h2, h3⟩
    exact ⟨j, List.mem_range.2 h2, decide_eq_true ⟨h1, h3⟩⟩
theorem cntAt_ret {x : Wy} (hd : x.d < 4) (hx : inG n m x) (h : atC i k x) : 1 ≤ cntAt n m t i k x ∧ (retB n m t i k x = true ↔ 2 ≤ cntAt n m t i k x) := by
  obtain ⟨L, hL⟩ : ∃ L, goL n m t x = L + 1 := ⟨goL n m t x - 1, by have := (goL_facts (t := t) hd hx).1; omega⟩
  have e : cntAt n m t i k x = 1 + (List.range L).countP fun j => decide (atC i k (iter t x (j + 1))) := by
    unfold cntAt
    rw [hL, List.range_succ_eq_map, List.countP_cons, List.countP_map]
    rw [if_pos (decide_eq_true (show atC i k (iter t x 0) from h)), Nat.add_comm]
    rfl
  refine ⟨by omega, ?_⟩
  rw [retB_iff, e]
  constructor
  · rintro ⟨j, h1, h2, h3⟩
    have hp : 0 < (List.range L).countP fun j => decide (atC i k (iter t x (j + 1))) := List.countP_pos_iff.2 ⟨j - 1, List.mem_range.2 (by omega), by rw [show j - 1 + 1 = j by omega]; exact decide_eq_true h3⟩
    omega
  · intro h2
    obtain ⟨j, hj, h3⟩ := List.countP_pos_iff.1 (show 0 < (List.range L).countP fun j => decide (atC i k (iter t x (j + 1))) by omega)
    have hj := List.mem_range.1 hj
    exact ⟨j + 1, by omega, by omega, of_decide_eq_true h3⟩
/-- The same by headings. -/
theorem cntAt_up {x : Wy} (hd : x.d < 4) (hx : inG n m x) : cntAt n m t i k x = upT (fun d => goesTo (iter t x) (goL n m t x) ⟨i, k, d⟩) 4 := by
  unfold cntAt
  rw [times_gen (iter t x) i k (goL n m t x) (fun a b h1 h2 => (goL_facts hd hx).2.2.2.1 a b h1 h2) (fun j _ => iter_d hd j)]
  rfl
/-- On a round a cell is gone through twice at most. -/
theorem goes_rev {x : Wy} (hd : x.d < 4) {L : Nat} {y : Wy} (h : goesTo (iter t x) L y = true) : goesTo (iter t x) L (rev t y) = false := by
  rw [Bool.eq_false_iff]
  intro h2
  obtain ⟨a, _, rfl⟩ := goesTo_iff.1 h
  obtain ⟨b, _, e⟩ := goesTo_iff.1 h2
  exact iter_ne_rev hd b a e
theorem cnt_round {x : Wy} (hd : x.d < 4) (hx : inG n m x) : cntAt n m t i k x ≤ 2 := by
  rw [cntAt_up hd hx, upT_four]
  have hb : ∀ d, d < 4 → goesTo (iter t x) (goL n m t x) ⟨i, k, d⟩ = true → goesTo (iter t x) (goL n m t x) ⟨i, k, opp (bend (t i k) d)⟩ = false := fun d _ h => goes_rev hd h
  generalize goesTo (iter t x) (goL n m t x) = g at hb ⊢
  by_cases h1 : t i k = 114
  · rw [h1] at hb
    have a := pair_le (hb 0 (by decide))
    have b := pair_le (hb 1 (by decide))
    simp only [bend, opp] at a b
    simp at a b
    omega
  · by_cases h2 : t i k = 102
    · rw [h2] at hb
      have a := pair_le (hb 0 (by decide))
      have b := pair_le (hb 2 (by decide))
      simp only [bend, opp] at a b
      simp at a b
      omega
    · have a := pair_le (hb 0 (by decide))
      have b := pair_le (hb 1 (by decide))
      rw [bend_e h1 h2] at a b
      simp only [opp] at a b
      simp at a b
      omega
theorem ret_back {x : Wy} (hd : x.d < 4) (hon : onR n m t x = true) (hr : retB n m t i k (rev t x) = true) : retB n m t i k x = true := by
  obtain ⟨k1, k2, k3, _⟩ := rlen_facts hd hon
  have hon' := onR_rev hd hon
  obtain ⟨j, h1, h2, h3⟩ := retB_iff.1 hr
  have hg : goL n m t (rev t x) = rlen n m t (rev t x) := by unfold goL; rw [if_pos hon']
  have hg' : goL n m t x = rlen n m t x := by unfold goL; rw [if_pos hon]
  rw [hg] at h2
  have hj : j ≤ j * rlen n m t x := Nat.le_mul_of_pos_right _ (by omega)
  have e := iter_rev (t := t) hd (j * rlen n m t x - j) j
  rw [show j * rlen n m t x - j + j = j * rlen n m t x by omega, iter_mul k3] at e
  rw [e] at h3
  have h4 : atC i k (iter t x (j * rlen n m t x - j)) := h3
  rw [iter_mod k3] at h4
  refine retB_iff.2 ⟨(j * rlen n m t x - j) % rlen n m t x, ?_, by rw [hg']; exact Nat.mod_lt _ (by omega), h4⟩
  refine Nat.pos_of_ne_zero fun h0 => ?_
  have e0 : iter t x (j * rlen n m t x - j) = x := by rw [iter_mod k3, h0]; rfl
  rw [e0] at e
  exact (rlen_facts (rev_d x) hon').2.2.2 j h1 h2 e
/-- A beam goes through a cell twice at most, there and back. -/
theorem cnt_beam {d0 : Nat} (hd0 : d0 < 4) (hx : inG n m ⟨i, k, d0⟩) (hon : onR n m t ⟨i, k, d0⟩ = false) : cntAt n m t i k ⟨i, k, d0⟩ + cntAt n m t i k (rev t ⟨i, k, d0⟩) ≤ 3 := by
  have hd : (⟨i, k, d0⟩ : Wy).d < 4 := hd0
  obtain ⟨x, hxe⟩ : ∃ x : Wy, x = ⟨i, k, d0⟩ := ⟨_, rfl⟩
  rw [← hxe] at hx hon hd ⊢
  have hx' : inG n m (rev t x) := hx
  have hd' := rev_d (t := t) x
  have honr : onR n m t (rev t x) = false := by
    rw [Bool.eq_false_iff]
    intro h
    rw [onR_back hd h] at hon
    cases hon
  rw [cntAt_up hd hx, cntAt_up hd' hx', upT_four, upT_four]
  have hb1 : ∀ d, d < 4 → goesTo (iter t x) (goL n m t x) ⟨i, k, d⟩ = true → goesTo (iter t x) (goL n m t x) ⟨i, k, opp (bend (t i k) d)⟩ = false := fun d _ h => goes_rev hd h
  have hb2 : ∀ d, d < 4 → goesTo (iter t (rev t x)) (goL n m t (rev t x)) ⟨i, k, d⟩ = true → goesTo (iter t (rev t x)) (goL n m t (rev t x)) ⟨i, k, opp (bend (t i k) d)⟩ = false := fun d _ h => goes_rev hd' h
  -- one way never lies on both courses
  have hc : ∀ d, goesTo (iter t x) (goL n m t x) ⟨i, k, d⟩ = true → goesTo (iter t (rev t x)) (goL n m t (rev t x)) ⟨i, k, d⟩ = false := fun d h => by
    rw [Bool.eq_false_iff]
    intro h2
    obtain ⟨a, _, ea⟩ := goesTo_iff.1 h
    obtain ⟨b, _, eb⟩ := goesTo_iff.1 h2
    have e := ea.trans eb.symm
    rcases Nat.le_total b a with hle | hle
    · rw [show a = (a - b) + b by omega, iter_add] at e
      exact iter_ne_rev hd (a - b) 0 (iter_inj (iter_d hd _) hd' b e)
    · rw [show b = (b - a) + a by omega, iter_add] at e
      have e2 := iter_inj hd (iter_d hd' _) a e
      exact iter_ne_rev hd' (b - a) 0 (by rw [← e2]; exact (rev_rev hd).symm)
  -- and its way back does on the other one only at the beginning
  have hr : ∀ d, d < 4 → d ≠ d0 → goesTo (iter t x) (goL n m t x) ⟨i, k, d⟩ = true → goesTo (iter t (rev t x)) (goL n m t (rev t x)) ⟨i, k, opp (bend (t i k) d)⟩ = false := fun d hd4 hne h => by
    rw [Bool.eq_false_iff]
    intro h2
    obtain ⟨a, ha, ea⟩ := goesTo_iff.1 h
    obtain ⟨b, hb, eb⟩ := goesTo_iff.1 h2
    have e1 : iter t x a = rev t (iter t (rev t x) b) := by
      rw [ea, eb]
      exact (rev_rev (t := t) (x := ⟨i, k, d⟩) hd4).symm
    have e2 := iter_rev (t := t) hd' 0 b
    rw [Nat.zero_add, ← e1, ← iter_add] at e2
    have e3 : iter t x (a + b) = x := by rw [e2]; exact rev_rev hd
    by_cases h0 : a + b = 0
    · obtain rfl : a = 0 := by omega
      have : x = ⟨i, k, d⟩ := ea
      rw [hxe] at this
      exact hne (congrArg Wy.d this).symm
    · have hin : ∀ j, inG n m (iter t x j) := fun j => by
        rw [iter_mod e3]
        have hj := Nat.mod_lt j (show 0 < a + b by omega)
        by_cases hja : j % (a + b) < goL n m t x
        · exact (goL_facts hd hx).2.2.1 _ hja
        · -- past the end of x's course: it is the other one's
          have e4 : iter t x (j % (a + b)) = rev t (iter t (rev t x) (a + b - j % (a + b))) := by
            have h5 := iter_rev (t := t) hd' 0 b
            have h6 := iter_rev (t := t) hd' (a + b - j % (a + b)) (b - (a + b - j % (a + b)))
            rw [show a + b - j % (a + b) + (b - (a + b - j % (a + b))) = b by omega, ← e1, ← iter_add, show a + (b - (a + b - j % (a + b))) = j % (a + b) by omega] at h6
            exact h6
          rw [e4]
          exact rev_in.2 ((goL_facts hd' hx').2.2.1 _ (by omega))
      rw [onR_of hin] at hon
      cases hon
  have hg0 : goesTo (iter t x) (goL n m t x) ⟨i, k, d0⟩ = true := goesTo_iff.2 ⟨0, (goL_facts hd hx).1, hxe⟩
  have hg1 : goesTo (iter t (rev t x)) (goL n m t (rev t x)) ⟨i, k, opp (bend (t i k) d0)⟩ = true := goesTo_iff.2 ⟨0, (goL_facts hd' hx').1, by rw [hxe]; rfl⟩
  generalize goesTo (iter t x) (goL n m t x) = g at *
  generalize goesTo (iter t (rev t x)) (goL n m t (rev t x)) = f at *
  have fin : ∀ (e : Nat), e < 4 → e ≠ d0 → opp (bend (t i k) e) ≠ d0 → (g ⟨i, k, e⟩).toNat + (g ⟨i, k, opp (bend (t i k) e)⟩).toNat + ((f ⟨i, k, e⟩).toNat + (f ⟨i, k, opp (bend (t i k) e)⟩).toNat) ≤ 1 := fun e he h1 h2 => by
    have p1 := hb1 e he
    have p2 := hb2 e he
    have p3 := hc e
    have p4 := hc (opp (bend (t i k) e))
    have p5 := hr e he h1
    have p6 := hr (opp (bend (t i k) e)) (opp_lt _) h2
    rw [bend_opp _ he, opp_opp he] at p6
    cases e1 : g ⟨i, k, e⟩ <;> cases e2 : g ⟨i, k, opp (bend (t i k) e)⟩ <;> cases e3 : f ⟨i, k, e⟩ <;> cases e4 : f ⟨i, k, opp (bend (t i k) e)⟩ <;> simp_all
  have z0 := hb1 d0 hd0 hg0
  have z1 := hc d0 hg0
  have t1 := toNat_le (g ⟨i, k, d0⟩)
  have t2 := toNat_le (f ⟨i, k, opp (bend (t i k) d0)⟩)
  have z0' := toNat_false z0
  have z1' := toNat_false z1
  clear hb1 hb2 hc hr hg0 hg1 z0 z1 hxe hx hx' hd hd' hon honr
  by_cases h1 : t i k = 114
  · rw [h1] at fin z0' t2
    have e0 : opp (bend 114 0) = 3 := rfl
    have e1 : opp (bend 114 1) = 2 := rfl
    have e2 : opp (bend 114 2) = 1 := rfl
    have e3 : opp (bend 114 3) = 0 := rfl
    rcases four hd0 with rfl | rfl | rfl | rfl
    · have h := fin 1 (by decide) (by decide) (by decide); rw [e1] at h; rw [e0] at z0' t2; omega
    · have h := fin 0 (by decide) (by decide) (by decide); rw [e0] at h; rw [e1] at z0' t2; omega
    · have h := fin 0 (by decide) (by decide) (by decide); rw [e0] at h; rw [e2] at z0' t2; omega
    · have h := fin 1 (by decide) (by decide) (by decide); rw [e1] at h; rw [e3] at z0' t2; omega
  · by_cases h2 : t i k = 102
    · rw [h2] at fin z0' t2
      have e0 : opp (bend 102 0) = 1 := rfl
      have e1 : opp (bend 102 1) = 0 := rfl
      have e2 : opp (bend 102 2) = 3 := rfl
      have e3 : opp (bend 102 3) = 2 := rfl
      rcases four hd0 with rfl | rfl | rfl | rfl
      · have h := fin 2 (by decide) (by decide) (by decide); rw [e2] at h; rw [e0] at z0' t2; omega
      · have h := fin 2 (by decide) (by decide) (by decide); rw [e2] at h; rw [e1] at z0' t2; omega
      · have h := fin 0 (by decide) (by decide) (by decide); rw [e0] at h; rw [e2] at z0' t2; omega
      · have h := fin 0 (by decide) (by decide) (by decide); rw [e0] at h; rw [e3] at z0' t2; omega
    · have e0 : opp (bend (t i k) 0) = 2 := by rw [bend_e h1 h2]; rfl
      have e1 : opp (bend (t i k) 1) = 3 := by rw [bend_e h1 h2]; rfl
      have e2 : opp (bend (t i k) 2) = 0 := by rw [bend_e h1 h2]; rfl
      have e3 : opp (bend (t i k) 3) = 1 := by rw [bend_e h1 h2]; rfl
      rcases four hd0 with rfl | rfl | rfl | rfl
      · have h := fin 1 (by decide) (by decide) (by rw [e1]; decide); rw [e1] at h; rw [e0] at z0' t2; omega
      · have h := fin 0 (by decide) (by decide) (by rw [e0]; decide); rw [e0] at h; rw [e1] at z0' t2; omega
      · have h := fin 1 (by decide) (by decide) (by rw [e1]; decide); rw [e1] at h; rw [e2] at z0' t2; omega
      · have h := fin 0 (by decide) (by decide) (by rw [e0]; decide); rw [e0] at h; rw [e3] at z0' t2; omega

/-- One path goes through the cell twice. -/
def selfB (n m : Nat) (t : Int → Int → UInt8) (i k : Int) : Bool := retB n m t i k ⟨i, k, 0⟩ || retB n m t i k (rev t ⟨i, k, 0⟩)
theorem self_round (hx : inG n m ⟨i, k, 0⟩) (hon : onR n m t ⟨i, k, 0⟩ = true) : (cntAt n m t i k ⟨i, k, 0⟩ == 2) = selfB n m t i k := by
  have hd : (⟨i, k, 0⟩ : Wy).d < 4 := Nat.zero_lt_succ 3
  have h1 := cntAt_ret (t := t) hd hx (atC_mk 0)
  have h2 := cnt_round (t := t) (i := i) (k := k) hd hx
  unfold selfB
  rw [Bool.eq_iff_iff, beq_iff_eq, Bool.or_eq_true]
  constructor
  · intro h
    exact .inl (h1.2.2 (by omega))
  · rintro (h | h)
    · have := h1.2.1 h; omega
    · have := h1.2.1 (ret_back hd hon h); omega
theorem self_beam (hx : inG n m ⟨i, k, 0⟩) (hon : onR n m t ⟨i, k, 0⟩ = false) : (cntAt n m t i k ⟨i, k, 0⟩ + cntAt n m t i k (rev t ⟨i, k, 0⟩) - 1 == 2) = selfB n m t i k := by
  have hd : (⟨i, k, 0⟩ : Wy).d < 4 := Nat.zero_lt_succ 3
  have h1 := cntAt_ret (t := t) hd hx (atC_mk 0)
  have h2 := cntAt_ret (t := t) (i := i) (k := k) (rev_d (t := t) ⟨i, k, 0⟩) hx ⟨rfl, rfl⟩
  have h3 := cnt_beam (t := t) (Nat.zero_lt_succ 3) hx hon
  unfold selfB
  rw [Bool.eq_iff_iff, beq_iff_eq, Bool.or_eq_true]
  constructor
  · intro h
    by_cases h4 : 2 ≤ cntAt n m t i k ⟨i, k, 0⟩
    · exact .inl (h1.2.2 h4)
    · exact .inr (h2.2.2 (by omega))
  · rintro (h | h)
    · have := h1.2.1 h; have := h2.1; omega
    · have := h2.2.1 h; have := h1.1; omega
end
end Go.Proofs.Ytagnecclhmbofaa
