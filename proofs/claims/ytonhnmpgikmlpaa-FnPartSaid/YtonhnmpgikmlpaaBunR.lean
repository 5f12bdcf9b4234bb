/- Settled texts in one file. Each begins with what it holds. -/
import Derived.Test.YtonhnmpgikmlpaaBunB
import Derived.Test.YtonhnmpgikmlpaaBunQ
import Derived.Test.YtonhnmpgikmlpaaRoundC
import Derived.Test.YtonhnmpgikmlpaaBunA
import Derived.Test.YtonhnmpgikmlpaaBunO
import Derived.Laws.IdiomStrings
import Derived.Test.YtonhnmpgikmlpaaApp
import Derived.Lib.SlBytesConst
/- Plain words on paths: one path goes through a cell twice. No program is named. -/
namespace Go.Proofs.Ytonhnmpgikmlpaa

section
variable {n m : Nat} {t : Int → Int → UInt8} {i k : Int}
/-- A way and a way backwards are never on one way's course. -/
theorem iter_ne_rev {x : Wy} (hd : x.d < 4) (a b : Nat) : iter t x a ≠ rev t (iter t x b) := by
  have main : ∀ (s a b : Nat), b = a + s → iter t x a ≠ rev t (iter t x b) := by
    intro s
    induction s using Nat.strongRecOn with
    | ind s ih =>
      intro a b hs e
      match s, hs with
      | 0, hs =>
        subst hs
        exact rev_ne (iter_d hd _) e.symm
      | 1, hs =>
        subst hs
        have h2 : rev t (iter t x a) = nxt t (iter t x a) := by
          rw [e, rev_rev (iter_d hd (a + 1))]
          conv => rhs; rw [← e]
          rfl
        exact rev_ne_nxt (iter_d hd a) h2
      | s + 2, hs =>
        obtain ⟨b, rfl⟩ : ∃ c, b = c + 1 := ⟨b - 1, by omega⟩
        refine ih s (by omega) (a + 1) b (by omega) ?_
        show nxt t (iter t x a) = _
        rw [e]
        exact nxt_rev_nxt (iter_d hd b)
  intro e
  by_cases h : a ≤ b
  · exact main (b - a) a b (by omega) e
  · refine main (a - b) b a (by omega) ?_
    rw [e, rev_rev (iter_d hd b)]

/-- How often a way's course goes through the cell, until it closes or leaves. -/
def cntAt (n m : Nat) (t : Int → Int → UInt8) (i k : Int) (x : Wy) : Nat := (List.range (goL n m t x)).countP fun j => decide (atC i k (iter t x j))
/-- It comes into the cell again. -/
def retB (n m : Nat) (t : Int → Int → UInt8) (i k : Int) (x : Wy) : Bool := (List.range (goL n m t x)).any fun j => decide (0 < j ∧ atC i k (iter t x j))
theorem retB_iff {x : Wy} : retB n m t i k x = true ↔ ∃ j, 0 < j ∧ j < goL n m t x ∧ atC i k (iter t x j) := by
  unfold retB
  rw [List.any_eq_true]
  constructor
  · rintro ⟨j, hj, h⟩
    have h := of_decide_eq_true h
    exact ⟨j, h.1, List.mem_range.1 hj, h.2⟩
  · rintro ⟨j, h1, h2, h3⟩
    exact ⟨j, List.mem_range.2 h2, decide_eq_true ⟨h1, h3⟩⟩
theorem cntAt_ret {x : Wy} (hd : x.d < 4) (hx : inG n m x) (h : atC i k x) : 1 ≤ cntAt n m t i k x ∧ (retB n m t i k x = true ↔ 2 ≤ cntAt n m t i k x) := by
  obtain ⟨L, hL⟩ : ∃ L, goL n m t x = L + 1 := ⟨goL n m t x - 1, by have := (goL_facts (t := t) hd hx).1; omega⟩
  have e : cntAt n m t i k x = 1 + (List.range L).countP fun j => decide (atC i k (iter t x (j + 1))) := by
    unfold cntAt
    rw [hL, List.range_succ_eq_map, List.countP_cons, List.countP_map]
    rw [if_pos (decide_eq_true (show atC i k (iter t x 0) from h)), Nat.add_comm]
    rfl
  refine ⟨by omega, ?_⟩
  rw [retB_iff, e]
  constructor
  · rintro ⟨j, h1, h2, h3⟩
    have hp : 0 < (List.range L).countP fun j => decide (atC i k (iter t x (j + 1))) := List.countP_pos_iff.2 ⟨j - 1, List.mem_range.2 (by omega), by rw [show j - 1 + 1 = j by omega]; exact decide_eq_true h3⟩
    omega
  · intro h2
    obtain ⟨j, hj, h3⟩ := List.countP_pos_iff.1 (show 0 < (List.range L).countP fun j => decide (atC i k (iter t x (j + 1))) by omega)
    have hj := List.mem_range.1 hj
    exact ⟨j + 1, by omega, by omega, of_decide_eq_true h3⟩
/-- The same by headings. -/
theorem cntAt_up {x : Wy} (hd : x.d < 4) (hx : inG n m x) : cntAt n m t i k x = upT (fun d => goesTo (iter t x) (goL n m t x) ⟨i, k, d⟩) 4 := by
  unfold cntAt
  rw [times_gen (iter t x) i k (goL n m t x) (fun a b h1 h2 => (goL_facts hd hx).2.2.2.1 a b h1 h2) (fun j _ => iter_d hd j)]
  rfl
/-- On a round a cell is gone through twice at most. -/
theorem goes_rev {x : Wy} (hd : x.d < 4) {L : Nat} {y : Wy} (h : goesTo (iter t x) L y = true) : goesTo (iter t x) L (rev t y) = false := by
  rw [Bool.eq_false_iff]
  intro h2
  obtain ⟨a, _, rfl⟩ := goesTo_iff.1 h
  obtain ⟨b, _, e⟩ := goesTo_iff.1 h2
  exact iter_ne_rev hd b a e
theorem cnt_round {x : Wy} (hd : x.d < 4) (hx : inG n m x) : cntAt n m t i k x ≤ 2 := by
  rw [cntAt_up hd hx, upT_four]
  have hb : ∀ d, d < 4 → goesTo (iter t x) (goL n m t x) ⟨i, k, d⟩ = true → goesTo (iter t x) (goL n m t x) ⟨i, k, opp (bend (t i k) d)⟩ = false := fun d _ h => goes_rev hd h
  generalize goesTo (iter t x) (goL n m t x) = g at hb ⊢
  by_cases h1 : t i k = 114
  · rw [h1] at hb
    have a := pair_le (hb 0 (by decide))
    have b := pair_le (hb 1 (by decide))
    simp only [bend, opp] at a b
    simp at a b
    omega
  · by_cases h2 : t i k = 102
    · rw [h2] at hb
      have a := pair_le (hb 0 (by decide))
      have b := pair_le (hb 2 (by decide))
      simp only [bend, opp] at a b
      simp at a b
      omega
    · have a := pair_le (hb 0 (by decide))
      have b := pair_le (hb 1 (by decide))
      rw [bend_e h1 h2] at a b
      simp only [opp] at a b
      simp at a b
      omega
theorem ret_back {x : Wy} (hd : x.d < 4) (hon : onR n m t x = true) (hr : retB n m t i k (rev t x) = true) : retB n m t i k x = true := by
  obtain ⟨k1, k2, k3, _⟩ := rlen_facts hd hon
  have hon' := onR_rev hd hon
  obtain ⟨j, h1, h2, h3⟩ := retB_iff.1 hr
  have hg : goL n m t (rev t x) = rlen n m t (rev t x) := by unfold goL; rw [if_pos hon']
  have hg' : goL n m t x = rlen n m t x := by unfold goL; rw [if_pos hon]
  rw [hg] at h2
  have hj : j ≤ j * rlen n m t x := Nat.le_mul_of_pos_right _ (by omega)
  have e := iter_rev (t := t) hd (j * rlen n m t x - j) j
  rw [show j * rlen n m t x - j + j = j * rlen n m t x by omega, iter_mul k3] at e
  rw [e] at h3
  have h4 : atC i k (iter t x (j * rlen n m t x - j)) := h3
  rw [iter_mod k3] at h4
  refine retB_iff.2 ⟨(j * rlen n m t x - j) % rlen n m t x, ?_, by rw [hg']; exact Nat.mod_lt _ (by omega), h4⟩
  refine Nat.pos_of_ne_zero fun h0 => ?_
  have e0 : iter t x (j * rlen n m t x - j) = x := by rw [iter_mod k3, h0]; rfl
  rw [e0] at e
  exact (rlen_facts (rev_d x) hon').2.2.2 j h1 h2 e
/-- A beam goes through a cell twice at most, there and back. -/
theorem cnt_beam {d0 : Nat} (hd0 : d0 < 4) (hx : inG n m ⟨i, k, d0⟩) (hon : onR n m t ⟨i, k, d0⟩ = false) : cntAt n m t i k ⟨i, k, d0⟩ + cntAt n m t i k (rev t ⟨i, k, d0⟩) ≤ 3 := by
  have hd : (⟨i, k, d0⟩ : Wy).d < 4 := hd0
  obtain ⟨x, hxe⟩ : ∃ x : Wy, x = ⟨i, k, d0⟩ := ⟨_, rfl⟩
  rw [← hxe] at hx hon hd ⊢
  have hx' : inG n m (rev t x) := hx
  have hd' := rev_d (t := t) x
  have honr : onR n m t (rev t x) = false := by
    rw [Bool.eq_false_iff]
    intro h
    rw [onR_back hd h] at hon
    cases hon
  rw [cntAt_up hd hx, cntAt_up hd' hx', upT_four, upT_four]
  have hb1 : ∀ d, d < 4 → goesTo (iter t x) (goL n m t x) ⟨i, k, d⟩ = true → goesTo (iter t x) (goL n m t x) ⟨i, k, opp (bend (t i k) d)⟩ = false := fun d _ h => goes_rev hd h
  have hb2 : ∀ d, d < 4 → goesTo (iter t (rev t x)) (goL n m t (rev t x)) ⟨i, k, d⟩ = true → goesTo (iter t (rev t x)) (goL n m t (rev t x)) ⟨i, k, opp (bend (t i k) d)⟩ = false := fun d _ h => goes_rev hd' h
  -- one way never lies on both courses
  have hc : ∀ d, goesTo (iter t x) (goL n m t x) ⟨i, k, d⟩ = true → goesTo (iter t (rev t x)) (goL n m t (rev t x)) ⟨i, k, d⟩ = false := fun d h => by
    rw [Bool.eq_false_iff]
    intro h2
    obtain ⟨a, _, ea⟩ := goesTo_iff.1 h
    obtain ⟨b, _, eb⟩ := goesTo_iff.1 h2
    have e := ea.trans eb.symm
    rcases Nat.le_total b a with hle | hle
    · rw [show a = (a - b) + b by omega, iter_add] at e
      exact iter_ne_rev hd (a - b) 0 (iter_inj (iter_d hd _) hd' b e)
    · rw [show b = (b - a) + a by omega, iter_add] at e
      have e2 := iter_inj hd (iter_d hd' _) a e
      exact iter_ne_rev hd' (b - a) 0 (by rw [← e2]; exact (rev_rev hd).symm)
  -- and its way back does on the other one only at the beginning
  have hr : ∀ d, d < 4 → d ≠ d0 → goesTo (iter t x) (goL n m t x) ⟨i, k, d⟩ = true → goesTo (iter t (rev t x)) (goL n m t (rev t x)) ⟨i, k, opp (bend (t i k) d)⟩ = false := fun d hd4 hne h => by
    rw [Bool.eq_false_iff]
    intro h2
    obtain ⟨a, ha, ea⟩ := goesTo_iff.1 h
    obtain ⟨b, hb, eb⟩ := goesTo_iff.1 h2
    have e1 : iter t x a = rev t (iter t (rev t x) b) := by
      rw [ea, eb]
      exact (rev_rev (t := t) (x := ⟨i, k, d⟩) hd4).symm
    have e2 := iter_rev (t := t) hd' 0 b
    rw [Nat.zero_add, ← e1, ← iter_add] at e2
    have e3 : iter t x (a + b) = x := by rw [e2]; exact rev_rev hd
    by_cases h0 : a + b = 0
    · obtain rfl : a = 0 := by omega
      have : x = ⟨i, k, d⟩ := ea
      rw [hxe] at this
      exact hne (congrArg Wy.d this).symm
    · have hin : ∀ j, inG n m (iter t x j) := fun j => by
        rw [iter_mod e3]
        have hj := Nat.mod_lt j (show 0 < a + b by omega)
        by_cases hja : j % (a + b) < goL n m t x
        · exact (goL_facts hd hx).2.2.1 _ hja
        · -- past the end of x's course: it is the other one's
          have e4 : iter t x (j % (a + b)) = rev t (iter t (rev t x) (a + b - j % (a + b))) := by
            have h5 := iter_rev (t := t) hd' 0 b
            have h6 := iter_rev (t := t) hd' (a + b - j % (a + b)) (b - (a + b - j % (a + b)))
            rw [show a + b - j % (a + b) + (b - (a + b - j % (a + b))) = b by omega, ← e1, ← iter_add, show a + (b - (a + b - j % (a + b))) = j % (a + b) by omega] at h6
            exact h6
          rw [e4]
          exact rev_in.2 ((goL_facts hd' hx').2.2.1 _ (by omega))
      rw [onR_of hin] at hon
      cases hon
  have hg0 : goesTo (iter t x) (goL n m t x) ⟨i, k, d0⟩ = true := goesTo_iff.2 ⟨0, (goL_facts hd hx).1, hxe⟩
  have hg1 : goesTo (iter t (rev t x)) (goL n m t (rev t x)) ⟨i, k, opp (bend (t i k) d0)⟩ = true := goesTo_iff.2 ⟨0, (goL_facts hd' hx').1, by rw [hxe]; rfl⟩
  generalize goesTo (iter t x) (goL n m t x) = g at *
  generalize goesTo (iter t (rev t x)) (goL n m t (rev t x)) = f at *
  have fin : ∀ (e : Nat), e < 4 → e ≠ d0 → opp (bend (t i k) e) ≠ d0 → (g ⟨i, k, e⟩).toNat + (g ⟨i, k, opp (bend (t i k) e)⟩).toNat + ((f ⟨i, k, e⟩).toNat + (f ⟨i, k, opp (bend (t i k) e)⟩).toNat) ≤ 1 := fun e he h1 h2 => by
    have p1 := hb1 e he
    have p2 := hb2 e he
    have p3 := hc e
    have p4 := hc (opp (bend (t i k) e))
    have p5 := hr e he h1
    have p6 := hr (opp (bend (t i k) e)) (opp_lt _) h2
    rw [bend_opp _ he, opp_opp he] at p6
    cases e1 : g ⟨i, k, e⟩ <;> cases e2 : g ⟨i, k, opp (bend (t i k) e)⟩ <;> cases e3 : f ⟨i, k, e⟩ <;> cases e4 : f ⟨i, k, opp (bend (t i k) e)⟩ <;> simp_all
  have z0 := hb1 d0 hd0 hg0
  have z1 := hc d0 hg0
  have t1 := toNat_le (g ⟨i, k, d0⟩)
  have t2 := toNat_le (f ⟨i, k, opp (bend (t i k) d0)⟩)
  have z0' := toNat_false z0
  have z1' := toNat_false z1
  clear hb1 hb2 hc hr hg0 hg1 z0 z1 hxe hx hx' hd hd' hon honr
  by_cases h1 : t i k = 114
  · rw [h1] at fin z0' t2
    have e0 : opp (bend 114 0) = 3 := rfl
    have e1 : opp (bend 114 1) = 2 := rfl
    have e2 : opp (bend 114 2) = 1 := rfl
    have e3 : opp (bend 114 3) = 0 := rfl
    rcases four hd0 with rfl | rfl | rfl | rfl
    · have h := fin 1 (by decide) (by decide) (by decide); rw [e1] at h; rw [e0] at z0' t2; omega
    · have h := fin 0 (by decide) (by decide) (by decide); rw [e0] at h; rw [e1] at z0' t2; omega
    · have h := fin 0 (by decide) (by decide) (by decide); rw [e0] at h; rw [e2] at z0' t2; omega
    · have h := fin 1 (by decide) (by decide) (by decide); rw [e1] at h; rw [e3] at z0' t2; omega
  · by_cases h2 : t i k = 102
    · rw [h2] at fin z0' t2
      have e0 : opp (bend 102 0) = 1 := rfl
      have e1 : opp (bend 102 1) = 0 := rfl
      have e2 : opp (bend 102 2) = 3 := rfl
      have e3 : opp (bend 102 3) = 2 := rfl
      rcases four hd0 with rfl | rfl | rfl | rfl
      · have h := fin 2 (by decide) (by decide) (by decide); rw [e2] at h; rw [e0] at z0' t2; omega
      · have h := fin 2 (by decide) (by decide) (by decide); rw [e2] at h; rw [e1] at z0' t2; omega
      · have h := fin 0 (by decide) (by decide) (by decide); rw [e0] at h; rw [e2] at z0' t2; omega
      · have h := fin 0 (by decide) (by decide) (by decide); rw [e0] at h; rw [e3] at z0' t2; omega
    · have e0 : opp (bend (t i k) 0) = 2 := by rw [bend_e h1 h2]; rfl
      have e1 : opp (bend (t i k) 1) = 3 := by rw [bend_e h1 h2]; rfl
      have e2 : opp (bend (t i k) 2) = 0 := by rw [bend_e h1 h2]; rfl
      have e3 : opp (bend (t i k) 3) = 1 := by rw [bend_e h1 h2]; rfl
      rcases four hd0 with rfl | rfl | rfl | rfl
      · have h := fin 1 (by decide) (by decide) (by rw [e1]; decide); rw [e1] at h; rw [e0] at z0' t2; omega
      · have h := fin 0 (by decide) (by decide) (by rw [e0]; decide); rw [e0] at h; rw [e1] at z0' t2; omega
      · have h := fin 1 (by decide) (by decide) (by rw [e1]; decide); rw [e1] at h; rw [e2] at z0' t2; omega
      · have h := fin 0 (by decide) (by decide) (by rw [e0]; decide); rw [e0] at h; rw [e3] at z0' t2; omega

/-- One path goes through the cell twice. -/
def selfB (n m : Nat) (t : Int → Int → UInt8) (i k : Int) : Bool := retB n m t i k ⟨i, k, 0⟩ || retB n m t i k (rev t ⟨i, k, 0⟩)
theorem self_round (hx : inG n m ⟨i, k, 0⟩) (hon : onR n m t ⟨i, k, 0⟩ = true) : (cntAt n m t i k ⟨i, k, 0⟩ == 2) = selfB n m t i k := by
  have hd : (⟨i, k, 0⟩ : Wy).d < 4 := Nat.zero_lt_succ 3
  have h1 := cntAt_ret (t := t) hd hx (atC_mk 0)
  have h2 := cnt_round (t := t) (i := i) (k := k) hd hx
  unfold selfB
  rw [Bool.eq_iff_iff, beq_iff_eq, Bool.or_eq_true]
  constructor
  · intro h
    exact .inl (h1.2.2 (by omega))
  · rintro (h | h)
    · have := h1.2.1 h; omega
    · have := h1.2.1 (ret_back hd hon h); omega
theorem self_beam (hx : inG n m ⟨i, k, 0⟩) (hon : onR n m t ⟨i, k, 0⟩ = false) : (cntAt n m t i k ⟨i, k, 0⟩ + cntAt n m t i k (rev t ⟨i, k, 0⟩) - 1 == 2) = selfB n m t i k := by
  have hd : (⟨i, k, 0⟩ : Wy).d < 4 := Nat.zero_lt_succ 3
  have h1 := cntAt_ret (t := t) hd hx (atC_mk 0)
  have h2 := cntAt_ret (t := t) (i := i) (k := k) (rev_d (t := t) ⟨i, k, 0⟩) hx ⟨rfl, rfl⟩
  have h3 := cnt_beam (t := t) (Nat.zero_lt_succ 3) hx hon
  unfold selfB
  rw [Bool.eq_iff_iff, beq_iff_eq, Bool.or_eq_true]
  constructor
  · intro h
    by_cases h4 : 2 ≤ cntAt n m t i k ⟨i, k, 0⟩
    · exact .inl (h1.2.2 h4)
    · exact .inr (h2.2.2 (by omega))
  · rintro (h | h)
    · have := h1.2.1 h; have := h2.1; omega
    · have := h2.2.1 h; have := h1.1; omega
end
end Go.Proofs.Ytonhnmpgikmlpaa

/- ChangeSelf of the program: a step that returns into its cell, a path that goes through a cell twice, by their contracts. -/
namespace Go.Proofs.Ytonhnmpgikmlpaa
open Go.RowKit Go.Shelf

section
variable {P : Program} (w : World)
theorem run_neq_ptr_nil {tp te : TypeId} (a : Addr) (hp : P.underlying tp = some (.pointer te)) :
    (binOp .neq tp (.pointer (some a)) (.pointer none)).run P w = .ok (.bool true) w := by
  have h : ∀ d : Nat, (Op.equalIn (d + 1) tp (.pointer (some a)) (.pointer none)).run P w = .ok false w := fun d => by
    simp [Op.equalIn, run_underlying hp]
  simp only [binOp]
  simp [Op.equal, Op.maxDepth, h 9999]
theorem run_neq_nil_nil {tp te : TypeId} (hp : P.underlying tp = some (.pointer te)) :
    (binOp .neq tp (.pointer none) (.pointer none)).run P w = .ok (.bool false) w := by
  have h : ∀ d : Nat, (Op.equalIn (d + 1) tp (.pointer none) (.pointer none)).run P w = .ok true w := fun d => by
    simp [Op.equalIn, run_underlying hp]
  simp only [binOp]
  simp [Op.equal, Op.maxDepth, h 9999]
end
theorem run_eq_place (ac : Act) (x y : Operand) (a b c d : Int) (w : World) (hx : ac.eval x = .agg #[.int .i64 a, .int .i64 b]) (hy : ac.eval y = .agg #[.int .i64 c, .int .i64 d]) (o : Oper) (ho : o.op = Op.binOp .eql 97 x y 97) :
    (execOp ac.eval o).run Try.prog w = .ok (.value (.bool (decide (a = c ∧ b = d)))) w := by
  unfold execOp
  simp only [ho, hx, hy]
  go_simp
  by_cases h1 : a = c <;> by_cases h2 : b = d <;> simp [h1, h2]
/-- The place of a step, out of its block. -/
theorem StepsM.place {w : World} {g n m N c : Nat} {t : Int → Int → UInt8} (h : StepsM w g n m t (fun _ => True) N) (hc : c < N) : w.rangeAt g (5 * c) [.int .i64 (wayN m c).i, .int .i64 (wayN m c).k] := by
  have h1 := h.way hc
  intro j v hj
  refine h1 j v ?_
  match j, hj with
  | 0, hj => exact hj
  | 1, hj => exact hj
  | j + 2, hj => simp at hj

set_option maxRecDepth 100000 in
set_option maxHeartbeats 2000000 in
theorem returns_any (n m g N c : Nat) (t : Int → Int → UInt8) (w : World) (hN : 4 * (n * m) = N) (hN100 : N ≤ 100) (hc : c < N) (hs : StepsM w g n m t (fun _ => True) N) :
    Calls Try.prog 163 #[.pointer (some ⟨g, 5 * c, none⟩)] w fun e w' => e = .returned (.bool (retB n m t (wayN m c).i (wayN m c).k (wayN m c))) ∧ ∃ d, w' = w.drewN d := by
  have hc4 : c < 4 * (n * m) := by rw [hN]; exact hc
  have hx := wayN_in (n := n) (m := m) hc4
  have hd := wayN_d (m := m) c
  obtain ⟨f1, f2, f3, f4, f5, f6⟩ := goL_facts (t := t) hd hx
  have f7 := fun j h1 h2 => goL_back (t := t) (j := j) hd hx h1 h2
  have f8 := fun j => iter_d (t := t) hd j
  have f9 : ∀ j, iter t (wayN m c) (j + 1) = nxt t (iter t (wayN m c) j) := fun j => rfl
  have hcode := wcode_way (m := m) c
  have h0 : iter t (wayN m c) 0 = wayN m c := rfl
  have HRT := hid (show ∀ j, 0 < j → j < goL n m t (wayN m c) → atC (wayN m c).i (wayN m c).k (iter t (wayN m c) j) → retB n m t (wayN m c).i (wayN m c).k (wayN m c) = true from fun j h1 h2 h3 => retB_iff.2 ⟨j, h1, h2, h3⟩)
  have HRF := hid (show (∀ j, 0 < j → j < goL n m t (wayN m c) → ¬ atC (wayN m c).i (wayN m c).k (iter t (wayN m c) j)) → retB n m t (wayN m c).i (wayN m c).k (wayN m c) = false from fun h => by
    rw [Bool.eq_false_iff]
    intro hr
    obtain ⟨j, h1, h2, h3⟩ := retB_iff.1 hr
    exact h j h1 h2 h3)
  generalize retB n m t (wayN m c).i (wayN m c).k (wayN m c) = rb at *
  generalize goL n m t (wayN m c) = L at *
  generalize onR n m t (wayN m c) = on at *
  generalize iter t (wayN m c) = bw at *
  have HST := hid (fun (wr : World) (hb : Below w.heap.size w wr) (j : Nat) (hj : j < L) => show wr.cell? ⟨g, 5 * wcode m (bw j) + 3, none⟩ = some (if inG n m (bw (j + 1)) then .pointer (some ⟨g, 5 * wcode m (bw (j + 1)), none⟩) else .pointer none) by
    have h1 := (hs.below hb).next (c := wcode m (bw j)) (by rw [← hN]; exact wcode_lt (f3 j hj) (f8 j))
    rw [wayN_code (f3 j hj) (f8 j)] at h1
    rw [h1, f9 j]
    rfl)
  have HPL := hid (fun (wr : World) (hb : Below w.heap.size w wr) (j : Nat) (hj : j < L) => show wr.rangeAt g (5 * wcode m (bw j)) [.int .i64 (bw j).i, .int .i64 (bw j).k] by
    have h1 := (hs.below hb).place (c := wcode m (bw j)) (by rw [← hN]; exact wcode_lt (f3 j hj) (f8 j))
    rw [wayN_code (f3 j hj) (f8 j)] at h1
    exact h1)
  have HP0 := hid (fun (wr : World) (hb : Below w.heap.size w wr) => (hs.below hb).place (c := c) hc)
  have HB0 := hid (show wcode m (bw 0) = c by rw [h0, hcode])
  have HIN := hid f3
  have HBK := hid (fun j (h1 : 1 ≤ j) (h2 : j < L) => show wcode m (bw j) ≠ c from fun e => f7 j h1 h2 (wcode_inj (f3 j h2) (f8 j) hx hd (by rw [e, hcode])))
  have HON := hid (fun h => show bw L = wayN m c from (f5 h).1)
  have HX := hid hx
  have HCD := hid hcode
  have HOUT := hid f6
  have hL100 : L ≤ 100 := by omega
  have HSL := hid hs.lt
  obtain ⟨si, hsi, _, hs1, _⟩ := info_parts Try.info_step
  have HSAME := hid (fun (W : World) => run_neq_ptr_same (P := Try.prog) W ⟨g, 5 * c, none⟩ Try.underlying161 hsi)
  have HOTH := hid (fun (W : World) (q : Nat) (hb : Below w.heap.size w W) (hq : q ≠ c) => by
    obtain ⟨cs, hk, _⟩ := hs.below hb
    exact run_neq_ptr_other (P := Try.prog) W (a := ⟨g, 5 * q, none⟩) (b := ⟨g, 5 * c, none⟩) Try.underlying161 hsi (by rw [hs1]; decide) (fun e => hq (by have := congrArg Addr.off e; simp only at this; omega)) hk hk)
  have HPN := hid (fun (W : World) (q : Nat) => run_neq_ptr_nil (P := Try.prog) W ⟨g, 5 * q, none⟩ Try.underlying161)
  have HNN := hid (fun (W : World) => run_neq_nil_nil (P := Try.prog) W Try.underlying161)
  clear hsi hs1
  clear hc4 hx hd f2 f3 f4 f5 f6 f7 f8 f9 hcode h0 hs
  have hc3 := HST.out w (Below.refl _ _) 0 (by omega)
  rw [HB0.out] at hc3
  obtain ⟨nv, hnv⟩ : ∃ nv : Value, (if inG n m (bw (0 + 1)) then Value.pointer (some ⟨g, 5 * wcode m (bw (0 + 1)), none⟩) else .pointer none) = nv := ⟨_, rfl⟩
  rw [hnv] at hc3
  have HNV := hid hnv
  clear hnv
  generalize wayN m c = x0 at *
  go_enter Try.func163, Try.ntmps163
  go_wp2
  go_loopg [3] (L - 1) (fun gk nx wr => ∃ j : Nat, 1 ≤ j ∧ j + gk = L ∧ nx = (if inG n m (bw j) then .pointer (some ⟨g, 5 * wcode m (bw j), none⟩) else .pointer none) ∧ Hid (∀ a, 0 < a → a < j → ¬ atC x0.i x0.k (bw a)) ∧ ∃ d, wr = w.drewN d)
  case atStart => exact ⟨1, Nat.le_refl _, Nat.add_sub_cancel' f1, HNV.out.symm, hid (fun a h1 h2 => by omega), 0, rfl⟩
  case round =>
    obtain ⟨j, hj1, hjg, rfl, hno, d, rfl⟩ := hrel
    have HNO := hno
    have HBD := hid (below_drewN' (Below.refl w.heap.size w) d)
    clear hno hc3
    cases gk with
    | zero =>
      obtain rfl : j = L := by omega
      have HF := hid (HRF.out (fun a h1 h2 => HNO.out a h1 h2))
      cases on with
      | true =>
        rw [HON.out rfl, if_pos HX.out, HCD.out]
        have hcmp := HSAME.out (w.drewN d)
        have hcmp2 := HPN.out (w.drewN d) c
        go_wp2
        go_ret
        exact ⟨by rw [HF.out]; rfl, _, rfl⟩
      | false =>
        rw [if_neg (HOUT.out rfl)]
        have hcmp := HNN.out (w.drewN d)
        go_wp2
        go_ret
        exact ⟨by rw [HF.out]; rfl, _, rfl⟩
    | succ gk =>
      have hlt : j < L := by omega
      have hin := HIN.out j hlt
      have hne := HBK.out j hj1 hlt
      rw [if_pos hin]
      have HNX := hid (fun W (hb : Below w.heap.size w W) => HST.out W hb j hlt)
      have HPJ := hid (fun W (hb : Below w.heap.size w W) => HPL.out W hb j hlt)
      have hcmp := HOTH.out (w.drewN d) (wcode m (bw j)) HBD.out hne
      have hcmp2 := HPN.out (w.drewN d) (wcode m (bw j))
      have HRJ := hid (HRT.out j (by omega) hlt)
      obtain ⟨q, hq⟩ : ∃ q, wcode m (bw j) = q := ⟨_, rfl⟩
      rw [hq] at HNX HPJ hcmp hcmp2 ⊢
      obtain ⟨nv, hnv⟩ : ∃ nv : Value, (if inG n m (bw (j + 1)) then Value.pointer (some ⟨g, 5 * wcode m (bw (j + 1)), none⟩) else .pointer none) = nv := ⟨_, rfl⟩
      have HNV2 := hid hnv
      rw [hnv] at HNX
      obtain ⟨yi, hyi⟩ : ∃ y, (bw j).i = y := ⟨_, rfl⟩
      obtain ⟨yk, hyk⟩ : ∃ y, (bw j).k = y := ⟨_, rfl⟩
      rw [hyi, hyk] at HPJ
      have HAT := hid (show decide (yi = x0.i ∧ yk = x0.k) = decide (atC x0.i x0.k (bw j)) by rw [decide_eq_decide, ← hyi, ← hyk]; exact Iff.rfl)
      clear hin hne hq hnv hyi hyk
      go_wp2_with fail
      refine wp_region_quiet (C := fun W => ∃ d', W = w.drewN d') (by kernel_rfl) (by kernel_rfl) ⟨d + 1, rfl⟩ ?_
      quiet_step ((intro _; rfl))
      quiet_step ((intro _; rfl))
      quiet_step ((intro _; rfl))
      quiet_step ((intro _; rfl))
      refine wpQuiet_load_mid rfl 97 _ rfl g (5 * q) rfl #[.int .i64 yi, .int .i64 yk] _ (fun W hW => by obtain ⟨d', rfl⟩ := hW; exact HPJ.out _ (below_drewN' (Below.refl w.heap.size w) d')) Try.underlying97 rfl Try.size_place ?_
      quiet_step ((intro _; rfl))
      quiet_step ((intro _; rfl))
      quiet_step ((intro _; rfl))
      quiet_step ((intro _; rfl))
      refine wpQuiet_load_mid rfl 97 _ rfl g (5 * c) rfl #[.int .i64 x0.i, .int .i64 x0.k] _ (fun W hW => by obtain ⟨d', rfl⟩ := hW; exact HP0.out _ (below_drewN' (Below.refl w.heap.size w) d')) Try.underlying97 rfl Try.size_place ?_
      refine wpQuiet_value rfl (.bool (decide (yi = x0.i ∧ yk = x0.k))) (fun W _ => run_eq_place _ _ _ yi yk x0.i x0.k W rfl rfl _ rfl) ?_
      refine wpQuiet_nil ?_
      rintro W ⟨d', rfl⟩
      rw [HAT.out]
      by_cases hat : atC x0.i x0.k (bw j)
      · rw [decide_eq_true hat]
        have HR := hid (HRJ.out hat)
        clear hat
        go_wp2_with fail
        go_ret
        exact ⟨by rw [HR.out]; rfl, _, rfl⟩
      · rw [decide_eq_false hat]
        have HN := hid hat
        have hnx := HNX.out (w.drewN d') (below_drewN' (Below.refl w.heap.size w) d')
        clear hat
        go_wp2_with fail
        go_roundg gk
        case rel => exact ⟨j + 1, by omega, by omega, HNV2.out.symm, hid (fun a h1 h2 => by
          by_cases haj : a = j
          · rw [haj]; exact HN.out
          · exact HNO.out a h1 (by omega)), _, rfl⟩
        case measure => exact Nat.lt_succ_self _

set_option maxRecDepth 100000 in
set_option maxHeartbeats 2000000 in
theorem selfAt_any (n m g N c : Nat) (ls : List UInt8) (w : World) (hl : ls.length = 25) (hn : n ≤ 5) (hm : m ≤ 5) (hN : 4 * (n * m) = N) (hc : c < n * m) (hs : StepsM w g n m (lett m ls) (fun _ => True) N) :
    Calls Try.prog 128 #[.agg (chartC (gcells n m ls) g N), .agg #[.int .i64 (placeN m c).i, .int .i64 (placeN m c).k]] w fun e w' => e = .returned (.bool (selfB n m (lett m ls) (placeN m c).i (placeN m c).k)) ∧ Below w.heap.size w w' := by
  have h25 : n * m ≤ 25 := Nat.mul_le_mul hn hm
  have hN100 : N ≤ 100 := by omega
  have hx := placeN_in hc
  have hd0 : (placeN m c).d < 4 := Nat.zero_lt_succ 3
  have hz := gcells_size (n := n) (m := m) hl
  have HCS := hid (show (Try.prog.info? 91).map (·.size) = some (chartC (gcells n m ls) g N).size by rw [chartC_size hz]; exact Try.size_chart)
  have HST := hid (fun W => step_way n m g N ls (placeN m c) W hl hn hm hx hd0 hN)
  have hq : wcode m (placeN m c) < N := by rw [← hN]; exact wcode_lt hx hd0
  have hq2 : wcode m (rev (lett m ls) (placeN m c)) < N := by rw [← hN]; exact wcode_lt (rev_in.2 hx) (rev_d _)
  have HR1 := hid (fun W (hs' : StepsM W g n m (lett m ls) (fun _ => True) N) => returns_any n m g N (wcode m (placeN m c)) (lett m ls) W hN hN100 hq hs')
  have HR2 := hid (fun W (hs' : StepsM W g n m (lett m ls) (fun _ => True) N) => returns_any n m g N (wcode m (rev (lett m ls) (placeN m c))) (lett m ls) W hN hN100 hq2 hs')
  have HBK := hid (fun W (hs' : StepsM W g n m (lett m ls) (fun _ => True) N) => hs'.back (c := wcode m (placeN m c)) hq)
  rw [wayN_code hx hd0] at HR1 HBK
  rw [wayN_code (rev_in.2 hx) (rev_d _)] at HR2
  have hsb : selfB n m (lett m ls) (placeN m c).i (placeN m c).k = (retB n m (lett m ls) (placeN m c).i (placeN m c).k (placeN m c) || retB n m (lett m ls) (placeN m c).i (placeN m c).k (rev (lett m ls) (placeN m c))) := rfl
  rw [hsb]
  have HR2' := hid (show ∀ W, StepsM W g n m (lett m ls) (fun _ => True) N → Calls Try.prog 163 #[.pointer (some ⟨g, 5 * wcode m (rev (lett m ls) (placeN m c)), none⟩)] W fun e w' => e = .returned (.bool (retB n m (lett m ls) (placeN m c).i (placeN m c).k (rev (lett m ls) (placeN m c)))) ∧ ∃ d, w' = W.drewN d from HR2.out)
  have HS := hid hs
  have HWV := hid (show wayV (placeN m c) = .agg #[.int .i64 (placeN m c).i, .int .i64 (placeN m c).k, .int .i64 0] from rfl)
  rw [HWV.out] at HST
  generalize retB n m (lett m ls) (placeN m c).i (placeN m c).k (placeN m c) = r1 at *
  generalize retB n m (lett m ls) (placeN m c).i (placeN m c).k (rev (lett m ls) (placeN m c)) = r2 at *
  generalize wcode m (placeN m c) = q1 at *
  generalize wcode m (rev (lett m ls) (placeN m c)) = q2 at *
  generalize (placeN m c).i = xi at *
  generalize (placeN m c).k = xk at *
  generalize lett m ls = t at *
  generalize chartC (gcells n m ls) g N = cc at *
  have F0 := heap_new1 w (.cells cc 91) (.cells #[.int .i64 xi, .int .i64 xk] 97)
  have FB : Below w.heap.size w ((w.alloc (.cells cc 91)).alloc (.cells #[.int .i64 xi, .int .i64 xk] 97)) := ((Below.refl _ w).alloc (Nat.le_refl _) _).alloc (by simp) _
  have G0 := hid F0
  have GB := hid FB
  clear F0 FB hs hz hsb hl hn hm hN hc hx hd0 hq hq2 h25 HR2 HWV
  go_enter Try.func128, Try.ntmps128
  go_wp2_with (refine wpList_load_row_gA (by rfl) 91 _ rfl w.heap.size rfl 91 cc (0, 0) _ G0.out Try.underlying91 rfl HCS.out ?_)
  generalize World.alloc (World.alloc w _) _ = W0 at *
  refine (HST.out _).mono ?_
  rintro e w1 ⟨rfl, hb1⟩
  have HB1 := hid (GB.out.trans (hb1.mono GB.out.size))
  have HS1 := hid (HS.out.below HB1.out)
  have hbk := HBK.out w1 HS1.out
  clear hb1
  go_wp2_with fail
  refine (HR1.out w1 HS1.out).mono ?_
  rintro e w2 ⟨rfl, d, rfl⟩
  have HB2 := hid (below_drewN' HB1.out d)
  cases r1 with
  | true =>
    go_wp2_with fail
    go_ret
    exact ⟨rfl, HB2.out⟩
  | false =>
    have hbk2 := HBK.out (w1.drewN d) (HS.out.below HB2.out)
    clear hbk
    go_wp2_with fail
    refine (HR2'.out (w1.drewN d) (HS.out.below HB2.out)).mono ?_
    rintro e w3 ⟨rfl, d2, rfl⟩
    go_wp2_with fail
    go_ret
    exact ⟨rfl, below_drewN' HB1.out _⟩

/-- A cell, and a bool. -/
def SelfOut (ss : List ByteArray) (cell : Int) (ok : Bool) : Prop :=
  (∃ n m c, CellIn ss cell n m c ∧ ok = selfB n m (lett m (pad (flat ss))) (placeN m c).i (placeN m c).k) ∨ ((∀ n m c, ¬ CellIn ss cell n m c) ∧ ok = false)
theorem SelfOut.uniq {ss : List ByteArray} {cell : Int} {ok ok' : Bool} (h : SelfOut ss cell ok) (h' : SelfOut ss cell ok') : ok' = ok := by
  rcases h with ⟨n, m, c, h1, rfl⟩ | ⟨h1, rfl⟩ <;> rcases h' with ⟨n', m', c', h1', rfl⟩ | ⟨h1', rfl⟩
  · obtain ⟨rfl, rfl, rfl⟩ := h1.uniq h1'
    rfl
  · exact absurd h1 (h1' _ _ _)
  · exact absurd h1' (h1 _ _ _)
  · rfl
/-- What the operations of the program's last statement hand back. -/
def selfIRel (n m c N : Nat) (ls : List UInt8) (i : Nat) (v : Value) (W : World) : Prop :=
  match i with
  | 0 => v = .bool true
  | 1 => v = .bool true
  | 2 => v = .agg (gcells n m ls)
  | 3 => ∃ g, v = .agg (chartC (gcells n m ls) g N) ∧ StepsM W g n m (lett m ls) (fun _ => True) N
  | 4 => v = .agg #[.int .i64 (placeN m c).i, .int .i64 (placeN m c).k]
  | 5 => v = .bool (selfB n m (lett m ls) (placeN m c).i (placeN m c).k)
  | 6 => v = .bool (selfB n m (lett m ls) (placeN m c).i (placeN m c).k)
  | 7 => v = .bool (selfB n m (lett m ls) (placeN m c).i (placeN m c).k)
  | _ => True

end Go.Proofs.Ytonhnmpgikmlpaa

/- GridPut of the specification, by its contract. -/
namespace Go.Proofs.Ytonhnmpgikmlpaa
open Go.RowKit Go.Shelf

/-- A letter of a row turned. -/
def rowSet (s : ByteArray) (q : Nat) (b : UInt8) : ByteArray := ⟨(s.data.toList.set q b).toArray⟩
/-- The texts of a list, one text turned. -/
theorem put_same {n m c : Nat} {ss : List ByteArray} {b : UInt8} {s : ByteArray} (h : IsGrid n m ss) (hc : c < n * m) (hs : ss[c / m]? = some s) : textsOf n m ((pad (flat ss)).set c b) = ss.set (c / m) (rowSet s (c % m) b) := by
  have hm : 0 < m := h.2.2.2.1
  have hfl := h.flen
  apply List.ext_getElem?
  intro r
  by_cases hr : r < n
  · have hrs : r < ss.length := by rw [h.1]; exact hr
    have hk := List.getElem?_eq_getElem hrs
    have hsz : (ss[r]).size = m := (h.2.2.2.2.2 _ (List.mem_of_getElem? hk)).1
    rw [textsOf_at hr]
    have hat : ∀ q, q < m → (flat ss)[r * m + q]? = (ss[r]).data.toList[q]? := fun q hq => flat_at ss r q _ (fun i t _ ht => (h.2.2.2.2.2 t (List.mem_of_getElem? ht)).1) hk (by rw [hsz]; exact hq)
    have hlen : (ss[r]).data.toList.length = m := by rw [← Lib.size_eq]; exact hsz
    have hrow : ∀ (L : List UInt8), L.length = m → (∀ q, q < m → ((pad (flat ss)).set c b)[r * m + q]? = L[q]?) → rowText m ((pad (flat ss)).set c b) r = ⟨L.toArray⟩ := fun L hL hq => by
      unfold rowText
      congr 2
      apply List.ext_getElem?
      intro q
      by_cases hqm : q < m
      · rw [List.getElem?_take_of_lt hqm, List.getElem?_drop, hq q hqm]
      · rw [List.getElem?_eq_none (by rw [List.length_take]; omega), List.getElem?_eq_none (by omega)]
    have hpad : ∀ q, q < m → (pad (flat ss))[r * m + q]? = (ss[r]).data.toList[q]? := fun q hq => by
      rw [pad, List.getElem?_append_left (by rw [hfl]; exact lt_of_parts hr hq), hat q hq]
    have hdm : c / m * m + c % m = c := by rw [Nat.mul_comm]; exact Nat.div_add_mod c m
    have hcm : c % m < m := Nat.mod_lt _ hm
    have hc25 : c < (pad (flat ss)).length := by rw [h.plen]; have := h.le25; omega
    by_cases hrc : r = c / m
    · subst hrc
      rw [hk] at hs
      cases hs
      rw [List.getElem?_set_self hrs]
      congr 1
      refine hrow _ (by rw [List.length_set]; exact hlen) fun q hq => ?_
      by_cases hqc : q = c % m
      · subst hqc
        rw [hdm, List.getElem?_set_self hc25, List.getElem?_set_self (by rw [hlen]; exact hcm)]
      · rw [List.getElem?_set_ne (fun e => hqc (by have := (mul_inj (e.symm.trans hdm.symm) hq hcm).2; exact this)), List.getElem?_set_ne (fun e => hqc e.symm)]
        exact hpad q hq
    · rw [List.getElem?_set_ne (fun e => hrc e.symm), hk]
      congr 1
      have e := hrow (ss[r]).data.toList hlen fun q hq => by
        rw [List.getElem?_set_ne (fun e => hrc (mul_inj (e.symm.trans hdm.symm) hq hcm).1)]
        exact hpad q hq
      rw [e]
  · rw [List.getElem?_eq_none (by rw [textsOf_length]; omega), List.getElem?_eq_none (by rw [List.length_set, h.1]; omega)]

set_option maxRecDepth 100000 in
/-- The letters of a row, one turned, as a text. -/
theorem row_back (W : World) (hb rn m cap : Nat) (s : ByteArray) (bt : UInt8) (hz : s.size = m) (hr : rn < m) (cs : Array Value) (hbr : ∀ q, q < m → cs[q]? = some (.int .u8 ((s.data.toList.getD q 0).toNat : Int))) (hbs : m ≤ cs.size)
    (fr : Nat × Nat) (hw : W.heap[hb]? = some (.cells (cs.setIfInBounds rn (.int .u8 bt.toNat)) 5 fr)) :
    (convert 22 9 (.slice (some ⟨hb, 0, none⟩) m cap)).run Try.prog W = .ok (.string (rowSet s rn bt)) W := by
  have hlen : s.data.toList.length = m := by rw [← Lib.size_eq]; exact hz
  have hcv := run_convert_bytes_arg (P := Try.prog) W 22 5 Try.underlying22 Try.underlying5 hb 0 m cap ((s.data.toList.set rn bt).map fun b => (b.toNat : Int)) (by simp [hlen]) (fun i hi => by
    rw [cell_of_row _ _ _ _ _ _ hw, Nat.zero_add]
    by_cases e : i = rn
    · subst e
      rw [Array.getElem?_setIfInBounds_self_of_lt (by omega)]
      simp [hlen, hi]
    · rw [Array.getElem?_setIfInBounds_ne (fun h => e h.symm), hbr i hi]
      have hl : i < s.data.toList.length := by omega
      rw [List.getD_eq_getElem?_getD, List.getElem?_eq_getElem hl, List.getD_eq_getElem?_getD, List.getElem?_map, List.getElem?_set_ne (fun h => e h.symm), List.getElem?_eq_getElem hl]
      rfl) 9 Try.underlying9
  rw [hcv]
  unfold strOfNums rowSet
  congr 3
  rw [List.map_map]
  rw [show ((fun n : Int => UInt8.ofNat n.toNat) ∘ fun b : UInt8 => (b.toNat : Int)) = id from funext fun b => by simp, List.map_id]

end Go.Proofs.Ytonhnmpgikmlpaa

/- A grid with a cell put is a grid; its letters. No program is named. -/
namespace Go.Proofs.Ytonhnmpgikmlpaa

theorem pad_set_in {l : List UInt8} {c : Nat} {b : UInt8} (h : c < l.length) : (pad l).set c b = pad (l.set c b) := by
  unfold pad
  rw [List.set_append_left _ _ h, List.length_set]
/-- The texts of letters have these letters. -/
theorem flat_texts {n m : Nat} {l : List UInt8} (hm : 0 < m) (hl : l.length = n * m) : flat (textsOf n m (pad l)) = l ∧ ∀ s ∈ textsOf n m (pad l), s.size = m := by
  have hrow : ∀ r, r < n → (rowText m (pad l) r).data.toList = (l.drop (r * m)).take m := fun r hr => by
    unfold rowText
    have hle := parts_lt (a := r) (n := n) (m := m) (b := m - 1) hr (by omega)
    show ((pad l).drop (r * m)).take m = _
    unfold pad
    rw [List.drop_append_of_le_length (by omega), List.take_append_of_le_length (by simp; omega)]
  have hsz : ∀ s ∈ textsOf n m (pad l), s.size = m := fun s hs => by
    unfold textsOf at hs
    obtain ⟨r, hr, rfl⟩ := List.mem_map.1 hs
    have hr := List.mem_range.1 hr
    have hle := parts_lt (a := r) (n := n) (m := m) (b := m - 1) hr (by omega)
    rw [Lib.size_eq, hrow r hr]
    simp
    omega
  refine ⟨?_, hsz⟩
  have hfl : (flat (textsOf n m (pad l))).length = n * m := by rw [flat_length _ hsz, textsOf_length]
  apply List.ext_getElem?
  intro q
  by_cases hq : q < n * m
  · have h1 : q / m < n := by rw [Nat.div_lt_iff_lt_mul hm]; exact hq
    have h2 : q % m < m := Nat.mod_lt _ hm
    have h3 : q / m * m + q % m = q := by rw [Nat.mul_comm]; exact Nat.div_add_mod q m
    have hk := textsOf_at (m := m) (ls := pad l) h1
    have e := flat_at (textsOf n m (pad l)) (q / m) (q % m) _ (fun i t _ ht => hsz t (List.mem_of_getElem? ht)) hk (by rw [hsz _ (List.mem_of_getElem? hk)]; exact h2)
    rw [h3, hrow _ h1, List.getElem?_take_of_lt h2, List.getElem?_drop, h3] at e
    exact e
  · rw [List.getElem?_eq_none (by omega), List.getElem?_eq_none (by omega)]
theorem texts_grid {n m : Nat} {l : List UInt8} (hn : 1 ≤ n) (hn5 : n ≤ 5) (hm : 1 ≤ m) (hm5 : m ≤ 5) (hl : l.length = n * m) (hb : ∀ b ∈ l, isLet b = true) : IsGrid n m (textsOf n m (pad l)) := by
  obtain ⟨h1, h2⟩ := flat_texts (n := n) hm hl
  refine ⟨textsOf_length _ _ _, hn, hn5, hm, hm5, fun s hs => ⟨h2 s hs, fun b hbs => hb b ?_⟩⟩
  rw [← h1]
  exact List.mem_flatMap.2 ⟨s, hs, hbs⟩
/-- A grid with a cell put. -/
theorem put_grid {n m c : Nat} {ss : List ByteArray} {b : UInt8} (h : IsGrid n m ss) (hc : c < n * m) (hb : isLet b = true) :
    IsGrid n m (textsOf n m ((pad (flat ss)).set c b)) ∧ pad (flat (textsOf n m ((pad (flat ss)).set c b))) = (pad (flat ss)).set c b := by
  have hcl : c < (flat ss).length := by rw [h.flen]; exact hc
  rw [pad_set_in hcl]
  have hl : ((flat ss).set c b).length = n * m := by rw [List.length_set, h.flen]
  refine ⟨texts_grid h.2.1 h.2.2.1 h.2.2.2.1 h.2.2.2.2.1 hl fun x hx => ?_, by rw [(flat_texts h.2.2.2.1 hl).1]⟩
  rcases List.mem_or_eq_of_mem_set hx with h1 | rfl
  · obtain ⟨s, hs, hxs⟩ := List.mem_flatMap.1 h1
    exact (h.2.2.2.2.2 s hs).2 x hxs
  · exact hb
theorem isLet_oth (b : UInt8) (h : isLet b = true) : isLet (oth b) = true := by
  unfold isLet at *
  unfold oth
  split
  · rfl
  · split
    · rfl
    · exact h
theorem IsGrid.let_at {n m c : Nat} {ss : List ByteArray} (h : IsGrid n m ss) (hc : c < n * m) : ∃ b, (flat ss)[c]? = some b ∧ isLet b = true := by
  have hcl : c < (flat ss).length := by rw [h.flen]; exact hc
  refine ⟨(flat ss)[c], List.getElem?_eq_getElem hcl, ?_⟩
  obtain ⟨s, hs, hxs⟩ := List.mem_flatMap.1 (List.getElem_mem hcl)
  exact (h.2.2.2.2.2 s hs).2 _ hxs
end Go.Proofs.Ytonhnmpgikmlpaa

/- ChangeDelta and ChangeEmpty of the program, by their contracts. -/
namespace Go.Proofs.Ytonhnmpgikmlpaa
open Go.RowKit Go.Shelf

/-- What a question on a cell with a mirror comes to, where the answer is an integer and a bool. -/
def MirOut (R : Nat → Nat → List UInt8 → Nat → Int × Bool) (ss : List ByteArray) (cell : Int) (x : Int) (ok : Bool) : Prop :=
  (∃ n m c, MirrorIn ss cell n m c ∧ (x, ok) = R n m (pad (flat ss)) c) ∨ ((∀ n m c, ¬ MirrorIn ss cell n m c) ∧ x = 0 ∧ ok = false)
theorem MirOut.uniq {R : Nat → Nat → List UInt8 → Nat → Int × Bool} {ss : List ByteArray} {cell x x' : Int} {ok ok' : Bool} (h : MirOut R ss cell x ok) (h' : MirOut R ss cell x' ok') : x' = x ∧ ok' = ok := by
  rcases h with ⟨n, m, c, h1, h2⟩ | ⟨h1, rfl, rfl⟩ <;> rcases h' with ⟨n', m', c', h1', h2'⟩ | ⟨h1', rfl, rfl⟩
  · obtain ⟨rfl, rfl, rfl⟩ := h1.1.uniq h1'.1
    have := h2'.trans h2.symm
    cases this
    exact ⟨rfl, rfl⟩
  · exact absurd h1 (h1' _ _ _)
  · exact absurd h1' (h1 _ _ _)
  · exact ⟨rfl, rfl⟩
/-- How many paths more come if a cell becomes a letter. -/
def diffR (n m : Nat) (ls : List UInt8) (c : Nat) (b : UInt8) : Int := (pathsR n m (lett m (ls.set c b))).1 - (pathsR n m (lett m ls)).1
def deltaR (n m : Nat) (ls : List UInt8) (c : Nat) : Int × Bool := (diffR n m ls c (oth (lett m ls ((c / m : Nat) : Int) ((c % m : Nat) : Int))), true)
def emptyR (n m : Nat) (ls : List UInt8) (c : Nat) : Int × Bool := (diffR n m ls c 46, true)

end Go.Proofs.Ytonhnmpgikmlpaa

/- l4Given, l4Mirror, l4Exchange, ChangeDelta and ChangeEmpty of the specification, by their contracts. -/
namespace Go.Proofs.Ytonhnmpgikmlpaa
open Go.RowKit Go.Shelf

/-- What l4Given comes to. -/
def CellEnd (ss : List ByteArray) (cell : Int) (w : World) (e : Ending) (w' : World) : Prop :=
  ∃ ok : Bool, e = .returned (.bool ok) ∧ ((ok = true ∧ ∃ n m c, CellIn ss cell n m c) ∨ (ok = false ∧ ∀ n m c, ¬ CellIn ss cell n m c)) ∧ ∃ d, w' = w.drewN d
/-- What l4Mirror comes to. -/
def MirBEnd (ss : List ByteArray) (cell : Int) (w : World) (e : Ending) (w' : World) : Prop :=
  ∃ ok : Bool, e = .returned (.bool ok) ∧ ((ok = true ∧ ∃ n m c, MirrorIn ss cell n m c) ∨ (ok = false ∧ ∀ n m c, ¬ MirrorIn ss cell n m c)) ∧ ∃ d, w' = w.drewN d

/-- The letter of a cell, as the list of all letters has it. -/
theorem lett_cell {n m c : Nat} {ss : List ByteArray} (hg : IsGrid n m ss) (hc : c < n * m) : (flat ss)[c]? = some (lett m (pad (flat ss)) ((c / m : Nat) : Int) ((c % m : Nat) : Int)) := by
  have h := lett_flat hg (placeN_in hc)
  rw [cellN_place] at h
  exact h

end Go.Proofs.Ytonhnmpgikmlpaa

/- ChangeSelf of the specification: the cells of a path, by their contracts. -/
namespace Go.Proofs.Ytonhnmpgikmlpaa
open Go.RowKit Go.Shelf

/-- How often a cell's number stands among cells. -/
theorem count_cellsP {n m c L : Nat} {bw : Nat → Wy} (hc : c < n * m) (hin : ∀ j, j < L → inG n m (bw j)) : (cellsI m bw L).count ((c : Nat) : Int) = (List.range L).countP fun j => decide (atC (placeN m c).i (placeN m c).k (bw j)) := by
  have hm : 0 < m := by
    rcases Nat.eq_zero_or_pos m with h0 | h0
    · subst h0; simp at hc
    · exact h0
  unfold cellsI
  rw [List.count, List.countP_map]
  refine List.countP_congr fun j hj => ?_
  have h1 := cellN_iff (i := c / m) (hin j (List.mem_range.1 hj)) (Nat.mod_lt c hm)
  rw [show c / m * m + c % m = c by rw [Nat.mul_comm]; exact Nat.div_add_mod c m] at h1
  simp only [Function.comp, decide_eq_true_iff, beq_iff_eq]
  rw [Int.ofNat_inj, h1]
  rfl
/-- The cells of a path: of the way on, and of the way back if it is no round. -/
def pathL (n m : Nat) (t : Int → Int → UInt8) (c : Nat) : List Int :=
  if onR n m t (placeN m c) = true then cellsI m (iter t (placeN m c)) (goL n m t (placeN m c))
  else cellsI m (iter t (placeN m c)) (goL n m t (placeN m c)) ++ (cellsI m (iter t (rev t (placeN m c))) (goL n m t (rev t (placeN m c)))).drop 1
theorem pathL_len {n m c : Nat} {t : Int → Int → UInt8} (hc : c < n * m) : (pathL n m t c).length ≤ 8 * (n * m) := by
  have hx := placeN_in hc
  have h1 := (goL_facts (t := t) (x := placeN m c) (Nat.zero_lt_succ 3) hx).2.1
  have h2 := (goL_facts (t := t) (x := rev t (placeN m c)) (rev_d _) (rev_in.2 hx)).2.1
  unfold pathL
  split
  · rw [cellsI_length]; omega
  · rw [List.length_append, List.length_drop, cellsI_length, cellsI_length]; omega
theorem pathL_two {n m c : Nat} {t : Int → Int → UInt8} (hc : c < n * m) : ((pathL n m t c).count ((c : Nat) : Int) == 2) = selfB n m t (placeN m c).i (placeN m c).k := by
  have hx := placeN_in hc
  have hd : (placeN m c).d < 4 := Nat.zero_lt_succ 3
  have g1 := goL_facts (t := t) (x := placeN m c) hd hx
  have g2 := goL_facts (t := t) (x := rev t (placeN m c)) (rev_d _) (rev_in.2 hx)
  have c1 := count_cellsP (bw := iter t (placeN m c)) hc g1.2.2.1
  have c2 := count_cellsP (bw := iter t (rev t (placeN m c))) hc g2.2.2.1
  unfold pathL
  cases hon : onR n m t (placeN m c) with
  | true =>
    rw [if_pos rfl, c1]
    exact self_round hx hon
  | false =>
    rw [if_neg (by decide), List.count_append, c1]
    have h3 : (cellsI m (iter t (rev t (placeN m c))) (goL n m t (rev t (placeN m c)))).count ((c : Nat) : Int) = 1 + ((cellsI m (iter t (rev t (placeN m c))) (goL n m t (rev t (placeN m c)))).drop 1).count ((c : Nat) : Int) := by
      obtain ⟨L, hL⟩ : ∃ L, goL n m t (rev t (placeN m c)) = L + 1 := ⟨goL n m t (rev t (placeN m c)) - 1, by have := g2.1; omega⟩
      have h0 : (cellsI m (iter t (rev t (placeN m c))) (L + 1)) = ((c : Nat) : Int) :: (cellsI m (iter t (rev t (placeN m c))) (L + 1)).drop 1 := by
        have e0 : ((cellN m (iter t (rev t (placeN m c)) 0) : Nat) : Int) = ((c : Nat) : Int) := by
          have : cellN m (iter t (rev t (placeN m c)) 0) = c := cellN_place m c
          rw [this]
        unfold cellsI
        rw [List.range_succ_eq_map, List.map_cons, e0]
        rfl
      rw [hL]
      conv => lhs; rw [h0]
      rw [List.count_cons]
      simp; omega
    have h4 : (cntAt n m t (placeN m c).i (placeN m c).k (placeN m c) + cntAt n m t (placeN m c).i (placeN m c).k (rev t (placeN m c)) - 1 == 2) = selfB n m t (placeN m c).i (placeN m c).k := self_beam (t := t) (i := (placeN m c).i) (k := (placeN m c).k) hx hon
    rw [← h4]
    rw [c2] at h3
    have e1 : (List.range (goL n m t (placeN m c))).countP (fun j => decide (atC (placeN m c).i (placeN m c).k (iter t (placeN m c) j))) = cntAt n m t (placeN m c).i (placeN m c).k (placeN m c) := rfl
    have e2 : (List.range (goL n m t (rev t (placeN m c)))).countP (fun j => decide (atC (placeN m c).i (placeN m c).k (iter t (rev t (placeN m c)) j))) = cntAt n m t (placeN m c).i (placeN m c).k (rev t (placeN m c)) := rfl
    rw [e1]
    rw [e2] at h3
    rw [h3]
    congr 1
    omega

/-- What the operations on the way back hand back. -/
def pathRelA (A : Option Addr) (nl c cc base b2 o2 L1 c2 : Nat) (bt : UInt8) (on2 : Bool) (l2 : List Int) (i : Nat) (v : Value) (W : World) : Prop :=
  match i with
  | 0 => v = .slice A nl c
  | 1 => v = .int .i64 (cc : Int)
  | 2 => v = .slice A nl c
  | 3 => v = .int .i64 (cc : Int)
  | 4 => v = .int .u8 (bt.toNat : Int)
  | 5 => v = .slice (some ⟨b2, o2, none⟩) L1 c2
  | 6 => v = .pointer (some ⟨b2, o2, none⟩)
  | 7 => v = .int .i64 0
  | 8 => v = .int .i64 ((bend bt 0 : Nat) : Int)
  | 9 => v = .int .i64 ((opp (bend bt 0) : Nat) : Int)
  | 10 => ∃ v1 v2, v = .tuple #[v1, v2, .bool on2] ∧ GrowI W base v1 l2
  | 11 => ∃ v1 v2, v = .tuple #[v1, v2, .bool on2] ∧ GrowI W base v1 l2
  | 12 => GrowI W base v l2
  | 15 => GrowI W base v l2
  | _ => True
/-- What the operations of the two appends hand back, up to the last one. -/
def pathRelB (A1 : Option Addr) (L1 c1 base g cap L2 : Nat) (l1 l2 : List Int) (i : Nat) (v : Value) (W : World) : Prop :=
  match i with
  | 0 => ∃ h, v = .slice (some ⟨h, 0, none⟩) 0 0
  | 1 => v = .slice A1 L1 c1
  | 2 => GrowI W base v l1
  | 3 => v = .slice (some ⟨g, 0, none⟩) L2 cap
  | 4 => ∃ ad c', v = .slice (some ad) (L2 - 1) c' ∧ CellsAt W ad (intsV (l2.drop 1))
  | _ => True

set_option maxRecDepth 100000 in
set_option maxHeartbeats 4000000 in
theorem l4Path_any (A : Option Addr) (c B n m cc : Nat) (ss : List ByteArray) (w : World) (h : Strs w B A ss) (hB : B ≤ w.heap.size) (hg : IsGrid n m ss) (hcc : cc < n * m) :
    Calls Try.prog 77 #[.slice A ss.length c, .int .i64 cc, .int .i64 0] w fun e w' => (∃ A' c', e = .returned (.slice A' (pathL n m (lett m (pad (flat ss))) cc).length c') ∧ Ints w' w'.heap.size A' (pathL n m (lett m (pad (flat ss))) cc)) ∧ Below w.heap.size w w' := by
  have hx := placeN_in hcc
  have hC1 := hid (l3Close_any A c B n m cc 0 ss w h hB hg hcc (by decide))
  have HC2 := hid (fun W (hb : Below w.heap.size w W) => l3Close_any A c B n m cc (opp (bend (lett m (pad (flat ss)) (placeN m cc).i (placeN m cc).k) 0)) ss W (h.below hb hB) (Nat.le_trans hB hb.size) hg hcc (opp_lt _))
  have HCE := hid (fun W (hb : Below w.heap.size w W) => l2Cell_any A c B n m cc ss _ W (h.below hb hB) hg hcc (lett_cell hg hcc))
  have HBD := hid (fun W => l2Bend_any (lett m (pad (flat ss)) (placeN m cc).i (placeN m cc).k) 0 (by decide) W)
  have HXO := hid (xor_opp (bend_lt (lett m (pad (flat ss)) (placeN m cc).i (placeN m cc).k) (d := 0) (by decide)))
  have hpl : (⟨((cc / m : Nat) : Int), ((cc % m : Nat) : Int), 0⟩ : Wy) = placeN m cc := rfl
  have hrv : (⟨((cc / m : Nat) : Int), ((cc % m : Nat) : Int), opp (bend (lett m (pad (flat ss)) (placeN m cc).i (placeN m cc).k) 0)⟩ : Wy) = rev (lett m (pad (flat ss))) (placeN m cc) := rfl
  rw [hpl] at hC1
  rw [hrv] at HC2
  have HP1 := hid (show onR n m (lett m (pad (flat ss))) (placeN m cc) = true → pathL n m (lett m (pad (flat ss))) cc = cellsI m (iter (lett m (pad (flat ss))) (placeN m cc)) (goL n m (lett m (pad (flat ss))) (placeN m cc)) from fun h => if_pos h)
  have HP2 := hid (show onR n m (lett m (pad (flat ss))) (placeN m cc) = false → pathL n m (lett m (pad (flat ss))) cc = cellsI m (iter (lett m (pad (flat ss))) (placeN m cc)) (goL n m (lett m (pad (flat ss))) (placeN m cc)) ++ (cellsI m (iter (lett m (pad (flat ss))) (rev (lett m (pad (flat ss))) (placeN m cc))) (goL n m (lett m (pad (flat ss))) (rev (lett m (pad (flat ss))) (placeN m cc)))).drop 1 from fun h => if_neg (by rw [h]; decide))
  have hCE : ∀ W, Below w.heap.size w W → Calls Try.prog 75 #[.slice A ss.length c, .int .i64 cc] W fun e w' => e = .returned (.int .u8 (lett m (pad (flat ss)) (placeN m cc).i (placeN m cc).k).toNat) ∧ ∃ d, w' = W.drewN d := HCE.out
  have HCE2 := hid hCE
  have hl1 := (goL_facts (t := lett m (pad (flat ss))) (x := placeN m cc) (Nat.zero_lt_succ 3) hx).1
  have hl1u := (goL_facts (t := lett m (pad (flat ss))) (x := placeN m cc) (Nat.zero_lt_succ 3) hx).2.1
  have hl2 := (goL_facts (t := lett m (pad (flat ss))) (x := rev (lett m (pad (flat ss))) (placeN m cc)) (rev_d _) (rev_in.2 hx)).1
  have hl2u := (goL_facts (t := lett m (pad (flat ss))) (x := rev (lett m (pad (flat ss))) (placeN m cc)) (rev_d _) (rev_in.2 hx)).2.1
  have h25 := hg.le25
  have hh0 : (headsI (iter (lett m (pad (flat ss))) (placeN m cc)) (goL n m (lett m (pad (flat ss))) (placeN m cc)))[0]? = some 0 := by
    unfold headsI
    rw [List.getElem?_map, List.getElem?_range (by omega)]
    rfl
  have hHL := headsI_length (iter (lett m (pad (flat ss))) (placeN m cc)) (goL n m (lett m (pad (flat ss))) (placeN m cc))
  have hCL1 := cellsI_length m (iter (lett m (pad (flat ss))) (placeN m cc)) (goL n m (lett m (pad (flat ss))) (placeN m cc))
  have hCL2 := cellsI_length m (iter (lett m (pad (flat ss))) (rev (lett m (pad (flat ss))) (placeN m cc))) (goL n m (lett m (pad (flat ss))) (rev (lett m (pad (flat ss))) (placeN m cc)))
  have HBD2 := hid (show ∀ W, Calls Try.prog 122 #[.int .u8 (lett m (pad (flat ss)) (placeN m cc).i (placeN m cc).k).toNat, .int .i64 0] W fun e w' => e = .returned (.int .i64 ((bend (lett m (pad (flat ss)) (placeN m cc).i (placeN m cc).k) 0 : Nat) : Int)) ∧ W = w' from HBD.out)
  unfold CloseEnd at hC1 HC2
  have hC1' := hid (show Calls Try.prog 131 #[.slice A ss.length c, .int .i64 cc, .int .i64 0] w _ from hC1.out)
  generalize pathL n m (lett m (pad (flat ss))) cc = pl at *
  generalize cellsI m (iter (lett m (pad (flat ss))) (placeN m cc)) (goL n m (lett m (pad (flat ss))) (placeN m cc)) = l1 at *
  generalize headsI (iter (lett m (pad (flat ss))) (placeN m cc)) (goL n m (lett m (pad (flat ss))) (placeN m cc)) = hl at *
  generalize cellsI m (iter (lett m (pad (flat ss))) (rev (lett m (pad (flat ss))) (placeN m cc))) (goL n m (lett m (pad (flat ss))) (rev (lett m (pad (flat ss))) (placeN m cc))) = l2 at *
  generalize headsI (iter (lett m (pad (flat ss))) (rev (lett m (pad (flat ss))) (placeN m cc))) (goL n m (lett m (pad (flat ss))) (rev (lett m (pad (flat ss))) (placeN m cc))) = hl2 at *
  generalize onR n m (lett m (pad (flat ss))) (rev (lett m (pad (flat ss))) (placeN m cc)) = on2 at *
  generalize hon : onR n m (lett m (pad (flat ss))) (placeN m cc) = on at *
  generalize goL n m (lett m (pad (flat ss))) (placeN m cc) = L1 at *
  generalize goL n m (lett m (pad (flat ss))) (rev (lett m (pad (flat ss))) (placeN m cc)) = L2 at *
  generalize lett m (pad (flat ss)) (placeN m cc).i (placeN m cc).k = bt at *
  have hl1b : L1 ≤ 100 := by omega
  have hl2b : L2 ≤ 100 := by omega
  have HH0 := hid hh0
  have HHL := hid hHL
  have HL1 := hid hCL1
  have HL2 := hid hCL2
  clear hh0 hHL hCL1 hCL2 hon h hg hcc hx hpl hrv hC1 HBD HCE hCE h25 hl1u hl2u
  go_enter Try.func77, Try.ntmps77
  go_wp2_with fail
  refine hC1'.out.mono ?_
  rintro e w1 ⟨v1, v2, rfl, hv1, hv2, hb1⟩
  have HB1 := hid hb1
  have HV1 := hid hv1
  obtain ⟨A1, c1, rfl, hi1⟩ := hv1.ints
  obtain ⟨A2, c2, rfl, hi2⟩ := hv2.ints
  have HI1 := hid hi1
  rw [HL1.out, HHL.out]
  obtain ⟨b2, o2, x2, rfl, hb2, hx2, hc2⟩ := hi2.at_ (k := 0) (by rw [HHL.out]; omega)
  rw [HH0.out] at hx2
  cases hx2
  rw [Nat.add_zero] at hc2
  have HC2c := hid hc2
  clear hb1 hv1 hv2 hi1 hi2 hc2
  cases on with
  | true =>
    have HPE := hid (HP1.out rfl)
    go_wp2_with fail
    go_ret
    exact ⟨⟨A1, c1, by rw [HPE.out, HL1.out]; rfl, by rw [HPE.out]; exact HI1.out⟩, HB1.out⟩
  | false =>
    have HPL := hid (HP2.out rfl)
    go_wp2_with fail
    have HC1W := hid (fun W (hb : Below w1.heap.size w1 W) => (hb.cell (p := ⟨b2, o2, none⟩) hb2).trans HC2c.out)
    refine wp_region_rel2 (by kernel_rfl) (by kernel_rfl) 18 rfl (fun us => { tmps := #[.slice A ss.length c, .int .i64 (cc : Int), .int .i64 0, undef, undef, undef, .slice none 0 0, .slice A1 L1 c1, .slice (some ⟨b2, o2, none⟩) L1 c2, .bool false, us 15, us 16, us 17,
      .tuple #[.slice A1 L1 c1, .slice (some ⟨b2, o2, none⟩) L1 c2, .bool false], .slice A ss.length c, .int .i64 (cc : Int), .int .i64 0, .tuple #[.slice A1 L1 c1, .slice (some ⟨b2, o2, none⟩) L1 c2, .bool false], .slice A1 L1 c1, .slice (some ⟨b2, o2, none⟩) L1 c2, .bool false, .bool false,
      undef, us 11, us 0, us 1, us 2, us 3, us 4, us 5, us 6, us 7, us 8, us 9, us 10, us 12, us 13, us 14, undef, undef, undef, undef, undef, undef], defers := [] }) (fun _ => undef) rfl (pathRelA A ss.length c cc w.heap.size b2 o2 L1 c2 bt on2 l2) (fun i v W W' h hb => ?_) (fun i us v hi => ?_) (fun i us W hi hb hd => ?_) (fun us W hb hr => ?_)
    · unfold pathRelA at h ⊢
      split at h <;> try exact h
      · obtain ⟨v1, v2, h1, h2⟩ := h
        exact ⟨v1, v2, h1, h2.belowC hb⟩
      · obtain ⟨v1, v2, h1, h2⟩ := h
        exact ⟨v1, v2, h1, h2.belowC hb⟩
      · exact h.belowC hb
      · exact h.belowC hb
    · match i, hi with
      | 0, _ => rfl
      | 1, _ => rfl
      | 2, _ => rfl
      | 3, _ => rfl
      | 4, _ => rfl
      | 5, _ => rfl
      | 6, _ => rfl
      | 7, _ => rfl
      | 8, _ => rfl
      | 9, _ => rfl
      | 10, _ => rfl
      | 11, _ => rfl
      | 12, _ => rfl
      | 13, _ => rfl
      | 14, _ => rfl
      | 15, _ => rfl
      | 16, _ => rfl
      | 17, _ => rfl
      | k + 18, hk => exact absurd hk (by omega)
    · have HBW := hid (HB1.out.trans (hb.mono HB1.out.size))
      match i, hi with
      | 0, _ => exact wpOp_val rfl rfl (by go_simp) rfl
      | 1, _ => exact wpOp_val rfl rfl (by go_simp) rfl
      | 2, _ => exact wpOp_val rfl rfl (by go_simp) rfl
      | 3, _ => exact wpOp_val rfl rfl (by go_simp) rfl
      | 4, _ =>
        have h0 : us 2 = _ := hd _ rfl { on := 2, ground := .data } (by simp) rfl
        have h1 : us 3 = _ := hd _ rfl { on := 3, ground := .data } (by simp) rfl
        rw [h0, h1]
        exact wpOp_call rfl rfl (by go_simp) ((HCE2.out W HBW.out).mono fun e w'' ⟨he, d, hw⟩ => ⟨_, he, rfl, by rw [hw]; exact below_drewN' (Below.refl _ _) d⟩)
      | 5, _ => exact wpOp_val rfl rfl (by go_simp) rfl
      | 6, _ =>
        have h0 : us 5 = _ := hd _ rfl { on := 5, ground := .data } (by simp) rfl
        rw [h0]
        have hp0 : (0 : Int) < (L1 : Int) := by omega
        have hn0 : ¬ L1 = 0 := by omega
        exact wpOp_val (u := .pointer (some ⟨b2, o2, none⟩)) rfl rfl (by go_simp) rfl
      | 7, _ =>
        have h0 : us 6 = _ := hd _ rfl { on := 6, ground := .data } (by simp) rfl
        rw [h0]
        have hc := HC1W.out W hb
        exact wpOp_val rfl rfl (by go_simp) rfl
      | 8, _ =>
        have h0 : us 4 = _ := hd _ rfl { on := 4, ground := .data } (by simp) rfl
        have h1 : us 7 = _ := hd _ rfl { on := 7, ground := .data } (by simp) rfl
        rw [h0, h1]
        exact wpOp_call rfl rfl (by go_simp) ((HBD2.out W).mono fun e w'' ⟨he, hw⟩ => ⟨_, he, rfl, by rw [← hw]; exact Below.refl _ _⟩)
      | 9, _ =>
        have h0 : us 8 = _ := hd _ rfl { on := 8, ground := .data } (by simp) rfl
        rw [h0]
        have hxo := HXO.out
        exact wpOp_val (u := .int .i64 ((opp (bend bt 0) : Nat) : Int)) rfl rfl (by go_simp) rfl
      | 10, _ =>
        have h0 : us 0 = _ := hd _ rfl { on := 0, ground := .data } (by simp) rfl
        have h1 : us 1 = _ := hd _ rfl { on := 1, ground := .data } (by simp) rfl
        have h2 : us 9 = _ := hd _ rfl { on := 9, ground := .data } (by simp) rfl
        rw [h0, h1, h2]
        exact wpOp_call rfl rfl (by go_simp) ((HC2.out W HBW.out).mono fun e w'' ⟨x1, x2, he, hg1, _, hb'⟩ => ⟨_, he, ⟨x1, x2, rfl, hg1.lower HBW.out.size⟩, hb'⟩)
      | 11, _ =>
        have h0 : pathRelA A ss.length c cc w.heap.size b2 o2 L1 c2 bt on2 l2 10 (us 10) W := hd _ rfl { on := 10, ground := .data } (by simp) rfl
        exact wpOp_val rfl rfl (by go_simp) h0
      | 12, _ =>
        obtain ⟨x1, x2, e0, hx⟩ : pathRelA A ss.length c cc w.heap.size b2 o2 L1 c2 bt on2 l2 11 (us 11) W := hd _ rfl { on := 11, ground := .data } (by simp) rfl
        rw [e0]
        exact wpOp_val (u := x1) rfl rfl (by go_simp) hx
      | 13, _ =>
        obtain ⟨x1, x2, e0, hx⟩ : pathRelA A ss.length c cc w.heap.size b2 o2 L1 c2 bt on2 l2 11 (us 11) W := hd _ rfl { on := 11, ground := .data } (by simp) rfl
        rw [e0]
        exact wpOp_val (u := x2) rfl rfl (by go_simp) trivial
      | 14, _ =>
        obtain ⟨x1, x2, e0, hx⟩ : pathRelA A ss.length c cc w.heap.size b2 o2 L1 c2 bt on2 l2 11 (us 11) W := hd _ rfl { on := 11, ground := .data } (by simp) rfl
        rw [e0]
        exact wpOp_val (u := .bool on2) rfl rfl (by go_simp) trivial
      | 15, _ =>
        have h0 : pathRelA A ss.length c cc w.heap.size b2 o2 L1 c2 bt on2 l2 12 (us 12) W := hd _ rfl { on := 12, ground := .data } (by simp) rfl
        exact wpOp_val rfl rfl (by go_simp) h0
      | 16, _ => exact wpOp_val (u := us 13) rfl rfl (by go_simp) trivial
      | 17, _ => exact wpOp_val (u := us 14) rfl rfl (by go_simp) trivial
      | k + 18, hk => exact absurd hk (by omega)
    · have h15 : GrowI W w.heap.size (us 15) l2 := hr 15 (by omega)
      have HB2 := hid (HB1.out.trans (hb.mono HB1.out.size))
      have HI1W := hid (HI1.out.below hb (Nat.le_refl _))
      have HSZ1 := hid hb.size
      obtain ⟨g, cap, e15, hcap, hcl⟩ := h15.head (by rw [HL2.out]; omega)
      rw [e15, HL2.out]
      rw [HL2.out] at hcap
      have HCL := hid hcl
      clear hr hb h15 e15 hcl
      obtain ⟨q0, hq0⟩ : ∃ x, us 0 = x := ⟨_, rfl⟩
      obtain ⟨q1, hq1⟩ : ∃ x, us 1 = x := ⟨_, rfl⟩
      obtain ⟨q2, hq2⟩ : ∃ x, us 2 = x := ⟨_, rfl⟩
      obtain ⟨q3, hq3⟩ : ∃ x, us 3 = x := ⟨_, rfl⟩
      obtain ⟨q4, hq4⟩ : ∃ x, us 4 = x := ⟨_, rfl⟩
      obtain ⟨q5, hq5⟩ : ∃ x, us 5 = x := ⟨_, rfl⟩
      obtain ⟨q6, hq6⟩ : ∃ x, us 6 = x := ⟨_, rfl⟩
      obtain ⟨q7, hq7⟩ : ∃ x, us 7 = x := ⟨_, rfl⟩
      obtain ⟨q8, hq8⟩ : ∃ x, us 8 = x := ⟨_, rfl⟩
      obtain ⟨q9, hq9⟩ : ∃ x, us 9 = x := ⟨_, rfl⟩
      obtain ⟨q10, hq10⟩ : ∃ x, us 10 = x := ⟨_, rfl⟩
      obtain ⟨q11, hq11⟩ : ∃ x, us 11 = x := ⟨_, rfl⟩
      obtain ⟨q12, hq12⟩ : ∃ x, us 12 = x := ⟨_, rfl⟩
      obtain ⟨q13, hq13⟩ : ∃ x, us 13 = x := ⟨_, rfl⟩
      obtain ⟨q14, hq14⟩ : ∃ x, us 14 = x := ⟨_, rfl⟩
      obtain ⟨q16, hq16⟩ : ∃ x, us 16 = x := ⟨_, rfl⟩
      obtain ⟨q17, hq17⟩ : ∃ x, us 17 = x := ⟨_, rfl⟩
      rw [hq0, hq1, hq2, hq3, hq4, hq5, hq6, hq7, hq8, hq9, hq10, hq11, hq12, hq13, hq14, hq16, hq17]
      clear hq0 hq1 hq2 hq3 hq4 hq5 hq6 hq7 hq8 hq9 hq10 hq11 hq12 hq13 hq14 hq16 hq17
      go_wp2_with fail
      refine wp_region_rel_tail (by kernel_rfl) 5 (by kernel_rfl) (fun us => { tmps := #[.slice A ss.length c, .int .i64 (cc : Int), .int .i64 0, undef, undef, undef, .slice none 0 0, .slice A1 L1 c1, .slice (some ⟨b2, o2, none⟩) L1 c2, .bool false, .slice (some ⟨g, 0, none⟩) L2 cap, q16, q17,
        .tuple #[.slice A1 L1 c1, .slice (some ⟨b2, o2, none⟩) L1 c2, .bool false], .slice A ss.length c, .int .i64 (cc : Int), .int .i64 0, .tuple #[.slice A1 L1 c1, .slice (some ⟨b2, o2, none⟩) L1 c2, .bool false], .slice A1 L1 c1, .slice (some ⟨b2, o2, none⟩) L1 c2, .bool false, .bool false,
        undef, q11, q0, q1, q2, q3, q4, q5, q6, q7, q8, q9, q10, q12, q13, q14, us 0, us 1, us 2, us 3, us 4, undef], defers := [] }) (fun _ => undef) rfl (pathRelB A1 L1 c1 w.heap.size g cap L2 l1 l2) (fun i v W W' h hb => ?_) (fun i us v hi => ?_) (fun i us W' hi hb hd => ?_) (fun us W' hb hr => ?_)
      · unfold pathRelB at h ⊢
        split at h <;> try exact h
        · exact h.belowC hb
        · obtain ⟨ad, c', h1, h2⟩ := h
          exact ⟨ad, c', h1, h2.below hb⟩
      · match i, hi with
        | 0, _ => rfl
        | 1, _ => rfl
        | 2, _ => rfl
        | 3, _ => rfl
        | 4, _ => rfl
      · match i, hi with
        | 0, _ => exact wpOp_make (u := .slice (some ⟨W'.heap.size, 0, none⟩) 0 0) (w' := W'.alloc (.cells #[] 3)) rfl rfl (by go_simp) ⟨_, rfl⟩ ((Below.refl _ W').alloc (Nat.le_refl _) _)
        | 1, _ => exact wpOp_val rfl rfl (by go_simp) rfl
        | 2, _ =>
          obtain ⟨h, h0⟩ : ∃ h, us 0 = .slice (some ⟨h, 0, none⟩) 0 0 := hd _ rfl { on := 0, ground := .data } (by simp) rfl
          have h1 : us 1 = _ := hd _ rfl { on := 1, ground := .data } (by simp) rfl
          have hiw := HI1W.out.below hb HSZ1.out
          obtain ⟨bb, oo, rfl, _, hcc⟩ := hiw (by rw [HL1.out]; omega)
          rw [h0, h1]
          refine wpOp_appendI rfl rfl _ _ rfl h ⟨bb, oo, none⟩ c1 l1 rfl (by rw [HL1.out]; rfl) (fun j u hj => ?_) (by rw [HL1.out]; omega) (by rw [HL1.out]; omega) (fun v' w' hgr _ => hgr.lower (Nat.le_trans HB2.out.size hb.size))
          unfold intsV at hj
          rw [List.getElem?_map] at hj
          cases hlj : l1[j]? with
          | none => rw [hlj] at hj; cases hj
          | some x =>
            rw [hlj] at hj
            cases hj
            have e : (Addr.add ⟨bb, oo, none⟩ j : Addr) = ⟨bb, oo + j, none⟩ := by unfold Addr.add; split <;> simp_all
            rw [e]
            exact hcc j x hlj
        | 3, _ => exact wpOp_val rfl rfl (by go_simp) rfl
        | 4, _ =>
          have h0 : us 3 = _ := hd _ rfl { on := 3, ground := .data } (by simp) rfl
          rw [h0]
          have hL2i : (1 : Int) ≤ (L2 : Int) := by omega
          have hct := HCL.out.below hb
          by_cases hc1 : cap = 1
          · subst hc1
            obtain rfl : L2 = 1 := by omega
            have hnil : l2.drop 1 = [] := List.drop_eq_nil_of_le (by rw [HL2.out]; exact Nat.le_refl _)
            exact wpOp_val (u := .slice (some ⟨g, 0, none⟩) 0 0) rfl rfl (by go_simp) ⟨_, _, rfl, by rw [hnil]; exact ⟨.inl rfl, fun j u hj => by simp [intsV] at hj⟩⟩
          · exact wpOp_val (u := .slice (some ⟨g, 1, none⟩) (L2 - 1) (cap - 1)) rfl rfl (by go_simp) ⟨_, _, rfl, hct.tail⟩
      · obtain ⟨ad, c', h4, hc4⟩ : ∃ ad c', us 4 = .slice (some ad) (L2 - 1) c' ∧ CellsAt W' ad (intsV (l2.drop 1)) := hr 4 (by omega)
        have h2 : GrowI W' w.heap.size (us 2) l1 := hr 2 (by omega)
        have HB3 := hid (HB2.out.trans (hb.mono HB2.out.size))
        rw [h4]
        obtain ⟨i0, hi, hz0, hz1, hz2⟩ := info_parts Try.info_int
        have hlen : (l2.drop 1).length = L2 - 1 := by rw [List.length_drop, HL2.out]
        generalize us 2 = v2' at *
        generalize us 0 = x0 at *
        generalize us 1 = x1 at *
        generalize us 3 = x3 at *
        have h2L : GrowI W' w.heap.size v2' l1 := h2
        unfold GrowI at h2
        rw [HL1.out] at h2
        refine wpList_append_own _ rfl _ _ 32 rfl w.heap.size 3 i0 (.int .i64 0) 1 8 Try.underlying32 hi hz0 hz1 hz2 rfl (by decide) v2' L1 (intsV l1) rfl h2 ad (L2 - 1) c' (intsV (l2.drop 1)) rfl (by rw [intsV, List.length_map, hlen, Nat.mul_one]) hc4.2 (intsV_one _) (by unfold maxLen; omega) (by omega) HB3.out.size ?_
        intro v' w' hown hgw _
        have HB4 := hid (HB3.out.grown hgw HB3.out.size (fun k e => (World.ownsRow.lt h2 k e).1))
        have HG4 := hid (show GrowI w' w.heap.size v' (l1 ++ l2.drop 1) by
          unfold GrowI
          rw [List.length_append, hlen, HL1.out]
          unfold intsV at hown ⊢
          rw [List.map_append]
          exact hown)
        obtain ⟨A9, c9, rfl, hi9⟩ := HG4.out.ints
        have HI9 := hid hi9
        clear hown hgw h2 h2L hi9 hr hb hc4
        go_wp2_with fail
        go_ret
        exact ⟨⟨A9, c9, by rw [HPL.out, List.length_append, List.length_drop]; rfl, by rw [HPL.out]; exact HI9.out⟩, HB4.out⟩

end Go.Proofs.Ytonhnmpgikmlpaa

/- Changes of a cell in a slice: changes, by its contract. -/
namespace Go.Proofs.Ytonhnmpgikmlpaa
open Go.RowKit Go.Shelf

/-- A change in memory: its cell, its letter, the blocks of its closure. -/
structure Chg where
  x : Wy
  b : UInt8
  g0 : Nat
  g1 : Nat
  g2 : Nat
section
variable {ops : Array Oper} {rest : List Oper} {o : Oper} {a : Act} {w : World} {Q : Exit → Act → World → Prop}
end

/-- The letters of a cell, in order. -/
def lets3 : List UInt8 := [46, 114, 102]
end Go.Proofs.Ytonhnmpgikmlpaa

/- ChangePaths of the program, by its contract. -/
namespace Go.Proofs.Ytonhnmpgikmlpaa
open Go.RowKit Go.Shelf

/-- The numbers of paths with the cell empty, with r and with f. -/
def pathsL (n m : Nat) (ls : List UInt8) (c : Nat) : List Int := lets3.map fun b => (pathsR n m (lett m (ls.set c b))).1
theorem pathsL_length (n m : Nat) (ls : List UInt8) (c : Nat) : (pathsL n m ls c).length = 3 := rfl
theorem pathsL_take (n m : Nat) (ls : List UInt8) (c : Nat) {k : Nat} {b : UInt8} (hb : lets3[k]? = some b) : (pathsL n m ls c).take (k + 1) = (pathsL n m ls c).take k ++ [(pathsR n m (lett m (ls.set c b))).1] := by
  match k, hb with
  | 0, hb => cases hb; rfl
  | 1, hb => cases hb; rfl
  | 2, hb => cases hb; rfl
/-- What ChangePaths comes to. -/
def CPOut (ss : List ByteArray) (cell : Int) (l : List Int) (ok : Bool) : Prop :=
  (∃ n m c, CellIn ss cell n m c ∧ l = pathsL n m (pad (flat ss)) c ∧ ok = true) ∨ ((∀ n m c, ¬ CellIn ss cell n m c) ∧ l = [] ∧ ok = false)
theorem CPOut.uniq {ss : List ByteArray} {cell : Int} {l l' : List Int} {ok ok' : Bool} (h : CPOut ss cell l ok) (h' : CPOut ss cell l' ok') : l' = l ∧ ok' = ok := by
  rcases h with ⟨n, m, c, h1, rfl, rfl⟩ | ⟨h1, rfl, rfl⟩ <;> rcases h' with ⟨n', m', c', h1', rfl, rfl⟩ | ⟨h1', rfl, rfl⟩
  · obtain ⟨rfl, rfl, rfl⟩ := h1.uniq h1'
    exact ⟨rfl, rfl⟩
  · exact absurd h1 (h1' _ _ _)
  · exact absurd h1' (h1 _ _ _)
  · exact ⟨rfl, rfl⟩
/-- A goal at which the walk halts. -/
structure Halt (p : Prop) : Prop where
  out : p
theorem CPOut.len {ss : List ByteArray} {cell : Int} {l : List Int} {ok : Bool} (h : CPOut ss cell l ok) : l.length ≤ 1048576 := by
  rcases h with ⟨n, m, c, _, rfl, _⟩ | ⟨_, rfl, _⟩
  · rw [pathsL_length]; decide
  · decide
section
variable {P : Program} {ops : Array Oper} {rest : List Oper} {o : Oper} {a : Act} {w : World} {Q : Exit → Act → World → Prop}
/-- To stop at a load. -/
theorem atLoad (ty : TypeId) (x : Operand) (_ho : o.op = .load ty x) (h : Halt (wpList P ops Q (o :: rest) a w)) : wpList P ops Q (o :: rest) a w := h.out
/-- A struct loaded from the middle of a row. -/
theorem wpList_load_midA (hw : Region.wanted o (yielded ops a.tmps) = true) (ty : TypeId) (x : Operand) (ho : o.op = .load ty x) (b off : Nat) (hx : a.eval x = .pointer (some ⟨b, off, none⟩)) (cs : Array Value) (d : TypeDesc) (hc : w.rangeAt b off cs.toList)
    (hu : P.underlying ty = some d) (hd : d.isRow = true) (hi : (P.info? ty).map (·.size) = some cs.size) (h : wpList P ops Q rest (a.put o.dst (.agg cs)) w) : wpList P ops Q (o :: rest) a w := by
  unfold wpList
  rw [if_pos hw]
  refine .inl ?_
  unfold Oper.wp
  rw [exec_load_mid ty x ho b off hx cs d hc hu hd hi]
  exact h
end
theorem own_int {w : World} {base : Nat} {v : Value} {l : List Int} (h : GrowI w base v l) : ∀ g, v.ownBlock = some g → ∃ cur, w.heap[g]? = some (.cells cur 3 (0, 0)) := by
  intro g hg
  rcases h.2 with ⟨rfl, _⟩ | ⟨g', cap, cur, rfl, _, hgg, _⟩
  · simp [Value.ownBlock] at hg
  · simp [Value.ownBlock] at hg
    subst hg
    exact ⟨cur, hgg⟩
end Go.Proofs.Ytonhnmpgikmlpaa
