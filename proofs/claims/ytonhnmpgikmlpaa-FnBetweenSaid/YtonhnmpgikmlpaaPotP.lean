/- Paths that cross: beams cross each other an odd number of times just if their ports do; cells counted by paths. No program is named. -/
import Derived.Test.YtonhnmpgikmlpaaPotQ
import Derived.Test.YtonhnmpgikmlpaaBunJ
import Derived.Test.YtonhnmpgikmlpaaBunO
namespace Go.Proofs.Ytonhnmpgikmlpaa

section
variable {n m : Nat} {t : Int → Int → UInt8} {S : Wy → Bool}
/-- The ways of a beam, there and back. -/
def onB' (n m : Nat) (t : Int → Int → UInt8) (b : Nat) (x : Wy) : Bool := goesTo (bway n m t b) (blen n m t b) x || goesTo (bway n m t b) (blen n m t b) (rev t x)
theorem goes_nxt {b : Nat} (hb : b < 2 * (n + m)) {x : Wy} (hd : x.d < 4) (hx : inG n m x) (hy : inG n m (nxt t x)) : goesTo (bway n m t b) (blen n m t b) (nxt t x) = goesTo (bway n m t b) (blen n m t b) x := by
  rw [Bool.eq_iff_iff, goesTo_iff, goesTo_iff]
  constructor
  · rintro ⟨j, hj, e⟩
    cases j with
    | zero => exact absurd e.symm (entr_ne hb hx hd)
    | succ j => exact ⟨j, by omega, nxt_inj (bway_d b j) hd e⟩
  · rintro ⟨j, hj, e⟩
    have e2 : bway n m t b (j + 1) = nxt t x := by rw [← e]; rfl
    refine ⟨j + 1, Nat.lt_of_not_le fun hle => ?_, e2⟩
    have h := blen_out (t := t) hb
    rw [show blen n m t b = j + 1 by omega, e2] at h
    exact h hy
theorem onB_set {b : Nat} (hb : b < 2 * (n + m)) : WSet n m t (onB' n m t b) where
  rv x hd _ := by unfold onB'; rw [rev_rev hd, Bool.or_comm]
  nx x hd hx hy := by
    unfold onB'
    rw [goes_nxt hb hd hx hy]
    have e := goes_nxt (t := t) hb (x := rev t (nxt t x)) (rev_d _) (rev_in.2 hy) (by rw [nxt_rev_nxt hd]; exact rev_in.2 hx)
    rw [nxt_rev_nxt hd] at e
    rw [e]
/-- The ports of a beam. -/
theorem onB_port {b r : Nat} (hn : 1 ≤ n) (hm : 1 ≤ m) (hb : b < 2 * (n + m)) (hr : r < 2 * (n + m)) : onB' n m t b (entr n m r) = decide (r = b ∨ r = bend_ n m t b) := by
  rw [Bool.eq_iff_iff, decide_eq_true_iff]
  unfold onB'
  rw [Bool.or_eq_true, goesTo_iff, goesTo_iff]
  constructor
  · rintro (⟨j, hj, e⟩ | ⟨j, hj, e⟩)
    · cases j with
      | zero => exact .inl (entr_inj hb hr e).symm
      | succ j => exact absurd e (entr_ne hr (blen_in (by omega)) (bway_d b j))
    · have h1 := entr_back (t := t) hr
      have e2 : bway n m t b (j + 1) = nxt t (rev t (entr n m r)) := by rw [← e]; rfl
      have hL : blen n m t b = j + 1 := blen_of hb (fun i hi => blen_in (by omega)) (by rw [e2]; exact h1.1)
      have h2 := (bend_facts (t := t) hn hm hb).1
      rw [hL, e2, h1.2] at h2
      exact .inr (by omega)
  · rintro (rfl | rfl)
    · exact .inl ⟨0, blen_pos hn hm hb, rfl⟩
    · have h := (bend_facts (t := t) hn hm hb).2.2
      have hpos := blen_pos (t := t) hn hm hb
      exact .inr ⟨blen n m t b - 1, by omega, by rw [h, rev_rev (bway_d b _)]⟩
theorem WSet.top (i0 : 1 ≤ n) : ∀ k, k ≤ m → xr (fun r => S (entr n m r)) k = colB n m S 0 k
  | 0, _ => rfl
  | k + 1, hk => by
    have ih := WSet.top i0 k (by omega)
    show (xr (fun r => S (entr n m r)) k ^^ S (entr n m k)) = ((xr (heB n S 0) k ^^ heB n S 0 k) ^^ false)
    have e : xr (fun r => S (entr n m r)) k = (xr (heB n S 0) k ^^ false) := ih
    rw [e, Bool.xor_false, Bool.xor_false, he_top (by omega)]
    congr 2
    unfold entr
    rw [if_pos (by omega)]
    rfl
theorem WSet.rside (hn : 1 ≤ n) : ∀ i, i ≤ n → xr (fun r => S (entr n m r)) (m + i) = colB n m S i m
  | 0, _ => WSet.top hn m (Nat.le_refl _)
  | i + 1, hi => by
    rw [← Nat.add_assoc, xr, WSet.rside hn i (by omega), col_down]
    congr 1
    unfold entr veB
    rw [if_neg (by omega), if_pos (by omega), if_neg (by omega)]
    congr 1
    refine Wy.eq ?_ rfl rfl
    simp only
    omega
theorem WSet.low (W : WSet n m t S) (hn : 1 ≤ n) : ∀ d, d ≤ m → xr (fun r => S (entr n m r)) (m + n + d) = colB n m S n (m - d)
  | 0, _ => WSet.rside hn n (Nat.le_refl _)
  | d + 1, hd => by
    rw [← Nat.add_assoc, xr, W.low hn d (by omega)]
    have h := W.right (k := m - (d + 1)) (by omega) n (Nat.le_refl _)
    rw [show m - (d + 1) + 1 = m - d by omega] at h
    rw [h]
    have e : S (entr n m (m + n + d)) = heB n S n (m - (d + 1)) := by
      unfold entr heB
      rw [if_neg (by omega), if_neg (by omega), if_pos (by omega), if_neg (by omega)]
      congr 1
      refine Wy.eq rfl ?_ rfl
      simp only
      omega
    rw [e]
    cases colB n m S n (m - (d + 1)) <;> cases heB n S n (m - (d + 1)) <;> rfl
theorem WSet.lside (W : WSet n m t S) (hn : 1 ≤ n) (hm : 1 ≤ m) : ∀ d, d ≤ n → xr (fun r => S (entr n m r)) (m + n + m + d) = colB n m S (n - d) 0
  | 0, _ => by
    have h := W.low hn m (Nat.le_refl _)
    rwa [Nat.sub_self] at h
  | d + 1, hd => by
    rw [← Nat.add_assoc, xr, W.lside hn hm d (by omega)]
    have h := col_down (n := n) (m := m) (S := S) (n - (d + 1)) 0
    rw [show n - (d + 1) + 1 = n - d by omega] at h
    rw [h]
    have e : S (entr n m (m + n + m + d)) = veB m S (n - (d + 1)) 0 := by
      unfold entr veB
      rw [if_neg (by omega), if_neg (by omega), if_neg (by omega), if_pos (by omega)]
      congr 1
      refine Wy.eq ?_ rfl rfl
      simp only
      omega
    rw [e]
    cases colB n m S (n - (d + 1)) 0 <;> cases veB m S (n - (d + 1)) 0 <;> rfl
/-- The side on which a port lies. -/
theorem WSet.port (W : WSet n m t S) (hn : 1 ≤ n) (hm : 1 ≤ m) {p : Nat} (hp : p < 2 * (n + m)) (hS : S (entr n m p) = false) : sideB n m S (entr n m p) = xr (fun r => S (entr n m r)) p := by
  by_cases h1 : p < m
  · rw [WSet.top hn p (by omega)]
    unfold entr sideB
    rw [if_pos h1]
    rfl
  · by_cases h2 : p < m + n
    · have h := WSet.rside (S := S) (m := m) hn (p - m) (by omega)
      rw [show m + (p - m) = p by omega] at h
      rw [h]
      unfold entr sideB
      rw [if_neg h1, if_pos h2]
      simp only
      rw [if_neg (by decide), if_pos trivial]
      congr 1 <;> omega
    · by_cases h3 : p < 2 * m + n
      · have h := W.low hn (p - (m + n)) (by omega)
        rw [show m + n + (p - (m + n)) = p by omega] at h
        have hr := W.right (k := m - (p - (m + n)) - 1) (by omega) n (Nat.le_refl _)
        rw [show m - (p - (m + n)) - 1 + 1 = m - (p - (m + n)) by omega] at hr
        have e : heB n S n (m - (p - (m + n)) - 1) = false := by
          rw [← hS]
          unfold entr heB
          rw [if_neg (by omega), if_neg h1, if_neg h2, if_pos h3]
          congr 1
          refine Wy.eq rfl ?_ rfl
          simp only
          omega
        rw [h, hr, e, Bool.xor_false]
        unfold entr sideB
        rw [if_neg h1, if_neg h2, if_pos h3]
        simp only
        rw [if_pos trivial, if_neg (by decide)]
        congr 1 <;> omega
      · have h := W.lside hn hm (p - (m + n + m)) (by omega)
        rw [show m + n + m + (p - (m + n + m)) = p by omega] at h
        have hr := col_down (n := n) (m := m) (S := S) (n - (p - (m + n + m)) - 1) 0
        rw [show n - (p - (m + n + m)) - 1 + 1 = n - (p - (m + n + m)) by omega] at hr
        have e : veB m S (n - (p - (m + n + m)) - 1) 0 = false := by
          rw [← hS]
          unfold entr veB
          rw [if_pos (by omega), if_neg h1, if_neg h2, if_neg h3]
          congr 1
          refine Wy.eq ?_ rfl rfl
          simp only
          omega
        rw [h, hr, e, Bool.xor_false]
        unfold entr sideB
        rw [if_neg h1, if_neg h2, if_neg h3]
        simp only
        rw [if_neg (by decide), if_neg (by decide)]
        congr 1
        omega
theorem xr_two {a b : Nat} (h : a ≠ b) : ∀ p, xr (fun r => decide (r = a ∨ r = b)) p = (decide (a < p) ^^ decide (b < p))
  | 0 => by simp [xr]
  | p + 1 => by
    rw [xr, xr_two h p]
    by_cases h1 : p = a
    · subst h1
      have : ¬ b = p := fun e => h e.symm
      by_cases h2 : b < p
      · simp [h2, show b < p + 1 by omega]
      · simp [h2, show ¬ b < p + 1 by omega]
    · by_cases h2 : p = b
      · subst h2
        by_cases h3 : a < p
        · simp [h3, show a < p + 1 by omega]
        · simp [h3, show ¬ a < p + 1 by omega]
      · have e1 : (a < p + 1) = (a < p) := propext ⟨fun h => by omega, fun h => by omega⟩
        have e2 : (b < p + 1) = (b < p) := propext ⟨fun h => by omega, fun h => by omega⟩
        simp [h1, h2, e1, e2]
/-- No way of one beam is of another one. -/
theorem onB_other {a b j : Nat} (hn : 1 ≤ n) (hm : 1 ≤ m) (ha : a < 2 * (n + m)) (hb : b < 2 * (n + m)) (h1 : a ≠ b) (h2 : bend_ n m t a ≠ b) (hj : j < blen n m t a) : onB' n m t b (bway n m t a j) = false := by
  rw [Bool.eq_false_iff]
  intro h
  unfold onB' at h
  rw [Bool.or_eq_true, goesTo_iff, goesTo_iff] at h
  rcases h with ⟨i, hi, e⟩ | ⟨i, hi, e⟩
  · rcases Nat.le_total j i with hle | hle
    · exact h1 (beam_one ha hb j i hle hi e.symm)
    · exact h1 (beam_one hb ha i j hle hj e).symm
  · have hq := (bend_facts (t := t) hn hm ha).2.1
    have hl := (back_facts (t := t) hn hm ha).1
    have e3 := bway_back (t := t) hn hm ha (blen n m t a - 1 - j) (by omega)
    rw [show blen n m t a - 1 - (blen n m t a - 1 - j) = j by omega, ← e] at e3
    rcases Nat.le_total (blen n m t a - 1 - j) i with hle | hle
    · exact h2 (beam_one hq hb _ i hle hi e3)
    · exact h2 (beam_one hb hq i _ hle (by rw [hl]; omega) e3.symm).symm
theorem cnt_inj2 (p q : Nat → Bool) (f : Nat → Nat) (N M : Nat) (h : ∀ a, a < N → p a = true → f a < M ∧ q (f a) = true) (hi : ∀ a b, a < N → b < N → p a = true → p b = true → f a = f b → a = b) : (List.range N).countP p ≤ (List.range M).countP q := by
  rw [List.countP_eq_length_filter, List.countP_eq_length_filter]
  refine inj_le (fun a b => b = f a) _ _ (List.nodup_range.filter _) (fun a ha => ?_) fun a a' b ha ha' h1 h2 => ?_
  · obtain ⟨h1, h2⟩ := List.mem_filter.1 ha
    obtain ⟨h3, h4⟩ := h a (List.mem_range.1 h1) h2
    exact ⟨f a, List.mem_filter.2 ⟨List.mem_range.2 h3, h4⟩, rfl⟩
  · exact hi a a' (List.mem_range.1 (List.mem_filter.1 ha).1) (List.mem_range.1 (List.mem_filter.1 ha').1) (List.mem_filter.1 ha).2 (List.mem_filter.1 ha').2 (h1.symm.trans h2)
theorem bend_ne' {p : Nat} (hn : 1 ≤ n) (hm : 1 ≤ m) (hp : p < 2 * (n + m)) : bend_ n m t p ≠ p := fun e => by
  have hpos := blen_pos (t := t) hn hm hp
  have hb := bway_back (t := t) hn hm hp 0 (by omega)
  rw [e] at hb
  exact bway_ne_rev 0 (blen n m t p - 1 - 0) (by omega) (by omega) hb
theorem goes_any (a c : Nat) : goesC n m t a c = (List.range (blen n m t a)).any (fun j => cellN m (bway n m t a j) == c) := by
  rw [Bool.eq_iff_iff, List.any_eq_true]
  unfold goesC
  rw [decide_eq_true_iff, List.count_pos_iff]
  unfold bcells
  rw [List.mem_map]
  constructor
  · rintro ⟨j, hj, e⟩; exact ⟨j, hj, by rw [e]; exact beq_self_eq_true _⟩
  · rintro ⟨j, hj, e⟩; exact ⟨j, hj, beq_iff_eq.1 e⟩
theorem goes_ways {b c : Nat} (hb : b < 2 * (n + m)) (hc : c < n * m) : goesC n m t b c = (List.range 4).any fun d => onB' n m t b ⟨((c / m : Nat) : Int), ((c % m : Nat) : Int), d⟩ := by
  have hm : 0 < m := by
    rcases Nat.eq_zero_or_pos m with h0 | h0
    · subst h0; simp at hc
    · exact h0
  have key : ∀ x : Wy, inG n m x → (cellN m x = c ↔ x.i = ((c / m : Nat) : Int) ∧ x.k = ((c % m : Nat) : Int)) := fun x hx => by
    have := cellN_iff (i := c / m) hx (Nat.mod_lt c hm)
    rwa [show c / m * m + c % m = c by rw [Nat.mul_comm]; exact Nat.div_add_mod c m] at this
  rw [goes_any, Bool.eq_iff_iff, List.any_eq_true, List.any_eq_true]
  constructor
  · rintro ⟨j, hj, e⟩
    have hj := List.mem_range.1 hj
    have hin := blen_in hj
    obtain ⟨e1, e2⟩ := (key _ hin).1 (beq_iff_eq.1 e)
    refine ⟨(bway n m t b j).d, List.mem_range.2 (bway_d b j), ?_⟩
    unfold onB'
    rw [Bool.or_eq_true, goesTo_iff]
    exact .inl ⟨j, hj, Wy.eq e1 e2 rfl⟩
  · rintro ⟨d, hd, e⟩
    unfold onB' at e
    rw [Bool.or_eq_true, goesTo_iff, goesTo_iff] at e
    rcases e with ⟨j, hj, e⟩ | ⟨j, hj, e⟩
    · exact ⟨j, List.mem_range.2 hj, beq_iff_eq.2 ((key _ (blen_in hj)).2 (by rw [e]; exact ⟨rfl, rfl⟩))⟩
    · exact ⟨j, List.mem_range.2 hj, beq_iff_eq.2 ((key _ (blen_in hj)).2 (by rw [e]; exact ⟨rfl, rfl⟩))⟩
/-- The cells in which a path crosses others, and its ways there. -/
theorem cross_cells (W : WSet n m t S) {bw : Nat → Wy} {L : Nat} (hd : ∀ j, j < L → (bw j).d < 4) (hin : ∀ j, j < L → inG n m (bw j)) (hne : ∀ a b, a < b → b < L → bw a ≠ bw b) (hnr : ∀ a b, a < L → b < L → bw a ≠ rev t (bw b)) (hS : ∀ j, j < L → S (bw j) = false) :
    (List.range L).countP (fun j => crB t S (bw j)) = (List.range (n * m)).countP fun c => emptyC m t c && ((List.range L).any (fun j => cellN m (bw j) == c) && (List.range 4).any fun d => S ⟨((c / m : Nat) : Int), ((c % m : Nat) : Int), d⟩) := by
  have hcell : ∀ j, j < L → ((cellN m (bw j) / m : Nat) : Int) = (bw j).i ∧ ((cellN m (bw j) % m : Nat) : Int) = (bw j).k := fun j hj => by
    obtain ⟨h1, h2, h3, h4⟩ := hin j hj
    have hk : (bw j).k.toNat < m := by omega
    have hm : 0 < m := by omega
    unfold cellN
    rw [Nat.mul_comm, Nat.mul_add_div hm, Nat.div_eq_of_lt hk, Nat.add_zero, Nat.mul_add_mod, Nat.mod_eq_of_lt hk]
    omega
  have hrev : ∀ (x : Wy) (d : Nat), d < 4 → inG n m x → S ⟨x.i, x.k, opp (bend (t x.i x.k) d)⟩ = S ⟨x.i, x.k, d⟩ := fun x d hd hx => W.rv ⟨x.i, x.k, d⟩ hd hx
  have hpick : ∀ c : Nat, ∃ j, (List.range L).any (fun j => cellN m (bw j) == c) = true → j < L ∧ cellN m (bw j) = c := fun c => by
    cases h : (List.range L).any (fun j => cellN m (bw j) == c) with
    | false => exact ⟨0, fun h => by cases h⟩
    | true =>
      obtain ⟨j, hj, e⟩ := List.any_eq_true.1 h
      exact ⟨j, fun _ => ⟨List.mem_range.1 hj, beq_iff_eq.1 e⟩⟩
  refine Nat.le_antisymm (cnt_inj2 _ _ (fun j => cellN m (bw j)) _ _ (fun j hj hc => ?_) fun j j' hj hj' hc hc' e => ?_) (cnt_inj2 _ _ (fun c => Classical.choose (hpick c)) _ _ (fun c hc hp => ?_) fun c c' hc hc' hp hp' e => ?_)
  · unfold crB at hc
    rw [Bool.and_eq_true] at hc
    have hk := hcell j hj
    refine ⟨cellN_lt (hin j hj), ?_⟩
    rw [Bool.and_eq_true, Bool.and_eq_true, List.any_eq_true, List.any_eq_true]
    refine ⟨?_, ⟨j, List.mem_range.2 hj, beq_self_eq_true _⟩, ⟨((bw j).d + 1) % 4, List.mem_range.2 (Nat.mod_lt _ (by decide)), ?_⟩⟩
    · unfold emptyC; rw [hk.1, hk.2]; exact hc.1
    · rw [hk.1, hk.2]; exact hc.2
  · refine Classical.byContradiction fun hjj => ?_
    have k1 := hcell j hj
    have k2 := hcell j' hj'
    have e' : cellN m (bw j) = cellN m (bw j') := e
    rw [← e'] at k2
    have ei : (bw j').i = (bw j).i := k2.1.symm.trans k1.1
    have ek : (bw j').k = (bw j).k := k2.2.symm.trans k1.2
    have n1 : bw j' ≠ bw j := by
      rcases Nat.lt_trichotomy j j' with h | h | h
      · exact fun h2 => hne j j' h hj' h2.symm
      · exact absurd h hjj
      · exact hne j' j h hj
    have h1 : (bw j').d ≠ (bw j).d := fun h => n1 (Wy.eq ei ek h)
    have h2 : (bw j').d ≠ opp (bend (t (bw j).i (bw j).k) (bw j).d) := fun h => hnr j' j hj' hj (Wy.eq ei ek h)
    unfold crB at hc
    rw [Bool.and_eq_true] at hc
    have hx := hrev (bw j) (bw j).d (hd j hj) (hin j hj)
    have hy := hrev (bw j) (bw j').d (hd j' hj') (hin j hj)
    have sx : S ⟨(bw j).i, (bw j).k, (bw j).d⟩ = false := hS j hj
    have sy : S ⟨(bw j).i, (bw j).k, (bw j').d⟩ = false := by
      have := hS j' hj'
      rw [show bw j' = ⟨(bw j).i, (bw j).k, (bw j').d⟩ from Wy.eq ei ek rfl] at this
      exact this
    rcases four_ways (b := t (bw j).i (bw j).k) (hd j hj) (hd j' hj') (Nat.mod_lt ((bw j).d + 1) (by decide : 0 < 4)) h1 h2 with h | h | h | h
    · rw [h, sx] at hc; exact absurd hc.2 (by decide)
    · rw [h, hx, sx] at hc; exact absurd hc.2 (by decide)
    · rw [h, sy] at hc; exact absurd hc.2 (by decide)
    · rw [h, hy, sy] at hc; exact absurd hc.2 (by decide)
  · rw [Bool.and_eq_true, Bool.and_eq_true, List.any_eq_true (l := List.range 4)] at hp
    obtain ⟨he, ha, d, hd4, hs⟩ := hp
    obtain ⟨hj, hcl⟩ := Classical.choose_spec (hpick c) ha
    refine ⟨hj, ?_⟩
    show crB t S (bw (Classical.choose (hpick c))) = true
    generalize Classical.choose (hpick c) = j at *
    have hk := hcell j hj
    rw [hcl] at hk
    have hd4 := List.mem_range.1 hd4
    unfold emptyC at he
    rw [hk.1, hk.2] at he hs
    have h46 : t (bw j).i (bw j).k = 46 := by simpa using he
    have sx : S ⟨(bw j).i, (bw j).k, (bw j).d⟩ = false := hS j hj
    have hx := hrev (bw j) (bw j).d (hd j hj) (hin j hj)
    have hz := hrev (bw j) (((bw j).d + 1) % 4) (Nat.mod_lt _ (by decide)) (hin j hj)
    rw [h46, bend_e (by decide) (by decide)] at hx hz
    unfold crB
    rw [h46]
    show S ⟨(bw j).i, (bw j).k, ((bw j).d + 1) % 4⟩ = true
    have hdj := hd j hj
    generalize (bw j).d = dj at *
    rcases four hdj with rfl | rfl | rfl | rfl <;> rcases four hd4 with rfl | rfl | rfl | rfl <;> simp_all [opp]
  · rw [Bool.and_eq_true, Bool.and_eq_true] at hp hp'
    obtain ⟨_, h1⟩ := Classical.choose_spec (hpick c) hp.2.1
    obtain ⟨_, h2⟩ := Classical.choose_spec (hpick c') hp'.2.1
    rw [← h1, ← h2]
    exact congrArg (fun j => cellN m (bw j)) e
/-- Beams cross an odd number of times just if their ports are apart. -/
theorem both_odd {a b : Nat} (ht : ∀ i k : Int, 0 ≤ i → i < n → 0 ≤ k → k < m → t i k = 46 ∨ t i k = 114 ∨ t i k = 102) (hn : 1 ≤ n) (hm : 1 ≤ m) (ha : a < 2 * (n + m)) (hb : b < 2 * (n + m)) (h1 : a ≠ b) (h2 : bend_ n m t a ≠ b) :
    decide (bothN n m t a b % 2 = 1) = ((decide (b < a) ^^ decide (bend_ n m t b < a)) ^^ (decide (b < bend_ n m t a) ^^ decide (bend_ n m t b < bend_ n m t a))) := by
  have W := onB_set (t := t) hb
  have hS := fun j hj => onB_other (j := j) hn hm ha hb h1 h2 hj
  have hq := (bend_facts (t := t) hn hm ha).2.1
  have hbk := back_facts (t := t) hn hm ha
  have hp := W.path ht (entr_d n m a) (blen n m t a) fun j hj => ⟨blen_in hj, hS j hj⟩
  have hcc := cross_cells W (bw := bway n m t a) (L := blen n m t a) (fun j _ => bway_d a j) (fun j hj => blen_in hj) (fun x y hxy hy => bway_ne ha hxy (by omega)) (fun x y hx hy => bway_ne_rev x y hx hy) hS
  have hS0 : onB' n m t b (entr n m a) = false := hS 0 (blen_pos hn hm ha)
  have hSq : onB' n m t b (entr n m (bend_ n m t a)) = false := by
    rw [onB_port hn hm hb hq, decide_eq_false_iff_not]
    rintro (e | e)
    · exact h2 e
    · have := congrArg (bend_ n m t) e
      rw [hbk.2, (back_facts (t := t) hn hm hb).2] at this
      exact h1 this
  have hx := side_exit (t := t) (S := onB' n m t b) hn hm ha
  have hxr : ∀ p, p ≤ 2 * (n + m) → xr (fun r => onB' n m t b (entr n m r)) p = (decide (b < p) ^^ decide (bend_ n m t b < p)) := fun p hp => by
    rw [← xr_two (bend_ne' hn hm hb).symm]
    exact xr_congr p fun r hr => onB_port hn hm hb (by omega)
  have hp' : sideB n m (onB' n m t b) (bway n m t a (blen n m t a)) = (sideB n m (onB' n m t b) (entr n m a) ^^ xr (fun j => crB t (onB' n m t b) (bway n m t a j)) (blen n m t a)) := hp
  rw [hx, W.port hn hm hq hSq, W.port hn hm ha hS0, hxr a (by omega), hxr _ (by omega), xr_parity, hcc] at hp'
  have hbo : bothN n m t a b = (List.range (n * m)).countP fun c => emptyC m t c && ((List.range (blen n m t a)).any (fun j => cellN m (bway n m t a j) == c) && (List.range 4).any fun d => onB' n m t b ⟨((c / m : Nat) : Int), ((c % m : Nat) : Int), d⟩) := by
    unfold bothN
    refine List.countP_congr fun c hc => ?_
    have hc := List.mem_range.1 hc
    have g1 : goesC n m t a c = (List.range (blen n m t a)).any (fun j => cellN m (bway n m t a j) == c) := goes_any a c
    have g2 : goesC n m t b c = (List.range 4).any fun d => onB' n m t b ⟨((c / m : Nat) : Int), ((c % m : Nat) : Int), d⟩ := goes_ways hb hc
    rw [g1, g2, Bool.and_comm]
  rw [hbo]
  generalize decide (((List.range (n * m)).countP fun c => emptyC m t c && ((List.range (blen n m t a)).any (fun j => cellN m (bway n m t a j) == c) && (List.range 4).any fun d => onB' n m t b ⟨((c / m : Nat) : Int), ((c % m : Nat) : Int), d⟩)) % 2 = 1) = z at *
  revert hp'
  generalize decide (b < a) = x1
  generalize decide (bend_ n m t b < a) = x2
  generalize decide (b < bend_ n m t a) = x3
  generalize decide (bend_ n m t b < bend_ n m t a) = x4
  cases x1 <;> cases x2 <;> cases x3 <;> cases x4 <;> cases z <;> decide
end
end Go.Proofs.Ytonhnmpgikmlpaa
