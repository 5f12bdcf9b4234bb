/- Rounds cross beams, and each other, an even number of times. -/
import Derived.Test.YtonhnmpgikmlpaaPotP
import Derived.Test.YtonhnmpgikmlpaaBunR
import Derived.Test.YtonhnmpgikmlpaaCrossI
namespace Go.Proofs.Ytonhnmpgikmlpaa

section
variable {n m : Nat} {t : Int → Int → UInt8}
def cellW (m c d : Nat) : Wy := ⟨((c / m : Nat) : Int), ((c % m : Nat) : Int), d⟩
theorem cellW_in {c : Nat} (hc : c < n * m) (d : Nat) : inG n m (cellW m c d) := by
  obtain ⟨h1, h2, _⟩ := cell_parts hc
  unfold cellW inG
  simp only
  generalize c / m = r at *
  generalize c % m = q at *
  omega
theorem cellN_W {c : Nat} {x : Wy} (hx : inG n m x) (hc : c < n * m) : cellN m x = c ↔ x = cellW m c x.d := by
  have hm : 0 < m := by
    rcases Nat.eq_zero_or_pos m with h0 | h0
    · subst h0; simp at hc
    · exact h0
  have := cellN_iff (i := c / m) hx (Nat.mod_lt c hm)
  rw [show c / m * m + c % m = c by rw [Nat.mul_comm]; exact Nat.div_add_mod c m] at this
  rw [this]
  exact ⟨fun h => Wy.eq h.1 h.2 rfl, fun h => ⟨congrArg Wy.i h, congrArg Wy.k h⟩⟩
theorem on_rev (x : Wy) (hd : x.d < 4) : onR n m t (rev t x) = onR n m t x := by
  rw [Bool.eq_iff_iff]
  exact ⟨onR_back hd, onR_rev hd⟩
theorem on_nxt (x : Wy) (hd : x.d < 4) (hx : inG n m x) : onR n m t (nxt t x) = onR n m t x := by
  rw [Bool.eq_iff_iff, ← onR_next hd]
  exact ⟨fun h => ⟨h, hx⟩, fun h => h.1⟩
theorem on_iter {x : Wy} (hd : x.d < 4) : ∀ j, (∀ i, i < j → inG n m (iter t x i)) → onR n m t (iter t x j) = onR n m t x
  | 0, _ => rfl
  | j + 1, h => by
    show onR n m t (nxt t (iter t x j)) = _
    rw [on_nxt _ (iter_d hd j) (h j (by omega)), on_iter hd j fun i hi => h i (by omega)]
/-- The ways of beams. -/
def offB (n m : Nat) (t : Int → Int → UInt8) (x : Wy) : Bool := !onR n m t x
theorem offB_set : WSet n m t (offB n m t) where
  rv x hd _ := by unfold offB; rw [on_rev x hd]
  nx x hd hx _ := by unfold offB; rw [on_nxt x hd hx]
/-- The ways of a round. -/
def ringB (n m : Nat) (t : Int → Int → UInt8) (l : Nat) (x : Wy) : Bool := (List.range (rlen n m t (wayN m l))).any fun j => sameW (iter t (wayN m l) j) x || sameW (rev t (iter t (wayN m l) j)) x
theorem ringB_iff {l : Nat} (hl : leadB n m t l = true) {x : Wy} : ringB n m t l x = true ↔ ringW t (wayN m l) x := by
  have hon := (lead_iff.1 hl).1
  unfold ringB
  rw [List.any_eq_true]
  constructor
  · rintro ⟨j, _, h⟩
    rw [Bool.or_eq_true, sameW_iff, sameW_iff] at h
    rcases h with rfl | rfl
    · exact ⟨j, .inl rfl⟩
    · exact ⟨j, .inr rfl⟩
  · intro h
    obtain ⟨j, hj, h⟩ := ringW_low (wayN_d l) hon h
    refine ⟨j, List.mem_range.2 hj, ?_⟩
    rw [Bool.or_eq_true, sameW_iff, sameW_iff]
    exact h.imp Eq.symm Eq.symm
theorem ring_rev {l : Nat} {x : Wy} (h : ringW t (wayN m l) x) : ringW t (wayN m l) (rev t x) := by
  obtain ⟨j, rfl | rfl⟩ := h
  · exact ⟨j, .inr rfl⟩
  · exact ⟨j, .inl (rev_rev (iter_d (wayN_d l) j))⟩
theorem ring_next {l : Nat} (hl : leadB n m t l = true) {x : Wy} (hd : x.d < 4) : ringW t (wayN m l) (nxt t x) ↔ ringW t (wayN m l) x := by
  have hon := (lead_iff.1 hl).1
  have hdl := wayN_d (m := m) l
  obtain ⟨f1, _, f3, _⟩ := rlen_facts hdl hon
  obtain ⟨P, hP⟩ : ∃ P, rlen n m t (wayN m l) = P + 1 := ⟨rlen n m t (wayN m l) - 1, by omega⟩
  rw [hP] at f3
  have hz : ∀ j, ∃ i, iter t (wayN m l) j = iter t (wayN m l) (i + 1) := fun j => by
    cases j with
    | zero => exact ⟨P, f3.symm⟩
    | succ j => exact ⟨j, rfl⟩
  constructor
  · rintro ⟨j, e | e⟩
    · obtain ⟨i, hi⟩ := hz j
      rw [hi] at e
      exact ⟨i, .inl (nxt_inj (t := t) hd (iter_d hdl i) e)⟩
    · refine ⟨j + 1, .inr (nxt_inj (t := t) hd (rev_d _) ?_)⟩
      rw [e]
      exact (nxt_rev_nxt (iter_d hdl j)).symm
  · rintro ⟨j, rfl | rfl⟩
    · exact ⟨j + 1, .inl rfl⟩
    · obtain ⟨i, hi⟩ := hz j
      rw [hi]
      exact ⟨i, .inr (nxt_rev_nxt (iter_d hdl i))⟩
/-- The ways of rounds with a greater number. -/
def moreB (n m : Nat) (t : Int → Int → UInt8) (l : Nat) (x : Wy) : Bool := (List.range (4 * (n * m))).any fun l' => decide (l < l') && (leadB n m t l' && ringB n m t l' x)
theorem moreB_iff {l : Nat} {x : Wy} : moreB n m t l x = true ↔ ∃ l', l' < 4 * (n * m) ∧ l < l' ∧ leadB n m t l' = true ∧ ringW t (wayN m l') x := by
  unfold moreB
  rw [List.any_eq_true]
  constructor
  · rintro ⟨l', h1, h2⟩
    rw [Bool.and_eq_true, Bool.and_eq_true, decide_eq_true_iff] at h2
    exact ⟨l', List.mem_range.1 h1, h2.1, h2.2.1, (ringB_iff h2.2.1).1 h2.2.2⟩
  · rintro ⟨l', h1, h2, h3, h4⟩
    refine ⟨l', List.mem_range.2 h1, ?_⟩
    rw [Bool.and_eq_true, Bool.and_eq_true, decide_eq_true_iff]
    exact ⟨h2, h3, (ringB_iff h3).2 h4⟩
theorem moreB_set (l : Nat) : WSet n m t (moreB n m t l) where
  rv x hd _ := by
    rw [Bool.eq_iff_iff, moreB_iff, moreB_iff]
    constructor
    · rintro ⟨l', h1, h2, h3, h4⟩
      have := ring_rev h4
      rw [rev_rev hd] at this
      exact ⟨l', h1, h2, h3, this⟩
    · rintro ⟨l', h1, h2, h3, h4⟩
      exact ⟨l', h1, h2, h3, ring_rev h4⟩
  nx x hd _ _ := by
    rw [Bool.eq_iff_iff, moreB_iff, moreB_iff]
    constructor
    · rintro ⟨l', h1, h2, h3, h4⟩
      exact ⟨l', h1, h2, h3, (ring_next h3 hd).1 h4⟩
    · rintro ⟨l', h1, h2, h3, h4⟩
      exact ⟨l', h1, h2, h3, (ring_next h3 hd).2 h4⟩
/-- The round goes through the cell. -/
def thruL (n m : Nat) (t : Int → Int → UInt8) (l c : Nat) : Bool := (List.range (rlen n m t (wayN m l))).any fun j => cellN m (iter t (wayN m l) j) == c
theorem thruL_iff {l c : Nat} (hl : leadB n m t l = true) (hc : c < n * m) : thruL n m t l c = true ↔ ∃ d, d < 4 ∧ ringW t (wayN m l) (cellW m c d) := by
  have hon := (lead_iff.1 hl).1
  have hdl := wayN_d (m := m) l
  unfold thruL
  rw [List.any_eq_true]
  constructor
  · rintro ⟨j, _, h⟩
    have e := (cellN_W (onR_all hdl hon j) hc).1 (beq_iff_eq.1 h)
    exact ⟨_, iter_d hdl j, j, .inl e.symm⟩
  · rintro ⟨d, hd, h⟩
    obtain ⟨j, hj, h⟩ := ringW_low hdl hon h
    refine ⟨j, List.mem_range.2 hj, beq_iff_eq.2 ?_⟩
    rcases h with h | h
    · exact (cellN_W (onR_all hdl hon j) hc).2 (by rw [← h]; rfl)
    · have h2 := congrArg (rev t) h
      rw [rev_rev (iter_d hdl j)] at h2
      refine (cellN_W (onR_all hdl hon j) hc).2 ?_
      rw [← h2]
      rfl
/-- A round is crossed by other paths in an even number of cells. -/
theorem lead_even {S : Wy → Bool} (W : WSet n m t S) (ht : ∀ i k : Int, 0 ≤ i → i < n → 0 ≤ k → k < m → t i k = 46 ∨ t i k = 114 ∨ t i k = 102) {l : Nat} (hl : leadB n m t l = true) (hS : ∀ x, ringW t (wayN m l) x → S x = false) :
    ((List.range (n * m)).countP fun c => emptyC m t c && (thruL n m t l c && (List.range 4).any fun d => S (cellW m c d))) % 2 = 0 := by
  have hon := (lead_iff.1 hl).1
  have hdl := wayN_d (m := m) l
  have h1 := W.round ht hdl hon fun j => hS _ ⟨j, .inl rfl⟩
  rw [cross_cells W (bw := iter t (wayN m l)) (L := rlen n m t (wayN m l)) (fun j _ => iter_d hdl j) (fun j _ => onR_all hdl hon j) (fun a b hab hb => ring_ne hdl hon hab hb) (fun a b _ _ => iter_ne_rev hdl a b) (fun j _ => hS _ ⟨j, .inl rfl⟩)] at h1
  exact h1
theorem even_sum (F : Nat → Nat) : ∀ N, (∀ c, c < N → F c % 2 = 0) → sumN F N % 2 = 0
  | 0, _ => rfl
  | N + 1, h => by
    rw [sumN]
    have h1 := even_sum F N fun c hc => h c (by omega)
    have h2 := h N (by omega)
    omega
/-- Cells told by one round each: an even number. -/
theorem cells_even (P : Nat → Bool) (S : Nat → Wy → Bool) (ht : ∀ i k : Int, 0 ≤ i → i < n → 0 ≤ k → k < m → t i k = 46 ∨ t i k = 114 ∨ t i k = 102) (hW : ∀ l, WSet n m t (S l)) (hS : ∀ l, leadB n m t l = true → ∀ x, ringW t (wayN m l) x → S l x = false)
    (h1 : ∀ c, c < n * m → P c = true → ∃ l, l < 4 * (n * m) ∧ ∀ l', (leadB n m t l' = true ∧ emptyC m t c = true ∧ thruL n m t l' c = true ∧ ((List.range 4).any fun d => S l' (cellW m c d)) = true) ↔ l' = l)
    (h2 : ∀ c l, c < n * m → leadB n m t l = true → emptyC m t c = true → thruL n m t l c = true → ((List.range 4).any fun d => S l (cellW m c d)) = true → P c = true) : (List.range (n * m)).countP P % 2 = 0 := by
  have e : ∀ c, c < n * m → (if P c = true then 1 else 0) = sumN (fun l => if leadB n m t l = true then (if (emptyC m t c && (thruL n m t l c && (List.range 4).any fun d => S l (cellW m c d))) = true then 1 else 0) else 0) (4 * (n * m)) := fun c hc => by
    by_cases hP : P c = true
    · obtain ⟨l0, hl0, hll⟩ := h1 c hc hP
      rw [if_pos hP, sumN_congr (g := fun l => if l0 = l then 1 else 0) _ fun l _ => ?_, sumN_one, if_pos hl0]
      by_cases hl : l0 = l
      · subst hl
        obtain ⟨g1, g2, g3, g4⟩ := (hll l0).2 rfl
        rw [if_pos rfl, if_pos g1, if_pos (by rw [g2, g3, g4]; rfl)]
      · rw [if_neg hl]
        by_cases g1 : leadB n m t l = true
        · rw [if_pos g1, if_neg]
          intro h
          rw [Bool.and_eq_true, Bool.and_eq_true] at h
          exact hl ((hll l).1 ⟨g1, h.1, h.2.1, h.2.2⟩).symm
        · rw [if_neg g1]
    · rw [if_neg hP]
      have hz : ∀ N, sumN (fun _ => 0) N = 0 := fun N => by rw [sumN_const]; simp
      rw [sumN_congr (g := fun _ => 0) _ fun l _ => ?_, hz]
      by_cases g1 : leadB n m t l = true
      · rw [if_pos g1, if_neg]
        intro h
        rw [Bool.and_eq_true, Bool.and_eq_true] at h
        exact hP (h2 c l hc g1 h.1 h.2.1 h.2.2)
      · rw [if_neg g1]
  rw [countP_range, sumN_congr _ e, sumN_swap2]
  refine even_sum _ _ fun l _ => ?_
  by_cases g1 : leadB n m t l = true
  · simp only [if_pos g1]
    rw [← countP_range]
    exact lead_even (hW l) ht g1 (hS l g1)
  · simp only [if_neg g1]
    rw [sumN_const]
    simp
/-- The two strands of an empty cell. -/
theorem empty_rev {c : Nat} (he : emptyC m t c = true) {d : Nat} (_hd : d < 4) : rev t (cellW m c d) = cellW m c (opp d) := by
  unfold emptyC at he
  have h46 : t ((c / m : Nat) : Int) ((c % m : Nat) : Int) = 46 := by simpa using he
  show (⟨_, _, opp (bend (t ((c / m : Nat) : Int) ((c % m : Nat) : Int)) d)⟩ : Wy) = _
  rw [h46, bend_e (by decide) (by decide)]
  rfl
theorem empty_on {c : Nat} (he : emptyC m t c = true) : onR n m t (cellW m c 2) = onR n m t (cellW m c 0) ∧ onR n m t (cellW m c 3) = onR n m t (cellW m c 1) := by
  have h0 := on_rev (n := n) (m := m) (t := t) (cellW m c 0) (Nat.zero_lt_succ 3)
  have h1 := on_rev (n := n) (m := m) (t := t) (cellW m c 1) (by show 1 < 4; decide)
  rw [empty_rev he (by decide)] at h0 h1
  exact ⟨h0, h1⟩
theorem empty_atN {c : Nat} (_hc : c < n * m) (he : emptyC m t c = true) : atN n m t c = (onR n m t (cellW m c 0)).toNat + (onR n m t (cellW m c 1)).toNat := by
  obtain ⟨e2, e3⟩ := empty_on (n := n) he
  have hw : ∀ d, d < 4 → wayN m (4 * c + d) = cellW m c d := fun d hd => wayN_cell hd
  unfold atN
  rw [upT_four, hw 0 (by decide), hw 1 (by decide), hw 2 (by decide), hw 3 (by decide), e2, e3]
  omega
/-- One path goes through an empty cell twice: both its strands are of one round, or of none. -/
theorem self_on {c : Nat} (hc : c < n * m) (he : emptyC m t c = true) (h : selfB n m t (placeN m c).i (placeN m c).k = true) : onR n m t (cellW m c 1) = onR n m t (cellW m c 0) ∧ (onR n m t (cellW m c 0) = true → ringW t (cellW m c 0) (cellW m c 1)) := by
  obtain ⟨e2, e3⟩ := empty_on (n := n) he
  have hin := fun d => cellW_in (n := n) (m := m) hc d
  have r1 : rev t (cellW m c 1) = cellW m c 3 := empty_rev he (by decide)
  have r3 : rev t (cellW m c 3) = cellW m c 1 := empty_rev he (by decide)
  have key : ∀ d, (d = 0 ∨ d = 2) → retB n m t (placeN m c).i (placeN m c).k (cellW m c d) = true → onR n m t (cellW m c 1) = onR n m t (cellW m c d) ∧ ringW t (cellW m c d) (cellW m c 1) := fun d hd hr => by
    obtain ⟨j, h1, h2, h3⟩ := retB_iff.1 hr
    have hd4 : (cellW m c d).d < 4 := by show d < 4; omega
    have g := goL_facts (t := t) hd4 (hin d)
    obtain ⟨e, hej⟩ : ∃ e, iter t (cellW m c d) j = cellW m c e := ⟨_, atC_eq h3⟩
    have he4 : e < 4 := by have := iter_d (t := t) hd4 j; rw [hej] at this; exact this
    have hne : e ≠ d := fun ee => by
      subst ee
      exact g.2.2.2.1 0 j h1 h2 hej.symm
    have hne2 : e ≠ opp d := fun ee => by
      refine iter_ne_rev (t := t) hd4 j 0 ?_
      rw [hej, ee]
      exact (empty_rev he (by omega)).symm
    have hon := on_iter (n := n) (m := m) (t := t) hd4 j fun i hi => g.2.2.1 i (by omega)
    rw [hej] at hon
    have h13 : e = 1 ∨ e = 3 := by
      rcases hd with rfl | rfl <;> simp [opp] at hne2 <;> omega
    rcases h13 with rfl | rfl
    · exact ⟨hon, j, .inl hej.symm⟩
    · refine ⟨by rw [← hon, e3], j, .inr ?_⟩
      rw [hej, r3]
  unfold selfB at h
  rw [Bool.or_eq_true] at h
  have hp0 : (⟨(placeN m c).i, (placeN m c).k, 0⟩ : Wy) = cellW m c 0 := rfl
  rw [hp0, empty_rev he (by decide)] at h
  rcases h with h | h
  · obtain ⟨k1, k2⟩ := key 0 (.inl rfl) h
    exact ⟨k1, fun _ => k2⟩
  · obtain ⟨k1, k2⟩ := key 2 (.inr rfl) h
    rw [e2] at k1
    refine ⟨k1, fun hon => ?_⟩
    have h02 : ringW t (cellW m c 0) (cellW m c 2) := ⟨0, .inr (empty_rev he (d := 0) (by decide)).symm⟩
    exact ringW_trans (by show 0 < 4; decide) hon h02 k2
theorem ring_self {c : Nat} (hc : c < n * m) (he : emptyC m t c = true) (hon : onR n m t (cellW m c 0) = true) (h : ringW t (cellW m c 0) (cellW m c 1)) : selfB n m t (placeN m c).i (placeN m c).k = true := by
  have hd : (cellW m c 0).d < 4 := Nat.zero_lt_succ 3
  have g := goL_facts (t := t) hd (cellW_in (n := n) hc 0)
  have hL := (g.2.2.2.2.1 hon).2
  obtain ⟨j, hj, h⟩ := ringW_low hd hon h
  have hiter : ∃ e, (e = 1 ∨ e = 3) ∧ iter t (cellW m c 0) j = cellW m c e := by
    rcases h with h | h
    · exact ⟨1, .inl rfl, h.symm⟩
    · have h2 := congrArg (rev t) h
      rw [rev_rev (iter_d hd j), empty_rev he (by decide)] at h2
      exact ⟨3, .inr rfl, h2.symm⟩
  obtain ⟨e, h13, hej⟩ := hiter
  unfold selfB
  rw [Bool.or_eq_true]
  refine .inl (retB_iff.2 ⟨j, ?_, by rw [← hL] at hj; exact hj, ?_⟩)
  · cases j with
    | zero =>
      have : (cellW m c 0).d = (cellW m c e).d := congrArg Wy.d hej
      have : (0 : Nat) = e := this
      omega
    | succ j => omega
  · show atC _ _ (iter t (cellW m c 0) j)
    rw [hej]
    exact ⟨rfl, rfl⟩
theorem crossC_iff {lst : List Int} {c : Nat} : crossC n m t lst c = true ↔ emptyC m t c = true ∧ selfB n m t (placeN m c).i (placeN m c).k = false ∧ ((atN n m t c : Nat) : Int) ∈ lst := by
  unfold crossC
  rw [Bool.and_eq_true, Bool.and_eq_true, decide_eq_true_iff, Bool.not_eq_true']
/-- Rounds and beams cross in an even number of cells. -/
theorem rb_even (ht : ∀ i k : Int, 0 ≤ i → i < n → 0 ≤ k → k < m → t i k = 46 ∨ t i k = 114 ∨ t i k = 102) : (List.range (n * m)).countP (crossC n m t [1]) % 2 = 0 := by
  have off : ∀ {c}, emptyC m t c = true → (((List.range 4).any fun d => offB n m t (cellW m c d)) = true ↔ onR n m t (cellW m c 0) = false ∨ onR n m t (cellW m c 1) = false) := fun {c} he => by
    obtain ⟨e2, e3⟩ := empty_on (n := n) he
    rw [List.any_eq_true]
    unfold offB
    constructor
    · rintro ⟨d, hd, h⟩
      rw [Bool.not_eq_true'] at h
      rcases four (List.mem_range.1 hd) with rfl | rfl | rfl | rfl
      · exact .inl h
      · exact .inr h
      · exact .inl (e2 ▸ h)
      · exact .inr (e3 ▸ h)
    · rintro (h | h)
      · exact ⟨0, by simp, by rw [h]; rfl⟩
      · exact ⟨1, by simp, by rw [h]; rfl⟩
  refine cells_even _ (fun _ => offB n m t) ht (fun _ => offB_set) (fun l hl x hx => ?_) (fun c hc hP => ?_) fun c l hc hl he hth ha => ?_
  · unfold offB
    rw [(ringW_on (wayN_d l) (lead_iff.1 hl).1 hx).1]
    rfl
  · obtain ⟨he, hs, hat⟩ := crossC_iff.1 hP
    rw [empty_atN hc he] at hat
    obtain ⟨e2, e3⟩ := empty_on (n := n) he
    have hone : ∃ d, d < 2 ∧ onR n m t (cellW m c d) = true ∧ onR n m t (cellW m c (1 - d)) = false := by
      simp only [List.mem_singleton] at hat
      cases h0 : onR n m t (cellW m c 0) <;> cases h1 : onR n m t (cellW m c 1) <;> rw [h0, h1] at hat
      · exact absurd hat (by decide)
      · exact ⟨1, by decide, h1, h0⟩
      · exact ⟨0, by decide, h0, h1⟩
      · exact absurd hat (by decide)
    obtain ⟨d, hd, hon, hoff⟩ := hone
    have hd4 : (cellW m c d).d < 4 := by show d < 4; omega
    obtain ⟨l, hl, hll⟩ := lead_one hd4 hon
    refine ⟨l, hl, fun l' => ⟨fun ⟨g1, _, g3, _⟩ => ?_, fun h => ?_⟩⟩
    · obtain ⟨d', hd', hr⟩ := (thruL_iff g1 hc).1 g3
      have hon' := (ringW_on (wayN_d l') (lead_iff.1 g1).1 hr).1
      refine (hll l').1 ⟨g1, ?_⟩
      have hdd : d' = d ∨ d' = opp d := by
        rcases (show d = 0 ∨ d = 1 by omega) with rfl | rfl <;> rcases four hd' with rfl | rfl | rfl | rfl <;> simp_all [opp]
      rcases hdd with rfl | rfl
      · exact hr
      · have := ring_rev hr
        rw [empty_rev he (opp_lt d), opp_opp (show d < 4 by omega)] at this
        exact this
    · subst h
      obtain ⟨g1, g2⟩ := (hll l').2 rfl
      refine ⟨g1, he, (thruL_iff g1 hc).2 ⟨d, hd4, g2⟩, (off he).2 ?_⟩
      rcases (show d = 0 ∨ d = 1 by omega) with rfl | rfl
      · exact .inr hoff
      · exact .inl hoff
  · rw [crossC_iff]
    obtain ⟨e2, e3⟩ := empty_on (n := n) he
    obtain ⟨d', hd', hr⟩ := (thruL_iff hl hc).1 hth
    have hon' := (ringW_on (wayN_d l) (lead_iff.1 hl).1 hr).1
    have hoff := (off he).1 ha
    refine ⟨he, ?_, ?_⟩
    · rw [Bool.eq_false_iff]
      intro hs
      have h10 := (self_on hc he hs).1
      rcases four hd' with rfl | rfl | rfl | rfl <;> simp_all
    · rw [empty_atN hc he]
      rcases four hd' with rfl | rfl | rfl | rfl <;> rcases hoff with hoff | hoff <;> simp_all
/-- Rounds cross each other in an even number of cells. -/
theorem rr_even (ht : ∀ i k : Int, 0 ≤ i → i < n → 0 ≤ k → k < m → t i k = 46 ∨ t i k = 114 ∨ t i k = 102) : (List.range (n * m)).countP (crossC n m t [2]) % 2 = 0 := by
  refine cells_even _ (moreB n m t) ht moreB_set (fun l hl x hx => ?_) (fun c hc hP => ?_) fun c l hc hl he hth ha => ?_
  · rw [Bool.eq_false_iff]
    intro h
    obtain ⟨l', _, h2, h3, h4⟩ := moreB_iff.1 h
    obtain ⟨hon, hd⟩ := ringW_on (wayN_d l) (lead_iff.1 hl).1 hx
    obtain ⟨l0, _, hll⟩ := lead_one hd hon
    have a1 := (hll l).1 ⟨hl, hx⟩
    have a2 := (hll l').1 ⟨h3, h4⟩
    omega
  · obtain ⟨he, hs, hat⟩ := crossC_iff.1 hP
    rw [empty_atN hc he] at hat
    simp only [List.mem_singleton] at hat
    have hon : onR n m t (cellW m c 0) = true ∧ onR n m t (cellW m c 1) = true := by
      cases h0 : onR n m t (cellW m c 0) <;> cases h1 : onR n m t (cellW m c 1) <;> rw [h0, h1] at hat
      · exact absurd hat (by decide)
      · exact absurd hat (by decide)
      · exact absurd hat (by decide)
      · exact ⟨rfl, rfl⟩
    have d0 : (cellW m c 0).d < 4 := Nat.zero_lt_succ 3
    have d1 : (cellW m c 1).d < 4 := by show 1 < 4; decide
    obtain ⟨a, ha, hla⟩ := lead_one d0 hon.1
    obtain ⟨b, hb, hlb⟩ := lead_one d1 hon.2
    obtain ⟨a1, a2⟩ := (hla a).2 rfl
    obtain ⟨b1, b2⟩ := (hlb b).2 rfl
    have hab : a ≠ b := fun e => by
      subst e
      have hr := ringW_trans d0 hon.1 (ringW_symm (wayN_d a) (lead_iff.1 a1).1 a2) b2
      rw [ring_self hc he hon.1 hr] at hs
      cases hs
    have hlead : ∀ l d, leadB n m t l = true → d < 4 → ringW t (wayN m l) (cellW m c d) → l = a ∧ (d = 0 ∨ d = 2) ∨ l = b ∧ (d = 1 ∨ d = 3) := fun l d h1 hd h2 => by
      rcases four hd with rfl | rfl | rfl | rfl
      · exact .inl ⟨(hla l).1 ⟨h1, h2⟩, .inl rfl⟩
      · exact .inr ⟨(hlb l).1 ⟨h1, h2⟩, .inl rfl⟩
      · have := ring_rev h2
        rw [empty_rev he (by decide)] at this
        exact .inl ⟨(hla l).1 ⟨h1, this⟩, .inr rfl⟩
      · have := ring_rev h2
        rw [empty_rev he (by decide)] at this
        exact .inr ⟨(hlb l).1 ⟨h1, this⟩, .inr rfl⟩
    have hmore : ∀ l, ((List.range 4).any fun d => moreB n m t l (cellW m c d)) = true ↔ l < a ∨ l < b := fun l => by
      rw [List.any_eq_true]
      constructor
      · rintro ⟨d, hd, h⟩
        obtain ⟨l', _, h2, h3, h4⟩ := moreB_iff.1 h
        rcases hlead l' d h3 (List.mem_range.1 hd) h4 with ⟨rfl, _⟩ | ⟨rfl, _⟩
        · exact .inl h2
        · exact .inr h2
      · rintro (h | h)
        · exact ⟨0, by simp, moreB_iff.2 ⟨a, ha, h, a1, a2⟩⟩
        · exact ⟨1, by simp, moreB_iff.2 ⟨b, hb, h, b1, b2⟩⟩
    refine ⟨min a b, by omega, fun l' => ⟨fun ⟨g1, _, g3, g4⟩ => ?_, fun h => ?_⟩⟩
    · obtain ⟨d', hd', hr⟩ := (thruL_iff g1 hc).1 g3
      have h5 := (hmore l').1 g4
      rcases hlead l' d' g1 hd' hr with ⟨rfl, _⟩ | ⟨rfl, _⟩ <;> omega
    · subst h
      rcases Nat.lt_or_gt_of_ne hab with h | h
      · rw [Nat.min_eq_left (by omega)]
        exact ⟨a1, he, (thruL_iff a1 hc).2 ⟨0, by decide, a2⟩, (hmore a).2 (.inr h)⟩
      · rw [Nat.min_eq_right (by omega)]
        exact ⟨b1, he, (thruL_iff b1 hc).2 ⟨1, by decide, b2⟩, (hmore b).2 (.inl h)⟩
  · rw [crossC_iff]
    obtain ⟨e2, e3⟩ := empty_on (n := n) he
    obtain ⟨d, hd, hr⟩ := (thruL_iff hl hc).1 hth
    obtain ⟨d', hd', h'⟩ := List.any_eq_true.1 ha
    have hd' := List.mem_range.1 hd'
    obtain ⟨l', _, h2, h3, h4⟩ := moreB_iff.1 h'
    have on1 := (ringW_on (wayN_d l) (lead_iff.1 hl).1 hr).1
    have on2 := (ringW_on (wayN_d l') (lead_iff.1 h3).1 h4).1
    have hno : ∀ x, x.d < 4 → ringW t (wayN m l) x → ringW t (wayN m l') x → False := fun x hx g1 g2 => by
      obtain ⟨l0, _, hll⟩ := lead_one hx (ringW_on (wayN_d l) (lead_iff.1 hl).1 g1).1
      have a1 := (hll l).1 ⟨hl, g1⟩
      have a2 := (hll l').1 ⟨h3, g2⟩
      omega
    have hdd : d' ≠ d ∧ d' ≠ opp d := by
      constructor
      · rintro rfl
        exact hno _ hd hr h4
      · rintro rfl
        have := ring_rev h4
        rw [empty_rev he (opp_lt d), opp_opp hd] at this
        exact hno _ hd hr this
    have hboth : onR n m t (cellW m c 0) = true ∧ onR n m t (cellW m c 1) = true := by
      rcases four hd with rfl | rfl | rfl | rfl <;> rcases four hd' with rfl | rfl | rfl | rfl <;> simp_all [opp]
    refine ⟨he, ?_, ?_⟩
    · rw [Bool.eq_false_iff]
      intro hs
      have h01 := (self_on hc he hs).2 hboth.1
      have d0 : (cellW m c 0).d < 4 := Nat.zero_lt_succ 3
      have hall : ∀ l2 d2, leadB n m t l2 = true → d2 < 4 → ringW t (wayN m l2) (cellW m c d2) → ringW t (wayN m l2) (cellW m c 0) := fun l2 d2 g1 g2 g3 => by
        have o1 := (lead_iff.1 g1).1
        have h10 := ringW_symm d0 hboth.1 h01
        rcases four g2 with rfl | rfl | rfl | rfl
        · exact g3
        · exact ringW_trans (wayN_d l2) o1 g3 h10
        · have := ring_rev g3
          rw [empty_rev he (by decide)] at this
          exact this
        · have := ring_rev g3
          rw [empty_rev he (by decide)] at this
          exact ringW_trans (wayN_d l2) o1 this h10
      exact hno _ d0 (hall l d hl hd hr) (hall l' d' h3 hd' h4)
    · rw [empty_atN hc he, hboth.1, hboth.2]
      simp
end
end Go.Proofs.Ytonhnmpgikmlpaa
