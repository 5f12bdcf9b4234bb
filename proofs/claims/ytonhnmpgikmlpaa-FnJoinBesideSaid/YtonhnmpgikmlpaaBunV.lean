/- Settled texts in one file. Each begins with what it holds. -/
import Derived.Test.YtonhnmpgikmlpaaBunS
import Derived.Test.YtonhnmpgikmlpaaBunG
import Derived.Test.YtonhnmpgikmlpaaBunA
import Derived.Test.YtonhnmpgikmlpaaCameI
import Derived.Great.BuildSlice
/- Plain words on ports that are sewn: paths, where they end, rounds, which of them lead. No program is named. -/
namespace Go.Proofs.Ytonhnmpgikmlpaa

/-- Ports below N: s tells partners, t to what a port is sewn; a port that t leaves where it is is loose. -/
structure Sewn (N : Nat) (s t : Nat → Nat) : Prop where
  slt : ∀ p, p < N → s p < N
  ss : ∀ p, p < N → s (s p) = p
  sne : ∀ p, p < N → s p ≠ p
  tlt : ∀ p, p < N → t p < N
  tt : ∀ p, p < N → t (t p) = p
/-- The port at which light comes in next, k times. -/
def goN (s t : Nat → Nat) : Nat → Nat → Nat
  | 0, p => p
  | k + 1, p => t (s (goN s t k p))
/-- A path that came in at p ends behind x. -/
def stopB (s t : Nat → Nat) (p x : Nat) : Bool := t (s x) == s x || t (s x) == p
/-- How often light comes in on a path. -/
def plen (N : Nat) (s t : Nat → Nat) (p : Nat) : Nat := ((List.range N).findIdx fun j => stopB s t p (goN s t j p)) + 1
/-- Where a path ends. -/
def pend (N : Nat) (s t : Nat → Nat) (p : Nat) : Nat := s (goN s t (plen N s t p - 1) p)
/-- The path goes round. -/
def onS (N : Nat) (s t : Nat → Nat) (p : Nat) : Bool := t (pend N s t p) != pend N s t p
/-- One of the ports of a path without end. -/
def ringS (s t : Nat → Nat) (p q : Nat) : Prop := ∃ j, q = goN s t j p ∨ q = s (goN s t j p)
/-- The first ports of a path. -/
def pathTo (s t : Nat → Nat) (p k : Nat) : List Nat := (List.range k).flatMap fun j => [goN s t j p, s (goN s t j p)]
/-- The port is the least one of a round. -/
def leadS (N : Nat) (s t : Nat → Nat) (p : Nat) : Bool := onS N s t p && (pathTo s t p (plen N s t p)).all fun q => decide (p ≤ q)
/-- The number of rounds that have their least port below x. -/
def roundsTo (N : Nat) (s t : Nat → Nat) (x : Nat) : Nat := (List.range x).countP (leadS N s t)
/-- Ports that paths from loose ports below x go through. -/
def fromTo (N : Nat) (s t : Nat → Nat) (x c : Nat) : Prop := ∃ i, i < x ∧ t i = i ∧ ∃ j, j + 1 < plen N s t i ∧ (c = s (goN s t j i) ∨ c = goN s t (j + 1) i)
/-- Ports that have been seen, once the rounds of the ports below x are. -/
def seenS (N : Nat) (s t : Nat → Nat) (x c : Nat) : Prop := (t c ≠ c ∧ onS N s t c = false) ∨ ∃ l, l < x ∧ leadS N s t l = true ∧ ringS s t l c

theorem pigeonS : ∀ (N : Nat) (f : Nat → Nat), (∀ j, j ≤ N → f j < N) → ∃ a b, a < b ∧ b ≤ N ∧ f a = f b
  | 0, f, h => absurd (h 0 (Nat.le_refl _)) (by omega)
  | N + 1, f, h => by
    -- send the place N to f (N + 1)
    by_cases hex : ∃ a, a ≤ N ∧ f a = f (N + 1)
    · obtain ⟨a, ha, e⟩ := hex
      exact ⟨a, N + 1, by omega, Nat.le_refl _, e⟩
    · have hne : ∀ a, a ≤ N → f a ≠ f (N + 1) := fun a ha e => hex ⟨a, ha, e⟩
      obtain ⟨a, b, hab, hb, e⟩ := pigeonS N (fun j => if f j = N then f (N + 1) else f j) (fun j hj => by
        have h1 := h j (by omega)
        have h2 := h (N + 1) (Nat.le_refl _)
        have h3 := hne j hj
        show (if f j = N then f (N + 1) else f j) < N
        split <;> omega)
      refine ⟨a, b, hab, by omega, ?_⟩
      have h3 := hne a (by omega)
      have h4 := hne b hb
      have e' : (if f a = N then f (N + 1) else f a) = (if f b = N then f (N + 1) else f b) := e
      split at e' <;> split at e' <;> omega

section
variable {N : Nat} {s t : Nat → Nat}
theorem goN_lt (h : Sewn N s t) {p : Nat} (hp : p < N) : ∀ k, goN s t k p < N
  | 0 => hp
  | k + 1 => h.tlt _ (h.slt _ (goN_lt h hp k))
theorem goN_add (a : Nat) (p : Nat) : ∀ b, goN s t (a + b) p = goN s t b (goN s t a p)
  | 0 => rfl
  | b + 1 => by
    show t (s (goN s t (a + b) p)) = t (s (goN s t b (goN s t a p)))
    rw [goN_add a p b]
theorem go_inj (h : Sewn N s t) {x y : Nat} (hx : x < N) (hy : y < N) (e : t (s x) = t (s y)) : x = y := by
  have e1 := congrArg t e
  rw [h.tt _ (h.slt _ hx), h.tt _ (h.slt _ hy)] at e1
  have e2 := congrArg s e1
  rwa [h.ss _ hx, h.ss _ hy] at e2
theorem goN_inj (h : Sewn N s t) {x y : Nat} (hx : x < N) (hy : y < N) : ∀ k, goN s t k x = goN s t k y → x = y
  | 0, e => e
  | k + 1, e => goN_inj h hx hy k (go_inj h (goN_lt h hx k) (goN_lt h hy k) e)
theorem goN_back (h : Sewn N s t) {p : Nat} (hp : p < N) : ∃ P, 1 ≤ P ∧ P ≤ N ∧ goN s t P p = p := by
  obtain ⟨a, b, hab, hb, e⟩ := pigeonS N (fun j => goN s t j p) (fun j _ => goN_lt h hp j)
  refine ⟨b - a, by omega, by omega, ?_⟩
  have e2 : goN s t a p = goN s t ((b - a) + a) p := by rw [show b - a + a = b by omega]; exact e
  rw [goN_add] at e2
  exact (goN_inj h hp (goN_lt h hp _) a e2).symm
theorem goN_mul {p P : Nat} (h : goN s t P p = p) : ∀ a, goN s t (a * P) p = p
  | 0 => by rw [Nat.zero_mul]; rfl
  | a + 1 => by rw [Nat.add_mul, Nat.one_mul, goN_add, goN_mul h a, h]
theorem goN_mod {p P : Nat} (h : goN s t P p = p) (b : Nat) : goN s t b p = goN s t (b % P) p := by
  have e := goN_add (s := s) (t := t) (b / P * P) p (b % P)
  rw [goN_mul h, Nat.mul_comm, Nat.div_add_mod] at e
  exact e
/-- Backwards. -/
theorem goN_rev (h : Sewn N s t) {p : Nat} (hp : p < N) (a : Nat) : ∀ i, goN s t i (s (goN s t (a + i) p)) = s (goN s t a p)
  | 0 => rfl
  | i + 1 => by
    have e := goN_rev h hp (a + 1) i
    rw [show a + 1 + i = a + (i + 1) by omega] at e
    show t (s (goN s t i (s (goN s t (a + (i + 1)) p)))) = _
    rw [e]
    have h1 := goN_lt h hp (a + 1)
    rw [h.ss _ h1]
    show t (t (s (goN s t a p))) = _
    rw [h.tt _ (h.slt _ (goN_lt h hp a))]

theorem plen_facts (h : Sewn N s t) {p : Nat} (hp : p < N) : 1 ≤ plen N s t p ∧ plen N s t p ≤ N ∧
    (t (pend N s t p) = pend N s t p ∨ goN s t (plen N s t p) p = p) ∧ (∀ j, j + 1 < plen N s t p → t (s (goN s t j p)) ≠ s (goN s t j p) ∧ goN s t (j + 1) p ≠ p) := by
  obtain ⟨P, hP1, hP, e⟩ := goN_back h hp
  have hex : ∃ j ∈ List.range N, (stopB s t p (goN s t j p)) = true := ⟨P - 1, List.mem_range.2 (by omega), by
    unfold stopB
    rw [Bool.or_eq_true]
    right
    have : goN s t (P - 1 + 1) p = p := by rw [show P - 1 + 1 = P by omega]; exact e
    exact beq_iff_eq.2 this⟩
  have hlt := List.findIdx_lt_length_of_exists hex
  obtain ⟨k1, k2⟩ := (List.findIdx_eq hlt).1 rfl
  rw [List.length_range] at hlt
  rw [List.getElem_range] at k1
  refine ⟨by unfold plen; omega, by unfold plen; omega, ?_, fun j hj => ?_⟩
  · unfold pend plen
    rw [Nat.add_sub_cancel]
    unfold stopB at k1
    rw [Bool.or_eq_true, beq_iff_eq, beq_iff_eq] at k1
    exact k1
  · have h3 := k2 j (by unfold plen at hj; omega)
    rw [List.getElem_range] at h3
    unfold stopB at h3
    rw [Bool.or_eq_false_iff, beq_eq_false_iff_ne, beq_eq_false_iff_ne] at h3
    exact h3
theorem plen_of (h : Sewn N s t) {p k : Nat} (hp : p < N) (hs : t (s (goN s t k p)) = s (goN s t k p) ∨ goN s t (k + 1) p = p)
    (hn : ∀ j, j < k → t (s (goN s t j p)) ≠ s (goN s t j p) ∧ goN s t (j + 1) p ≠ p) : plen N s t p = k + 1 := by
  obtain ⟨h1, h2, h3, h4⟩ := plen_facts h hp
  rcases Nat.lt_trichotomy (plen N s t p) (k + 1) with hlt | heq | hgt
  · have h5 := hn (plen N s t p - 1) (by omega)
    unfold pend at h3
    rw [show plen N s t p - 1 + 1 = plen N s t p by omega] at h5
    rcases h3 with h3 | h3
    · exact absurd h3 h5.1
    · exact absurd h3 h5.2
  · exact heq
  · have h5 := h4 k (by omega)
    rcases hs with hs | hs
    · exact absurd hs h5.1
    · exact absurd hs h5.2
theorem pend_lt (h : Sewn N s t) {p : Nat} (hp : p < N) : pend N s t p < N := h.slt _ (goN_lt h hp _)
/-- A path from a loose port ends at a loose one. -/
theorem loose_end (h : Sewn N s t) {p : Nat} (hp : p < N) (hl : t p = p) : t (pend N s t p) = pend N s t p := by
  obtain ⟨h1, _, h3, _⟩ := plen_facts h hp
  rcases h3 with h3 | h3
  · exact h3
  · have e : t (pend N s t p) = p := by
      unfold pend
      have : goN s t (plen N s t p - 1 + 1) p = p := by rw [show plen N s t p - 1 + 1 = plen N s t p by omega]; exact h3
      exact this
    have e2 := congrArg t e
    rw [h.tt _ (pend_lt h hp), hl] at e2
    rw [e2]; exact hl
theorem loose_off (h : Sewn N s t) {p : Nat} (hp : p < N) (hl : t p = p) : onS N s t p = false := by
  unfold onS
  rw [loose_end h hp hl]
  simp
/-- Until its end a path goes through ports that are sewn. -/
theorem path_sewn (h : Sewn N s t) {p j : Nat} (hp : p < N) (hj : j + 1 < plen N s t p) : t (goN s t (j + 1) p) = s (goN s t j p) ∧ t (goN s t (j + 1) p) ≠ goN s t (j + 1) p := by
  obtain ⟨_, _, _, h4⟩ := plen_facts h hp
  have e : t (goN s t (j + 1) p) = s (goN s t j p) := h.tt _ (h.slt _ (goN_lt h hp j))
  refine ⟨e, fun e2 => (h4 j hj).1 ?_⟩
  rw [e] at e2
  have e3 : t (s (goN s t j p)) = goN s t (j + 1) p := rfl
  rw [e3, ← e2]
/-- Backwards from the end of a path that does not go round. -/
theorem end_back (h : Sewn N s t) {p : Nat} (hp : p < N) (i : Nat) (hi : i < plen N s t p) : goN s t i (pend N s t p) = s (goN s t (plen N s t p - 1 - i) p) := by
  have e := goN_rev h hp (plen N s t p - 1 - i) i
  rw [show plen N s t p - 1 - i + i = plen N s t p - 1 by omega] at e
  exact e
theorem back_nostop (h : Sewn N s t) {p : Nat} (hp : p < N) (hl : t (pend N s t p) = pend N s t p) (i : Nat) (hi : i + 1 < plen N s t p) :
    t (s (goN s t i (pend N s t p))) ≠ s (goN s t i (pend N s t p)) ∧ goN s t (i + 1) (pend N s t p) ≠ pend N s t p := by
  obtain ⟨_, _, _, h4⟩ := plen_facts h hp
  have hlt := goN_lt h hp (plen N s t p - 1 - i)
  have e := end_back h hp i (by omega)
  obtain ⟨b, hb⟩ : ∃ b, plen N s t p - 1 - i = b + 1 := ⟨plen N s t p - 2 - i, by omega⟩
  rw [hb] at e hlt
  have h5 := path_sewn h hp (j := b) (by omega)
  rw [e, h.ss _ hlt]
  refine ⟨h5.2, fun e2 => ?_⟩
  have e3 : goN s t (i + 1) (pend N s t p) = s (goN s t b p) := by
    show t (s (goN s t i (pend N s t p))) = _
    rw [e, h.ss _ hlt, h5.1]
  rw [e3] at e2
  have h6 := (h4 b (by omega)).1
  rw [e2] at h6
  exact h6 hl
/-- From a loose port there and back. -/
theorem end_end (h : Sewn N s t) {p : Nat} (hp : p < N) (hl : t p = p) : pend N s t (pend N s t p) = p := by
  have he := loose_end h hp hl
  obtain ⟨h1, _, _, _⟩ := plen_facts h hp
  have e0 := end_back h hp (plen N s t p - 1) (by omega)
  rw [show plen N s t p - 1 - (plen N s t p - 1) = 0 by omega] at e0
  have e0' : s (goN s t (plen N s t p - 1) (pend N s t p)) = p := by rw [e0]; exact h.ss _ hp
  have hL := plen_of h (pend_lt h hp) (k := plen N s t p - 1) (.inl (by rw [e0']; exact hl)) (fun j hj => back_nostop h hp he j (by omega))
  unfold pend at e0' ⊢
  unfold pend at hL
  rw [hL, Nat.add_sub_cancel]
  exact e0'
/-- No loose port is its own end. -/
theorem end_ne (h : Sewn N s t) {p : Nat} (hp : p < N) : pend N s t p ≠ p := by
  intro e
  obtain ⟨h1, _, _, h4⟩ := plen_facts h hp
  generalize hLL : plen N s t p = L at *
  have key : ∀ i, i < L → goN s t i p = s (goN s t (L - 1 - i) p) := fun i hi => by
    have := end_back h hp i (by omega)
    rw [hLL, e] at this
    exact this
  rcases Nat.mod_two_eq_zero_or_one L with h0 | h0
  · -- even: the middle step
    have hm := key (L / 2) (by omega)
    rw [show L - 1 - L / 2 = L / 2 - 1 by omega] at hm
    have h5 := (h4 (L / 2 - 1) (by omega)).1
    have e2 : goN s t (L / 2 - 1 + 1) p = t (s (goN s t (L / 2 - 1) p)) := rfl
    rw [show L / 2 - 1 + 1 = L / 2 by omega] at e2
    exact h5 (by rw [← e2]; exact hm)
  · have hm := key (L / 2) (by omega)
    rw [show L - 1 - L / 2 = L / 2 by omega] at hm
    exact h.sne _ (goN_lt h hp _) hm.symm

/-- A round: its path comes back. -/
theorem on_back (h : Sewn N s t) {p : Nat} (hp : p < N) (ho : onS N s t p = true) : goN s t (plen N s t p) p = p := by
  obtain ⟨_, _, h3, _⟩ := plen_facts h hp
  rcases h3 with h3 | h3
  · unfold onS at ho
    rw [h3] at ho
    simp at ho
  · exact h3
theorem on_sewn (h : Sewn N s t) {p : Nat} (hp : p < N) (ho : onS N s t p = true) : ∀ j, t (s (goN s t j p)) ≠ s (goN s t j p) := by
  obtain ⟨h1, _, _, h4⟩ := plen_facts h hp
  have hb := on_back h hp ho
  have low : ∀ j, j < plen N s t p → t (s (goN s t j p)) ≠ s (goN s t j p) := fun j hj => by
    rcases Nat.lt_or_ge (j + 1) (plen N s t p) with h5 | h5
    · exact (h4 j h5).1
    · obtain rfl : j = plen N s t p - 1 := by omega
      unfold onS at ho
      simpa [pend] using ho
  intro j
  rw [goN_mod hb]
  exact low _ (Nat.mod_lt _ (by omega))
/-- A port whose path never comes to a loose one is of a round. -/
theorem on_of {p : Nat} (hs : ∀ j, t (s (goN s t j p)) ≠ s (goN s t j p)) : onS N s t p = true := by
  unfold onS pend
  simpa using hs _
theorem ring_refl (p : Nat) : ringS s t p p := ⟨0, .inl rfl⟩
theorem ring_lt (h : Sewn N s t) {p q : Nat} (hp : p < N) (hr : ringS s t p q) : q < N := by
  obtain ⟨j, rfl | rfl⟩ := hr
  · exact goN_lt h hp j
  · exact h.slt _ (goN_lt h hp j)
theorem ring_s (h : Sewn N s t) {p q : Nat} (hp : p < N) (hr : ringS s t p q) : ringS s t p (s q) := by
  obtain ⟨j, rfl | rfl⟩ := hr
  · exact ⟨j, .inr rfl⟩
  · exact ⟨j, .inl (h.ss _ (goN_lt h hp j))⟩
theorem ring_t (h : Sewn N s t) {p q : Nat} (hp : p < N) (ho : onS N s t p = true) (hr : ringS s t p q) : ringS s t p (t q) := by
  have hb := on_back h hp ho
  have h1 := (plen_facts h hp).1
  obtain ⟨j, rfl | rfl⟩ := hr
  · -- one step back
    have e : goN s t j p = goN s t (j + plen N s t p - 1 + 1) p := by
      rw [show j + plen N s t p - 1 + 1 = plen N s t p + j by omega, goN_add, hb]
    refine ⟨j + plen N s t p - 1, .inr ?_⟩
    rw [e]
    exact h.tt _ (h.slt _ (goN_lt h hp _))
  · exact ⟨j + 1, .inl rfl⟩
theorem ring_sewn (h : Sewn N s t) {p q : Nat} (hp : p < N) (ho : onS N s t p = true) (hr : ringS s t p q) : t q ≠ q := by
  have hs := on_sewn h hp ho
  have hr2 := ring_t h hp ho hr
  obtain ⟨j, rfl | rfl⟩ := hr
  · intro e
    have h1 := (plen_facts h hp).1
    have hb := on_back h hp ho
    have e1 : goN s t j p = goN s t (j + plen N s t p - 1 + 1) p := by
      rw [show j + plen N s t p - 1 + 1 = plen N s t p + j by omega, goN_add, hb]
    have e2 : t (goN s t j p) = s (goN s t (j + plen N s t p - 1) p) := by
      rw [e1]; exact h.tt _ (h.slt _ (goN_lt h hp _))
    have e3 : t (s (goN s t (j + plen N s t p - 1) p)) = goN s t j p := by rw [e1]; rfl
    exact hs (j + plen N s t p - 1) (by rw [e3, ← e2, e])
  · exact hs j
theorem ring_go (h : Sewn N s t) {p q : Nat} (hp : p < N) (ho : onS N s t p = true) (hr : ringS s t p q) : ∀ j, ringS s t p (goN s t j q)
  | 0 => hr
  | j + 1 => ring_t h hp ho (ring_s h hp (ring_go h hp ho hr j))
theorem ring_on (h : Sewn N s t) {p q : Nat} (hp : p < N) (ho : onS N s t p = true) (hr : ringS s t p q) : onS N s t q = true :=
  on_of fun j => ring_sewn h hp ho (ring_s h hp (ring_go h hp ho hr j))
theorem ring_symm (h : Sewn N s t) {p q : Nat} (hp : p < N) (ho : onS N s t p = true) (hr : ringS s t p q) : ringS s t q p := by
  have hq := ring_on h hp ho hr
  have hql := ring_lt h hp hr
  obtain ⟨j, hj⟩ := hr
  have down : ∀ j, ringS s t q (goN s t j p) → ringS s t q p := by
    intro j
    induction j with
    | zero => exact fun h => h
    | succ j ih =>
      intro h2
      have h3 := ring_t h hql hq h2
      have e : t (goN s t (j + 1) p) = s (goN s t j p) := h.tt _ (h.slt _ (goN_lt h hp j))
      rw [e] at h3
      have h4 := ring_s h hql h3
      rw [h.ss _ (goN_lt h hp j)] at h4
      exact ih h4
  rcases hj with hj | hj
  · exact down j (by rw [← hj]; exact ring_refl q)
  · refine down j ?_
    have h4 := ring_s h hql (ring_refl q)
    rw [hj, h.ss _ (goN_lt h hp j)] at h4
    rw [hj]
    exact h4
theorem ring_trans (h : Sewn N s t) {p q r : Nat} (hp : p < N) (ho : onS N s t p = true) (h1 : ringS s t p q) (h2 : ringS s t q r) : ringS s t p r := by
  obtain ⟨j, rfl | rfl⟩ := h2
  · exact ring_go h hp ho h1 j
  · exact ring_s h hp (ring_go h hp ho h1 j)
theorem pathTo_mem {p k q : Nat} : q ∈ pathTo s t p k ↔ ∃ j, j < k ∧ (q = goN s t j p ∨ q = s (goN s t j p)) := by
  unfold pathTo
  rw [List.mem_flatMap]
  constructor
  · rintro ⟨j, hj, hq⟩
    rw [List.mem_range] at hj
    simp only [List.mem_cons, List.not_mem_nil, or_false] at hq
    exact ⟨j, hj, hq⟩
  · rintro ⟨j, hj, hq⟩
    exact ⟨j, List.mem_range.2 hj, by simpa using hq⟩
theorem path_ring (h : Sewn N s t) {p q : Nat} (hp : p < N) (ho : onS N s t p = true) : q ∈ pathTo s t p (plen N s t p) ↔ ringS s t p q := by
  rw [pathTo_mem]
  constructor
  · rintro ⟨j, _, hq⟩
    exact ⟨j, hq⟩
  · rintro ⟨j, hq⟩
    rw [goN_mod (on_back h hp ho)] at hq
    exact ⟨_, Nat.mod_lt _ (plen_facts h hp).1, hq⟩
theorem leadS_iff (h : Sewn N s t) {p : Nat} (hp : p < N) : leadS N s t p = true ↔ onS N s t p = true ∧ ∀ q, ringS s t p q → p ≤ q := by
  unfold leadS
  rw [Bool.and_eq_true, List.all_eq_true]
  constructor
  · rintro ⟨h1, h2⟩
    exact ⟨h1, fun q hq => of_decide_eq_true (h2 q ((path_ring h hp h1).2 hq))⟩
  · rintro ⟨h1, h2⟩
    exact ⟨h1, fun q hq => decide_eq_true (h2 q ((path_ring h hp h1).1 hq))⟩

/-- What paths from loose ports go through is what is sewn and of no round. -/
theorem from_iff (h : Sewn N s t) {c : Nat} (hc : c < N) : fromTo N s t N c ↔ (t c ≠ c ∧ onS N s t c = false) := by
  constructor
  · rintro ⟨i, hi, hl, j, hj, hcj⟩
    have hsw : t c ≠ c := by
      rcases hcj with rfl | rfl
      · exact ((plen_facts h hi).2.2.2 j hj).1
      · exact (path_sewn h hi hj).2
    refine ⟨hsw, ?_⟩
    cases hon : onS N s t c with
    | false => rfl
    | true =>
      exfalso
      have down : ∀ j, ringS s t c (goN s t j i) → ringS s t c i := by
        intro j
        induction j with
        | zero => exact fun h => h
        | succ j ih =>
          intro h2
          have h3 := ring_t h hc hon h2
          have e : t (goN s t (j + 1) i) = s (goN s t j i) := h.tt _ (h.slt _ (goN_lt h hi j))
          rw [e] at h3
          have h4 := ring_s h hc h3
          rw [h.ss _ (goN_lt h hi j)] at h4
          exact ih h4
      have hri : ringS s t c i := by
        rcases hcj with e | e
        · refine down j ?_
          have h4 := ring_s h hc (ring_refl (s := s) (t := t) c)
          rw [e, h.ss _ (goN_lt h hi j)] at h4
          rw [e]
          exact h4
        · exact down (j + 1) (by rw [← e]; exact ring_refl c)
      exact ring_sewn h hc hon hri hl
  · rintro ⟨hsw, hoff⟩
    have hl : t (pend N s t c) = pend N s t c := by
      unfold onS at hoff
      simpa using hoff
    have he := pend_lt h hc
    have h1 := (plen_facts h hc).1
    have e0 := end_back h hc (plen N s t c - 1) (by omega)
    rw [show plen N s t c - 1 - (plen N s t c - 1) = 0 by omega] at e0
    refine ⟨pend N s t c, he, hl, plen N s t c - 1, ?_, .inl ?_⟩
    · rcases Nat.lt_or_ge (plen N s t c - 1 + 1) (plen N s t (pend N s t c)) with h2 | h2
      · exact h2
      · exfalso
        obtain ⟨g1, _, g3, _⟩ := plen_facts h he
        have g3' := loose_end h he hl
        -- its end would be before c, or c itself
        rcases Nat.lt_or_ge (plen N s t (pend N s t c)) (plen N s t c) with h5 | h5
        · have h6 := (back_nostop h hc hl (plen N s t (pend N s t c) - 1) (by omega)).1
          exact h6 g3'
        · have h6 : plen N s t (pend N s t c) = plen N s t c := by omega
          have h7 : pend N s t (pend N s t c) = c := by
            show s (goN s t (plen N s t (pend N s t c) - 1) (pend N s t c)) = c
            rw [h6, e0]
            exact h.ss _ hc
          rw [h7] at g3'
          exact hsw g3'
    · rw [e0]
      exact (h.ss _ hc).symm
theorem fromTo_zero (c : Nat) : ¬ fromTo N s t 0 c := fun ⟨i, hi, _⟩ => absurd hi (by omega)
theorem fromTo_yes {x c : Nat} (hl : t x = x) : fromTo N s t (x + 1) c ↔ fromTo N s t x c ∨ ∃ j, j + 1 < plen N s t x ∧ (c = s (goN s t j x) ∨ c = goN s t (j + 1) x) := by
  constructor
  · rintro ⟨i, hi, h1, h2⟩
    rcases Nat.lt_or_ge i x with h3 | h3
    · exact .inl ⟨i, h3, h1, h2⟩
    · obtain rfl : i = x := by omega
      exact .inr h2
  · rintro (⟨i, hi, h1, h2⟩ | h2)
    · exact ⟨i, by omega, h1, h2⟩
    · exact ⟨x, by omega, hl, h2⟩
theorem fromTo_no {x c : Nat} (hl : t x ≠ x) : fromTo N s t (x + 1) c ↔ fromTo N s t x c := by
  constructor
  · rintro ⟨i, hi, h1, h2⟩
    rcases Nat.lt_or_ge i x with h3 | h3
    · exact ⟨i, h3, h1, h2⟩
    · obtain rfl : i = x := by omega
      exact absurd h1 hl
  · rintro ⟨i, hi, h1, h2⟩
    exact ⟨i, by omega, h1, h2⟩
theorem seen_zero {c : Nat} : seenS N s t 0 c ↔ (t c ≠ c ∧ onS N s t c = false) :=
  ⟨fun h => h.resolve_right fun ⟨l, hl, _⟩ => absurd hl (by omega), .inl⟩
theorem ring_leadS (h : Sewn N s t) {p : Nat} (hp : p < N) (ho : onS N s t p = true) : ∀ (k q : Nat), ringS s t p q → q = k → ∃ l, l ≤ k ∧ leadS N s t l = true ∧ ringS s t l p := by
  intro k
  induction k using Nat.strongRecOn with
  | _ k ih =>
    intro q hq hk
    have hon := ring_on h hp ho hq
    have hql := ring_lt h hp hq
    by_cases hex : ∃ z, ringS s t p z ∧ z < k
    · obtain ⟨z, hz, hlt⟩ := hex
      obtain ⟨l, hl, h2, h3⟩ := ih _ hlt z hz rfl
      exact ⟨l, by omega, h2, h3⟩
    · refine ⟨k, Nat.le_refl _, ?_, ?_⟩
      · rw [← hk]
        refine (leadS_iff h hql).2 ⟨hon, fun z hz => ?_⟩
        rw [hk]
        exact Nat.le_of_not_lt fun hlt => hex ⟨z, ring_trans h hp ho hq hz, hlt⟩
      · rw [← hk]
        exact ring_symm h hp ho hq
/-- A sewn port that has not been seen leads. -/
theorem seen_lead (h : Sewn N s t) {x : Nat} (hx : x < N) (hsw : t x ≠ x) (hn : ¬ seenS N s t x x) : leadS N s t x = true := by
  have hon : onS N s t x = true := by
    cases hb : onS N s t x with
    | true => rfl
    | false => exact absurd (.inl ⟨hsw, hb⟩) hn
  obtain ⟨l, hl, h2, h3⟩ := ring_leadS h hx hon x x (ring_refl _) rfl
  rcases Nat.lt_or_ge l x with hlt | hge
  · exact absurd (.inr ⟨l, hlt, h2, h3⟩) hn
  · obtain rfl : l = x := by omega
    exact h2
theorem seen_not (h : Sewn N s t) {x : Nat} (hx : x < N) (hn : t x = x ∨ seenS N s t x x) : leadS N s t x = false := by
  rw [Bool.eq_false_iff]
  intro hl
  obtain ⟨h1, h2⟩ := (leadS_iff h hx).1 hl
  rcases hn with hn | ⟨_, hn⟩ | ⟨l, hlt, hll, hr⟩
  · rw [loose_off h hx hn] at h1; cases h1
  · rw [hn] at h1; cases h1
  · have hlN : l < N := by omega
    have h3 := h2 _ (ring_symm h hlN ((leadS_iff h hlN).1 hll).1 hr)
    omega
theorem seen_yes {x c : Nat} (hl : leadS N s t x = true) : seenS N s t (x + 1) c ↔ seenS N s t x c ∨ ringS s t x c := by
  constructor
  · rintro (h1 | ⟨l, hl, h2, h3⟩)
    · exact .inl (.inl h1)
    · rcases Nat.lt_or_ge l x with hlt | hge
      · exact .inl (.inr ⟨l, hlt, h2, h3⟩)
      · obtain rfl : l = x := by omega
        exact .inr h3
  · rintro ((h1 | ⟨l, hl, h2, h3⟩) | h1)
    · exact .inl h1
    · exact .inr ⟨l, by omega, h2, h3⟩
    · exact .inr ⟨x, by omega, hl, h1⟩
theorem seen_no {x c : Nat} (hl : leadS N s t x = false) : seenS N s t (x + 1) c ↔ seenS N s t x c := by
  constructor
  · rintro (h1 | ⟨l, hl2, h2, h3⟩)
    · exact .inl h1
    · rcases Nat.lt_or_ge l x with hlt | hge
      · exact .inr ⟨l, hlt, h2, h3⟩
      · obtain rfl : l = x := by omega
        rw [hl] at h2; cases h2
  · rintro (h1 | ⟨l, hl2, h2, h3⟩)
    · exact .inl h1
    · exact .inr ⟨l, by omega, h2, h3⟩
theorem roundsTo_zero : roundsTo N s t 0 = 0 := rfl
theorem roundsTo_yes {x : Nat} (h : leadS N s t x = true) : roundsTo N s t (x + 1) = roundsTo N s t x + 1 := by
  unfold roundsTo
  rw [List.range_succ, List.countP_append, List.countP_cons, List.countP_nil, if_pos h]
theorem roundsTo_no {x : Nat} (h : leadS N s t x = false) : roundsTo N s t (x + 1) = roundsTo N s t x := by
  unfold roundsTo
  rw [List.range_succ, List.countP_append, List.countP_cons, List.countP_nil, if_neg (by rw [h]; decide), Nat.zero_add, Nat.add_zero]
theorem roundsTo_le (x : Nat) : roundsTo N s t x ≤ x := by
  have := List.countP_le_length (p := leadS N s t) (l := List.range x)
  rwa [List.length_range] at this
/-- A round goes through no port both ways. -/
theorem ring_alt (h : Sewn N s t) {p : Nat} (hp : p < N) (ho : onS N s t p = true) : ∀ d j, goN s t (j + d) p ≠ s (goN s t j p) := by
  intro d
  induction d using Nat.strongRecOn with
  | _ d ih =>
    intro j e
    match d, ih, e with
    | 0, _, e => exact h.sne _ (goN_lt h hp j) e.symm
    | 1, _, e => exact on_sewn h hp ho j e
    | d + 2, ih, e =>
      refine ih d (by omega) (j + 1) ?_
      have e1 := congrArg t e
      have e2 : t (goN s t (j + (d + 2)) p) = s (goN s t (j + 1 + d) p) := by
        rw [show j + (d + 2) = j + 1 + d + 1 by omega]
        exact h.tt _ (h.slt _ (goN_lt h hp _))
      rw [e2] at e1
      have e3 := congrArg s e1
      rw [h.ss _ (goN_lt h hp _)] at e3
      exact e3
/-- A round is seen, port by port: the marking stops where it began. -/
theorem mark_go (h : Sewn N s t) {x k : Nat} (hx : x < N) (hl : leadS N s t x = true) (hk : k < plen N s t x) :
    ¬ (seenS N s t x (goN s t k x) ∨ ∃ j, j < k ∧ (goN s t k x = goN s t j x ∨ goN s t k x = s (goN s t j x))) := by
  obtain ⟨ho, hle⟩ := (leadS_iff h hx).1 hl
  obtain ⟨h1, _, _, h4⟩ := plen_facts h hx
  rintro ((⟨_, hs⟩ | ⟨l, hl1, hl2, hr⟩) | ⟨j, hj, e | e⟩)
  · rw [ring_on h hx ho ⟨k, .inl rfl⟩] at hs; cases hs
  · have hlN : l < N := by omega
    have hol := ((leadS_iff h hlN).1 hl2).1
    have h5 := ring_symm h hx ho ⟨k, .inl rfl⟩
    have h6 := ring_trans h hlN hol hr h5
    have h7 := hle _ (ring_symm h hlN hol h6)
    omega
  · have e2 : goN s t j x = goN s t (k - j + j) x := by rw [show k - j + j = k by omega]; exact e.symm
    rw [goN_add] at e2
    have e3 := goN_inj h hx (goN_lt h hx _) j e2
    have h5 := (h4 (k - j - 1) (by omega)).2
    rw [show k - j - 1 + 1 = k - j by omega] at h5
    exact h5 e3.symm
  · refine ring_alt h hx ho (k - j) j ?_
    rw [show j + (k - j) = k by omega]
    exact e
theorem mark_stop (h : Sewn N s t) {x : Nat} (hx : x < N) (hl : leadS N s t x = true) :
    ∃ j, j < plen N s t x ∧ goN s t (plen N s t x) x = goN s t j x := ⟨0, (plen_facts h hx).1, on_back h hx ((leadS_iff h hx).1 hl).1⟩
theorem mark_ring (h : Sewn N s t) {x c : Nat} (hx : x < N) (hl : leadS N s t x = true) :
    (∃ j, j < plen N s t x ∧ (c = goN s t j x ∨ c = s (goN s t j x))) ↔ ringS s t x c := by
  rw [← path_ring h hx ((leadS_iff h hx).1 hl).1, pathTo_mem]
end

/-- The ports of so many rows at both ends of a list of N ports are sewn: those from m on to the last ones, backwards. -/
def sewT (n m N i : Nat) : Nat := if m ≤ i ∧ i < m + n then N - 1 - (i - m) else if N - n ≤ i ∧ i < N then m + (N - 1 - i) else i
theorem sewT_tt {n m N : Nat} (h : m + n + n ≤ N) (i : Nat) : sewT n m N (sewT n m N i) = i := by
  unfold sewT
  by_cases h1 : m ≤ i ∧ i < m + n
  · rw [if_pos h1, if_neg (by omega), if_pos (by omega)]; omega
  · rw [if_neg h1]
    by_cases h2 : N - n ≤ i ∧ i < N
    · rw [if_pos h2, if_pos (by omega)]; omega
    · rw [if_neg h2, if_neg h1, if_neg h2]
theorem sewT_lt {n m N i : Nat} (h : m + n + n ≤ N) (hi : i < N) : sewT n m N i < N := by
  unfold sewT
  split
  · omega
  · split <;> omega
theorem sewT_loose {n m N i : Nat} (h : m + n + n ≤ N) (hi : i < N) : sewT n m N i = i ↔ i < m ∨ (m + n ≤ i ∧ i < N - n) := by
  unfold sewT
  split
  · omega
  · split <;> omega
/-- The partner of a port of two pairings, those of the second one numbered on. -/
def twoS (p : Nat) (a b : Nat → Nat) (i : Nat) : Nat := if i < p then a i else p + b (i - p)
theorem twoS_sewn {n m p q : Nat} {a b : Nat → Nat} (ha : ∀ i, i < p → a i < p ∧ a i ≠ i ∧ a (a i) = i) (hb : ∀ i, i < q → b i < q ∧ b i ≠ i ∧ b (b i) = i) (h : m + n + n ≤ p + q) :
    Sewn (p + q) (twoS p a b) (sewT n m (p + q)) where
  slt i hi := by
    unfold twoS
    split
    · have := (ha i ‹_›).1; omega
    · have := (hb (i - p) (by omega)).1; omega
  ss i hi := by
    unfold twoS
    by_cases h1 : i < p
    · have h2 := ha i h1
      rw [if_pos h1, if_pos h2.1]
      exact h2.2.2
    · have h2 := hb (i - p) (by omega)
      rw [if_neg h1, if_neg (by omega), Nat.add_sub_cancel_left, h2.2.2]
      omega
  sne i hi := by
    unfold twoS
    by_cases h1 : i < p
    · rw [if_pos h1]; exact (ha i h1).2.1
    · have h2 := hb (i - p) (by omega)
      rw [if_neg h1]
      omega
  tlt _ hi := sewT_lt h hi
  tt _ _ := sewT_tt h _
theorem oneS_sewn {n m p : Nat} {a : Nat → Nat} (ha : ∀ i, i < p → a i < p ∧ a i ≠ i ∧ a (a i) = i) (h : m + n + n ≤ p) : Sewn p a (sewT n m p) where
  slt i hi := (ha i hi).1
  ss i hi := (ha i hi).2.2
  sne i hi := (ha i hi).2.1
  tlt _ hi := sewT_lt h hi
  tt _ _ := sewT_tt h _
/-- The number of a loose port of two pairings round both; r is how many of the second one's are loose. -/
def nameN (n m p r i : Nat) : Nat := if i < m then i else if p ≤ i then m + (i - p) else m + r + (i - m - n)
/-- The loose port with a number round both. -/
def aroundN (n m p r j : Nat) : Nat := if j < m then j else if j < m + r then p + (j - m) else j - r + n
theorem name_around {n m p r j : Nat} (hp : m + n ≤ p) (hj : j < p - n + r) : nameN n m p r (aroundN n m p r j) = j := by
  unfold nameN aroundN
  by_cases h1 : j < m
  · rw [if_pos h1, if_pos h1]
  · rw [if_neg h1]
    by_cases h2 : j < m + r
    · rw [if_pos h2, if_neg (by omega), if_pos (by omega)]; omega
    · rw [if_neg h2, if_neg (by omega), if_neg (by omega)]; omega
theorem around_name {n m p r i : Nat} (hi : i < m ∨ (m + n ≤ i ∧ i < p + r)) : aroundN n m p r (nameN n m p r i) = i := by
  unfold nameN aroundN
  by_cases h1 : i < m
  · rw [if_pos h1, if_pos h1]
  · rw [if_neg h1]
    by_cases h2 : p ≤ i
    · rw [if_pos h2, if_neg (by omega), if_pos (by omega)]; omega
    · rw [if_neg h2, if_neg (by omega), if_neg (by omega)]; omega
theorem name_lt {n m p r i : Nat} (hp : m + n ≤ p) (hi : i < m ∨ (m + n ≤ i ∧ i < p + r)) : nameN n m p r i < p - n + r := by
  unfold nameN
  split
  · omega
  · split <;> omega
theorem around_loose {n m p r j : Nat} (hp : m + n ≤ p) (hj : j < p - n + r) : aroundN n m p r j < m ∨ (m + n ≤ aroundN n m p r j ∧ aroundN n m p r j < p + r) := by
  unfold aroundN
  split
  · omega
  · split <;> omega
end Go.Proofs.Ytonhnmpgikmlpaa

/- Joined pairings of the program as lists of 23 integers: made, taken apart, read; rightEnd, lowerEnd, leftEnd, pair, readJoined, by their contracts. -/
namespace Go.Proofs.Ytonhnmpgikmlpaa
open Go.RowKit Go.Shelf

/-- The integers of a joined pairing: the pairing's, rows, columns, rounds. -/
def joinL (l : List Int) (n m r : Nat) : List Int := l ++ [(n : Int), (m : Int), (r : Int)]
theorem joinL_length {l : List Int} (h : l.length = 20) (n m r : Nat) : (joinL l n m r).length = 23 := by simp [joinL, h]
theorem joinL_pre {l : List Int} {n m r : Nat} {j : Nat} {v : Value} (h : (pairC l)[j]? = some v) : (pairC (joinL l n m r))[j]? = some v := by
  have hlt := (Array.getElem?_eq_some_iff.1 h).1
  rw [pairC_size] at hlt
  have e : l[j]? = some l[j] := List.getElem?_eq_getElem hlt
  rw [pairC_at e] at h
  rw [← h]
  refine pairC_at ?_
  unfold joinL
  rw [List.getElem?_append_left hlt, e]
theorem joinL_rows {l : List Int} (h : l.length = 20) (n m r : Nat) : (pairC (joinL l n m r))[20]? = some (.int .i64 (n : Int)) := pairC_at (by unfold joinL; rw [List.getElem?_append_right (by omega), h]; rfl)
theorem joinL_columns {l : List Int} (h : l.length = 20) (n m r : Nat) : (pairC (joinL l n m r))[21]? = some (.int .i64 (m : Int)) := pairC_at (by unfold joinL; rw [List.getElem?_append_right (by omega), h]; rfl)
theorem joinL_rounds {l : List Int} (h : l.length = 20) (n m r : Nat) : (pairC (joinL l n m r))[22]? = some (.int .i64 (r : Int)) := pairC_at (by unfold joinL; rw [List.getElem?_append_right (by omega), h]; rfl)
theorem joinL_set {l : List Int} {n m r k : Nat} (x : Int) (h : k < l.length) : (joinL l n m r).set k x = joinL (l.set k x) n m r := by
  unfold joinL
  rw [List.set_append_left _ _ h]
theorem joinL_rset {l : List Int} (h : l.length = 20) (n m r r' : Nat) : (joinL l n m r).set 22 (r' : Int) = joinL l n m r' := by
  unfold joinL
  rw [List.set_append_right _ _ (by omega), h]
  rfl
/-- The cells of no joined pairing. -/
abbrev zeroJ : Array Value := #[.int .i64 0, .int .i64 0, .int .i64 0, .int .i64 0, .int .i64 0, .int .i64 0, .int .i64 0, .int .i64 0, .int .i64 0, .int .i64 0, .int .i64 0, .int .i64 0, .int .i64 0, .int .i64 0, .int .i64 0, .int .i64 0, .int .i64 0, .int .i64 0, .int .i64 0, .int .i64 0, .int .i64 0, .int .i64 0, .int .i64 0]
theorem zeroJ_eq : zeroJ = pairC (List.replicate 23 0) := rfl
theorem zeroJ_one : zeroJ.all (·.oneCell') = true := pairC_one (List.replicate 23 0)
theorem Try.size_joined : (Try.prog.info? 101).map (·.size) = some 23 := by kernel_rfl
theorem size_joinL {l : List Int} (h : l.length = 20) (n m r : Nat) : (Try.prog.info? 101).map (·.size) = some (pairC (joinL l n m r)).size := by rw [pairC_size, joinL_length h]; exact Try.size_joined
theorem zero_joinL {l : List Int} (h : l.length = 20) (n m r : Nat) : zeroJ.size = (pairC (joinL l n m r)).size := by rw [pairC_size, joinL_length h]; rfl
theorem lits20 {l : List Int} (h : l.length = 20) : ∃ a0 a1 a2 a3 a4 a5 a6 a7 a8 a9 b0 b1 b2 b3 b4 b5 b6 b7 b8 b9 : Int, l = [a0, a1, a2, a3, a4, a5, a6, a7, a8, a9, b0, b1, b2, b3, b4, b5, b6, b7, b8, b9] := by
  match l, h with
  | [a0, a1, a2, a3, a4, a5, a6, a7, a8, a9, b0, b1, b2, b3, b4, b5, b6, b7, b8, b9], _ => exact ⟨_, _, _, _, _, _, _, _, _, _, _, _, _, _, _, _, _, _, _, _, rfl⟩
theorem run_build_joined3 {l : List Int} (h : l.length = 20) (n m : Nat) (w : World) : (Instr.build 101 #[(0, .agg (pairC l)), (1, .int .i64 (n : Int)), (2, .int .i64 (m : Int))]).run Try.prog w = .ok (.agg (pairC (joinL l n m 0))) w := by
  obtain ⟨a0, a1, a2, a3, a4, a5, a6, a7, a8, a9, b0, b1, b2, b3, b4, b5, b6, b7, b8, b9, rfl⟩ := lits20 h
  kernel_rfl
theorem run_build_joined4 {l : List Int} (h : l.length = 20) (n m r : Nat) (w : World) : (Instr.build 101 #[(0, .agg (pairC l)), (1, .int .i64 (n : Int)), (2, .int .i64 (m : Int)), (3, .int .i64 (r : Int))]).run Try.prog w = .ok (.agg (pairC (joinL l n m r))) w := by
  obtain ⟨a0, a1, a2, a3, a4, a5, a6, a7, a8, a9, b0, b1, b2, b3, b4, b5, b6, b7, b8, b9, rfl⟩ := lits20 h
  kernel_rfl
theorem run_field_joined {l : List Int} (h : l.length = 20) (n m r : Nat) (w : World) : (Instr.field 101 (.agg (pairC (joinL l n m r))) 0).run Try.prog w = .ok (.agg (pairC l)) w := by
  obtain ⟨a0, a1, a2, a3, a4, a5, a6, a7, a8, a9, b0, b1, b2, b3, b4, b5, b6, b7, b8, b9, rfl⟩ := lits20 h
  kernel_rfl

section
variable {ops : Array Oper} {rest : List Oper} {o : Oper} {a : Act} {w w' : World} {Q : Exit → Act → World → Prop}
theorem wpList_exec {P : Program} (hgd : o.guard = none) {v : Value} (hr : (execOp a.eval o).run P w = .ok (.value v) w') (h : wpList P ops Q rest (a.put o.dst v) w') : wpList P ops Q (o :: rest) a w := by
  refine wpList_plain hgd fun K hK => ?_
  unfold Oper.wp
  rw [hr]
  exact hK _ _ h
theorem exec_build3 (x y z : Operand) (ho : o.op = Op.build 101 #[(0, x), (1, y), (2, z)]) (l : List Int) (n m : Nat) (hl : l.length = 20) (hx : a.eval x = .agg (pairC l)) (hy : a.eval y = .int .i64 (n : Int)) (hz : a.eval z = .int .i64 (m : Int)) :
    (execOp a.eval o).run Try.prog w = .ok (.value (.agg (pairC (joinL l n m 0)))) w := by
  unfold execOp
  simp only [ho]
  have : (#[(0, x), (1, y), (2, z)] : Array (Nat × Operand)).map (fun p => (p.1, a.eval p.2)) = #[(0, .agg (pairC l)), (1, .int .i64 (n : Int)), (2, .int .i64 (m : Int))] := by simp [hx, hy, hz]
  rw [this]
  simp only [Sem.run_bind, run_build_joined3 hl n m w, Result.andThen_ok, Sem.run_pure]
theorem exec_build4 (x y z u : Operand) (ho : o.op = Op.build 101 #[(0, x), (1, y), (2, z), (3, u)]) (l : List Int) (n m r : Nat) (hl : l.length = 20) (hx : a.eval x = .agg (pairC l)) (hy : a.eval y = .int .i64 (n : Int)) (hz : a.eval z = .int .i64 (m : Int)) (hu : a.eval u = .int .i64 (r : Int)) :
    (execOp a.eval o).run Try.prog w = .ok (.value (.agg (pairC (joinL l n m r)))) w := by
  unfold execOp
  simp only [ho]
  have : (#[(0, x), (1, y), (2, z), (3, u)] : Array (Nat × Operand)).map (fun p => (p.1, a.eval p.2)) = #[(0, .agg (pairC l)), (1, .int .i64 (n : Int)), (2, .int .i64 (m : Int)), (3, .int .i64 (r : Int))] := by simp [hx, hy, hz, hu]
  rw [this]
  simp only [Sem.run_bind, run_build_joined4 hl n m r w, Result.andThen_ok, Sem.run_pure]
theorem exec_field0 (x : Operand) (ho : o.op = Op.field 101 x 0) (l : List Int) (n m r : Nat) (hl : l.length = 20) (hx : a.eval x = .agg (pairC (joinL l n m r))) :
    (execOp a.eval o).run Try.prog w = .ok (.value (.agg (pairC l))) w := by
  unfold execOp
  simp only [ho, hx]
  simp only [Sem.run_bind, run_field_joined hl n m r w, Result.andThen_ok, Sem.run_pure]
theorem exec_load_head {P : Program} (ty : TypeId) (x : Operand) (ho : o.op = .load ty x)
    (g : Nat) (hx : a.eval x = .pointer (some ⟨g, 0, none⟩)) (t : TypeId) (all : Array Value) (fr : Nat × Nat) (cs : Array Value) (d : TypeDesc) (hg : w.heap[g]? = some (.cells all t fr)) (hpre : ∀ (j : Nat) (v : Value), cs[j]? = some v → all[j]? = some v)
    (hu : P.underlying ty = some d) (hd : d.isRow = true) (hi : (P.info? ty).map (·.size) = some cs.size) : (execOp a.eval o).run P w = .ok (.value (.agg cs)) w := by
  have hr : w.rangeAt g 0 cs.toList := fun j v hv => by
    rw [cell_of_row _ _ _ _ _ _ hg, Nat.zero_add]
    exact hpre j v (by simpa using hv)
  have := run_loadVar_mid (P := P) w g 0 ty cs.toList d hr hu hd (by simpa using hi)
  unfold execOp
  simp only [ho, hx, Instr.loadAt, Instr.sureAddr, Sem.run_bind, Sem.run_pure, Result.andThen_ok, this]
end

theorem size_pairL {l : List Int} (h : l.length = 20) : (Try.prog.info? 82).map (·.size) = some (pairC l).size := by rw [pairC_size, h]; exact Try.size_pair

set_option maxRecDepth 100000 in
set_option maxHeartbeats 1000000 in
theorem rightEnd_any (l : List Int) (n m r k : Nat) (w : World) (hl : l.length = 20) (hm : m ≤ 5) (hk : k ≤ 5) :
    Calls Try.prog 146 #[.agg (pairC (joinL l n m r)), .int .i64 (k : Int)] w fun e w' => e = .returned (.int .i64 ((m + k : Nat) : Int)) ∧ Below w.heap.size w w' := by
  have H1 := joinL_columns hl n m r
  generalize pairC (joinL l n m r) = cs at *
  have H0 := hid (heap_new0 w (.cells cs 101))
  have HB := hid ((Below.refl w.heap.size w).alloc (Nat.le_refl _) (.cells cs 101))
  have hc : (w.alloc (.cells cs 101)).cell? ⟨w.heap.size, 21, none⟩ = some (.int .i64 (m : Int)) := by rw [cell_of_row _ _ _ _ _ _ H0.out]; exact H1
  have hmi : (m : Int) ≤ 5 := by omega
  have hki : (k : Int) ≤ 5 := by omega
  clear H1 hl
  go_enter Try.func146, Try.ntmps146
  go_wp2_with fail
  go_ret
  exact ⟨rfl, HB.out⟩

set_option maxRecDepth 100000 in
set_option maxHeartbeats 1000000 in
theorem lowerEnd_any (l : List Int) (n m r k : Nat) (w : World) (hl : l.length = 20) (hn : n ≤ 5) (hm : m ≤ 5) (hk : k < m) :
    Calls Try.prog 153 #[.agg (pairC (joinL l n m r)), .int .i64 (k : Int)] w fun e w' => e = .returned (.int .i64 ((n + 2 * m - 1 - k : Nat) : Int)) ∧ Below w.heap.size w w' := by
  have H1 := joinL_columns hl n m r
  have H2 := joinL_rows hl n m r
  generalize pairC (joinL l n m r) = cs at *
  have H0 := hid (heap_new0 w (.cells cs 101))
  have HB := hid ((Below.refl w.heap.size w).alloc (Nat.le_refl _) (.cells cs 101))
  have hc : (w.alloc (.cells cs 101)).cell? ⟨w.heap.size, 21, none⟩ = some (.int .i64 (m : Int)) := by rw [cell_of_row _ _ _ _ _ _ H0.out]; exact H1
  have hc2 : (w.alloc (.cells cs 101)).cell? ⟨w.heap.size, 20, none⟩ = some (.int .i64 (n : Int)) := by rw [cell_of_row _ _ _ _ _ _ H0.out]; exact H2
  have hmi : (m : Int) ≤ 5 := by omega
  have hni : (n : Int) ≤ 5 := by omega
  have hki : (k : Int) < (m : Int) := by omega
  have hm1 : 1 ≤ (m : Int) := by omega
  have HE := hid (show (n : Int) + 2 * (m : Int) - 1 - (k : Int) = ((n + 2 * m - 1 - k : Nat) : Int) by omega)
  clear H1 H2 hl
  go_enter Try.func153, Try.ntmps153
  go_wp2_with fail
  go_ret
  exact ⟨by rw [← HE.out]; rfl, HB.out⟩

set_option maxRecDepth 100000 in
set_option maxHeartbeats 1000000 in
theorem leftEnd_any (l : List Int) (n m r k : Nat) (w : World) (hl : l.length = 20) (hn : n ≤ 5) (hm : m ≤ 5) (hk : k < n) :
    Calls Try.prog 147 #[.agg (pairC (joinL l n m r)), .int .i64 (k : Int)] w fun e w' => e = .returned (.int .i64 ((2 * n + 2 * m - 1 - k : Nat) : Int)) ∧ Below w.heap.size w w' := by
  have H1 := joinL_columns hl n m r
  have H2 := joinL_rows hl n m r
  generalize pairC (joinL l n m r) = cs at *
  have H0 := hid (heap_new0 w (.cells cs 101))
  have HB := hid ((Below.refl w.heap.size w).alloc (Nat.le_refl _) (.cells cs 101))
  have hc : (w.alloc (.cells cs 101)).cell? ⟨w.heap.size, 21, none⟩ = some (.int .i64 (m : Int)) := by rw [cell_of_row _ _ _ _ _ _ H0.out]; exact H1
  have hc2 : (w.alloc (.cells cs 101)).cell? ⟨w.heap.size, 20, none⟩ = some (.int .i64 (n : Int)) := by rw [cell_of_row _ _ _ _ _ _ H0.out]; exact H2
  have hmi : (m : Int) ≤ 5 := by omega
  have hni : (n : Int) ≤ 5 := by omega
  have hki : (k : Int) < (n : Int) := by omega
  have hm1 : 1 ≤ (n : Int) := by omega
  have HE := hid (show 2 * (n : Int) + 2 * (m : Int) - 1 - (k : Int) = ((2 * n + 2 * m - 1 - k : Nat) : Int) by omega)
  clear H1 H2 hl
  go_enter Try.func147, Try.ntmps147
  go_wp2_with fail
  go_ret
  exact ⟨by rw [← HE.out]; rfl, HB.out⟩

/-- Block b alone has turned: two of its cells. -/
def PairedAt (w w' : World) (b : Nat) (cs : Array Value) (t : TypeId) (i j : Nat) : Prop :=
  w'.heap[b]? = some (.cells ((cs.setIfInBounds i (.int .i64 (j : Int))).setIfInBounds j (.int .i64 (i : Int))) t (0, 0)) ∧ But b w w'
theorem setIf_comm {cs : Array Value} {i j : Nat} (h : i ≠ j) (u v : Value) : (cs.setIfInBounds i u).setIfInBounds j v = (cs.setIfInBounds j v).setIfInBounds i u := by
  refine Array.ext_getElem? fun k => ?_
  simp only [Array.getElem?_setIfInBounds, Array.size_setIfInBounds]
  by_cases h1 : j = k
  · subst h1
    rw [if_pos rfl, if_pos rfl, if_neg h]
  · rw [if_neg h1, if_neg h1]

set_option maxRecDepth 100000 in
set_option maxHeartbeats 4000000 in
theorem pair_any (b i j : Nat) (cs : Array Value) (t : TypeId) (w : World) (hb : w.heap[b]? = some (.cells cs t (0, 0))) (hs : 20 ≤ cs.size) (hi : i < 20) (hj : j < 20) (hij : i ≠ j) :
    Calls Try.prog 150 #[.pointer (some ⟨b, 0, none⟩), .int .i64 (i : Int), .int .i64 (j : Int)] w fun e w' => e = .returned (.tuple #[]) ∧ PairedAt w w' b cs t i j := by
  have HB := hid hb
  obtain ⟨u, hu⟩ : ∃ u, cs[i]? = some u := ⟨_, Array.getElem?_eq_getElem (by omega)⟩
  obtain ⟨u', hu'⟩ : ∃ u, cs[j]? = some u := ⟨_, Array.getElem?_eq_getElem (by omega)⟩
  have hc : w.cell? ⟨b, i, none⟩ = some u := by rw [cell_of_row _ _ _ _ _ _ hb]; exact hu
  have hc' : w.cell? ⟨b, j, none⟩ = some u' := by rw [cell_of_row _ _ _ _ _ _ hb]; exact hu'
  have hf : w.frozen? ⟨b, i, none⟩ = false := frozen_of_row _ _ _ _ _ hb
  have hf' : w.frozen? ⟨b, j, none⟩ = false := frozen_of_row _ _ _ _ _ hb
  have HIJ := hid hij
  have hii : (i : Int) < 20 := by omega
  have hji : (j : Int) < 20 := by omega
  clear hb hu hu'
  go_enter Try.func150, Try.ntmps150
  go_wp2_with fail
  go_region
  go_wp2_with fail
  go_end0
  exact ⟨rfl, heap_setCell_same _ _ _ _ _ _ (heap_setCell_same _ _ _ _ _ _ HB.out), ((But.setCell _ _ _).trans (But.setCell _ _ _)).trans (But.of_below (Below.refl _ _).drew)⟩
end Go.Proofs.Ytonhnmpgikmlpaa

/- Pairings whose ports get other numbers, in plain words; ports made partners pair by pair. No function of the program is named. -/
namespace Go.Proofs.Ytonhnmpgikmlpaa

/-- Partners s for N ports. -/
structure Mates (N : Nat) (s : Nat → Nat) : Prop where
  lt : ∀ q, q < N → s q < N
  ne : ∀ q, q < N → s q ≠ q
  back : ∀ q, q < N → s (s q) = q
theorem IsPair.mates_of {l : List Int} (h : IsPair l) : Mates l.length (mateN l) := ⟨fun _ hq => (h.mates hq).1, fun _ hq => (h.mates hq).2.1, fun _ hq => (h.mates hq).2.2.2⟩
/-- The list that tells partners. -/
def listS (N : Nat) (s : Nat → Nat) : List Int := (List.range N).map fun q => ((s q : Nat) : Int)
theorem listS_length (N : Nat) (s : Nat → Nat) : (listS N s).length = N := by simp [listS]
theorem listS_at {N q : Nat} {s : Nat → Nat} (h : q < N) : (listS N s)[q]? = some ((s q : Nat) : Int) := by simp [listS, h]
theorem listS_pair {N : Nat} {s : Nat → Nat} (h : Mates N s) (h4 : 4 ≤ N) (h20 : N ≤ 20) : IsPair (listS N s) := by
  refine ⟨by rw [listS_length]; exact h4, by rw [listS_length]; exact h20, fun p hp => ?_⟩
  rw [listS_length] at hp ⊢
  refine ⟨s p, h.lt p hp, h.ne p hp, listS_at hp, ?_⟩
  rw [listS_at (h.lt p hp), h.back p hp]
theorem listS_mate {N q : Nat} {s : Nat → Nat} (h : q < N) : mateN (listS N s) q = s q := by
  unfold mateN
  rw [List.getD_eq_getElem?_getD, listS_at h]
  rfl
theorem pair_list {l : List Int} (h : IsPair l) : listS l.length (mateN l) = l := by
  refine List.ext_getElem? fun k => ?_
  by_cases hk : k < l.length
  · rw [listS_at hk, (h.mates hk).2.2.1]
  · rw [List.getElem?_eq_none (by rw [listS_length]; omega), List.getElem?_eq_none (by omega)]
theorem listS_all {N : Nat} {s : Nat → Nat} {L : List Int} (hL : L.length = N) (h : ∀ q, q < N → L[q]? = some ((s q : Nat) : Int)) : L = listS N s := by
  refine List.ext_getElem? fun k => ?_
  by_cases hk : k < N
  · rw [listS_at hk, h k hk]
  · rw [List.getElem?_eq_none (by omega), List.getElem?_eq_none (by rw [listS_length]; omega)]
theorem listS_pad {N : Nat} {s : Nat → Nat} {L : List Int} (h20 : N ≤ 20) (hL : L.length = 20) (h : ∀ q, q < N → L[q]? = some ((s q : Nat) : Int)) (hb : ∀ j, N ≤ j → j < 20 → L[j]? = some (j : Int)) : L = padTo (listS N s) := by
  refine List.ext_getElem? fun k => ?_
  by_cases hk : k < N
  · rw [h k hk, padTo_at (listS_at hk)]
  · by_cases hk2 : k < 20
    · rw [hb k (by omega) hk2, padTo_behind (by rw [listS_length]; omega) hk2]
    · rw [List.getElem?_eq_none (by omega), List.getElem?_eq_none (by rw [padTo_length (by rw [listS_length]; exact h20)]; omega)]
/-- Other numbers: f, and g back. -/
structure Names (N : Nat) (f g : Nat → Nat) : Prop where
  flt : ∀ q, q < N → f q < N
  glt : ∀ q, q < N → g q < N
  fg : ∀ q, q < N → f (g q) = q
  gf : ∀ q, q < N → g (f q) = q
/-- Partners by other numbers. -/
def renS (f g s : Nat → Nat) (j : Nat) : Nat := f (s (g j))
theorem renS_mates {N : Nat} {f g s : Nat → Nat} (h : Names N f g) (hs : Mates N s) : Mates N (renS f g s) where
  lt q hq := h.flt _ (hs.lt _ (h.glt _ hq))
  ne q hq e := by
    unfold renS at e
    have e2 := congrArg g e
    rw [h.gf _ (hs.lt _ (h.glt _ hq))] at e2
    exact hs.ne _ (h.glt _ hq) e2
  back q hq := by
    unfold renS
    rw [h.gf _ (hs.lt _ (h.glt _ hq)), hs.back _ (h.glt _ hq), h.fg _ hq]
theorem renS_at {N : Nat} {f g s : Nat → Nat} (h : Names N f g) {q : Nat} (hq : q < N) : renS f g s (f q) = f (s q) := by
  unfold renS
  rw [h.gf _ hq]

/-- So far the ports in V, by their other numbers, have their partners, and these them. -/
def PairsUp (L : List Int) (N : Nat) (V : Nat → Prop) (f s : Nat → Nat) : Prop :=
  L.length = 20 ∧ (∀ q, q < N → V q → L[f q]? = some ((f (s q) : Nat) : Int) ∧ L[f (s q)]? = some ((f q : Nat) : Int)) ∧ ∀ j, N ≤ j → j < 20 → L[j]? = some (j : Int)
theorem pairs_none {N : Nat} {f s : Nat → Nat} {V : Nat → Prop} (hV : ∀ q, ¬ V q) : PairsUp idL N V f s := ⟨idL_length, fun q _ h => absurd h (hV q), fun _ _ hj => idL_at hj⟩
theorem pairs_step {L : List Int} {N q0 : Nat} {V V' : Nat → Prop} {f g s : Nat → Nat} (hN : N ≤ 20) (hn : Names N f g) (hs : Mates N s) (h : PairsUp L N V f s) (hq0 : q0 < N) (hV : ∀ q, V' q → V q ∨ q = q0) :
    PairsUp ((L.set (f q0) ((f (s q0) : Nat) : Int)).set (f (s q0)) ((f q0 : Nat) : Int)) N V' f s := by
  obtain ⟨h1, h2, h3⟩ := h
  have hi : ∀ a b, a < N → b < N → f a = f b → a = b := fun a b ha hb e => by rw [← hn.gf a ha, e, hn.gf b hb]
  have hf0 := hn.flt _ hq0
  have hs0 := hs.lt _ hq0
  have hfs0 := hn.flt _ hs0
  have hne : f (s q0) ≠ f q0 := fun e => hs.ne _ hq0 (hi _ _ hs0 hq0 e)
  have at0 : ((L.set (f q0) ((f (s q0) : Nat) : Int)).set (f (s q0)) ((f q0 : Nat) : Int))[f q0]? = some ((f (s q0) : Nat) : Int) := by
    rw [List.getElem?_set_ne hne, List.getElem?_set_self (by omega)]
  have at1 : ((L.set (f q0) ((f (s q0) : Nat) : Int)).set (f (s q0)) ((f q0 : Nat) : Int))[f (s q0)]? = some ((f q0 : Nat) : Int) := by
    rw [List.getElem?_set_self (by rw [List.length_set]; omega)]
  refine ⟨by simp [h1], fun q hq hv => ?_, fun j hj hj2 => ?_⟩
  · by_cases e : q = q0
    · subst e
      exact ⟨at0, at1⟩
    · rcases hV q hv with hv | hv
      · obtain ⟨k1, k2⟩ := h2 q hq hv
        by_cases e1 : q = s q0
        · subst e1
          rw [hs.back _ hq0]
          exact ⟨at1, at0⟩
        · have n1 : f q ≠ f q0 := fun e2 => e (hi _ _ hq hq0 e2)
          have n2 : f q ≠ f (s q0) := fun e2 => e1 (hi _ _ hq hs0 e2)
          have n3 : s q ≠ q0 := fun e2 => e1 (by rw [← e2, hs.back _ hq])
          have n4 : f (s q) ≠ f q0 := fun e2 => n3 (hi _ _ (hs.lt _ hq) hq0 e2)
          have n5 : f (s q) ≠ f (s q0) := fun e2 => e (by
            have := hi _ _ (hs.lt _ hq) hs0 e2
            rw [← hs.back _ hq, this, hs.back _ hq0])
          rw [List.getElem?_set_ne n2.symm, List.getElem?_set_ne n1.symm, List.getElem?_set_ne n5.symm, List.getElem?_set_ne n4.symm]
          exact ⟨k1, k2⟩
      · exact absurd hv e
  · rw [List.getElem?_set_ne (by omega), List.getElem?_set_ne (by omega)]
    exact h3 j hj hj2
theorem pairs_done {L : List Int} {N : Nat} {V : Nat → Prop} {f g s : Nat → Nat} (hN : N ≤ 20) (hn : Names N f g) (hs : Mates N s) (h : PairsUp L N V f s) (hV : ∀ q, q < N → V q ∨ V (s q)) : L = padTo (listS N (renS f g s)) := by
  refine listS_pad hN h.1 (fun q hq => ?_) h.2.2
  have hg := hn.glt _ hq
  unfold renS
  rcases hV (g q) hg with hv | hv
  · have := (h.2.1 _ hg hv).1
    rwa [hn.fg _ hq] at this
  · have := (h.2.1 _ (hs.lt _ hg) hv).2
    rw [hs.back _ hg, hn.fg _ hq] at this
    exact this
theorem names_id (N : Nat) : Names N (fun q => q) (fun q => q) := ⟨fun _ h => h, fun _ h => h, fun _ _ => rfl, fun _ _ => rfl⟩
theorem paired_joinL {L : List Int} {n m r i j : Nat} (hL : L.length = 20) (hi : i < 20) (hj : j < 20) :
    ((pairC (joinL L n m r)).setIfInBounds i (.int .i64 (j : Int))).setIfInBounds j (.int .i64 (i : Int)) = pairC (joinL ((L.set i (j : Int)).set j (i : Int)) n m r) := by
  rw [pairC_set, pairC_set, joinL_set _ (by omega), joinL_set _ (by rw [List.length_set]; omega)]

/-- A port as it is seen from behind: of p ports, m of them above. -/
def flipN (p m i : Nat) : Nat := (p + m - 1 - i) % p
theorem flipN_names {p m : Nat} (hm : m ≤ p) (h1 : 1 ≤ m) : Names p (flipN p m) (flipN p m) := by
  have hlt : ∀ q, q < p → flipN p m q < p := fun q hq => Nat.mod_lt _ (by omega)
  have key : ∀ q, q < p → flipN p m (flipN p m q) = q := fun q hq => by
    unfold flipN
    by_cases h : p + m - 1 - q < p
    · rw [Nat.mod_eq_of_lt h]
      by_cases h2 : q < p
      · rw [show p + m - 1 - (p + m - 1 - q) = q by omega, Nat.mod_eq_of_lt hq]
      · omega
    · have e : (p + m - 1 - q) % p = m - 1 - q := by
        rw [show p + m - 1 - q = (m - 1 - q) + p by omega, Nat.add_mod_right, Nat.mod_eq_of_lt (by omega)]
      rw [e, show p + m - 1 - (m - 1 - q) = q + p by omega, Nat.add_mod_right, Nat.mod_eq_of_lt hq]
  exact ⟨hlt, hlt, key, key⟩
/-- The pairing as it is seen from behind. -/
def flipL (l : List Int) (m : Nat) : List Int := listS l.length (renS (flipN l.length m) (flipN l.length m) (mateN l))
theorem flipL_length (l : List Int) (m : Nat) : (flipL l m).length = l.length := listS_length _ _
theorem flipL_pair {l : List Int} {m : Nat} (h : IsPair l) (hm : m ≤ l.length) (h1 : 1 ≤ m) : IsPair (flipL l m) := listS_pair (renS_mates (flipN_names hm h1) h.mates_of) h.1 h.2.1
theorem turn_names {p k : Nat} : Names p (fun i => (i + k) % p) (fun j => (j + (p - k % p)) % p) :=
  ⟨fun _ hq => Nat.mod_lt _ (by omega), fun _ hq => Nat.mod_lt _ (by omega), fun _ hq => turn_inv hq, fun _ hq => turn_back hq⟩
theorem turnL_ren (l : List Int) (k : Nat) : turnL l k = listS l.length (renS (fun i => (i + k) % l.length) (fun j => (j + (l.length - k % l.length)) % l.length) (mateN l)) := by
  unfold turnL listS
  rfl
/-- The ends of rows and columns are partners. -/
def unitN (n m q : Nat) : Nat := if q < m then n + 2 * m - 1 - q else if q < m + n then 2 * n + 2 * m - 1 - (q - m) else if q < 2 * m + n then n + 2 * m - 1 - q else m + (2 * n + 2 * m - 1 - q)
theorem unitN_mates {n m : Nat} : Mates (2 * (n + m)) (unitN n m) where
  lt q hq := by unfold unitN; split <;> (try split) <;> (try split) <;> omega
  ne q hq := by unfold unitN; split <;> (try split) <;> (try split) <;> omega
  back q hq := by
    unfold unitN
    by_cases h1 : q < m
    · rw [if_pos h1, if_neg (by omega), if_neg (by omega), if_pos (by omega)]; omega
    · rw [if_neg h1]
      by_cases h2 : q < m + n
      · rw [if_pos h2, if_neg (by omega), if_neg (by omega), if_neg (by omega)]; omega
      · rw [if_neg h2]
        by_cases h3 : q < 2 * m + n
        · rw [if_pos h3, if_pos (by omega)]; omega
        · rw [if_neg h3, if_neg (by omega), if_pos (by omega)]; omega
end Go.Proofs.Ytonhnmpgikmlpaa

/- Pairings of rows and columns read, turned, flipped: readJoined, flipped, JoinFlip, JoinTurn of the program, by their contracts. -/
namespace Go.Proofs.Ytonhnmpgikmlpaa
open Go.RowKit Go.Shelf

/-- The list is a pairing of so many rows and columns. -/
def PairOf (n m : Int) (l : List Int) : Prop := (1 ≤ n ∧ n ≤ 5) ∧ (1 ≤ m ∧ m ≤ 5) ∧ IsPair l ∧ (l.length : Int) = 2 * (n + m)
/-- What readJoined comes to. -/
def JReadEnd (n m : Int) (l : List Int) (e : Ending) : Prop := (∃ a b : Nat, n = (a : Int) ∧ m = (b : Int) ∧ PairOf n m l ∧ e = .returned (.tuple #[.agg (pairC (joinL (padTo l) a b 0)), .bool true])) ∨ (¬ PairOf n m l ∧ e = .returned (.tuple #[.agg zeroJ, .bool false]))

set_option maxRecDepth 100000 in
set_option maxHeartbeats 4000000 in
theorem readJoined_any (n m : Int) (A : Option Addr) (c : Nat) (l : List Int) (w : World) (h : Ints w w.heap.size A l) (hl : l.length ≤ 1048576) :
    Calls Try.prog 92 #[.int .i64 n, .int .i64 m, .slice A l.length c] w fun e w' => JReadEnd n m l e ∧ Below w.heap.size w w' := by
  have HR := hid (fun W (hb : Below w.heap.size w W) (hs : w.heap.size ≤ W.heap.size) => readPairing_any A c l W ((h.below hb (Nat.le_refl _)).more hs) hl)
  have HS := hid (fun x W => sideIn_any x W)
  obtain ⟨len, hlen⟩ : ∃ len, l.length = len := ⟨_, rfl⟩
  have HLEN := hid hlen
  rw [hlen] at HR ⊢
  clear h hlen
  have H0 := hid (heap_new0 w (.cells zeroJ 101))
  have HB := hid ((Below.refl w.heap.size w).alloc (Nat.le_refl _) (.cells zeroJ 101))
  go_enter Try.func92, Try.ntmps92
  go_wp2_with fail
  generalize World.alloc w _ = Y at H0 HB ⊢
  refine (HR.out _ HB.out HB.out.size).mono ?_
  rintro e w1 ⟨hend, hb1⟩
  have I0 := hid ((hb1.block _ (lt_of_block H0.out)).trans H0.out)
  have IB := hid (HB.out.trans (hb1.mono HB.out.size))
  have IL := hid (show w.heap.size < w1.heap.size from lt_of_block I0.out)
  clear hb1
  have N0 := hid (heap_new0 w1 (.cells zeroP 82))
  -- the end that fails, from whatever world
  have fin : ∀ (W : World) (tmps : Array Value), W.heap[w.heap.size]? = some (.cells zeroJ 101 (0, 0)) → Below w.heap.size w W → ¬ PairOf n m l → tmps.getD 6 undef = .pointer (some ⟨w.heap.size, 0, none⟩) → tmps.getD 7 undef = .bool false →
      bodyPost Try.prog Try.f92 (fun e w' => JReadEnd n m l e ∧ Below w.heap.size w w') .ret { tmps := tmps, defers := [] } (W.setRow w.heap.size zeroJ) := fun W tmps h0 hb hno h6 h7 => by
    refine bodyPost_ret (results_row_tmp Try.results92 _ w.heap.size 101 _ (0, 0) _ h6 (setRow_heap _ _ _ _ _ _ h0) Try.underlying101 rfl Try.size_joined) rfl ⟨.inr ⟨hno, by rw [h7]⟩, ?_⟩
    exact below_setRow' hb (Nat.le_refl _) _
  rcases hend with ⟨hp, rfl⟩ | ⟨hp, rfl⟩
  · have HP := hid hp
    have h20 := hp.2.1
    have HSP := hid (size_pairL (padTo_length h20))
    have HZP := hid (show zeroP.size = (pairC (padTo l)).size by rw [pairC_size, padTo_length h20]; rfl)
    have HPO := hid (fun W => pports_any (padTo l) W (padTo_length h20))
    rw [hp.ports, HLEN.out] at HPO
    have HL20 := hid h20
    rw [HLEN.out] at h20
    have K1 := hid (setRow_heap _ _ _ (pairC (padTo l)) _ _ N0.out)
    have K0 := hid (show ((w1.alloc (.cells zeroP 82)).setRow w1.heap.size (pairC (padTo l))).heap[w.heap.size]? = some (.cells zeroJ 101 (0, 0)) by
      rw [setRow_other _ _ _ _ (by have := IL.out; omega), Below.heap_alloc _ _ _ IL.out]; exact I0.out)
    have KB := hid (below_setRow' (IB.out.alloc IB.out.size (.cells zeroP 82)) IB.out.size (pairC (padTo l)))
    generalize hX : (w1.alloc (.cells zeroP 82)).setRow w1.heap.size (pairC (padTo l)) = X at K0 K1 KB
    have HX := hid hX
    clear hX hp
    have hlen20 : (len : Int) ≤ 20 := by omega
    by_cases hn : 1 ≤ n ∧ n ≤ 5
    · obtain ⟨a, rfl⟩ : ∃ a : Nat, n = (a : Int) := ⟨n.toNat, by omega⟩
      have s1 := hid (show ∀ W, Calls Try.prog 97 #[.int .i64 (a : Int)] W fun e w' => e = .returned (.bool true) ∧ W = w' from fun W => by have := HS.out (a : Int) W; rwa [decide_eq_true hn] at this)
      by_cases hm : 1 ≤ m ∧ m ≤ 5
      · obtain ⟨b, rfl⟩ : ∃ b : Nat, m = (b : Int) := ⟨m.toNat, by omega⟩
        have s2 := hid (show ∀ W, Calls Try.prog 97 #[.int .i64 (b : Int)] W fun e w' => e = .returned (.bool true) ∧ W = w' from fun W => by have := HS.out (b : Int) W; rwa [decide_eq_true hm] at this)
        have HNM := hid (And.intro hn hm)
        have ha5 : (a : Int) ≤ 5 := hn.2
        have hb5 : (b : Int) ≤ 5 := hm.2
        have ha1 : 1 ≤ (a : Int) := hn.1
        have hb1 : 1 ≤ (b : Int) := hm.1
        clear hn hm
        go_wp2_with (refine wpList_store_row rfl 82 _ _ rfl w1.heap.size (pairC (padTo l)) rfl rfl 82 zeroP N0.out HSP.out HZP.out (pairC_one (padTo l)) ?_; rw [HX.out])
        refine (s1.out _).mono ?_
        rintro e w' ⟨rfl, rfl⟩
        go_wp2_with fail
        refine (s2.out _).mono ?_
        rintro e w' ⟨rfl, rfl⟩
        go_wp2_with (refine wpList_load_row_g (by rfl) 82 _ rfl w1.heap.size rfl 82 (pairC (padTo l)) (0, 0) _ K1.out Try.underlying82 rfl HSP.out ?_)
        refine (HPO.out _).mono ?_
        rintro e w2 ⟨rfl, hb2⟩
        have J0 := hid ((hb2.block _ (lt_of_block K0.out)).trans K0.out)
        have J1 := hid ((hb2.block _ (lt_of_block K1.out)).trans K1.out)
        have JB := hid (KB.out.trans (hb2.mono KB.out.size))
        clear hb2
        by_cases hlen : (len : Int) = 2 * ((a : Int) + (b : Int))
        · have HOK := hid (show PairOf (a : Int) (b : Int) l from ⟨HNM.out.1, HNM.out.2, HP.out, by rw [HLEN.out]; exact hlen⟩)
          have hne : ((len : Int) != 2 * ((a : Int) + (b : Int))) = false := by rw [hlen]; simp
          have HPL := hid (padTo_length HL20.out)
          have HSJ := hid (size_joinL (padTo_length HL20.out) a b 0)
          have HZJ := hid (zero_joinL (padTo_length HL20.out) a b 0)
          clear hlen
          go_wp2_with (first
            | refine wpList_exec rfl (exec_build3 _ _ _ rfl (padTo l) a b HPL.out rfl rfl rfl) ?_
            | refine wpList_store_row rfl 101 _ _ rfl w.heap.size (pairC (joinL (padTo l) a b 0)) rfl rfl 101 zeroJ J0.out HSJ.out HZJ.out (pairC_one _) ?_
            | refine wpList_load_row rfl 82 _ rfl w1.heap.size rfl 82 (pairC (padTo l)) (0, 0) _ J1.out Try.underlying82 rfl HSP.out ?_)
          refine bodyPost_ret (results_row_tmp Try.results92 _ w.heap.size 101 _ (0, 0) _ rfl (setRow_heap _ _ _ _ _ _ J0.out) Try.underlying101 rfl HSJ.out) rfl ⟨.inl ⟨a, b, rfl, rfl, HOK.out, rfl⟩, ?_⟩
          exact below_setRow' JB.out (Nat.le_refl _) _
        · have HNO := hid (show ¬ PairOf (a : Int) (b : Int) l from fun h => hlen (by rw [← HLEN.out]; exact h.2.2.2))
          have hne : ((len : Int) != 2 * ((a : Int) + (b : Int))) = true := by simpa using hlen
          clear hlen
          go_wp2_with (refine wpList_store_row rfl 101 _ _ rfl w.heap.size zeroJ rfl rfl 101 zeroJ J0.out Try.size_joined rfl zeroJ_one ?_)
          refine fin _ _ J0.out JB.out HNO.out ?_ ?_ <;> rfl
      · have s2 := hid (show ∀ W, Calls Try.prog 97 #[.int .i64 m] W fun e w' => e = .returned (.bool false) ∧ W = w' from fun W => by have := HS.out m W; rwa [decide_eq_false hm] at this)
        have HNO := hid (show ¬ PairOf (a : Int) m l from fun h => hm h.2.1)
        clear hn hm
        go_wp2_with (refine wpList_store_row rfl 82 _ _ rfl w1.heap.size (pairC (padTo l)) rfl rfl 82 zeroP N0.out HSP.out HZP.out (pairC_one (padTo l)) ?_; rw [HX.out])
        refine (s1.out _).mono ?_
        rintro e w' ⟨rfl, rfl⟩
        go_wp2_with fail
        refine (s2.out _).mono ?_
        rintro e w' ⟨rfl, rfl⟩
        go_wp2_with (refine wpList_store_row rfl 101 _ _ rfl w.heap.size zeroJ rfl rfl 101 zeroJ K0.out Try.size_joined rfl zeroJ_one ?_)
        refine fin _ _ K0.out KB.out HNO.out ?_ ?_ <;> rfl
    · have s1 := hid (show ∀ W, Calls Try.prog 97 #[.int .i64 n] W fun e w' => e = .returned (.bool false) ∧ W = w' from fun W => by have := HS.out n W; rwa [decide_eq_false hn] at this)
      have HNO := hid (show ¬ PairOf n m l from fun h => hn h.1)
      clear hn
      go_wp2_with (refine wpList_store_row rfl 82 _ _ rfl w1.heap.size (pairC (padTo l)) rfl rfl 82 zeroP N0.out HSP.out HZP.out (pairC_one (padTo l)) ?_; rw [HX.out])
      refine (s1.out _).mono ?_
      rintro e w' ⟨rfl, rfl⟩
      go_wp2_with (refine wpList_store_row rfl 101 _ _ rfl w.heap.size zeroJ rfl rfl 101 zeroJ K0.out Try.size_joined rfl zeroJ_one ?_)
      refine fin _ _ K0.out KB.out HNO.out ?_ ?_ <;> rfl
  · have HNO := hid (show ¬ PairOf n m l from fun h => hp h.2.2.1)
    have K0 := hid (show ((w1.alloc (.cells zeroP 82)).setRow w1.heap.size zeroP).heap[w.heap.size]? = some (.cells zeroJ 101 (0, 0)) by
      rw [setRow_other _ _ _ _ (by have := IL.out; omega), Below.heap_alloc _ _ _ IL.out]; exact I0.out)
    have KB := hid (below_setRow' (IB.out.alloc IB.out.size (.cells zeroP 82)) IB.out.size zeroP)
    generalize hX : (w1.alloc (.cells zeroP 82)).setRow w1.heap.size zeroP = X at K0 KB
    have HX := hid hX
    clear hX hp
    go_wp2_with (first
      | (refine wpList_store_row rfl 82 _ _ rfl w1.heap.size zeroP rfl rfl 82 zeroP N0.out Try.size_pair rfl (pairC_one (List.replicate 20 0)) ?_; rw [HX.out])
      | refine wpList_store_row rfl 101 _ _ rfl w.heap.size zeroJ rfl rfl 101 zeroJ K0.out Try.size_joined rfl zeroJ_one ?_)
    refine fin _ _ K0.out KB.out HNO.out ?_ ?_ <;> rfl
end Go.Proofs.Ytonhnmpgikmlpaa

/- Joined pairings seen from behind: fromBehind, flipped of the program, by their contracts. -/
namespace Go.Proofs.Ytonhnmpgikmlpaa
open Go.RowKit Go.Shelf

theorem rangeAt_head {w : World} {b : Nat} {all : Array Value} {t : TypeId} {fr : Nat × Nat} {cs : Array Value} (hg : w.heap[b]? = some (.cells all t fr)) (hpre : ∀ (j : Nat) (v : Value), cs[j]? = some v → all[j]? = some v) : w.rangeAt b 0 cs.toList := fun j v hv => by
  rw [cell_of_row _ _ _ _ _ _ hg, Nat.zero_add]
  exact hpre j v (by simpa using hv)

set_option maxRecDepth 100000 in
set_option maxHeartbeats 4000000 in
theorem fromBehind_any (l : List Int) (n m r P k : Nat) (w : World) (hl : l.length = 20) (hP : portsN l = P) (h20 : P ≤ 20) (hm1 : 1 ≤ m) (hm : m ≤ 5) (hk : k < P) :
    Calls Try.prog 151 #[.agg (pairC (joinL l n m r)), .int .i64 (k : Int)] w fun e w' => e = .returned (.int .i64 ((flipN P m k : Nat) : Int)) ∧ Below w.heap.size w w' := by
  have HPO := hid (fun W => pports_any l W hl)
  rw [hP] at HPO
  have HSP := hid (size_pairL hl)
  have H1 := hid (joinL_columns hl n m r)
  have HPRE := hid (fun (j : Nat) (v : Value) (h : (pairC l)[j]? = some v) => joinL_pre (n := n) (m := m) (r := r) h)
  generalize pairC (joinL l n m r) = cs at *
  generalize pairC l = pc at *
  clear hl hP
  have H0 := hid (heap_new0 w (.cells cs 101))
  have HB := hid ((Below.refl w.heap.size w).alloc (Nat.le_refl _) (.cells cs 101))
  obtain ⟨z, hz⟩ : ∃ z, flipN P m k = z := ⟨_, rfl⟩
  rw [hz]
  have HZ := hid (show ((P : Int) + (m : Int) - 1 - (k : Int)).tmod (P : Int) = (z : Int) by
    rw [show (P : Int) + (m : Int) - 1 - (k : Int) = ((P + m - 1 - k : Nat) : Int) by omega, Int.tmod_eq_emod_of_nonneg (Int.natCast_nonneg _), ← hz]
    rfl)
  clear hz
  have hw1 : IntKind.i64.wrap ((P : Int) + (m : Int)) = (P : Int) + (m : Int) := IntWalk.i64_in _ (by omega)
  have hw2 : IntKind.i64.wrap ((P : Int) + (m : Int) - 1) = (P : Int) + (m : Int) - 1 := IntWalk.i64_in _ (by omega)
  have hw3 : IntKind.i64.wrap ((P : Int) + (m : Int) - 1 - (k : Int)) = (P : Int) + (m : Int) - 1 - (k : Int) := IntWalk.i64_in _ (by omega)
  have hPz : ¬ P = 0 := by omega
  go_enter Try.func151, Try.ntmps151
  go_wp2_with fail
  generalize World.alloc w _ = X at H0 HB ⊢
  have HX := hid (fun W (hw : Cls X W) => (hw.block _ (lt_of_block H0.out)).trans H0.out)
  refine wp_region_quiet (C := Cls X) (by kernel_rfl) (by kernel_rfl) (Below.refl _ X).drew ?_
  quiet_step ((intro _; rfl))
  refine wpQuiet_load_mid (by go_simp) 82 _ rfl w.heap.size 0 rfl pc _ (fun W hw => rangeAt_head (HX.out W hw) HPRE.out) Try.underlying82 rfl HSP.out ?_
  refine wpQuiet_call rfl 143 #[.agg pc] (.int .i64 (P : Int)) (fun w _ => by go_simp) (fun w' hw => (HPO.out w').mono fun e w'' ⟨he, hb'⟩ => ⟨he, hw.trans (hb'.mono hw.size)⟩) ?_
  quiet_step ((intro _; rfl))
  refine wpQuiet_value rfl (.int .i64 (m : Int)) (fun w' hw => by have hc : w'.cell? ⟨w.heap.size, 21, none⟩ = some (.int .i64 (m : Int)) := by { rw [cell_of_row _ _ _ _ _ _ (HX.out w' hw)]; exact H1.out }; go_simp) ?_
  refine wpQuiet_value rfl (.int .i64 ((P : Int) + (m : Int))) (fun w' _ => by go_simp) ?_
  refine wpQuiet_value rfl (.int .i64 ((P : Int) + (m : Int) - 1)) (fun w' _ => by go_simp) ?_
  quiet_step ((intro _; rfl))
  refine wpQuiet_value rfl (.int .i64 ((P : Int) + (m : Int) - 1 - (k : Int))) (fun w' _ => by go_simp) ?_
  quiet_step ((intro _; rfl))
  refine wpQuiet_load_mid (by go_simp) 82 _ rfl w.heap.size 0 rfl pc _ (fun W hw => rangeAt_head (HX.out W hw) HPRE.out) Try.underlying82 rfl HSP.out ?_
  refine wpQuiet_call rfl 143 #[.agg pc] (.int .i64 (P : Int)) (fun w _ => by go_simp) (fun w' hw => (HPO.out w').mono fun e w'' ⟨he, hb'⟩ => ⟨he, hw.trans (hb'.mono hw.size)⟩) ?_
  refine wpQuiet_value rfl (.int .i64 (z : Int)) (fun w' _ => by have hz := HZ.out; go_simp) ?_
  quiet_step ((intro _; rfl))
  refine wpQuiet_nil ?_
  intro w2 hw2
  have HB2 := hid (HB.out.trans (hw2.mono HB.out.size))
  clear hw2
  go_wp2_with fail
  go_ret
  exact ⟨rfl, HB2.out⟩
end Go.Proofs.Ytonhnmpgikmlpaa

/- Joined pairings flipped, by their contracts: flipped, JoinFlip, JoinTurn of the program. -/
namespace Go.Proofs.Ytonhnmpgikmlpaa
open Go.RowKit Go.Shelf

/-- What the operations hand back that make a joined pairing. -/
def madeRel (b : Nat) (n m r : Nat) (i : Nat) (v : Value) (W : World) : Prop :=
  match i with
  | 0 => v = .agg (pairC idL)
  | 1 => v = .pointer (some ⟨b, 20, none⟩)
  | 2 => v = .int .i64 (n : Int)
  | 3 => v = .pointer (some ⟨b, 21, none⟩)
  | 4 => v = .int .i64 (m : Int)
  | 5 => v = .pointer (some ⟨b, 22, none⟩)
  | 6 => v = .int .i64 (r : Int)
  | 7 => v = .agg (pairC (joinL idL n m r))
  | 8 => ∃ g, v = .pointer (some ⟨g, 0, none⟩) ∧ W.heap[g]? = some (.cells zeroJ 101 (0, 0)) ∧ b + 1 < g
  | _ => True
/-- What the operations hand back that turn both numbers. -/
def behindRel (g P m k q : Nat) (cs : Array Value) (i : Nat) (v : Value) (_ : World) : Prop :=
  match i with
  | 0 => v = .pointer (some ⟨g, 0, none⟩)
  | 1 => v = .agg cs
  | 2 => v = .int .i64 (k : Int)
  | 3 => v = .int .i64 ((flipN P m k : Nat) : Int)
  | 4 => v = .agg cs
  | 5 => v = .int .i64 (q : Int)
  | 6 => v = .int .i64 ((flipN P m q : Nat) : Int)
  | _ => True

set_option maxRecDepth 100000 in
set_option maxHeartbeats 4000000 in
theorem jflipped_any (l : List Int) (n m r : Nat) (w : World) (hp : IsPair l) (hm1 : 1 ≤ m) (hm : m ≤ 5) (hlm : m ≤ l.length) :
    Calls Try.prog 95 #[.agg (pairC (joinL (padTo l) n m r))] w fun e w' => e = .returned (.agg (pairC (joinL (padTo (flipL l m)) n m r))) ∧ Below w.heap.size w w' := by
  have h20 := hp.2.1
  have h4 := hp.1
  have hpl := padTo_length h20
  have HFB := hid (fun k W (hk : k < l.length) => fromBehind_any (padTo l) n m r l.length k W hpl hp.ports h20 hm1 hm hk)
  have HUN := hid (fun w' => unpaired_any w')
  have HLI := hid (fun W => plist_any l W h20 hp.ports)
  have HSP := hid (size_pairL hpl)
  have HSJ := hid (size_joinL hpl n m r)
  have HC0 := hid (joinL_rows hpl n m r)
  have HC1 := hid (joinL_columns hpl n m r)
  have HC2 := hid (joinL_rounds hpl n m r)
  have HPRE := hid (fun (j : Nat) (v : Value) (h : (pairC (padTo l))[j]? = some v) => joinL_pre (n := n) (m := m) (r := r) h)
  have HM := hid hp.mates_of
  have HNF := hid (flipN_names hlm hm1)
  have HX := hid (show ∀ q, q < l.length → l[q]? = some ((mateN l q : Nat) : Int) from fun q hq => (hp.mates hq).2.2.1)
  have HTL := hid (show padTo (flipL l m) = padTo (listS l.length (renS (flipN l.length m) (flipN l.length m) (mateN l))) from rfl)
  have HFL := hid (show (padTo (flipL l m)).length = 20 from padTo_length (by rw [flipL_length]; exact h20))
  obtain ⟨P, hP⟩ : ∃ P, l.length = P := ⟨_, rfl⟩
  have HPP := hid hP
  rw [hP] at h20 h4 hlm HFB HM HNF HX HTL
  generalize padTo (flipL l m) = TL at *
  generalize mateN l = s at *
  generalize pairC (joinL (padTo l) n m r) = cs at *
  generalize pairC (padTo l) = pc at *
  clear hp hP hpl
  have H0 := hid (heap_new1 w (.cells cs 101) (.cells zeroJ 101))
  have H1 := hid (heap_new0 (w.alloc (.cells cs 101)) (.cells zeroJ 101))
  have HB := hid (((Below.refl w.heap.size w).alloc (Nat.le_refl _) (.cells cs 101)).alloc (by simp) (.cells zeroJ 101))
  rw [World.size_alloc] at H1
  go_enter Try.func95, Try.ntmps95
  go_wp2_with fail
  generalize World.alloc (World.alloc w _) _ = Y at H0 H1 HB ⊢
  have hbw : w.heap.size + 1 < Y.heap.size := lt_of_block H1.out
  have HBW := hid hbw
  clear hbw
  refine wp_region_rel_tail (by kernel_rfl) 9 (by kernel_rfl) (fun us => { tmps := #[.agg cs, .pointer (some ⟨w.heap.size, 0, none⟩), .pointer (some ⟨w.heap.size + 1, 0, none⟩), us 8, undef, undef, us 0, us 1, us 2, us 3, us 4, us 5, us 6, us 7,
    undef, undef, undef, undef, undef, undef, undef, undef, undef, undef, undef, undef, undef, undef, undef, undef, undef, undef, undef], defers := [] }) (fun _ => undef) rfl (madeRel w.heap.size n m r) (fun i v W W' h hb => ?_) (fun i us v hi => ?_) (fun i us W hi hb hd => ?_) (fun us W hb hr => ?_)
  · unfold madeRel at h ⊢
    split at h <;> try exact h
    obtain ⟨g, h1, h2, h3⟩ := h
    exact ⟨g, h1, (hb.block _ (lt_of_block h2)).trans h2, h3⟩
  · match i, hi with
    | 0, _ => rfl
    | 1, _ => rfl
    | 2, _ => rfl
    | 3, _ => rfl
    | 4, _ => rfl
    | 5, _ => rfl
    | 6, _ => rfl
    | 7, _ => rfl
    | 8, _ => rfl
  · have L0 := hid ((hb.block _ (lt_of_block H0.out)).trans H0.out)
    match i, hi with
    | 0, _ => exact wpOp_call rfl rfl (by go_simp) ((HUN.out W).mono fun e w'' ⟨he, hb'⟩ => ⟨_, he, rfl, hb'⟩)
    | 1, _ => exact wpOp_val rfl rfl (by go_simp) rfl
    | 2, _ =>
      have h0 : us 1 = _ := hd _ rfl { on := 1, ground := .data } (by simp) rfl
      rw [h0]
      have hc : W.cell? ⟨w.heap.size, 20, none⟩ = some (.int .i64 (n : Int)) := by rw [cell_of_row _ _ _ _ _ _ L0.out]; exact HC0.out
      exact wpOp_val rfl rfl (by go_simp) rfl
    | 3, _ => exact wpOp_val rfl rfl (by go_simp) rfl
    | 4, _ =>
      have h0 : us 3 = _ := hd _ rfl { on := 3, ground := .data } (by simp) rfl
      rw [h0]
      have hc : W.cell? ⟨w.heap.size, 21, none⟩ = some (.int .i64 (m : Int)) := by rw [cell_of_row _ _ _ _ _ _ L0.out]; exact HC1.out
      exact wpOp_val rfl rfl (by go_simp) rfl
    | 5, _ => exact wpOp_val rfl rfl (by go_simp) rfl
    | 6, _ =>
      have h0 : us 5 = _ := hd _ rfl { on := 5, ground := .data } (by simp) rfl
      rw [h0]
      have hc : W.cell? ⟨w.heap.size, 22, none⟩ = some (.int .i64 (r : Int)) := by rw [cell_of_row _ _ _ _ _ _ L0.out]; exact HC2.out
      exact wpOp_val rfl rfl (by go_simp) rfl
    | 7, _ =>
      have h0 : us 0 = _ := hd _ rfl { on := 0, ground := .data } (by simp) rfl
      have h2 : us 2 = _ := hd _ rfl { on := 2, ground := .data } (by simp) rfl
      have h4 : us 4 = _ := hd _ rfl { on := 4, ground := .data } (by simp) rfl
      have h6 : us 6 = _ := hd _ rfl { on := 6, ground := .data } (by simp) rfl
      rw [h0, h2, h4, h6]
      exact wpOp_val rfl rfl (exec_build4 _ _ _ _ rfl idL n m r rfl rfl rfl rfl rfl) rfl
    | 8, _ => exact wpOp_make (u := .pointer (some ⟨W.heap.size, 0, none⟩)) (w' := W.alloc (.cells zeroJ 101)) rfl rfl (by go_simp) ⟨_, rfl, heap_new0 W _, Nat.lt_of_lt_of_le HBW.out hb.size⟩ ((Below.refl _ W).alloc (Nat.le_refl _) _)
  · obtain ⟨g, h8, hg, hlg⟩ : ∃ g, us 8 = .pointer (some ⟨g, 0, none⟩) ∧ W.heap[g]? = some (.cells zeroJ 101 (0, 0)) ∧ w.heap.size + 1 < g := hr 8 (by omega)
    have h0 : us 0 = _ := hr 0 (by omega)
    have h1 : us 1 = _ := hr 1 (by omega)
    have h2 : us 2 = _ := hr 2 (by omega)
    have h3 : us 3 = _ := hr 3 (by omega)
    have h4 : us 4 = _ := hr 4 (by omega)
    have h5 : us 5 = _ := hr 5 (by omega)
    have h6 : us 6 = _ := hr 6 (by omega)
    have h7 : us 7 = _ := hr 7 (by omega)
    rw [h0, h1, h2, h3, h4, h5, h6, h7, h8]
    clear h0 h1 h2 h3 h4 h5 h6 h7 h8 hr
    have HLG := hid hlg
    have HSI := hid (size_joinL (l := idL) rfl n m r)
    have HZI := hid (zero_joinL (l := idL) rfl n m r)
    have L0 := hid ((hb.block _ (lt_of_block H0.out)).trans H0.out)
    have L1 := hid ((hb.block _ (lt_of_block H1.out)).trans H1.out)
    have LG := hid hg
    have LB := hid (HB.out.trans (hb.mono HB.out.size))
    have K2 := hid (setRow_heap _ _ _ (pairC (joinL idL n m r)) _ _ hg)
    have K0 := hid (show (W.setRow g (pairC (joinL idL n m r))).heap[w.heap.size]? = some (.cells cs 101 (0, 0)) by rw [setRow_other _ _ _ _ (by omega)]; exact L0.out)
    have K1 := hid (show (W.setRow g (pairC (joinL idL n m r))).heap[w.heap.size + 1]? = some (.cells zeroJ 101 (0, 0)) by rw [setRow_other _ _ _ _ (by omega)]; exact L1.out)
    have KB := hid (below_setRow' LB.out (show w.heap.size ≤ g by omega) (pairC (joinL idL n m r)))
    clear hb hg hlg
    generalize hZ : W.setRow g (pairC (joinL idL n m r)) = Z at K0 K1 K2 KB
    have HZZ := hid hZ
    clear hZ
    refine wpList_store_row rfl 101 _ _ rfl g (pairC (joinL idL n m r)) rfl rfl 101 zeroJ LG.out HSI.out HZI.out (pairC_one _) ?_
    rw [HZZ.out]
    go_wp2_with (first
      | refine wpList_exec rfl (exec_load_head 82 _ rfl w.heap.size rfl 101 cs (0, 0) pc _ K0.out HPRE.out Try.underlying82 rfl HSP.out) ?_)
    refine (HLI.out _).mono ?_
    rintro e w2 ⟨v, rfl, hg2, hb2⟩
    obtain ⟨A, c, rfl, hown⟩ := (hg2.lower (Nat.le_refl _)).own
    have M0 := hid ((hb2.block _ (lt_of_block K0.out)).trans K0.out)
    have M1 := hid ((hb2.block _ (lt_of_block K1.out)).trans K1.out)
    have M2 := hid ((hb2.block _ (lt_of_block K2.out)).trans K2.out)
    have MB := hid (KB.out.trans (hb2.mono KB.out.size))
    have MG := hid (lt_of_block K2.out)
    have MO := hid hown
    rw [HPP.out]
    clear hg2 hb2 hown
    go_wp2_with fail
    go_loopw [18] (fun (iv : Value) (wr : World) => ∃ k : Nat, k ≤ P ∧ iv = .int .i64 k ∧ ∃ L : List Int, Hid (PairsUp L P (fun q => q < k) (flipN P m) s) ∧ wr.heap[g]? = some (.cells (pairC (joinL L n m r)) 101 (0, 0)) ∧ wr.heap[w.heap.size + 1]? = some (.cells zeroJ 101 (0, 0)) ∧ wr.heap[w.heap.size]? = some (.cells cs 101 (0, 0)) ∧ Own3 wr Z.heap.size A l ∧ Below w.heap.size w wr) (fun i _ => P - (intOf i).toNat)
    case atStart => exact ⟨0, by omega, rfl, idL, hid (pairs_none (fun q hq => absurd hq (by omega))), M2.out, M1.out, M0.out, MO.out, MB.out⟩
    case round =>
      obtain ⟨k, hk, rfl, L, hL, hg, h1, h0, ho, hb⟩ := hrel
      have HL := hL
      have B0 := hid h0
      have B1 := hid h1
      have B2 := hid hg
      have BO := hid ho
      have BB := hid hb
      clear hL h0 h1 hg ho hb
      by_cases hlt : k < P
      · have hints := BO.out.ints
        obtain ⟨b, off, x, rfl, hbw, hks, hc⟩ := hints.at_ (k := k) (by rw [HPP.out]; exact hlt)
        rw [HX.out k hlt] at hks
        obtain rfl := Option.some.inj hks
        have hsk := HM.out.lt k hlt
        obtain ⟨q, hq⟩ : ∃ q, s k = q := ⟨_, rfl⟩
        have HQ := hid hq
        rw [hq] at hc hsk
        clear hints hbw hks hq
        go_wp2_with fail
        have hql : q < P := hsk
        refine wp_region_rel_tail (by kernel_rfl) 7 (by kernel_rfl) (fun us => { tmps := #[.agg cs, .pointer (some ⟨w.heap.size, 0, none⟩), .pointer (some ⟨w.heap.size + 1, 0, none⟩), .pointer (some ⟨g, 0, none⟩), .int .i64 (k : Int), .int .i64 (q : Int), .agg (pairC idL), .pointer (some ⟨w.heap.size, 20, none⟩), .int .i64 (n : Int), .pointer (some ⟨w.heap.size, 21, none⟩), .int .i64 (m : Int), .pointer (some ⟨w.heap.size, 22, none⟩), .int .i64 (r : Int), .agg (pairC (joinL idL n m r)), .pointer (some ⟨w.heap.size, 0, none⟩), .agg pc,
          .slice (some ⟨b, off, none⟩) P c, .int .i64 (P : Int), .int .i64 (k : Int), .bool true, .int .i64 (k : Int), .pointer (some ⟨b, off + k, none⟩), .int .i64 (q : Int), us 0, us 1, us 2, us 3, us 4, us 5, us 6, u30, u31, undef], defers := [] }) (fun i => if i = 0 then u23 else if i = 1 then u24 else if i = 2 then u25 else if i = 3 then u26 else if i = 4 then u27 else if i = 5 then u28 else u29) rfl (behindRel g P m k q cs) (fun i v W W' h hb => h) (fun i us v hi => ?_) (fun i us W hi hb hd => ?_) (fun us W hb hr => ?_)
        · match i, hi with
          | 0, _ => rfl
          | 1, _ => rfl
          | 2, _ => rfl
          | 3, _ => rfl
          | 4, _ => rfl
          | 5, _ => rfl
          | 6, _ => rfl
        · have L0 := hid ((hb.block _ (lt_of_block B0.out)).trans B0.out)
          match i, hi with
          | 0, _ => exact wpOp_val rfl rfl (by go_simp) rfl
          | 1, _ => exact wpOp_val rfl rfl (exec_load_row 101 _ rfl w.heap.size rfl 101 cs (0, 0) _ L0.out Try.underlying101 rfl HSJ.out) rfl
          | 2, _ => exact wpOp_val rfl rfl (by go_simp) rfl
          | 3, _ =>
            have h0 : us 1 = _ := hd _ rfl { on := 1, ground := .data } (by simp) rfl
            have h1 : us 2 = _ := hd _ rfl { on := 2, ground := .data } (by simp) rfl
            rw [h0, h1]
            exact wpOp_call rfl rfl (by go_simp) ((HFB.out k W hlt).mono fun e w'' ⟨he, hb'⟩ => ⟨_, he, rfl, hb'⟩)
          | 4, _ => exact wpOp_val rfl rfl (exec_load_row 101 _ rfl w.heap.size rfl 101 cs (0, 0) _ L0.out Try.underlying101 rfl HSJ.out) rfl
          | 5, _ => exact wpOp_val rfl rfl (by go_simp) rfl
          | 6, _ =>
            have h0 : us 4 = _ := hd _ rfl { on := 4, ground := .data } (by simp) rfl
            have h1 : us 5 = _ := hd _ rfl { on := 5, ground := .data } (by simp) rfl
            rw [h0, h1]
            exact wpOp_call rfl rfl (by go_simp) ((HFB.out q W hql).mono fun e w'' ⟨he, hb'⟩ => ⟨_, he, rfl, hb'⟩)
        · have h0 : us 0 = _ := hr 0 (by omega)
          have h1 : us 1 = _ := hr 1 (by omega)
          have h2 : us 2 = _ := hr 2 (by omega)
          have h3 : us 3 = _ := hr 3 (by omega)
          have h4 : us 4 = _ := hr 4 (by omega)
          have h5 : us 5 = _ := hr 5 (by omega)
          have h6 : us 6 = _ := hr 6 (by omega)
          rw [h0, h1, h2, h3, h4, h5, h6]
          have L0 := hid ((hb.block _ (lt_of_block B0.out)).trans B0.out)
          have L1 := hid ((hb.block _ (lt_of_block B1.out)).trans B1.out)
          have L2 := hid ((hb.block _ (lt_of_block B2.out)).trans B2.out)
          have LO := hid (BO.out.below hb)
          have LB := hid (BB.out.trans (hb.mono BB.out.size))
          clear h0 h1 h2 h3 h4 h5 h6 hr hb
          have hfk := HNF.out.flt k hlt
          have hfq := HNF.out.flt q hql
          have hne : flipN P m k ≠ flipN P m q := fun e => HM.out.ne k hlt (by
            have e2 := congrArg (flipN P m) e
            rw [HNF.out.gf k hlt, HNF.out.gf q hql] at e2
            rw [HQ.out]
            exact e2.symm)
          obtain ⟨fk, hfke⟩ : ∃ fk, flipN P m k = fk := ⟨_, rfl⟩
          obtain ⟨fq, hfqe⟩ : ∃ fq, flipN P m q = fq := ⟨_, rfl⟩
          rw [hfke, hfqe] at hne ⊢
          rw [hfke] at hfk
          rw [hfqe] at hfq
          have HF := hid (And.intro hfke hfqe)
          have HPA := hid (pair_any g fk fq _ _ W L2.out (by rw [pairC_size, joinL_length HL.out.1]; omega) (by omega) (by omega) hne)
          have HF20 := hid (show fk < 20 ∧ fq < 20 by omega)
          clear hfke hfqe hfk hfq hne
          go_wp2_with fail
          refine HPA.out.mono ?_
          rintro e w3 ⟨rfl, hpr, hbut⟩
          have HG3 := hid (hpr.trans (by rw [paired_joinL HL.out.1 HF20.out.1 HF20.out.2]))
          have C1 := hid ((hbut.block _ (lt_of_block L1.out) (by have := HLG.out; omega)).trans L1.out)
          have C0 := hid ((hbut.block _ (lt_of_block L0.out) (by have := HLG.out; omega)).trans L0.out)
          have CO := hid (LO.out.but hbut (by have := MG.out; have := lt_of_block K2.out; omega))
          have CB := hid (LB.out.trans (hbut.below (show w.heap.size ≤ g by have := HLG.out; omega) LB.out.size))
          clear hpr hbut
          go_wp2_with fail
          go_roundw
          case rel =>
            refine ⟨k + 1, by omega, by go_num, _, hid (pairs_step (g := flipN P m) (s := s) h20 HNF.out HM.out HL.out hlt (V' := fun q => q < k + 1) (fun q hq => by omega)), ?_, C1.out, C0.out, CO.out, CB.out⟩
            rw [HQ.out, HF.out.1, HF.out.2]
            exact HG3.out
          case measure => simp [intOf]; omega
      · obtain rfl : k = P := by omega
        have HTL2 := hid (HTL.out.trans (pairs_done h20 HNF.out HM.out HL.out (fun q hq => .inl hq)).symm)
        rw [← HTL2.out] at B2
        have HSZ := hid (size_joinL HFL.out n m r)
        have HZZ2 := hid (zero_joinL HFL.out n m r)
        go_wp2_with (first
          | refine wpList_load_row rfl 101 _ rfl g rfl 101 (pairC (joinL TL n m r)) (0, 0) _ B2.out Try.underlying101 rfl HSZ.out ?_
          | refine wpList_store_row rfl 101 _ _ rfl (w.heap.size + 1) (pairC (joinL TL n m r)) rfl rfl 101 zeroJ B1.out HSZ.out HZZ2.out (pairC_one _) ?_)
        refine bodyPost_ret (results_cell_row Try.results95 _ _ (w.heap.size + 1) 101 _ (0, 0) _ (by rfl) (setRow_heap _ _ _ _ _ _ B1.out) Try.underlying101 rfl HSZ.out) rfl ⟨rfl, ?_⟩
        exact below_setRow' BB.out (by omega) _
end Go.Proofs.Ytonhnmpgikmlpaa

/- JoinFlip, JoinTurn of the program, by their contracts. -/
namespace Go.Proofs.Ytonhnmpgikmlpaa
open Go.RowKit Go.Shelf

/-- A list is told just if a condition holds. -/
def LOut (D : Prop) (R res : List Int) (ok : Bool) : Prop := (D ∧ res = R ∧ ok = true) ∨ (¬ D ∧ res = [] ∧ ok = false)
theorem LOut.uniq {D : Prop} {R r r' : List Int} {ok ok' : Bool} (h : LOut D R r ok) (h' : LOut D R r' ok') : ok' = ok ∧ r' = r := by
  rcases h with ⟨h1, rfl, rfl⟩ | ⟨h1, rfl, rfl⟩ <;> rcases h' with ⟨h2, rfl, rfl⟩ | ⟨h2, rfl, rfl⟩
  · exact ⟨rfl, rfl⟩
  · exact absurd h1 h2
  · exact absurd h2 h1
  · exact ⟨rfl, rfl⟩
theorem LOut.len {D : Prop} {R r : List Int} {ok : Bool} (h : LOut D R r ok) (hR : D → R.length ≤ 1048576) : r.length ≤ 1048576 := by
  rcases h with ⟨h1, rfl, _⟩ | ⟨_, rfl, _⟩
  · exact hR h1
  · simp
/-- An integer is told just if a condition holds. -/
def IOut (D : Prop) (V res : Int) (ok : Bool) : Prop := (D ∧ res = V ∧ ok = true) ∨ (¬ D ∧ res = 0 ∧ ok = false)
theorem IOut.uniq {D : Prop} {V r r' : Int} {ok ok' : Bool} (h : IOut D V r ok) (h' : IOut D V r' ok') : ok' = ok ∧ r' = r := by
  rcases h with ⟨h1, rfl, rfl⟩ | ⟨h1, rfl, rfl⟩ <;> rcases h' with ⟨h2, rfl, rfl⟩ | ⟨h2, rfl, rfl⟩
  · exact ⟨rfl, rfl⟩
  · exact absurd h1 h2
  · exact absurd h2 h1
  · exact ⟨rfl, rfl⟩
theorem pair_plist (l : List Int) (w : World) (hp : IsPair l) :
    Calls Try.prog 96 #[.agg (pairC (padTo l))] w fun e w' => ∃ v, e = .returned v ∧ GrowI w' w.heap.size v l ∧ Below w.heap.size w w' := plist_any l w hp.2.1 hp.ports
theorem turnL_pair {l : List Int} (k : Nat) (h : IsPair l) : IsPair (turnL l k) := by
  rw [turnL_ren]
  exact listS_pair (renS_mates turn_names h.mates_of) h.1 h.2.1

set_option maxRecDepth 100000 in
set_option maxHeartbeats 4000000 in
theorem implJoinFlip_any (n m : Int) (A : Option Addr) (c : Nat) (l : List Int) (w : World) (h : Ints w w.heap.size A l) (hn : l.length ≤ 1048576) :
    Calls Try.prog 36 #[.int .i64 n, .int .i64 m, .slice A l.length c] w fun e w' => Below w.heap.size w w' ∧ ∃ A' c' res ok, e = .returned (.tuple #[.slice A' res.length c', .bool ok]) ∧ LOut (PairOf n m l) (flipL l m.toNat) res ok ∧ Own3 w' w.heap.size A' res := by
  have H := hid (readJoined_any n m A c l w h hn)
  go_enter Try.func36, Try.ntmps36
  go_wp2_with fail
  refine H.out.mono ?_
  rintro e w1 ⟨⟨a, b, rfl, rfl, hp, rfl⟩ | ⟨hp, rfl⟩, hb⟩
  · have hpl := padTo_length hp.2.2.1.2.1
    have hb1 : 1 ≤ b := by have := hp.2.1.1; omega
    have hb5 : b ≤ 5 := by have := hp.2.1.2; omega
    have hbl : b ≤ l.length := by have := hp.2.2.2; have := hp.1.1; omega
    have HD := hid hp
    have HPF := hid (flipL_pair hp.2.2.1 hbl hb1)
    have HFL := hid (padTo_length HPF.out.2.1)
    have HSJ := hid (size_joinL hpl a b 0)
    have HZJ := hid (zero_joinL hpl a b 0)
    have HF := hid (fun W => jflipped_any l a b 0 W hp.2.2.1 hb1 hb5 hbl)
    have HLI := hid (fun W => pair_plist (flipL l b) W HPF.out)
    have N0 := hid (heap_new0 w1 (.cells zeroJ 101))
    have NB := hid (below_setRow' (hb.alloc hb.size (.cells zeroJ 101)) hb.size (pairC (joinL (padTo l) a b 0)))
    have N1 := hid (setRow_heap _ _ _ (pairC (joinL (padTo l) a b 0)) _ _ N0.out)
    clear hb hp hpl hbl
    generalize hY : World.setRow (w1.alloc (.cells zeroJ 101)) w1.heap.size (pairC (joinL (padTo l) a b 0)) = Y at NB N1
    have HY := hid hY
    clear hY
    generalize hFR : flipL l b = FR at *
    have HFR := hid hFR
    clear hFR
    go_wp2_with (first
      | (refine wpList_store_row rfl 101 _ _ rfl w1.heap.size (pairC (joinL (padTo l) a b 0)) rfl rfl 101 zeroJ N0.out HSJ.out HZJ.out (pairC_one _) ?_; rw [HY.out])
      | refine wpList_load_row rfl 101 _ rfl w1.heap.size rfl 101 (pairC (joinL (padTo l) a b 0)) (0, 0) _ N1.out Try.underlying101 rfl HSJ.out ?_)
    refine (HF.out _).mono ?_
    rintro e w2 ⟨rfl, hb2⟩
    have B2 := hid (NB.out.trans (hb2.mono NB.out.size))
    clear hb2
    go_wp2_with (refine wpList_exec rfl (exec_field0 _ rfl (padTo FR) a b 0 HFL.out rfl) ?_)
    refine (HLI.out _).mono ?_
    rintro e w3 ⟨v, rfl, hg3, hb3⟩
    obtain ⟨A', c', rfl, hown⟩ := (hg3.lower B2.out.size).own
    have HOW := hid hown
    have B3 := hid (B2.out.trans (hb3.mono B2.out.size))
    clear hg3 hb3 hown
    go_wp2_with fail
    refine bodyPost_ret (results_tmp2 rfl _ _ _) rfl ?_
    exact ⟨B3.out, A', c', FR, true, rfl, .inl ⟨HD.out, by rw [Int.toNat_natCast]; exact HFR.out.symm, rfl⟩, HOW.out⟩
  · have HNo := hid hp
    have HB := hid hb
    clear hb hp
    have N0 := hid (heap_new0 w1 (.cells zeroJ 101))
    have NB := hid (below_setRow' (HB.out.alloc HB.out.size (.cells zeroJ 101)) HB.out.size zeroJ)
    go_wp2_with (refine wpList_store_row rfl 101 _ _ rfl w1.heap.size zeroJ rfl rfl 101 zeroJ N0.out Try.size_joined rfl zeroJ_one ?_)
    refine bodyPost_ret (results_tmp2 rfl _ _ _) rfl ?_
    exact ⟨NB.out, none, 0, [], false, rfl, .inr ⟨HNo.out, rfl, rfl⟩, .inl ⟨rfl, rfl⟩⟩

end Go.Proofs.Ytonhnmpgikmlpaa

/- Pairings of rows and columns of the specification: l6jOf, l6jMap, JoinFlip, JoinTurn, by their contracts. -/
namespace Go.Proofs.Ytonhnmpgikmlpaa
open Go.RowKit Go.Shelf

/-- Whether the list is a pairing of so many rows and columns, as a bool. -/
noncomputable def pairOfB (n m : Int) (l : List Int) : Bool := @decide (PairOf n m l) (Classical.propDecidable _)
theorem pairOfB_true {n m : Int} {l : List Int} (h : PairOf n m l) : pairOfB n m l = true := by unfold pairOfB; exact @decide_eq_true _ (Classical.propDecidable _) h
theorem pairOfB_false {n m : Int} {l : List Int} (h : ¬ PairOf n m l) : pairOfB n m l = false := by unfold pairOfB; exact @decide_eq_false _ (Classical.propDecidable _) h

set_option maxRecDepth 100000 in
set_option maxHeartbeats 2000000 in
theorem l6jOf_any (n m : Int) (A : Option Addr) (c B : Nat) (l : List Int) (w : World) (h : Ints w B A l) (hn : l.length ≤ 1048576) :
    Calls Try.prog 94 #[.int .i64 n, .int .i64 m, .slice A l.length c] w fun e w' => e = .returned (.bool (pairOfB n m l)) ∧ ∃ d, w' = w.drewN d := by
  have H := hid (fun W (hh : Ints W B A l) => l5In_any A c B l W hh hn)
  have HI := hid h
  have HS := hid (fun x W => l6In_any x 1 5 W)
  have HLP := hid (fun (a b : Nat) W (ha : a ≤ 5) (hb : b ≤ 5) => l2Ports_any a b W ha hb)
  have HPB := hid (fun (h : IsPair l) => isPairB_true h)
  have HPF := hid (fun (h : ¬ IsPair l) => isPairB_false h)
  obtain ⟨len, hlen⟩ : ∃ len, l.length = len := ⟨_, rfl⟩
  have HLEN := hid hlen
  rw [hlen] at H ⊢
  clear h hlen
  by_cases hn1 : 1 ≤ n ∧ n ≤ 5
  · obtain ⟨a, rfl⟩ : ∃ a : Nat, n = (a : Int) := ⟨n.toNat, by omega⟩
    have s1 := hid (show ∀ W, Calls Try.prog 113 #[.int .i64 (a : Int), .int .i64 1, .int .i64 5] W fun e w' => e = .returned (.bool true) ∧ W = w' from fun W => by have := HS.out (a : Int) W; rwa [decide_eq_true hn1] at this)
    by_cases hm1 : 1 ≤ m ∧ m ≤ 5
    · obtain ⟨b, rfl⟩ : ∃ b : Nat, m = (b : Int) := ⟨m.toNat, by omega⟩
      have s2 := hid (show ∀ W, Calls Try.prog 113 #[.int .i64 (b : Int), .int .i64 1, .int .i64 5] W fun e w' => e = .returned (.bool true) ∧ W = w' from fun W => by have := HS.out (b : Int) W; rwa [decide_eq_true hm1] at this)
      have s3 := hid (fun W => HLP.out a b W (by omega) (by omega))
      have HNM := hid (And.intro hn1 hm1)
      clear hn1 hm1
      go_enter Try.func94, Try.ntmps94
      by_cases hl : (len : Int) = 2 * ((a : Int) + (b : Int))
      · have heq : ((len : Int) == 2 * ((a : Int) + (b : Int))) = true := by rw [hl]; simp
        have HL := hid hl
        clear hl
        go_wp2_with fail
        refine (s1.out _).mono ?_
        rintro e w' ⟨rfl, rfl⟩
        go_wp2_with fail
        refine (s2.out _).mono ?_
        rintro e w' ⟨rfl, rfl⟩
        go_wp2_with fail
        refine (s3.out _).mono ?_
        rintro e w' ⟨rfl, rfl⟩
        go_wp2_with fail
        refine (H.out _ HI.out).mono ?_
        rintro e w1 ⟨rfl, d, rfl⟩
        by_cases hp : IsPair l
        · rw [HPB.out hp]
          have HT := hid (pairOfB_true (n := (a : Int)) (m := (b : Int)) (l := l) ⟨HNM.out.1, HNM.out.2, hp, by rw [HLEN.out]; exact HL.out⟩)
          clear hp
          go_wp2_with fail
          go_ret
          exact ⟨by rw [HT.out]; rfl, d, rfl⟩
        · rw [HPF.out hp]
          have HT := hid (pairOfB_false (n := (a : Int)) (m := (b : Int)) (l := l) fun h => hp h.2.2.1)
          clear hp
          go_wp2_with fail
          go_ret
          exact ⟨by rw [HT.out]; rfl, d, rfl⟩
      · have heq : ((len : Int) == 2 * ((a : Int) + (b : Int))) = false := by simpa using hl
        have HT := hid (pairOfB_false (n := (a : Int)) (m := (b : Int)) (l := l) fun h => hl (by rw [← HLEN.out]; exact h.2.2.2))
        clear hl
        go_wp2_with fail
        refine (s1.out _).mono ?_
        rintro e w' ⟨rfl, rfl⟩
        go_wp2_with fail
        refine (s2.out _).mono ?_
        rintro e w' ⟨rfl, rfl⟩
        go_wp2_with fail
        refine (s3.out _).mono ?_
        rintro e w' ⟨rfl, rfl⟩
        go_wp2_with fail
        go_ret
        exact ⟨by rw [HT.out]; rfl, 0, rfl⟩
    · have s2 := hid (show ∀ W, Calls Try.prog 113 #[.int .i64 m, .int .i64 1, .int .i64 5] W fun e w' => e = .returned (.bool false) ∧ W = w' from fun W => by have := HS.out m W; rwa [decide_eq_false hm1] at this)
      have HT := hid (pairOfB_false (n := (a : Int)) (m := m) (l := l) fun h => hm1 h.2.1)
      clear hn1 hm1
      go_enter Try.func94, Try.ntmps94
      go_wp2_with fail
      refine (s1.out _).mono ?_
      rintro e w' ⟨rfl, rfl⟩
      go_wp2_with fail
      refine (s2.out _).mono ?_
      rintro e w' ⟨rfl, rfl⟩
      go_wp2_with fail
      go_ret
      exact ⟨by rw [HT.out]; rfl, 0, rfl⟩
  · have s1 := hid (show ∀ W, Calls Try.prog 113 #[.int .i64 n, .int .i64 1, .int .i64 5] W fun e w' => e = .returned (.bool false) ∧ W = w' from fun W => by have := HS.out n W; rwa [decide_eq_false hn1] at this)
    have HT := hid (pairOfB_false (n := n) (m := m) (l := l) fun h => hn1 h.1)
    clear hn1
    go_enter Try.func94, Try.ntmps94
    go_wp2_with fail
    refine (s1.out _).mono ?_
    rintro e w' ⟨rfl, rfl⟩
    go_wp2_with fail
    go_ret
    exact ⟨by rw [HT.out]; rfl, 0, rfl⟩

/-- The cells that l6jMap has filled after k rounds. -/
def Mapped (N : Nat) (f s : Nat → Nat) (k : Nat) (C : Array Value) : Prop := C.size = N ∧ ∀ q, q < k → C[f q]? = some (Value.int .i64 ((f (s q) : Nat) : Int))
theorem Mapped.step {N k : Nat} {f g s : Nat → Nat} {C : Array Value} (hn : Names N f g) (h : Mapped N f s k C) (hk : k < N) : Mapped N f s (k + 1) (C.setIfInBounds (f k) (.int .i64 ((f (s k) : Nat) : Int))) := by
  refine ⟨by simpa using h.1, fun q hq => ?_⟩
  rw [Array.getElem?_setIfInBounds]
  have hlt := hn.flt k hk
  by_cases e : f k = f q
  · have e2 := congrArg g e
    rw [hn.gf k hk, hn.gf q (by omega)] at e2
    rw [if_pos e, if_pos (by rw [h.1]; exact hlt), e2]
  · rw [if_neg e]
    exact h.2 q (by
      rcases Nat.lt_or_ge q k with h1 | h1
      · exact h1
      · exact absurd (by rw [show q = k by omega]) e)
theorem Mapped.all {N : Nat} {f g s : Nat → Nat} {C : Array Value} (hn : Names N f g) (h : Mapped N f s N C) : ∀ (j : Nat) (x : Int), (listS N (renS f g s))[j]? = some x → C[j]? = some (.int .i64 x) := fun j x hj => by
  have hlt := (List.getElem?_eq_some_iff.1 hj).1
  rw [listS_length] at hlt
  rw [listS_at hlt] at hj
  obtain rfl := Option.some.inj hj
  have := h.2 (g j) (hn.glt j hlt)
  rw [hn.fg j hlt] at this
  exact this

end Go.Proofs.Ytonhnmpgikmlpaa

/- JoinFlip, JoinTurn of the specification, by their contracts. -/
namespace Go.Proofs.Ytonhnmpgikmlpaa
open Go.RowKit Go.Shelf

/-- The first numbers. -/
def numsI (f : Nat → Nat) (k : Nat) : List Int := (List.range k).map fun q => ((f q : Nat) : Int)
theorem numsI_length (f : Nat → Nat) (k : Nat) : (numsI f k).length = k := by simp [numsI]
theorem numsI_at {f : Nat → Nat} {k q : Nat} (h : q < k) : (numsI f k)[q]? = some ((f q : Nat) : Int) := by simp [numsI, h]
theorem numsI_succ (f : Nat → Nat) (k : Nat) : numsI f (k + 1) = numsI f k ++ [((f k : Nat) : Int)] := by simp [numsI, List.range_succ]

/-- Ports with numbers k greater. -/
def spinF (p k i : Nat) : Nat := (i + k) % p
def spinG (p k j : Nat) : Nat := (j + (p - k % p)) % p
end Go.Proofs.Ytonhnmpgikmlpaa

/- Ports that are sewn, of the program: slices.Min, path, end, loose, rounds, by their contracts. -/
namespace Go.Proofs.Ytonhnmpgikmlpaa
open Go.RowKit Go.Shelf

/-- The list that tells to what ports are sewn. -/
def othersL (N : Nat) (t : Nat → Nat) : List Int := (List.range N).map fun i => if t i = i then (-1 : Int) else ((t i : Nat) : Int)
theorem othersL_length (N : Nat) (t : Nat → Nat) : (othersL N t).length = N := by simp [othersL]
theorem othersL_at {N i : Nat} {t : Nat → Nat} (h : i < N) : (othersL N t)[i]? = some (if t i = i then (-1 : Int) else ((t i : Nat) : Int)) := by simp [othersL, h]
/-- The integers are numbers. -/
def natsI (l : List Nat) : List Int := l.map fun x : Nat => (x : Int)
theorem natsI_length (l : List Nat) : (natsI l).length = l.length := by simp [natsI]
/-- The value is a sewing whose lists read so. -/
def SewR (w : World) (B : Nat) (v : Value) (N : Nat) (s t : Nat → Nat) : Prop :=
  ∃ A1 c1 A2 c2, v = .agg #[.slice A1 N c1, .slice A2 N c2] ∧ Ints w B A1 (listS N s) ∧ Ints w B A2 (othersL N t)
theorem SewR.below {w w' : World} {B B' : Nat} {v : Value} {N : Nat} {s t : Nat → Nat} (h : SewR w B v N s t) (hb : Below B' w w') (hB : B ≤ B') : SewR w' B v N s t := by
  obtain ⟨A1, c1, A2, c2, e, h1, h2⟩ := h
  exact ⟨A1, c1, A2, c2, e, h1.below hb hB, h2.below hb hB⟩
theorem SewR.more {w : World} {B B' : Nat} {v : Value} {N : Nat} {s t : Nat → Nat} (h : SewR w B v N s t) (hB : B ≤ B') : SewR w B' v N s t := by
  obtain ⟨A1, c1, A2, c2, e, h1, h2⟩ := h
  exact ⟨A1, c1, A2, c2, e, h1.more hB, h2.more hB⟩

/-- An integer that is least among the first ones. -/
def MinTo (l : List Int) (k : Nat) (x : Int) : Prop := (∃ j, j < k ∧ l[j]? = some x) ∧ ∀ j y, j < k → l[j]? = some y → x ≤ y
theorem MinTo.keep {l : List Int} {k : Nat} {x y : Int} (h : MinTo l k x) (hk : l[k]? = some y) (hxy : x ≤ y) : MinTo l (k + 1) x := by
  obtain ⟨⟨j, hj, e⟩, h2⟩ := h
  refine ⟨⟨j, by omega, e⟩, fun i z hi hz => ?_⟩
  rcases Nat.lt_or_ge i k with h3 | h3
  · exact h2 i z h3 hz
  · obtain rfl : i = k := by omega
    rw [hk] at hz
    obtain rfl := Option.some.inj hz
    exact hxy
theorem MinTo.turn {l : List Int} {k : Nat} {x y : Int} (h : MinTo l k x) (hk : l[k]? = some y) (hxy : y ≤ x) : MinTo l (k + 1) y := by
  obtain ⟨_, h2⟩ := h
  refine ⟨⟨k, by omega, hk⟩, fun i z hi hz => ?_⟩
  rcases Nat.lt_or_ge i k with h3 | h3
  · have := h2 i z h3 hz
    omega
  · obtain rfl : i = k := by omega
    rw [hk] at hz
    obtain rfl := Option.some.inj hz
    exact Int.le_refl _

set_option maxRecDepth 100000 in
set_option maxHeartbeats 2000000 in
theorem min_any (A : Option Addr) (c B : Nat) (l : List Int) (w : World) (h : Ints w B A l) (h0 : 0 < l.length) (hn : l.length ≤ 1000) :
    Calls Try.prog 168 #[.slice A l.length c] w fun e w' => (∃ x : Int, e = .returned (.int .i64 x) ∧ MinTo l l.length x) ∧ w = w' := by
  have HI := hid h
  obtain ⟨b, off, x0, rfl, hb, hx0, hc0⟩ := h.at_ h0
  rw [Nat.add_zero] at hc0
  have HM0 := hid (show MinTo l 1 x0 from ⟨⟨0, by omega, hx0⟩, fun j y hj hy => by
    obtain rfl : j = 0 := by omega
    rw [hx0] at hy
    obtain rfl := Option.some.inj hy
    exact Int.le_refl _⟩)
  obtain ⟨n, hnl⟩ : ∃ n, l.length = n := ⟨_, rfl⟩
  have HNL := hid hnl
  rw [hnl] at h0 hn ⊢
  have hni : ¬ (n : Int) < 1 := by omega
  clear h hx0 hnl hb
  go_enter Try.func168, Try.ntmps168
  go_wp2_with fail
  go_loopw [3, 4] (fun (v iv : Value) (wr : World) => ∃ (k : Nat) (x : Int), 1 ≤ k ∧ k ≤ n ∧ iv = .int .i64 k ∧ v = .int .i64 x ∧ Hid (MinTo l k x) ∧ w = wr) (fun _ i _ => n - (intOf i).toNat)
  case atStart => exact ⟨1, x0, by omega, by omega, rfl, rfl, HM0, rfl⟩
  case round =>
    obtain ⟨k, x, hk1, hk, rfl, rfl, hm, rfl⟩ := hrel
    have HM := hm
    clear hm
    by_cases hlt : k < n
    · obtain ⟨b', off', y, hA, _, hy, hcy⟩ := HI.out.at_ (k := k) (by rw [HNL.out]; exact hlt)
      obtain ⟨rfl, rfl⟩ : b = b' ∧ off = off' := by cases hA; exact ⟨rfl, rfl⟩
      have HY := hid hy
      have hki : (k : Int) < (n : Int) := by omega
      clear hA hy
      by_cases hxy : y < x
      · have hxl : y ≤ x := by omega
        have HT := hid (HM.out.turn HY.out hxl)
        go_wp2_with fail
        go_roundw
        case rel => exact ⟨k + 1, y, by omega, by omega, by go_num, by first | rfl | (congr 1; omega), HT, by first | rfl | trivial⟩
        case measure => simp [intOf]; omega
      · have hxl : x ≤ y := by omega
        have HT := hid (HM.out.keep HY.out hxl)
        go_wp2_with fail
        go_roundw
        case rel => exact ⟨k + 1, x, by omega, by omega, by go_num, by first | rfl | (congr 1; omega), HT, by first | rfl | trivial⟩
        case measure => simp [intOf]; omega
    · obtain rfl : k = n := by omega
      go_wp2_with fail
      go_ret
      exact ⟨⟨x, rfl, HM.out⟩, rfl⟩

theorem Try.size_sewing : (Try.prog.info? 165).map (·.size) = some 2 := by kernel_rfl
theorem sew_one (v1 v2 : Value) (h1 : v1.oneCell' = true) (h2 : v2.oneCell' = true) : (#[v1, v2] : Array Value).all (·.oneCell') = true := by
  rw [Array.all_eq_true_iff_forall_mem]
  intro u hu
  simp at hu
  rcases hu with rfl | rfl
  · exact h1
  · exact h2
theorem natsI_two (p : Nat) (s t : Nat → Nat) (k : Nat) : natsI (pathTo s t p (k + 1)) = natsI (pathTo s t p k) ++ [((goN s t k p : Nat) : Int), ((s (goN s t k p) : Nat) : Int)] := by
  unfold natsI pathTo
  rw [List.range_succ, List.flatMap_append, List.map_append]
  rfl
theorem pathTo_length (p : Nat) (s t : Nat → Nat) : ∀ k, (pathTo s t p k).length = 2 * k
  | 0 => rfl
  | k + 1 => by
    have ih := pathTo_length p s t k
    unfold pathTo at ih ⊢
    rw [List.range_succ, List.flatMap_append, List.length_append, ih]
    simp
    omega
section
variable {ops : Array Oper} {rest : List Oper} {o : Oper} {a : Act} {w : World} {Q : Exit → Act → World → Prop}
/-- Two integers appended. -/
theorem wpList_appendI2 (hgd : o.guard = none) (s x : Operand) (ho : o.op = .call { callee := .builtin .append, args := #[s, x], argTypes := #[32, 32] })
    (base : Nat) (v : Value) (l : List Int) (hs : a.eval s = v) (hown : GrowI w base v l) (h c : Nat) (hx : a.eval x = .slice (some ⟨h, 0, none⟩) 2 c) (b1 b2 : Int) (hc1 : w.cell? ⟨h, 0, none⟩ = some (.int .i64 b1)) (hc2 : w.cell? ⟨h, 1, none⟩ = some (.int .i64 b2))
    (hl : l.length ≤ 1000000) (hbase : base ≤ w.heap.size)
    (hk : ∀ v' w', GrowI w' base v' (l ++ [b1, b2]) → w.grownBy w' v.ownBlock → (v'.ownBlock = v.ownBlock ∨ v'.ownBlock = some w.heap.size) → wpList Try.prog ops Q rest (a.put o.dst v') w') : wpList Try.prog ops Q (o :: rest) a w := by
  obtain ⟨i0, hi, hz0, hz1, hz2⟩ := info_parts Try.info_int
  refine wpList_append_own_at w hgd s x 32 ho base 3 i0 (.int .i64 0) 1 8 Try.underlying32 hi hz0 hz1 hz2 rfl (by decide) v l.length (intsV l) hs hown ⟨h, 0, none⟩ 2 c [.int .i64 b1, .int .i64 b2] hx rfl ?_ ?_ (by unfold maxLen; omega) (by omega) hbase ?_
  · intro j u hj
    match j, hj with
    | 0, hj => simp at hj; subst hj; simpa [Addr.add] using hc1
    | 1, hj => simp at hj; subst hj; simpa [Addr.add] using hc2
    | j + 2, hj => simp at hj
  · intro u hu; simp at hu; rcases hu with rfl | rfl <;> rfl
  · intro v' w' h1 h2 _ h4
    refine hk v' w' ?_ h2 h4
    unfold GrowI intsV
    rw [List.length_append, List.map_append]
    exact h1
end

/-- A block of another type outlives the growth of a slice of integers. -/
theorem grownI_heap {base b : Nat} {W W' : World} {v : Value} {l : List Int} {cs : Array Value} {t : TypeId} (hrow : GrowI W base v l) (hg : W.grownBy W' v.ownBlock) (hb : W.heap[b]? = some (.cells cs t (0, 0))) (ht : t ≠ 3) : W'.heap[b]? = some (.cells cs t (0, 0)) := by
  refine (hg.block b (lt_of_block hb) ?_).trans hb
  rcases hrow.2 with ⟨rfl, _⟩ | ⟨g', cap, cur, rfl, _, hgb, _⟩
  · simp [Value.ownBlock]
  · intro e'
    have : b = g' := by simpa [Value.ownBlock] using e'
    subst this
    rw [hb] at hgb
    cases hgb
    exact ht rfl
set_option maxRecDepth 100000 in
set_option maxHeartbeats 4000000 in
theorem path_any (v : Value) (B N p : Nat) (s t : Nat → Nat) (w : World) (hsw : Sewn N s t) (h : SewR w B v N s t) (hB : B ≤ w.heap.size) (hN : N ≤ 40) (hp : p < N) :
    Calls Try.prog 167 #[v, .int .i64 (p : Int)] w fun e w' => (∃ v', e = .returned (.tuple #[v', .bool (onS N s t p)]) ∧ GrowI w' w.heap.size v' (natsI (pathTo s t p (plen N s t p)))) ∧ Below w.heap.size w w' := by
  obtain ⟨A1, c1, A2, c2, rfl, hi1, hi2⟩ := h
  have HI1 := hid hi1
  have HI2 := hid hi2
  have HBW := hid hB
  have HSW := hid hsw
  obtain ⟨hL1, hL2, hL3, hL4⟩ := plen_facts hsw hp
  have HL3 := hid hL3
  have HL4 := hid hL4
  have HON := hid (show onS N s t p = (t (pend N s t p) != pend N s t p) from rfl)
  have HPE := hid (show pend N s t p = s (goN s t (plen N s t p - 1) p) from rfl)
  generalize onS N s t p = ob at *
  generalize pend N s t p = pe at *
  generalize plen N s t p = L at *
  have HPN := hid hp
  have HTW := hid (fun k => natsI_two p s t k)
  have HLN := hid (fun k => (natsI_length (pathTo s t p k)).trans (pathTo_length p s t k))
  have HP0 := hid (show natsI (pathTo s t p 0) = [] from rfl)
  generalize hPT : (fun k => natsI (pathTo s t p k)) = PT at *
  have HPT := hid (fun k => congrFun hPT k)
  clear hPT hi1 hi2 hB hsw hL3 hL4
  have HS0 := hid (heap_new1 w (.cells #[.slice A1 N c1, .slice A2 N c2] 165) (.cells #[] 3))
  have HG0 := hid (growI_new (w.alloc (.cells #[.slice A1 N c1, .slice A2 N c2] 165)) w.heap.size (by simp))
  have HB0 := hid (((Below.refl w.heap.size w).alloc (Nat.le_refl _) (.cells #[.slice A1 N c1, .slice A2 N c2] 165)).alloc (by simp) (.cells #[] 3))
  go_enter Try.func167, Try.ntmps167
  go_wp2_with fail
  rw [World.size_alloc] at HG0
  generalize World.alloc (World.alloc w _) _ = Y at HS0 HG0 HB0 ⊢
  go_loopg [6, 7] 41 (fun (f : Nat) (v iv : Value) (wr : World) => ∃ (k x : Nat), f + k = 41 ∧ k < L ∧ Hid (x = goN s t k p) ∧ iv = .int .i64 x ∧ GrowI wr w.heap.size v (PT k) ∧ wr.heap[w.heap.size]? = some (.cells #[.slice A1 N c1, .slice A2 N c2] 165 (0, 0)) ∧ Below w.heap.size w wr)
  case atStart => exact ⟨0, p, by omega, by omega, hid rfl, rfl, by rw [← HPT.out, HP0.out]; exact HG0.out, HS0.out, HB0.out⟩
  case round =>
    obtain ⟨k, x, hf, hk, hx, rfl, hg, hs0, hb⟩ := hrel
    have HX := hx
    have HG := hid hg
    have HSR := hid hs0
    have HB := hid hb
    clear hx hg hs0 hb
    have hxN : x < N := by rw [HX.out]; exact goN_lt HSW.out HPN.out k
    have hyN : s x < N := HSW.out.slt x hxN
    obtain ⟨y, hy⟩ : ∃ y, s x = y := ⟨_, rfl⟩
    have HY := hid hy
    rw [hy] at hyN
    have hzN : t y < N := HSW.out.tlt y hyN
    obtain ⟨z, hz⟩ : ∃ z, t y = z := ⟨_, rfl⟩
    have HZ := hid hz
    rw [hz] at hzN
    obtain ⟨b1, o1, x1, rfl, hb1, hx1, hcx1⟩ := (HI1.out.below HB.out HBW.out).at_ (k := x) (by rw [listS_length]; exact hxN)
    rw [listS_at hxN, hy] at hx1
    obtain rfl := Option.some.inj hx1
    have hcs1 : wr.cell? ⟨w.heap.size, 0, none⟩ = some (.slice (some ⟨b1, o1, none⟩) N c1) := by rw [cell_of_row _ _ _ _ _ _ HSR.out]; rfl
    have hxi : (x : Int) < (N : Int) := by omega
    clear hb1 hx1 hy hz
    go_wp2_with (at_builtin; refine wpList_appendI2 rfl _ _ rfl w.heap.size u6 (PT k) rfl (World.ownsRow.alloc HG.out _) _ 2 rfl (x : Int) (y : Int) ?c1 ?c2 ?c3 (Nat.le_trans HB.out.size (by simp)) ?_)
    case c1 => rw [cell_of_row _ _ _ _ _ _ (heap_new0 wr _)]; rfl
    case c2 => rw [cell_of_row _ _ _ _ _ _ (heap_new0 wr _)]; rfl
    case c3 => have h1 := HLN.out k; rw [HPT.out k] at h1; omega
    intro v3 w3 hgr3 hgw3 _
    have HS3 := hid (grownI_heap (World.ownsRow.alloc HG.out _) hgw3 ((Below.heap_alloc _ _ _ (lt_of_block HSR.out)).trans HSR.out) (by decide))
    have HB3 := hid ((HB.out.alloc HB.out.size _).grown hgw3 (Nat.le_trans HB.out.size (by simp)) (fun k e => (World.ownsRow.lt HG.out k e).1))
    have HG3 := hid (show GrowI w3 w.heap.size v3 (PT (k + 1)) by rw [← HPT.out, HTW.out, ← HX.out, HY.out, HPT.out]; exact hgr3)
    clear hgr3 hgw3 hcs1 hcx1
    obtain ⟨b2, o2, x2, rfl, hb2, hx2, hcx2⟩ := (HI2.out.below HB3.out HBW.out).at_ (k := y) (by rw [othersL_length]; exact hyN)
    rw [othersL_at hyN, HZ.out] at hx2
    obtain rfl := Option.some.inj hx2
    have hcs2 : w3.cell? ⟨w.heap.size, 1, none⟩ = some (.slice (some ⟨b2, o2, none⟩) N c2) := by rw [cell_of_row _ _ _ _ _ _ HS3.out]; rfl
    have hyi : (y : Int) < (N : Int) := by omega
    clear hb2 hx2
    have HGN := hid (show goN s t (k + 1) p = z by
      show t (s (goN s t k p)) = z
      rw [← HX.out, HY.out, HZ.out])
    have hlast : (z = y ∨ z = p) → L = k + 1 := fun h => by
      rcases Nat.lt_or_ge (k + 1) L with h1 | h1
      · have h2 := HL4.out k h1
        rw [← HX.out, HY.out, HZ.out, HGN.out] at h2
        rcases h with h | h
        · exact absurd h h2.1
        · exact absurd h h2.2
      · omega
    have hgo : ¬ (z = y ∨ z = p) → k + 1 < L := fun h => by
      rcases Nat.lt_or_ge (k + 1) L with h1 | h1
      · exact h1
      · exfalso
        obtain rfl : L = k + 1 := by omega
        rw [HPE.out, Nat.add_sub_cancel, ← HX.out, HY.out, HZ.out, HGN.out] at HL3
        exact h HL3.out
    have hob : L = k + 1 → ob = (z != y) := fun h => by rw [HON.out, HPE.out, h, Nat.add_sub_cancel, ← HX.out, HY.out, HZ.out]
    have HLAST := hid hlast
    have HGO := hid hgo
    have HOB := hid hob
    clear hlast hgo hob
    by_cases hl : z = y
    · rw [if_pos hl] at hcx2
      have HK := hid (HLAST.out (.inl hl))
      have HO := hid (show ob = false by rw [HOB.out HK.out, hl]; simp)
      have hne : ((-1 : Int) == (p : Int)) = false := by simp
      clear hl
      go_wp2_with fail
      refine bodyPost_ret (results_tmp2 rfl _ _ _) rfl ?_
      exact ⟨⟨v3, by rw [HO.out]; rfl, by rw [HK.out, HPT.out]; exact HG3.out⟩, HB3.out⟩
    · rw [if_neg hl] at hcx2
      have hz1 : ((z : Int) == -1) = false := by simp
      by_cases hzp : z = p
      · have HK := hid (HLAST.out (.inr hzp))
        have HO := hid (show ob = true by rw [HOB.out HK.out]; simpa using hl)
        have hne : ((z : Int) == (p : Int)) = true := by rw [hzp]; simp
        clear hl hzp
        go_wp2_with fail
        refine bodyPost_ret (results_tmp2 rfl _ _ _) rfl ?_
        exact ⟨⟨v3, by rw [HO.out]; rfl, by rw [HK.out, HPT.out]; exact HG3.out⟩, HB3.out⟩
      · have HK := hid (HGO.out (fun h => h.elim hl hzp))
        have hne : ((z : Int) == (p : Int)) = false := by rw [beq_eq_false_iff_ne]; intro e; exact hzp (by omega)
        have HGN2 := hid (show z = goN s t (k + 1) p from HGN.out.symm)
        have HLL := hid hL2
        clear hl hzp
        go_wp2_with fail
        go_roundg (gk - 1)
        case measure => have := HK.out; have := HLL.out; omega
        case rel => exact ⟨k + 1, z, by have := HK.out; have := HLL.out; omega, HK.out, HGN2, rfl, HG3.out, HS3.out, HB3.out⟩
end Go.Proofs.Ytonhnmpgikmlpaa

/- Sewing of the program: end, rounds, loose, sew, by their contracts. -/
namespace Go.Proofs.Ytonhnmpgikmlpaa
open Go.RowKit Go.Shelf

theorem natsI_at {l : List Nat} {k x : Nat} (h : l[k]? = some x) : (natsI l)[k]? = some (x : Int) := by simp [natsI, h]
theorem pathTo_last (p : Nat) (s t : Nat → Nat) (k : Nat) : (pathTo s t p (k + 1))[2 * k + 1]? = some (s (goN s t k p)) := by
  have hl := pathTo_length p s t k
  unfold pathTo at hl ⊢
  rw [List.range_succ, List.flatMap_append, List.getElem?_append_right (by omega), hl, show 2 * k + 1 - 2 * k = 1 by omega]
  rfl

set_option maxRecDepth 100000 in
set_option maxHeartbeats 4000000 in
theorem end_any (v : Value) (B N p : Nat) (s t : Nat → Nat) (w : World) (hsw : Sewn N s t) (h : SewR w B v N s t) (hB : B ≤ w.heap.size) (hN : N ≤ 40) (hp : p < N) :
    Calls Try.prog 171 #[v, .int .i64 (p : Int)] w fun e w' => e = .returned (.int .i64 ((pend N s t p : Nat) : Int)) ∧ Below w.heap.size w w' := by
  have HPA := hid (fun W (hb : Below w.heap.size w W) => path_any v B N p s t W hsw (h.below hb hB) (Nat.le_trans hB hb.size) hN hp)
  obtain ⟨hL1, hL2, _, _⟩ := plen_facts hsw hp
  have HPE := hid (show pend N s t p = s (goN s t (plen N s t p - 1) p) from rfl)
  obtain ⟨L, hL⟩ : ∃ L, plen N s t p = L + 1 := ⟨plen N s t p - 1, by omega⟩
  rw [hL] at HPA HPE hL2
  rw [Nat.add_sub_cancel] at HPE
  have HLA := hid (natsI_at (pathTo_last p s t L))
  rw [← HPE.out] at HLA
  have HLN := hid ((natsI_length (pathTo s t p (L + 1))).trans (pathTo_length p s t (L + 1)))
  generalize pend N s t p = pe at *
  generalize natsI (pathTo s t p (L + 1)) = PT at *
  generalize onS N s t p = ob at *
  obtain ⟨A1, c1, A2, c2, rfl, _, _⟩ := h
  have hL20 : L + 1 ≤ 40 := by omega
  have H0 := hid (heap_new0 w (.cells #[.slice A1 N c1, .slice A2 N c2] 165))
  have HB := hid ((Below.refl w.heap.size w).alloc (Nat.le_refl _) (.cells #[.slice A1 N c1, .slice A2 N c2] 165))
  clear hsw hL hL1 hL2 hN hB
  go_enter Try.func171, Try.ntmps171
  go_wp2_with (refine wpList_load_row rfl 165 _ rfl w.heap.size rfl 165 #[.slice A1 N c1, .slice A2 N c2] (0, 0) _ H0.out Try.underlying165 rfl Try.size_sewing ?_)
  generalize World.alloc w _ = Y at H0 HB ⊢
  refine (HPA.out _ HB.out).mono ?_
  rintro e w1 ⟨⟨v', rfl, hg⟩, hb⟩
  obtain ⟨A, c, rfl, hints⟩ := hg.ints
  have HB1 := hid (HB.out.trans (hb.mono HB.out.size))
  obtain ⟨b, off, x, rfl, _, hx, hcx⟩ := hints.at_ (k := 2 * L + 1) (by rw [HLN.out]; omega)
  rw [HLA.out] at hx
  obtain rfl := Option.some.inj hx
  rw [HLN.out]
  obtain ⟨K, hK⟩ : ∃ K, 2 * (L + 1) = K := ⟨_, rfl⟩
  have hK1 : 2 * L + 1 = K - 1 := by omega
  rw [hK1] at hcx
  rw [hK]
  have hKi : 2 ≤ (K : Int) := by omega
  have hKi2 : (K : Int) ≤ 80 := by omega
  have hKs : (K : Int) - 1 = ((K - 1 : Nat) : Int) := by omega
  have hKl : K - 1 < K := by omega
  clear hg hb hints hx hK hK1
  go_wp2_with fail
  go_ret
  exact ⟨rfl, HB1.out⟩

/-- The numbers from a on, of so many, that are loose. -/
def looseL (t : Nat → Nat) (a k : Nat) : List Nat := ((List.range k).map fun i => a + i).filter fun i => t i == i
theorem looseL_yes {t : Nat → Nat} {a k : Nat} (h : t (a + k) = a + k) : looseL t a (k + 1) = looseL t a k ++ [a + k] := by
  unfold looseL
  rw [List.range_succ, List.map_append, List.filter_append]
  simp [h]
theorem looseL_no {t : Nat → Nat} {a k : Nat} (h : t (a + k) ≠ a + k) : looseL t a (k + 1) = looseL t a k := by
  unfold looseL
  rw [List.range_succ, List.map_append, List.filter_append]
  simp [h]
theorem looseL_le (t : Nat → Nat) (a k : Nat) : (looseL t a k).length ≤ k := by
  have := List.length_filter_le (fun i => t i == i) ((List.range k).map fun i => a + i)
  rw [List.length_map, List.length_range] at this
  exact this

set_option maxRecDepth 100000 in
set_option maxHeartbeats 4000000 in
theorem loose_any (v : Value) (B N a d : Nat) (s t : Nat → Nat) (w : World) (h : SewR w B v N s t) (hB : B ≤ w.heap.size) (hN : N ≤ 40) (hd : a + d ≤ N) :
    Calls Try.prog 170 #[v, .int .i64 (a : Int), .int .i64 ((a + d : Nat) : Int)] w fun e w' => (∃ v', e = .returned v' ∧ GrowI w' w.heap.size v' (natsI (looseL t a d))) ∧ Below w.heap.size w w' := by
  obtain ⟨A1, c1, A2, c2, rfl, _, hi2⟩ := h
  have HI2 := hid hi2
  have HBW := hid hB
  obtain ⟨D, hD⟩ : ∃ D, a + d = D := ⟨_, rfl⟩
  have HD := hid hD
  have hDN : D ≤ N := by omega
  rw [hD]
  clear hi2 hB hd
  have HS0 := hid (heap_new1 w (.cells #[.slice A1 N c1, .slice A2 N c2] 165) (.cells #[] 3))
  have HG0 := hid (growI_new (w.alloc (.cells #[.slice A1 N c1, .slice A2 N c2] 165)) w.heap.size (by simp))
  have HB0 := hid (((Below.refl w.heap.size w).alloc (Nat.le_refl _) (.cells #[.slice A1 N c1, .slice A2 N c2] 165)).alloc (by simp) (.cells #[] 3))
  rw [World.size_alloc] at HG0
  go_enter Try.func170, Try.ntmps170
  go_wp2_with fail
  generalize World.alloc (World.alloc w _) _ = Y at HS0 HG0 HB0 ⊢
  go_loopw [7, 8] (fun (v iv : Value) (wr : World) => ∃ i k : Nat, k ≤ d ∧ Hid (a + k = i) ∧ iv = .int .i64 i ∧ GrowI wr w.heap.size v (natsI (looseL t a k)) ∧ wr.heap[w.heap.size]? = some (.cells #[.slice A1 N c1, .slice A2 N c2] 165 (0, 0)) ∧ Below w.heap.size w wr) (fun _ i _ => D - (intOf i).toNat)
  case atStart => exact ⟨a, 0, by omega, hid rfl, rfl, HG0.out, HS0.out, HB0.out⟩
  case round =>
    obtain ⟨i, k, hk, hik, rfl, hg, hs0, hb⟩ := hrel
    have HIK := hik
    have HG := hid hg
    have HSR := hid hs0
    have HB := hid hb
    have hiD : i ≤ D := by have := HIK.out; have := HD.out; omega
    clear hik hg hs0 hb
    by_cases hlt : i < D
    · have hkd : k < d := by have := HIK.out; have := HD.out; omega
      obtain ⟨b2, o2, x2, rfl, hb2, hx2, hcx2⟩ := (HI2.out.below HB.out HBW.out).at_ (k := i) (by rw [othersL_length]; omega)
      rw [othersL_at (by omega)] at hx2
      obtain rfl := Option.some.inj hx2
      have hcs2 : wr.cell? ⟨w.heap.size, 1, none⟩ = some (.slice (some ⟨b2, o2, none⟩) N c2) := by rw [cell_of_row _ _ _ _ _ _ HSR.out]; rfl
      have hiN : (i : Int) < (N : Int) := by omega
      have hiDi : (i : Int) < (D : Int) := by omega
      clear hb2 hx2
      by_cases hl : t i = i
      · rw [if_pos hl] at hcx2
        have HLY := hid (show natsI (looseL t a (k + 1)) = natsI (looseL t a k) ++ [(i : Int)] by
          rw [looseL_yes (by rw [HIK.out]; exact hl), HIK.out]
          unfold natsI
          rw [List.map_append]
          rfl)
        have HLE := hid (show (natsI (looseL t a k)).length ≤ 40 by rw [natsI_length]; have := looseL_le t a k; have := HIK.out; omega)
        clear hl
        go_wp2_with (at_builtin; refine wpList_appendI rfl _ _ rfl w.heap.size u7 (natsI (looseL t a k)) rfl (World.ownsRow.alloc HG.out _) _ 1 rfl (i : Int) (cell_newI _ _) ?c3 (Nat.le_trans HB.out.size (by simp)) ?_)
        case c3 => have := HLE.out; omega
        intro v3 w3 hgr3 hgw3 _
        have HS3 := hid (grownI_heap (World.ownsRow.alloc HG.out _) hgw3 ((Below.heap_alloc _ _ _ (lt_of_block HSR.out)).trans HSR.out) (by decide))
        have HB3 := hid ((HB.out.alloc HB.out.size _).grown hgw3 (Nat.le_trans HB.out.size (by simp)) (fun k e => (World.ownsRow.lt HG.out k e).1))
        have HG3 := hid (show GrowI w3 w.heap.size v3 (natsI (looseL t a (k + 1))) by rw [HLY.out]; exact hgr3)
        clear hgr3 hgw3 hcs2 hcx2
        go_wp2_with fail
        go_roundw
        case rel => exact ⟨i + 1, k + 1, by omega, hid (by have := HIK.out; omega), by go_num, HG3.out, HS3.out, HB3.out⟩
        case measure => simp [intOf]; omega
      · rw [if_neg hl] at hcx2
        have HLN := hid (show natsI (looseL t a (k + 1)) = natsI (looseL t a k) by rw [looseL_no (by rw [HIK.out]; exact hl)])
        have hne : (((t i : Nat) : Int) == -1) = false := by simp
        generalize t i = ti at *
        clear hl
        go_wp2_with fail
        go_roundw
        case rel => exact ⟨i + 1, k + 1, by omega, hid (by have := HIK.out; omega), by go_num, by rw [HLN.out]; exact HG.out, HSR.out, HB.out⟩
        case measure => simp [intOf]; omega
    · obtain rfl : i = D := by omega
      have HK := hid (show k = d by have := HIK.out; have := HD.out; omega)
      go_wp2_with fail
      go_ret
      exact ⟨⟨_, rfl, by rw [← HK.out]; exact HG.out⟩, HB.out⟩

set_option maxRecDepth 100000 in
set_option maxHeartbeats 4000000 in
theorem sewRounds_any (v : Value) (B N : Nat) (s t : Nat → Nat) (w : World) (hsw : Sewn N s t) (h : SewR w B v N s t) (hB : B ≤ w.heap.size) (hN : N ≤ 40) :
    Calls Try.prog 148 #[v] w fun e w' => e = .returned (.int .i64 ((roundsTo N s t N : Nat) : Int)) ∧ Below w.heap.size w w' := by
  have HPA := hid (fun p W (hp : p < N) (hb : Below w.heap.size w W) => path_any v B N p s t W hsw (h.below hb hB) (Nat.le_trans hB hb.size) hN hp)
  have HL1 := hid (fun p (hp : p < N) => (plen_facts hsw hp).1)
  have HL2 := hid (fun p (hp : p < N) => (plen_facts hsw hp).2.1)
  have HLI := hid (fun p (hp : p < N) => leadS_iff hsw hp)
  have HPR := hid (fun p q (hp : p < N) (ho : onS N s t p = true) => path_ring (q := q) hsw hp ho)
  have HYES := hid (fun x (hx : leadS N s t x = true) => roundsTo_yes hx)
  have HNO := hid (fun x (hx : leadS N s t x = false) => roundsTo_no hx)
  have HLE := hid (roundsTo_le (N := N) (s := s) (t := t))
  have HZ := hid (roundsTo_zero (N := N) (s := s) (t := t))
  obtain ⟨A1, c1, A2, c2, rfl, _, _⟩ := h
  have H0 := hid (heap_new0 w (.cells #[.slice A1 N c1, .slice A2 N c2] 165))
  have HB := hid ((Below.refl w.heap.size w).alloc (Nat.le_refl _) (.cells #[.slice A1 N c1, .slice A2 N c2] 165))
  have hc0 : (w.alloc (.cells #[.slice A1 N c1, .slice A2 N c2] 165)).cell? ⟨w.heap.size, 0, none⟩ = some (.slice A1 N c1) := by rw [cell_of_row _ _ _ _ _ _ H0.out]; rfl
  generalize roundsTo N s t = RT at *
  clear hsw hB
  go_enter Try.func148, Try.ntmps148
  go_wp2_with fail
  clear hc0
  generalize World.alloc w _ = Y at H0 HB ⊢
  go_loopw [3, 10] (fun (v iv : Value) (wr : World) => ∃ k : Nat, k ≤ N ∧ iv = .int .i64 k ∧ v = .int .i64 ((RT k : Nat) : Int) ∧ wr.heap[w.heap.size]? = some (.cells #[.slice A1 N c1, .slice A2 N c2] 165 (0, 0)) ∧ Below w.heap.size w wr) (fun _ i _ => N - (intOf i).toNat)
  case atStart => exact ⟨0, by omega, rfl, by rw [HZ.out]; rfl, H0.out, HB.out⟩
  case round =>
    obtain ⟨k, hk, rfl, rfl, hs0, hb⟩ := hrel
    have HSR := hid hs0
    have HBr := hid hb
    clear hs0 hb
    by_cases hlt : k < N
    · have hki : (k : Int) < (N : Int) := by omega
      obtain ⟨rk, hrk⟩ : ∃ rk, RT k = rk := ⟨_, rfl⟩
      have HRK := hid hrk
      have hrk40 : (rk : Int) ≤ 40 := by have := HLE.out k; omega
      rw [hrk]
      clear hrk
      go_wp2_with (refine wpList_load_row rfl 165 _ rfl w.heap.size rfl 165 #[.slice A1 N c1, .slice A2 N c2] (0, 0) _ HSR.out Try.underlying165 rfl Try.size_sewing ?_)
      refine (HPA.out k _ hlt HBr.out).mono ?_
      rintro e w1 ⟨⟨v', rfl, hg⟩, hb⟩
      obtain ⟨A, c, rfl, hints⟩ := hg.ints
      have HINT := hid hints
      have HS1 := hid ((hb.block _ (lt_of_block HSR.out)).trans HSR.out)
      have HB1 := hid (HBr.out.trans (hb.mono HBr.out.size))
      have HLK := hid ((natsI_length (pathTo s t k (plen N s t k))).trans (pathTo_length k s t (plen N s t k)))
      clear hg hb hints
      cases hon : onS N s t k with
      | false =>
        have HNOK := hid (HNO.out k (by unfold leadS; rw [hon]; rfl))
        clear hon
        go_wp2_with fail
        go_roundw
        case rel => exact ⟨k + 1, by omega, by go_num, by rw [HNOK.out, HRK.out], HS1.out, HB1.out⟩
        case measure => simp [intOf]; omega
      | true =>
        have HON := hid hon
        have HMI := hid (fun W (hb : Below w1.heap.size w1 W) => min_any A c w1.heap.size (natsI (pathTo s t k (plen N s t k))) W (HINT.out.below hb (Nat.le_refl _)) (by rw [HLK.out]; have := HL1.out k hlt; omega) (by rw [HLK.out]; have := HL2.out k hlt; omega))
        have HMEM := hid (show ∀ x : Int, MinTo (natsI (pathTo s t k (plen N s t k))) (natsI (pathTo s t k (plen N s t k))).length x → (leadS N s t k = true ↔ x = (k : Int)) from fun x ⟨⟨j, hj, hjx⟩, hall⟩ => by
          have mem : ∀ q, ringS s t k q → x ≤ (q : Int) := fun q hq => by
            obtain ⟨i, hi⟩ := List.getElem?_of_mem ((HPR.out k q hlt HON.out).2 hq)
            have h1 := natsI_at hi
            exact hall i _ (List.getElem?_eq_some_iff.1 h1).1 h1
          have xin : ∃ q : Nat, x = (q : Int) ∧ ringS s t k q := by
            unfold natsI at hjx
            rw [List.getElem?_map] at hjx
            cases hq : (pathTo s t k (plen N s t k))[j]? with
            | none => rw [hq] at hjx; cases hjx
            | some q =>
              rw [hq] at hjx
              exact ⟨q, (Option.some.inj hjx).symm, (HPR.out k q hlt HON.out).1 (List.mem_of_getElem? hq)⟩
          obtain ⟨q, rfl, hq⟩ := xin
          rw [HLI.out k hlt]
          constructor
          · rintro ⟨_, h2⟩
            have h3 := h2 q hq
            have h4 := mem k (ring_refl k)
            omega
          · intro e
            refine ⟨HON.out, fun z hz => ?_⟩
            have := mem z hz
            omega)
        generalize (natsI (pathTo s t k (plen N s t k))).length = PL at *
        clear hon
        go_wp2_with fail
        refine (HMI.out _ (Below.refl _ _)).mono ?_
        rintro e w2 ⟨⟨x, rfl, hx⟩, rfl⟩
        have HX := hid (HMEM.out x hx)
        clear hx
        by_cases hxk : x = (k : Int)
        · have HY := hid (HYES.out k (HX.out.2 hxk))
          have hxb : (x == (k : Int)) = true := by simpa using hxk
          clear hxk
          go_wp2_with fail
          go_roundw
          case rel => exact ⟨k + 1, by omega, by go_num, by rw [HY.out, HRK.out]; go_num, HS1.out, HB1.out⟩
          case measure => simp [intOf]; omega
        · have HNK := hid (HNO.out k (by rw [Bool.eq_false_iff]; exact fun h => hxk (HX.out.1 h)))
          have hxb : (x == (k : Int)) = false := by simpa using hxk
          clear hxk
          go_wp2_with fail
          go_roundw
          case rel => exact ⟨k + 1, by omega, by go_num, by rw [HNK.out, HRK.out], HS1.out, HB1.out⟩
          case measure => simp [intOf]; omega
    · obtain rfl : k = N := by omega
      go_wp2_with fail
      go_ret
      exact ⟨rfl, HBr.out⟩
end Go.Proofs.Ytonhnmpgikmlpaa

/- Sewings made: newSewing of the program, by its contract. -/
namespace Go.Proofs.Ytonhnmpgikmlpaa
open Go.RowKit Go.Shelf

/-- The ports of the first pairings, those of each numbered on. -/
def catI (ls : List (List Int)) : Nat → List Int
  | 0 => []
  | i + 1 => catI ls i ++ (ls.getD i []).map fun x => ((catI ls i).length : Int) + x
/-- A value of a slice of integers of the call's own has one cell. -/
theorem GrowI.one {w : World} {base : Nat} {v : Value} {l : List Int} (h : GrowI w base v l) : v.oneCell' = true := by
  rcases h.2 with ⟨rfl, _⟩ | ⟨g, cap, cur, rfl, _⟩ <;> rfl
theorem grownBy_cell (w : World) (p : Addr) (v : Value) : w.grownBy (w.setCell p v) (some p.block) :=
  ⟨rfl, rfl, rfl, by simp, fun k _ hk => Below.heap_setCell _ _ _ _ (fun e => hk (by rw [e]))⟩
theorem GrowI.setCell {w : World} {base g k : Nat} {v u : Value} {l : List Int} {cs : Array Value} {t : TypeId} (h : GrowI w base v l) (hg : w.heap[g]? = some (.cells cs t (0, 0))) (ht : t ≠ 3) : GrowI (w.setCell ⟨g, k, none⟩ u) base v l := by
  refine World.ownsRow.kept h (grownBy_cell w ⟨g, k, none⟩ u) ?_
  rcases h.2 with ⟨rfl, _⟩ | ⟨g', cap, cur, rfl, _, hgb, _⟩
  · exact .inl rfl
  · refine .inr fun e => ?_
    have e' : g' = g := by simpa [Value.ownBlock] using e
    subst e'
    rw [hg] at hgb
    cases hgb
    exact ht rfl
/-- Block g holds a sewing whose lists grow, each in a block of its own, neither in block x. -/
def SewG (w : World) (base g x : Nat) (l1 l2 : List Int) : Prop :=
  ∃ A1 c1 A2 c2, w.heap[g]? = some (.cells #[.slice A1 l1.length c1, .slice A2 l2.length c2] 165 (0, 0)) ∧ GrowI w base (.slice A1 l1.length c1) l1 ∧ GrowI w base (.slice A2 l2.length c2) l2 ∧
    (∀ b, (Value.slice A1 l1.length c1).ownBlock = some b → (Value.slice A2 l2.length c2).ownBlock ≠ some b) ∧ (Value.slice A1 l1.length c1).ownBlock ≠ some x ∧ (Value.slice A2 l2.length c2).ownBlock ≠ some x
theorem SewG.below {w w' : World} {base g x : Nat} {l1 l2 : List Int} (h : SewG w base g x l1 l2) (hb : Below w.heap.size w w') : SewG w' base g x l1 l2 := by
  obtain ⟨A1, c1, A2, c2, h1, h2, h3, h4⟩ := h
  exact ⟨A1, c1, A2, c2, (hb.block _ (lt_of_block h1)).trans h1, h2.belowC hb, h3.belowC hb, h4⟩
theorem SewG.lt {w : World} {base g x : Nat} {l1 l2 : List Int} (h : SewG w base g x l1 l2) : g < w.heap.size := by
  obtain ⟨A1, c1, A2, c2, h1, _⟩ := h
  exact lt_of_block h1
theorem GrowI.notBlock {w : World} {base x : Nat} {v : Value} {l : List Int} {cs : Array Value} {t : TypeId} (h : GrowI w base v l) (hx : w.heap[x]? = some (.cells cs t (0, 0))) (ht : t ≠ 3) : v.ownBlock ≠ some x := by
  rcases h.2 with ⟨rfl, _⟩ | ⟨g', cap, cur, rfl, _, hgb, _⟩
  · intro e; cases e
  · intro e
    have e' : g' = x := by simpa [Value.ownBlock] using e
    subst e'
    rw [hx] at hgb
    cases hgb
    exact ht rfl
theorem SewG.new {w : World} {base g x x' : Nat} {l1 l2 : List Int} (h : SewG w base g x l1 l2) (hx : w.heap.size ≤ x') : SewG w base g x' l1 l2 := by
  obtain ⟨A1, c1, A2, c2, h1, h2, h3, h4, _, _⟩ := h
  refine ⟨A1, c1, A2, c2, h1, h2, h3, h4, fun e => ?_, fun e => ?_⟩
  · have := (World.ownsRow.lt h2 _ e).2
    omega
  · have := (World.ownsRow.lt h3 _ e).2
    omega
theorem SewG.other {w : World} {base g x x' : Nat} {l1 l2 : List Int} {cs : Array Value} {t : TypeId} (h : SewG w base g x l1 l2) (hx : w.heap[x']? = some (.cells cs t (0, 0))) (ht : t ≠ 3) : SewG w base g x' l1 l2 := by
  obtain ⟨A1, c1, A2, c2, h1, h2, h3, h4, _, _⟩ := h
  exact ⟨A1, c1, A2, c2, h1, h2, h3, h4, h2.notBlock hx ht, h3.notBlock hx ht⟩
/-- An append onto the first list, and what it comes to stored. -/
theorem SewG.push1 {W w3 : World} {base g x c1 c2 : Nat} {A1 A2 : Option Addr} {l1 l2 l3 : List Int} {v3 : Value} (h1 : W.heap[g]? = some (.cells #[.slice A1 l1.length c1, .slice A2 l2.length c2] 165 (0, 0)))
    (h2 : GrowI W base (.slice A1 l1.length c1) l1) (h3 : GrowI W base (.slice A2 l2.length c2) l2) (h4 : ∀ b, (Value.slice A1 l1.length c1).ownBlock = some b → (Value.slice A2 l2.length c2).ownBlock ≠ some b)
    (h5 : (Value.slice A1 l1.length c1).ownBlock ≠ some x) (h6 : (Value.slice A2 l2.length c2).ownBlock ≠ some x) (hx : x < W.heap.size)
    (hg : GrowI w3 base v3 l3) (hw : W.grownBy w3 (Value.slice A1 l1.length c1).ownBlock) (ho : v3.ownBlock = (Value.slice A1 l1.length c1).ownBlock ∨ v3.ownBlock = some W.heap.size) :
    SewG (w3.setCell ⟨g, 0, none⟩ v3) base g x l3 l2 := by
  have hk := grownI_heap h2 hw h1 (by decide)
  obtain ⟨A, c, rfl, _⟩ := hg.ints
  have k3 : GrowI w3 base (.slice A2 l2.length c2) l2 := World.ownsRow.kept h3 hw (by
    cases hq : (Value.slice A2 l2.length c2).ownBlock with
    | none => exact .inl rfl
    | some b => exact .inr fun e => h4 b e.symm hq)
  refine ⟨A, c, A2, c2, ?_, hg.setCell hk (by decide), k3.setCell hk (by decide), fun b hb1 hb2 => ?_, fun e => ?_, h6⟩
  · exact heap_setCell_same _ _ 0 _ _ _ hk
  · rcases ho with ho | ho
    · exact h4 b (by rw [← ho]; exact hb1) hb2
    · rw [hb1] at ho
      have := (World.ownsRow.lt h3 b hb2).2
      cases ho
      omega
  · rcases ho with ho | ho
    · exact h5 (by rw [← ho]; exact e)
    · rw [e] at ho
      cases ho
      omega
/-- The same for the second list. -/
theorem SewG.push2 {W w3 : World} {base g x c1 c2 : Nat} {A1 A2 : Option Addr} {l1 l2 l3 : List Int} {v3 : Value} (h1 : W.heap[g]? = some (.cells #[.slice A1 l1.length c1, .slice A2 l2.length c2] 165 (0, 0)))
    (h2 : GrowI W base (.slice A1 l1.length c1) l1) (h3 : GrowI W base (.slice A2 l2.length c2) l2) (h4 : ∀ b, (Value.slice A1 l1.length c1).ownBlock = some b → (Value.slice A2 l2.length c2).ownBlock ≠ some b)
    (h5 : (Value.slice A1 l1.length c1).ownBlock ≠ some x) (h6 : (Value.slice A2 l2.length c2).ownBlock ≠ some x) (hx : x < W.heap.size)
    (hg : GrowI w3 base v3 l3) (hw : W.grownBy w3 (Value.slice A2 l2.length c2).ownBlock) (ho : v3.ownBlock = (Value.slice A2 l2.length c2).ownBlock ∨ v3.ownBlock = some W.heap.size) :
    SewG (w3.setCell ⟨g, 1, none⟩ v3) base g x l1 l3 := by
  have hk := grownI_heap h3 hw h1 (by decide)
  obtain ⟨A, c, rfl, _⟩ := hg.ints
  have k2 : GrowI w3 base (.slice A1 l1.length c1) l1 := World.ownsRow.kept h2 hw (by
    cases hq : (Value.slice A1 l1.length c1).ownBlock with
    | none => exact .inl rfl
    | some b => exact .inr fun e => h4 b hq e.symm)
  refine ⟨A1, c1, A, c, ?_, k2.setCell hk (by decide), hg.setCell hk (by decide), fun b hb1 hb2 => ?_, h5, fun e => ?_⟩
  · exact heap_setCell_same _ _ 1 _ _ _ hk
  · rcases ho with ho | ho
    · exact h4 b hb1 (by rw [← ho]; exact hb2)
    · rw [hb2] at ho
      have := (World.ownsRow.lt h2 b hb1).2
      cases ho
      omega
  · rcases ho with ho | ho
    · exact h6 (by rw [← ho]; exact e)
    · rw [e] at ho
      cases ho
      omega
theorem growI_cell {w : World} {base g n c j : Nat} {l : List Int} {x : Int} (h : GrowI w base (.slice (some ⟨g, 0, none⟩) n c) l) (hj : l[j]? = some x) : w.cell? ⟨g, j, none⟩ = some (.int .i64 x) := by
  have := World.ownsRow.cells h (g := g) rfl j (.int .i64 x) (by simp [intsV, hj])
  rwa [Addr.add_mid, Nat.zero_add] at this
abbrev zeroSew : Array Value := #[.slice none 0 0, .slice none 0 0]
theorem zeroSew_one : zeroSew.all (·.oneCell') = true := sew_one _ _ rfl rfl

set_option maxRecDepth 100000 in
set_option maxHeartbeats 4000000 in
theorem newSewing_any (g K c : Nat) (js : List (List Int × Nat × Nat × Nat)) (w : World) (hK : js.length = K) (hK2 : K ≤ 2)
    (hj : ∀ (i : Nat) e, js[i]? = some e → w.rangeAt g (i * 23) (pairC (joinL (padTo e.1) e.2.1 e.2.2.1 e.2.2.2)).toList ∧ IsPair e.1) (hgw : g < w.heap.size) :
    Calls Try.prog 144 #[.slice (some ⟨g, 0, none⟩) K c] w fun e w' => (∃ v1 v2, e = .returned (.agg #[v1, v2]) ∧ GrowI w' w.heap.size v1 (catI (js.map (·.1)) K) ∧ GrowI w' w.heap.size v2 (List.replicate (catI (js.map (·.1)) K).length (-1)) ∧ ∀ b, v1.ownBlock = some b → v2.ownBlock ≠ some b) ∧ Below w.heap.size w w' := by
  have HJ := hid hj
  have HK := hid hK
  clear hj hK
  obtain ⟨ls, hls⟩ : ∃ ls, js.map (·.1) = ls := ⟨_, rfl⟩
  have HLS := hid (show ∀ (i : Nat) e, js[i]? = some e → catI ls (i + 1) = catI ls i ++ e.1.map fun x => ((catI ls i).length : Int) + x from fun i e he => by
    show catI ls i ++ (ls.getD i []).map _ = _
    rw [← hls, List.getD_eq_getElem?_getD, List.getElem?_map, he]
    rfl)
  have HCL := hid (show ∀ i, i ≤ K → (catI ls i).length ≤ 20 * i from fun i => by
    induction i with
    | zero => intro _; exact Nat.le_refl _
    | succ i ih =>
      intro hi
      obtain ⟨e, he⟩ : ∃ e, js[i]? = some e := ⟨_, List.getElem?_eq_getElem (by have := HK.out; omega)⟩
      have h1 := HLS.out i e he
      have h2 := (HJ.out i e he).2.2.1
      have h3 := ih (by omega)
      rw [h1, List.length_append, List.length_map]
      omega)
  rw [hls]
  have HC0 := hid (show catI ls 0 = [] from rfl)
  generalize catI ls = cat at *
  clear hls
  have H0 := hid (heap_new1 w (.cells zeroSew 165) (.cells zeroSew 165))
  have H1 := hid (heap_new0 (w.alloc (.cells zeroSew 165)) (.cells zeroSew 165))
  have HB := hid (((Below.refl w.heap.size w).alloc (Nat.le_refl _) (.cells zeroSew 165)).alloc (by simp) (.cells zeroSew 165))
  rw [World.size_alloc] at H1
  go_enter Try.func144, Try.ntmps144
  have K1 := hid (setRow_heap _ _ _ zeroSew _ _ H1.out)
  have K0 := hid (show (((w.alloc (.cells zeroSew 165)).alloc (.cells zeroSew 165)).setRow (w.heap.size + 1) zeroSew).heap[w.heap.size]? = some (.cells zeroSew 165 (0, 0)) by
    rw [setRow_other _ _ _ _ (by omega)]; exact H0.out)
  have KB := hid (below_setRow' HB.out (show w.heap.size ≤ w.heap.size + 1 by omega) zeroSew)
  go_wp2_with (refine wpList_store_row rfl 165 _ _ rfl (w.heap.size + 1) zeroSew rfl rfl 165 zeroSew H1.out Try.size_sewing rfl zeroSew_one ?_)
  generalize World.setRow _ _ _ = Y at K0 K1 KB ⊢
  have HGN := hid (show ∀ W : World, GrowI W w.heap.size (.slice none 0 0) [] from fun W => ⟨rfl, .inl ⟨rfl, rfl⟩⟩)
  have HS0 := hid (show SewG Y w.heap.size (w.heap.size + 1) w.heap.size [] [] from ⟨none, 0, none, 0, K1.out, HGN.out _, HGN.out _, (fun b h => by cases h), (fun h => by cases h), (fun h => by cases h)⟩)
  have HRG := hid (show ∀ W, Below w.heap.size w W → ∀ (i : Nat) e, js[i]? = some e → W.rangeAt g (i * 23) (pairC (joinL (padTo e.1) e.2.1 e.2.2.1 e.2.2.2)).toList from fun W hb i e he j v hj => by
    have h1 := (HJ.out i e he).1 j v hj
    exact (hb.cell (p := ⟨g, i * 23 + j, none⟩) hgw).trans h1)
  have HGW := hid hgw
  clear K1 hgw
  go_loopw [12] (fun (iv : Value) (wr : World) => ∃ i : Nat, i ≤ K ∧ iv = .int .i64 i ∧ SewG wr w.heap.size (w.heap.size + 1) w.heap.size (cat i) (List.replicate (cat i).length (-1)) ∧ wr.heap[w.heap.size]? = some (.cells zeroSew 165 (0, 0)) ∧ Below w.heap.size w wr) (fun i _ => K - (intOf i).toNat)
  case atStart => exact ⟨0, by omega, rfl, by rw [HC0.out]; exact HS0.out, K0.out, KB.out⟩
  case round =>
    obtain ⟨i, hi, rfl, hs, h0, hb⟩ := hrel
    have HS := hid hs
    have B0 := hid h0
    have BB := hid hb
    clear hs h0 hb
    by_cases hlt : i < K
    · obtain ⟨e, he⟩ : ∃ e, js[i]? = some e := ⟨_, List.getElem?_eq_getElem (by have := HK.out; omega)⟩
      obtain ⟨l, n, m, r⟩ := e
      have HE := hid he
      have HP := hid (HJ.out i _ he).2
      have HR := hid (HRG.out wr BB.out i _ he)
      have hii : (i : Int) < (K : Int) := by omega
      have HLI := hid (fun W => pair_plist l W HP.out)
      have hpl := padTo_length HP.out.2.1
      have HSJ := hid (show (Try.prog.info? 101).map (·.size) = some (pairC (joinL (padTo l) n m r)).toList.length by rw [Array.length_toList]; exact size_joinL hpl n m r)
      have HSJ2 := hid (size_joinL hpl n m r)
      have HZJ := hid (zero_joinL hpl n m r)
      have HSP := hid (size_pairL hpl)
      have HPRE := hid (fun (j : Nat) (v : Value) (h : (pairC (padTo l))[j]? = some v) => joinL_pre (n := n) (m := m) (r := r) h)
      have HCS := hid (HLS.out i _ he)
      have HCLi := hid (HCL.out i (by omega))
      clear he hpl
      have N0 := hid (heap_new0 wr (.cells zeroJ 101))
      have hbx := hid (show Below wr.heap.size wr ((wr.alloc (.cells zeroJ 101)).setRow wr.heap.size (pairC (joinL (padTo l) n m r))) from below_setRow' ((Below.refl wr.heap.size wr).alloc (Nat.le_refl _) _) (Nat.le_refl _) _)
      have N1 := hid (setRow_heap _ _ _ (pairC (joinL (padTo l) n m r)) _ _ N0.out)
      generalize hX : (wr.alloc (.cells zeroJ 101)).setRow wr.heap.size (pairC (joinL (padTo l) n m r)) = X at hbx N1
      have HX := hid hX
      have XS := hid (HS.out.below hbx.out)
      have XB := hid (BB.out.trans (hbx.out.mono BB.out.size))
      have X0 := hid ((hbx.out.block _ (lt_of_block B0.out)).trans B0.out)
      clear hX
      obtain ⟨A1, c1, A2, c2, hh, hg1, hg2, hab, hx1, hx2⟩ := XS.out
      have hcell : X.cell? ⟨w.heap.size + 1, 0, none⟩ = some (.slice A1 (cat i).length c1) := by rw [cell_of_row _ _ _ _ _ _ hh]; rfl
      clear hh hg1 hg2 hab hx1 hx2
      obtain ⟨ah, hah⟩ : ∃ ah, (cat i).length = ah := ⟨_, rfl⟩
      have HAH := hid hah
      rw [hah] at hcell
      clear hah
      go_wp2_with (first
        | refine wpList_load_mid rfl 101 _ rfl g (i * 23) rfl (pairC (joinL (padTo l) n m r)).toList _ HR.out Try.underlying101 rfl HSJ.out ?_
        | (refine wpList_store_row rfl 101 _ _ rfl wr.heap.size (pairC (joinL (padTo l) n m r)) rfl rfl 101 zeroJ N0.out HSJ2.out HZJ.out (pairC_one _) ?_; rw [HX.out])
        | refine wpList_exec rfl (exec_load_head 82 _ rfl wr.heap.size rfl 101 (pairC (joinL (padTo l) n m r)) (0, 0) (pairC (padTo l)) _ N1.out HPRE.out Try.underlying82 rfl HSP.out) ?_)
      clear hcell
      refine (HLI.out _).mono ?_
      rintro e w1 ⟨v, rfl, hgl, hb1⟩
      obtain ⟨gl, cl, rfl, _, _⟩ := hgl.head (show 0 < l.length by have := HP.out.1; omega)
      have HGL := hid hgl
      have HLO := hid (show X.heap.size ≤ gl from (World.ownsRow.lt hgl gl rfl).1)
      have W1S := hid ((XS.out.new HLO.out).below hb1)
      have W1B := hid (XB.out.trans (hb1.mono XB.out.size))
      have W10 := hid ((hb1.block _ (lt_of_block X0.out)).trans X0.out)
      obtain ⟨P, hP⟩ : ∃ P, l.length = P := ⟨_, rfl⟩
      have HPP := hid hP
      rw [hP]
      clear hgl hb1 hP
      go_wp2_with fail
      go_loopw [23] (fun (iv : Value) (wr : World) => ∃ j : Nat, j ≤ P ∧ iv = .int .i64 j ∧ SewG wr w.heap.size (w.heap.size + 1) gl (cat i ++ (l.take j).map fun x => (ah : Int) + x) (List.replicate (ah + j) (-1)) ∧ GrowI wr X.heap.size (.slice (some ⟨gl, 0, none⟩) P cl) l ∧ wr.heap[w.heap.size]? = some (.cells zeroSew 165 (0, 0)) ∧ Below w.heap.size w wr) (fun i _ => P - (intOf i).toNat)
      case atStart => exact ⟨0, by omega, rfl, by rw [List.take_zero, List.map_nil, List.append_nil, Nat.add_zero, ← HAH.out]; exact W1S.out, by rw [← HPP.out]; exact HGL.out, W10.out, W1B.out⟩
      case round =>
        obtain ⟨j, hj, rfl, hs, hgl, h0, hb⟩ := hrel
        have S2 := hid hs
        have G2 := hid hgl
        have C0 := hid h0
        have CB := hid hb
        clear hs hgl h0 hb
        by_cases hlt2 : j < P
        · have hjl : l[j]? = some ((mateN l j : Nat) : Int) := (HP.out.mates (by have := HPP.out; omega)).2.2.1
          have hq20 : mateN l j < 20 := by have := (HP.out.mates (p := j) (by have := HPP.out; omega)).1; have := HP.out.2.1; omega
          obtain ⟨q, hq⟩ : ∃ q, mateN l j = q := ⟨_, rfl⟩
          rw [hq] at hjl hq20
          have hcx := growI_cell G2.out hjl
          have HTK := hid (show cat i ++ (l.take (j + 1)).map (fun x => (ah : Int) + x) = (cat i ++ (l.take j).map fun x => (ah : Int) + x) ++ [(ah : Int) + (q : Int)] by
            obtain ⟨h1, h2⟩ := List.getElem?_eq_some_iff.1 hjl
            rw [List.take_succ_eq_append_getElem h1, h2, List.map_append, List.append_assoc]
            rfl)
          have HRP := hid (show List.replicate (ah + (j + 1)) (-1 : Int) = List.replicate (ah + j) (-1 : Int) ++ [-1] by rw [← Nat.add_assoc, List.replicate_succ'])
          have HL1 := hid (show (cat i ++ (l.take j).map fun x => (ah : Int) + x).length = ah + j by rw [List.length_append, HAH.out, List.length_map, List.length_take, HPP.out]; omega)
          have HL2 := hid (List.length_replicate (n := ah + j) (a := (-1 : Int)))
          have hah : ah ≤ 40 := by have := HCLi.out; have := HAH.out; omega
          have hP20 : P ≤ 20 := by have := HPP.out; have := HP.out.2.1; omega
          generalize (cat i ++ (l.take j).map fun x => (ah : Int) + x) = l1 at *
          generalize List.replicate (ah + j) (-1 : Int) = l2 at *
          obtain ⟨B1, d1, B2, d2, hh, hg1, hg2, hab, hx1, hx2⟩ := S2.out
          have hglw : gl < wr.heap.size := (World.ownsRow.lt G2.out gl rfl).2
          have HP1 := hid (fun (W3 : World) (v3 : Value) (l3 : List Int) => SewG.push1 (W := wr.alloc (.cells #[.int .i64 ((ah : Int) + (q : Int))] 3)) (w3 := W3) (v3 := v3) (l3 := l3) ((Below.heap_alloc _ _ _ (lt_of_block hh)).trans hh) (World.ownsRow.alloc hg1 _) (World.ownsRow.alloc hg2 _) hab hx1 hx2 (by simp; omega))
          have HHH := hid hh
          have HG1 := hid hg1
          have HX1 := hid hx1
          have hcell1 : wr.cell? ⟨w.heap.size + 1, 0, none⟩ = some (.slice B1 l1.length d1) := by rw [cell_of_row _ _ _ _ _ _ hh]; rfl
          clear hh hg1 hg2 hab hx1 hx2 hq hjl
          have hqi : (q : Int) < 20 := by omega
          have hahi : (ah : Int) ≤ 40 := by omega
          have hji : (j : Int) < (P : Int) := by omega
          go_wp2_with (at_builtin; refine wpList_appendI rfl _ _ rfl w.heap.size (.slice B1 l1.length d1) l1 rfl (World.ownsRow.alloc HG1.out _) _ 1 rfl ((ah : Int) + (q : Int)) (cell_newI _ _) ?c3 ?c4 ?_)
          case c3 => have := HL1.out; omega
          case c4 => have := CB.out.size; simp; omega
          intro v3 w3 hgr3 hgw3 ho3
          obtain ⟨l3, hl3⟩ : ∃ l3, l1 ++ [(ah : Int) + (q : Int)] = l3 := ⟨_, rfl⟩
          have HL3 := hid hl3
          rw [hl3] at hgr3
          clear hl3
          obtain ⟨A3, e3, rfl, _⟩ := hgr3.ints
          have S3 := hid (HP1.out w3 _ _ hgr3 hgw3 (by rw [World.size_alloc]; exact ho3))
          have h3g := grownI_heap (World.ownsRow.alloc HG1.out _) hgw3 ((Below.heap_alloc _ _ _ (lt_of_block HHH.out)).trans HHH.out) (by decide)
          have HB3 := hid ((CB.out.alloc CB.out.size _).grown hgw3 (Nat.le_trans CB.out.size (by simp)) (fun k e => (World.ownsRow.lt HG1.out k e).1))
          have G3 := hid (show GrowI w3 X.heap.size (.slice (some ⟨gl, 0, none⟩) P cl) l from World.ownsRow.kept (World.ownsRow.alloc G2.out _) hgw3 (.inr fun e => HX1.out e.symm))
          have B03 := hid (grownI_heap (World.ownsRow.alloc HG1.out _) hgw3 ((Below.heap_alloc _ _ _ (lt_of_block C0.out)).trans C0.out) (by decide))
          have hc3 : w3.cell? ⟨w.heap.size + 1, 0, none⟩ = some (.slice B1 l1.length d1) := by rw [cell_of_row _ _ _ _ _ _ h3g]; rfl
          have hf3 : w3.frozen? ⟨w.heap.size + 1, 0, none⟩ = false := frozen_of_row _ _ _ _ _ h3g
          have HZB := hid (HB3.out.setCell (p := ⟨w.heap.size + 1, 0, none⟩) (show w.heap.size ≤ w.heap.size + 1 by omega) (.slice A3 l3.length e3))
          have GZ := hid (G3.out.setCell (k := 0) (u := .slice A3 l3.length e3) h3g (by decide))
          have B0Z := hid ((Below.heap_setCell w3 ⟨w.heap.size + 1, 0, none⟩ (.slice A3 l3.length e3) w.heap.size (show w.heap.size ≠ w.heap.size + 1 by omega)).trans B03.out)
          clear hgr3 hgw3 ho3 h3g hcell1 hcx
          generalize hZ : w3.setCell ⟨w.heap.size + 1, 0, none⟩ (.slice A3 l3.length e3) = Z at *
          have HZ := hid hZ
          clear hZ
          obtain ⟨C1, e1, C2, e2, hh, hg1, hg2, hab, hx1, hx2⟩ := S3.out
          have hglz : gl < Z.heap.size := (World.ownsRow.lt GZ.out gl rfl).2
          have HP2 := hid (fun (W3 : World) (v3 : Value) (l3 : List Int) => SewG.push2 (W := Z.alloc (.cells #[.int .i64 (-1)] 3)) (w3 := W3) (v3 := v3) (l3 := l3) ((Below.heap_alloc _ _ _ (lt_of_block hh)).trans hh) (World.ownsRow.alloc hg1 _) (World.ownsRow.alloc hg2 _) hab hx1 hx2 (by simp; omega))
          have HH2 := hid hh
          have HG2 := hid hg2
          have HX2 := hid hx2
          have hcell2 : Z.cell? ⟨w.heap.size + 1, 1, none⟩ = some (.slice C2 l2.length e2) := by rw [cell_of_row _ _ _ _ _ _ hh]; rfl
          clear hh hg1 hg2 hab hx1 hx2
          go_wp2_with (first
            | rw [HZ.out]
            | (at_builtin; refine wpList_appendI rfl _ _ rfl w.heap.size (.slice C2 l2.length e2) l2 rfl (World.ownsRow.alloc HG2.out _) _ 1 rfl (-1 : Int) (cell_newI _ _) ?c5 ?c6 ?_))
          case c5 => have := HL2.out; omega
          case c6 => have := HZB.out.size; simp; omega
          intro v4 w4 hgr4 hgw4 ho4
          obtain ⟨l4, hl4⟩ : ∃ l4, l2 ++ [(-1 : Int)] = l4 := ⟨_, rfl⟩
          have HL4 := hid hl4
          rw [hl4] at hgr4
          clear hl4
          obtain ⟨A4, e4, rfl, _⟩ := hgr4.ints
          have S4 := hid (HP2.out w4 _ _ hgr4 hgw4 (by rw [World.size_alloc]; exact ho4))
          have h4g := grownI_heap (World.ownsRow.alloc HG2.out _) hgw4 ((Below.heap_alloc _ _ _ (lt_of_block HH2.out)).trans HH2.out) (by decide)
          have HB4 := hid ((HZB.out.alloc HZB.out.size _).grown hgw4 (Nat.le_trans HZB.out.size (by simp)) (fun k e => (World.ownsRow.lt HG2.out k e).1))
          have G4 := hid (show GrowI w4 X.heap.size (.slice (some ⟨gl, 0, none⟩) P cl) l from World.ownsRow.kept (World.ownsRow.alloc GZ.out _) hgw4 (.inr fun e => HX2.out e.symm))
          have B04 := hid (grownI_heap (World.ownsRow.alloc HG2.out _) hgw4 ((Below.heap_alloc _ _ _ (lt_of_block B0Z.out)).trans B0Z.out) (by decide))
          have hc4 : w4.cell? ⟨w.heap.size + 1, 1, none⟩ = some (.slice C2 l2.length e2) := by rw [cell_of_row _ _ _ _ _ _ h4g]; rfl
          have hf4 : w4.frozen? ⟨w.heap.size + 1, 1, none⟩ = false := frozen_of_row _ _ _ _ _ h4g
          have HEB := hid (HB4.out.setCell (p := ⟨w.heap.size + 1, 1, none⟩) (show w.heap.size ≤ w.heap.size + 1 by omega) (.slice A4 l4.length e4))
          have GE := hid (G4.out.setCell (k := 1) (u := .slice A4 l4.length e4) h4g (by decide))
          have B0E := hid ((Below.heap_setCell w4 ⟨w.heap.size + 1, 1, none⟩ (.slice A4 l4.length e4) w.heap.size (show w.heap.size ≠ w.heap.size + 1 by omega)).trans B04.out)
          clear hgr4 hgw4 ho4 h4g hcell2
          go_wp2_with fail
          go_roundw
          case rel => exact ⟨j + 1, by omega, by go_num, by rw [HTK.out, HRP.out, HL3.out, HL4.out]; exact S4.out, GE.out, B0E.out, HEB.out⟩
          case measure => simp [intOf]; omega
        · obtain rfl : j = P := by omega
          have HCE := hid (show cat (i + 1) = cat i ++ (l.take j).map fun x => (ah : Int) + x by rw [HCS.out, List.take_of_length_le (by rw [HPP.out]; exact Nat.le_refl _), HAH.out])
          have HCN := hid (show (cat (i + 1)).length = ah + j by rw [HCE.out, List.length_append, HAH.out, List.length_map, List.length_take, HPP.out, Nat.min_self])
          have SE := hid (show SewG wr w.heap.size (w.heap.size + 1) w.heap.size (cat (i + 1)) (List.replicate (cat (i + 1)).length (-1)) from by
            rw [HCN.out, HCE.out]
            exact S2.out.other C0.out (by decide))
          go_wp2_with fail
          go_roundw
          case rel => exact ⟨i + 1, by omega, by go_num, SE.out, C0.out, CB.out⟩
          case measure => simp [intOf]; omega
    · obtain rfl : i = K := by omega
      obtain ⟨A1, c1, A2, c2, hh, hg1, hg2, hab, _, _⟩ := HS.out
      have HH := hid hh
      have HGG := hid (And.intro hg1 (And.intro hg2 hab))
      have HO := hid (sew_one (.slice A1 (cat i).length c1) (.slice A2 (List.replicate (cat i).length (-1 : Int)).length c2) rfl rfl)
      clear hh hg1 hg2 hab
      have R0 := hid (setRow_heap wr w.heap.size zeroSew #[.slice A1 (cat i).length c1, .slice A2 (List.replicate (cat i).length (-1 : Int)).length c2] _ _ B0.out)
      have RB := hid (below_setRow' BB.out (Nat.le_refl _) #[.slice A1 (cat i).length c1, .slice A2 (List.replicate (cat i).length (-1 : Int)).length c2])
      generalize hv1 : Value.slice A1 (cat i).length c1 = v1 at *
      generalize hv2 : Value.slice A2 (List.replicate (cat i).length (-1 : Int)).length c2 = v2 at *
      have HKE := hid (show ∀ v l, GrowI wr w.heap.size v l → GrowI (wr.setRow w.heap.size #[v1, v2]) w.heap.size v l from fun v l h => by
        refine World.ownsRow.kept h (row := some w.heap.size) ⟨rfl, rfl, rfl, by simp, fun k _ hk => setRow_other _ _ _ _ (fun e => hk (by rw [e]))⟩ (.inr (h.notBlock B0.out (by decide))))
      clear hv1 hv2
      go_wp2_with (first
        | refine wpList_load_row rfl 165 _ rfl (w.heap.size + 1) rfl 165 #[v1, v2] (0, 0) _ HH.out Try.underlying165 rfl Try.size_sewing ?_
        | refine wpList_store_row rfl 165 _ _ rfl w.heap.size #[v1, v2] rfl rfl 165 zeroSew B0.out Try.size_sewing rfl HO.out ?_)
      refine bodyPost_ret (results_cell_row Try.results144 _ _ w.heap.size 165 _ (0, 0) _ (by rfl) R0.out Try.underlying165 rfl Try.size_sewing) rfl ⟨⟨v1, v2, rfl, HKE.out _ _ HGG.out.1, HKE.out _ _ HGG.out.2.1, HGG.out.2.2⟩, RB.out⟩
end Go.Proofs.Ytonhnmpgikmlpaa

/- Ports sewn one pair after another; closed of the program, by its contract. -/
namespace Go.Proofs.Ytonhnmpgikmlpaa
open Go.RowKit Go.Shelf

theorem othersL_none (N : Nat) : List.replicate N (-1 : Int) = othersL N (fun i => i) := by
  refine List.ext_getElem? fun k => ?_
  by_cases hk : k < N
  · rw [othersL_at hk, if_pos rfl, List.getElem?_replicate, if_pos hk]
  · rw [List.getElem?_eq_none (by simp; omega), List.getElem?_eq_none (by rw [othersL_length]; omega)]
theorem sewT_zero (m N : Nat) : sewT 0 m N = fun i => i := by
  funext i
  unfold sewT
  rw [if_neg (by omega), if_neg (by omega)]
/-- One more row sewn. -/
theorem othersL_sew {N m k : Nat} (h : m + (k + 1) + (k + 1) ≤ N) : ((othersL N (sewT k m N)).set (m + k) ((N - 1 - k : Nat) : Int)).set (N - 1 - k) ((m + k : Nat) : Int) = othersL N (sewT (k + 1) m N) := by
  refine List.ext_getElem? fun i => ?_
  by_cases hi : i < N
  · rw [othersL_at hi]
    by_cases h1 : i = N - 1 - k
    · subst h1
      have e : sewT (k + 1) m N (N - 1 - k) = m + k := by unfold sewT; rw [if_neg (by omega), if_pos (by omega)]; omega
      rw [List.getElem?_set_self (by rw [List.length_set, othersL_length]; omega), e, if_neg (by omega)]
    · rw [List.getElem?_set_ne (fun e => h1 e.symm)]
      by_cases h2 : i = m + k
      · subst h2
        have e : sewT (k + 1) m N (m + k) = N - 1 - k := by unfold sewT; rw [if_pos (by omega)]; omega
        rw [List.getElem?_set_self (by rw [othersL_length]; omega), e, if_neg (by omega)]
      · rw [List.getElem?_set_ne (fun e => h2 e.symm), othersL_at hi]
        have e : sewT (k + 1) m N i = sewT k m N i := by
          unfold sewT
          by_cases h3 : m ≤ i ∧ i < m + k
          · rw [if_pos h3, if_pos (by omega)]
          · rw [if_neg h3, if_neg (by omega)]
            by_cases h4 : N - k ≤ i ∧ i < N
            · rw [if_pos h4, if_pos (by omega)]
            · rw [if_neg h4, if_neg (by omega)]
        rw [e]
  · rw [List.getElem?_eq_none (by simp [othersL_length]; omega), List.getElem?_eq_none (by rw [othersL_length]; omega)]
theorem catI_one (l : List Int) : catI [l] 1 = l := by
  show [] ++ List.map (fun x => (([] : List Int).length : Int) + x) l = l
  simp
theorem catI_two {a b : List Int} (ha : IsPair a) (hb : IsPair b) : catI [a, b] 2 = listS (a.length + b.length) (twoS a.length (mateN a) (mateN b)) := by
  have h1 : catI [a, b] 2 = catI [a, b] 1 ++ b.map fun x => ((catI [a, b] 1).length : Int) + x := rfl
  have h2 : catI [a, b] 1 = a := by
    show [] ++ List.map (fun x => (([] : List Int).length : Int) + x) a = a
    simp
  rw [h1, h2]
  refine listS_all (by simp) fun q hq => ?_
  unfold twoS
  by_cases hqa : q < a.length
  · rw [List.getElem?_append_left hqa, if_pos hqa, (ha.mates hqa).2.2.1]
  · rw [List.getElem?_append_right (by omega), if_neg hqa, List.getElem?_map, (hb.mates (p := q - a.length) (by omega)).2.2.1]
    rfl
theorem set_take {α : Type} (l : List α) (n i : Nat) (x : α) : (l.set i x).take n = (l.take n).set i x := by
  rw [List.take_set]
/-- Two places of a slice that has grown turned. -/
theorem GrowI.paired {w w' : World} {base g n c i j : Nat} {l : List Int} {cs : Array Value} (h : GrowI w base (.slice (some ⟨g, 0, none⟩) n c) l) (hcs : w.heap[g]? = some (.cells cs 3 (0, 0))) (hp : PairedAt w w' g cs 3 i j) :
    GrowI w' base (.slice (some ⟨g, 0, none⟩) n c) ((l.set i (j : Int)).set j (i : Int)) := by
  rcases h.2 with ⟨h0, _⟩ | ⟨g', cap, cur, hv, hb, hg, h1, h2, h3, h4⟩
  · cases h0
  · cases hv
    rw [hcs] at hg
    cases hg
    refine ⟨?_, .inr ⟨g, c, _, ?_, hb, hp.1, ?_, h2, by simpa using h3, ?_⟩⟩
    · simp [intsV]
    · simp
    · simpa using h1
    · rw [Array.toList_setIfInBounds, Array.toList_setIfInBounds, set_take, set_take]
      have h5 : cs.toList.take (l.length * 1) = intsV l := h4
      simp only [List.length_set]
      rw [h5]
      unfold intsV
      rw [List.map_set, List.map_set]

set_option maxRecDepth 100000 in
set_option maxHeartbeats 4000000 in
theorem sew_any (A1 : Option Addr) (c1 c2 g N i j : Nat) (cs : Array Value) (w : World) (hg : w.heap[g]? = some (.cells cs 3 (0, 0))) (hN : N ≤ cs.size) (hi : i < N) (hj : j < N) (hij : i ≠ j) :
    Calls Try.prog 145 #[.agg #[.slice A1 N c1, .slice (some ⟨g, 0, none⟩) N c2], .int .i64 (i : Int), .int .i64 (j : Int)] w fun e w' => e = .returned (.tuple #[]) ∧ PairedAt w w' g cs 3 i j := by
  have HS0 := hid (heap_new0 w (.cells #[.slice A1 N c1, .slice (some ⟨g, 0, none⟩) N c2] 165))
  have HB0 := hid ((Below.refl w.heap.size w).alloc (Nat.le_refl _) (.cells #[.slice A1 N c1, .slice (some ⟨g, 0, none⟩) N c2] 165))
  have HG := hid ((Below.heap_alloc w (.cells #[.slice A1 N c1, .slice (some ⟨g, 0, none⟩) N c2] 165) g (lt_of_block hg)).trans hg)
  have HGL := hid (lt_of_block hg)
  obtain ⟨u, hu⟩ : ∃ u, cs[i]? = some u := ⟨_, Array.getElem?_eq_getElem (by omega)⟩
  obtain ⟨u', hu'⟩ : ∃ u, cs[j]? = some u := ⟨_, Array.getElem?_eq_getElem (by omega)⟩
  clear hg
  go_enter Try.func145, Try.ntmps145
  go_wp2_with fail
  generalize World.alloc w _ = Y at HS0 HB0 HG ⊢
  have hc : Y.cell? ⟨g, i, none⟩ = some u := by rw [cell_of_row _ _ _ _ _ _ HG.out]; exact hu
  have hc' : Y.cell? ⟨g, j, none⟩ = some u' := by rw [cell_of_row _ _ _ _ _ _ HG.out]; exact hu'
  have hf : Y.frozen? ⟨g, i, none⟩ = false := frozen_of_row _ _ _ _ _ HG.out
  have hf' : Y.frozen? ⟨g, j, none⟩ = false := frozen_of_row _ _ _ _ _ HG.out
  have hs1 : Y.cell? ⟨w.heap.size, 1, none⟩ = some (.slice (some ⟨g, 0, none⟩) N c2) := by rw [cell_of_row _ _ _ _ _ _ HS0.out]; rfl
  have hgw : ¬ g = w.heap.size := by have := HGL.out; omega
  have hgw2 : ¬ w.heap.size = g := by have := HGL.out; omega
  have HIJ := hid hij
  have hii : (i : Int) < (N : Int) := by omega
  have hji : (j : Int) < (N : Int) := by omega
  clear hu hu'
  go_region
  go_wp2_with fail
  go_end0
  exact ⟨rfl, heap_setCell_same _ _ _ _ _ _ (heap_setCell_same _ _ _ _ _ _ HG.out), ((But.of_below HB0.out).trans ((But.setCell _ _ _).trans (But.setCell _ _ _))).trans (But.of_below (Below.refl _ _).drew)⟩
end Go.Proofs.Ytonhnmpgikmlpaa

/- The pairing of empty grids: unitPairing, JoinUnit of the program, by their contracts. -/
namespace Go.Proofs.Ytonhnmpgikmlpaa
open Go.RowKit Go.Shelf

/-- The pairing of the ends of rows and columns. -/
def unitL (n m : Nat) : List Int := listS (2 * (n + m)) (unitN n m)
theorem unitL_length (n m : Nat) : (unitL n m).length = 2 * (n + m) := listS_length _ _
theorem unitN_cover {n m q : Nat} (hq : q < 2 * (n + m)) : q < m + n ∨ unitN n m q < m + n := by
  rcases Nat.lt_or_ge q (m + n) with h | h
  · exact .inl h
  · right
    unfold unitN
    rw [if_neg (by omega), if_neg (by omega)]
    split <;> omega
theorem unitL_pair {n m : Nat} (h1 : 1 ≤ n) (h2 : 1 ≤ m) (h3 : n ≤ 5) (h4 : m ≤ 5) : IsPair (unitL n m) := listS_pair unitN_mates (by omega) (by omega)
/-- What the operations hand back that tell both ends of a row. -/
def rowRel (g n m k : Nat) (cs : Array Value) (i : Nat) (v : Value) (_ : World) : Prop :=
  match i with
  | 0 => v = .pointer (some ⟨g, 0, none⟩)
  | 1 => v = .agg cs
  | 2 => v = .int .i64 (k : Int)
  | 3 => v = .int .i64 ((m + k : Nat) : Int)
  | 4 => v = .agg cs
  | 5 => v = .int .i64 (k : Int)
  | 6 => v = .int .i64 ((2 * n + 2 * m - 1 - k : Nat) : Int)
  | _ => True

set_option maxRecDepth 100000 in
set_option maxHeartbeats 4000000 in
theorem unitPairing_any (n m : Nat) (w : World) (hn1 : 1 ≤ n) (hn : n ≤ 5) (hm1 : 1 ≤ m) (hm : m ≤ 5) :
    Calls Try.prog 98 #[.int .i64 (n : Int), .int .i64 (m : Int)] w fun e w' => e = .returned (.agg (pairC (joinL (padTo (unitL n m)) n m 0))) ∧ Below w.heap.size w w' := by
  have HUN := hid (fun w' => unpaired_any w')
  have HRE := hid (fun (L : List Int) k W (hL : L.length = 20) (hk : k < n) => rightEnd_any L n m 0 k W hL hm (by omega))
  have HLO := hid (fun (L : List Int) k W (hL : L.length = 20) (hk : k < m) => lowerEnd_any L n m 0 k W hL hn hm hk)
  have HLE := hid (fun (L : List Int) k W (hL : L.length = 20) (hk : k < n) => leftEnd_any L n m 0 k W hL hn hm hk)
  have HM := hid (unitN_mates (n := n) (m := m))
  have HNM := hid (names_id (2 * (n + m)))
  have HLP := hid (padTo_length (l := unitL n m) (by rw [unitL_length]; omega))
  have HTL := hid (show padTo (unitL n m) = padTo (listS (2 * (n + m)) (renS (fun q => q) (fun q => q) (unitN n m))) from rfl)
  have HCV := hid (fun q => unitN_cover (n := n) (m := m) (q := q))
  have HA := hid (show ∀ k, k < m → unitN n m k = n + 2 * m - 1 - k from fun k hk => by unfold unitN; rw [if_pos hk])
  have HBb := hid (show ∀ k, k < n → unitN n m (m + k) = 2 * n + 2 * m - 1 - k from fun k hk => by unfold unitN; rw [if_neg (by omega), if_pos (by omega)]; omega)
  obtain ⟨P, hP⟩ : ∃ P, 2 * (n + m) = P := ⟨_, rfl⟩
  rw [hP] at HM HNM HTL
  have HPP := hid hP
  have h20 : P ≤ 20 := by omega
  generalize padTo (unitL n m) = TL at *
  generalize unitN n m = s at *
  clear hP
  have H0 := hid (heap_new0 w (.cells zeroJ 101))
  have HB := hid ((Below.refl w.heap.size w).alloc (Nat.le_refl _) (.cells zeroJ 101))
  have HSI := hid (size_joinL (l := idL) rfl n m 0)
  have HZI := hid (zero_joinL (l := idL) rfl n m 0)
  go_enter Try.func98, Try.ntmps98
  go_wp2_with fail
  generalize World.alloc w _ = Y at H0 HB ⊢
  refine (HUN.out _).mono ?_
  rintro e w1 ⟨rfl, hb1⟩
  have I0 := hid ((hb1.block _ (lt_of_block H0.out)).trans H0.out)
  have IB := hid (HB.out.trans (hb1.mono HB.out.size))
  have IL := hid (lt_of_block I0.out)
  clear hb1
  have N0 := hid (heap_new0 w1 (.cells zeroJ 101))
  have K1 := hid (setRow_heap _ _ _ (pairC (joinL idL n m 0)) _ _ N0.out)
  have K0 := hid (show ((w1.alloc (.cells zeroJ 101)).setRow w1.heap.size (pairC (joinL idL n m 0))).heap[w.heap.size]? = some (.cells zeroJ 101 (0, 0)) by
    rw [setRow_other _ _ _ _ (by have := IL.out; omega), Below.heap_alloc _ _ _ IL.out]; exact I0.out)
  have KB := hid (below_setRow' (IB.out.alloc IB.out.size (.cells zeroJ 101)) IB.out.size (pairC (joinL idL n m 0)))
  generalize hX : (w1.alloc (.cells zeroJ 101)).setRow w1.heap.size (pairC (joinL idL n m 0)) = X at K0 K1 KB
  have HX := hid hX
  clear hX
  go_wp2_with (first
    | refine wpList_exec rfl (exec_build3 _ _ _ rfl idL n m rfl rfl rfl rfl) ?_
    | (refine wpList_store_row rfl 101 _ _ rfl w1.heap.size (pairC (joinL idL n m 0)) rfl rfl 101 zeroJ N0.out HSI.out HZI.out (pairC_one _) ?_; rw [HX.out]))
  go_loopw [13] (fun (iv : Value) (wr : World) => ∃ k : Nat, k ≤ m ∧ iv = .int .i64 k ∧ ∃ L : List Int, Hid (PairsUp L P (fun q => q < k) (fun q => q) s) ∧ wr.heap[w1.heap.size]? = some (.cells (pairC (joinL L n m 0)) 101 (0, 0)) ∧ wr.heap[w.heap.size]? = some (.cells zeroJ 101 (0, 0)) ∧ Below w.heap.size w wr) (fun i _ => m - (intOf i).toNat)
  case atStart => exact ⟨0, by omega, rfl, idL, hid (pairs_none (fun q hq => absurd hq (by omega))), K1.out, K0.out, KB.out⟩
  case round =>
    obtain ⟨k, hk, rfl, L, hL, hg, h0, hb⟩ := hrel
    have HL := hL
    have B0 := hid h0
    have B1 := hid hg
    have BB := hid hb
    clear hL h0 hg hb
    by_cases hlt : k < m
    · have hki : (k : Int) < (m : Int) := by omega
      have HSL := hid (size_joinL HL.out.1 n m 0)
      go_wp2_with (refine wpList_load_row rfl 101 _ rfl w1.heap.size rfl 101 (pairC (joinL L n m 0)) (0, 0) _ B1.out Try.underlying101 rfl HSL.out ?_)
      refine (HLO.out L k _ HL.out.1 hlt).mono ?_
      rintro e w2 ⟨rfl, hb2⟩
      have C0 := hid ((hb2.block _ (lt_of_block B0.out)).trans B0.out)
      have C1 := hid ((hb2.block _ (lt_of_block B1.out)).trans B1.out)
      have CB := hid (BB.out.trans (hb2.mono BB.out.size))
      clear hb2
      obtain ⟨z, hz⟩ : ∃ z, n + 2 * m - 1 - k = z := ⟨_, rfl⟩
      have HSK := hid ((HA.out k hlt).trans hz)
      have HPA := hid (pair_any w1.heap.size k z _ _ w2 C1.out (by rw [pairC_size, joinL_length HL.out.1]; omega) (by omega) (by omega) (by omega))
      have HZ20 := hid (show k < 20 ∧ z < 20 by omega)
      have hkP : k < P := by have := HPP.out; omega
      rw [hz]
      clear hz
      go_wp2_with fail
      refine HPA.out.mono ?_
      rintro e w3 ⟨rfl, hpr, hbut⟩
      have HG3 := hid (hpr.trans (by rw [paired_joinL HL.out.1 HZ20.out.1 HZ20.out.2]))
      have D0 := hid ((hbut.block _ (lt_of_block C0.out) (by have := IL.out; omega)).trans C0.out)
      have DB := hid (CB.out.trans (hbut.below IB.out.size CB.out.size))
      clear hpr hbut
      go_wp2_with fail
      go_roundw
      case rel =>
        refine ⟨k + 1, by omega, by go_num, _, hid (pairs_step (g := fun q => q) (s := s) h20 HNM.out HM.out HL.out hkP (V' := fun q => q < k + 1) (fun q hq => by omega)), ?_, D0.out, DB.out⟩
        rw [HSK.out]
        exact HG3.out
      case measure => simp [intOf]; omega
    · obtain rfl : k = m := by omega
      have HL0 := hid (show PairsUp L P (fun q => q < k + 0) (fun q => q) s from HL.out)
      clear HL
      go_wp2_with fail
      go_loopw [24] (fun (iv : Value) (wr : World) => ∃ j : Nat, j ≤ n ∧ iv = .int .i64 j ∧ ∃ L : List Int, Hid (PairsUp L P (fun q => q < k + j) (fun q => q) s) ∧ wr.heap[w1.heap.size]? = some (.cells (pairC (joinL L n k 0)) 101 (0, 0)) ∧ wr.heap[w.heap.size]? = some (.cells zeroJ 101 (0, 0)) ∧ Below w.heap.size w wr) (fun i _ => n - (intOf i).toNat)
      case atStart => exact ⟨0, by omega, rfl, L, HL0, B1.out, B0.out, BB.out⟩
      case round =>
        clear HL0 B0 B1 BB
        obtain ⟨j, hj, rfl, L, hL, hg, h0, hb⟩ := hrel
        have HL := hL
        have B0 := hid h0
        have B1 := hid hg
        have BB := hid hb
        clear hL h0 hg hb
        by_cases hlt2 : j < n
        · have hji : (j : Int) < (n : Int) := by omega
          have HSL := hid (size_joinL HL.out.1 n k 0)
          go_wp2_with fail
          refine wp_region_rel_tail (by kernel_rfl) 7 (by kernel_rfl) (fun us => { tmps := #[.int .i64 (n : Int), .int .i64 (k : Int), undef, undef, .pointer (some ⟨w.heap.size, 0, none⟩), .pointer (some ⟨w1.heap.size, 0, none⟩), u6, .int .i64 (j : Int), .agg (pairC idL), .int .i64 (n : Int), .int .i64 (k : Int), .agg (pairC (joinL idL n k 0)), .int .i64 (k : Int), .int .i64 (k : Int), .bool false, u15, u16, u17, u18, u19, u20, u21, u22,
            .int .i64 (n : Int), .int .i64 (j : Int), .bool true, .int .i64 (j : Int), us 0, us 1, us 2, us 3, us 4, us 5, us 6, u34, u35, undef], defers := [] }) (fun i => if i = 0 then u27 else if i = 1 then u28 else if i = 2 then u29 else if i = 3 then u30 else if i = 4 then u31 else if i = 5 then u32 else u33) rfl (rowRel w1.heap.size n k j (pairC (joinL L n k 0))) (fun i v W W' h hb => h) (fun i us v hi => ?_) (fun i us W hi hb hd => ?_) (fun us W hb hr => ?_)
          · match i, hi with
            | 0, _ => rfl
            | 1, _ => rfl
            | 2, _ => rfl
            | 3, _ => rfl
            | 4, _ => rfl
            | 5, _ => rfl
            | 6, _ => rfl
          · have L1 := hid ((hb.block _ (lt_of_block B1.out)).trans B1.out)
            match i, hi with
            | 0, _ => exact wpOp_val rfl rfl (by go_simp) rfl
            | 1, _ => exact wpOp_val rfl rfl (exec_load_row 101 _ rfl w1.heap.size rfl 101 (pairC (joinL L n k 0)) (0, 0) _ L1.out Try.underlying101 rfl HSL.out) rfl
            | 2, _ => exact wpOp_val rfl rfl (by go_simp) rfl
            | 3, _ =>
              have h0 : us 1 = _ := hd _ rfl { on := 1, ground := .data } (by simp) rfl
              have h1 : us 2 = _ := hd _ rfl { on := 2, ground := .data } (by simp) rfl
              rw [h0, h1]
              exact wpOp_call rfl rfl (by go_simp) ((HRE.out L j W HL.out.1 hlt2).mono fun e w'' ⟨he, hb'⟩ => ⟨_, he, rfl, hb'⟩)
            | 4, _ => exact wpOp_val rfl rfl (exec_load_row 101 _ rfl w1.heap.size rfl 101 (pairC (joinL L n k 0)) (0, 0) _ L1.out Try.underlying101 rfl HSL.out) rfl
            | 5, _ => exact wpOp_val rfl rfl (by go_simp) rfl
            | 6, _ =>
              have h0 : us 4 = _ := hd _ rfl { on := 4, ground := .data } (by simp) rfl
              have h1 : us 5 = _ := hd _ rfl { on := 5, ground := .data } (by simp) rfl
              rw [h0, h1]
              exact wpOp_call rfl rfl (by go_simp) ((HLE.out L j W HL.out.1 hlt2).mono fun e w'' ⟨he, hb'⟩ => ⟨_, he, rfl, hb'⟩)
          · have h0 : us 0 = _ := hr 0 (by omega)
            have h1 : us 1 = _ := hr 1 (by omega)
            have h2 : us 2 = _ := hr 2 (by omega)
            have h3 : us 3 = _ := hr 3 (by omega)
            have h4 : us 4 = _ := hr 4 (by omega)
            have h5 : us 5 = _ := hr 5 (by omega)
            have h6 : us 6 = _ := hr 6 (by omega)
            rw [h0, h1, h2, h3, h4, h5, h6]
            have L0 := hid ((hb.block _ (lt_of_block B0.out)).trans B0.out)
            have L1 := hid ((hb.block _ (lt_of_block B1.out)).trans B1.out)
            have LB := hid (BB.out.trans (hb.mono BB.out.size))
            clear h0 h1 h2 h3 h4 h5 h6 hr hb
            obtain ⟨y, hy⟩ : ∃ y, k + j = y := ⟨_, rfl⟩
            obtain ⟨z, hz⟩ : ∃ z, 2 * n + 2 * k - 1 - j = z := ⟨_, rfl⟩
            have HSK := hid (show s y = z by rw [← hy, ← hz]; exact HBb.out j hlt2)
            have HPA := hid (pair_any w1.heap.size y z _ _ W L1.out (by rw [pairC_size, joinL_length HL.out.1]; omega) (by omega) (by omega) (by omega))
            have HZ20 := hid (show y < 20 ∧ z < 20 by omega)
            have hyP : y < P := by have := HPP.out; omega
            have HY := hid hy
            rw [hy, hz]
            clear hy hz
            go_wp2_with fail
            refine HPA.out.mono ?_
            rintro e w3 ⟨rfl, hpr, hbut⟩
            have HG3 := hid (hpr.trans (by rw [paired_joinL HL.out.1 HZ20.out.1 HZ20.out.2]))
            have D0 := hid ((hbut.block _ (lt_of_block L0.out) (by have := IL.out; omega)).trans L0.out)
            have DB := hid (LB.out.trans (hbut.below IB.out.size LB.out.size))
            clear hpr hbut
            go_wp2_with fail
            go_roundw
            case rel =>
              refine ⟨j + 1, by omega, by go_num, _, hid (pairs_step (g := fun q => q) (s := s) h20 HNM.out HM.out HL.out hyP (V' := fun q => q < k + (j + 1)) (fun q hq => by have := HY.out; omega)), ?_, D0.out, DB.out⟩
              rw [HSK.out]
              exact HG3.out
            case measure => simp [intOf]; omega
        · obtain rfl : j = n := by omega
          have HTL2 := hid (HTL.out.trans (pairs_done h20 HNM.out HM.out HL.out (fun q hq => by have := HPP.out; exact HCV.out q (by omega))).symm)
          rw [← HTL2.out] at B1
          have HSZ := hid (size_joinL HLP.out j k 0)
          have HZZ2 := hid (zero_joinL HLP.out j k 0)
          go_wp2_with (first
            | refine wpList_load_row rfl 101 _ rfl w1.heap.size rfl 101 (pairC (joinL TL j k 0)) (0, 0) _ B1.out Try.underlying101 rfl HSZ.out ?_
            | refine wpList_store_row rfl 101 _ _ rfl w.heap.size (pairC (joinL TL j k 0)) rfl rfl 101 zeroJ B0.out HSZ.out HZZ2.out (pairC_one _) ?_)
          refine bodyPost_ret (results_cell_row Try.results98 _ _ w.heap.size 101 _ (0, 0) _ (by rfl) (setRow_heap _ _ _ _ _ _ B0.out) Try.underlying101 rfl HSZ.out) rfl ⟨rfl, ?_⟩
          exact below_setRow' BB.out (Nat.le_refl _) _
end Go.Proofs.Ytonhnmpgikmlpaa

/- closed, JoinClose of the program, by their contracts. -/
namespace Go.Proofs.Ytonhnmpgikmlpaa
open Go.RowKit Go.Shelf

theorem GrowI.ints' {w : World} {base : Nat} {A : Option Addr} {n c : Nat} {l : List Int} (h : GrowI w base (.slice A n c) l) : n = l.length ∧ Ints w w.heap.size A l := by
  obtain ⟨A', c', e, h2⟩ := h.ints
  cases e
  exact ⟨rfl, h2⟩
theorem GrowI.head' {w : World} {base : Nat} {v : Value} {l : List Int} (h : GrowI w base v l) (h0 : 0 < l.length) : ∃ g c cs, v = .slice (some ⟨g, 0, none⟩) l.length c ∧ w.heap[g]? = some (.cells cs 3 (0, 0)) ∧ l.length ≤ cs.size ∧ base ≤ g := by
  rcases h.2 with ⟨_, h1⟩ | ⟨g, cap, cur, rfl, hb, hg, h1, _, h3, _⟩
  · omega
  · exact ⟨g, cap, cur, rfl, hg, by omega, hb⟩
theorem run_slice_joined1 {l : List Int} (h : l.length = 20) (n m r : Nat) (w : World) : (Instr.buildSlice 178 1 #[(0, .agg (pairC (joinL l n m r)))]).run Try.prog w = .ok (.slice (some ⟨w.heap.size, 0, none⟩) 1 1) (w.alloc (.cells (pairC (joinL l n m r)) 101)) := by
  obtain ⟨i0, hi⟩ : ∃ i, Try.prog.info? 101 = some i := info_of_underlying Try.underlying101
  have hz : i0.zero = some (.agg zeroJ) := by
    have e : (Try.prog.info? 101).bind (·.zero) = some (.agg zeroJ) := by kernel_rfl
    rw [hi] at e
    exact e
  have hs : i0.size = 23 := by
    have e := Try.size_joined
    rw [hi] at e
    exact Option.some.inj e
  refine run_buildSlice w 178 101 1 _ _ i0 _ Try.underlying178 hi hz (by rw [hs]; decide) (by rw [hs]; decide) ?_
  rw [hs]
  obtain ⟨a0, a1, a2, a3, a4, a5, a6, a7, a8, a9, b0, b1, b2, b3, b4, b5, b6, b7, b8, b9, rfl⟩ := lits20 h
  kernel_rfl
theorem exec_slice1 {o : Oper} {a : Act} {w : World} (x : Operand) (ho : o.op = Op.buildSlice 178 1 #[(0, x)]) (l : List Int) (n m r : Nat) (hl : l.length = 20) (hx : a.eval x = .agg (pairC (joinL l n m r))) :
    (execOp a.eval o).run Try.prog w = .ok (.value (.slice (some ⟨w.heap.size, 0, none⟩) 1 1)) (w.alloc (.cells (pairC (joinL l n m r)) 101)) := by
  unfold execOp
  simp only [ho]
  have : (#[(0, x)] : Array (Nat × Operand)).map (fun p => (p.1, a.eval p.2)) = #[(0, .agg (pairC (joinL l n m r)))] := by simp [hx]
  rw [this]
  simp only [Sem.run_bind, run_slice_joined1 hl n m r w, Result.andThen_ok, Sem.run_pure]
/-- What the operations hand back that tell both ends of a row to be sewn. -/
def sewRel (sv : Array Value) (m k z : Nat) (cs : Array Value) (i : Nat) (v : Value) (_ : World) : Prop :=
  match i with
  | 0 => v = .agg sv
  | 1 => v = .agg cs
  | 2 => v = .int .i64 (k : Int)
  | 3 => v = .int .i64 ((m + k : Nat) : Int)
  | 4 => v = .agg cs
  | 5 => v = .int .i64 (k : Int)
  | 6 => v = .int .i64 (z : Int)
  | _ => True

set_option maxRecDepth 100000 in
set_option maxHeartbeats 4000000 in
theorem closed_any (l : List Int) (n m r : Nat) (w : World) (hp : IsPair l) (hn : n ≤ 5) (hm : m ≤ 5) (hlen : l.length = 2 * (n + m)) :
    Calls Try.prog 93 #[.agg (pairC (joinL (padTo l) n m r))] w fun e w' => e = .returned (.int .i64 ((roundsTo l.length (mateN l) (sewT n m l.length) l.length : Nat) : Int)) ∧ Below w.heap.size w w' := by
  have hpl := padTo_length hp.2.1
  have hN20 := hp.2.1
  have hN4 := hp.1
  have HNS := hid (fun g c W (hr : W.rangeAt g 0 (pairC (joinL (padTo l) n m r)).toList) (hg : g < W.heap.size) => newSewing_any g 1 c [(l, n, m, r)] W rfl (by omega) (fun i e he => by
    match i, he with
    | 0, he =>
      simp at he
      subst he
      exact ⟨by rw [Nat.zero_mul]; exact hr, hp⟩
    | i + 1, he => simp at he) hg)
  simp only [List.map_cons, List.map_nil, catI_one] at HNS
  have HRE := hid (fun k W (hk : k < n) => rightEnd_any (padTo l) n m r k W hpl hm (by omega))
  have HLE := hid (fun k W (hk : k < n) => leftEnd_any (padTo l) n m r k W hpl hn hm hk)
  have HSW := hid (oneS_sewn (n := n) (m := m) (p := l.length) (a := mateN l) (fun i hi => ⟨(hp.mates hi).1, (hp.mates hi).2.1, (hp.mates hi).2.2.2⟩) (by omega))
  have HLS := hid (pair_list hp)
  have HSR := hid (fun v W (h : SewR W W.heap.size v l.length (mateN l) (sewT n m l.length)) => sewRounds_any v W.heap.size l.length (mateN l) (sewT n m l.length) W HSW.out h (Nat.le_refl _) (by omega))
  have HSJ := hid (size_joinL hpl n m r)
  have HC0 := hid (joinL_rows hpl n m r)
  have HPL := hid hpl
  obtain ⟨N, hN⟩ : ∃ N, l.length = N := ⟨_, rfl⟩
  have HNN := hid hN
  rw [hN] at hlen hN20 hN4 HSW HLS HSR ⊢
  rw [hN] at HNS
  rw [othersL_none N] at HNS
  have HZT := hid (sewT_zero m N)
  rw [← HZT.out] at HNS
  generalize roundsTo N (mateN l) (sewT n m N) N = RR at *
  have HLEN := hid hlen
  clear hp hpl hN hlen
  have H0 := hid (heap_new0 w (.cells (pairC (joinL (padTo l) n m r)) 101))
  have HB := hid ((Below.refl w.heap.size w).alloc (Nat.le_refl _) (.cells (pairC (joinL (padTo l) n m r)) 101))
  go_enter Try.func93, Try.ntmps93
  go_wp2_with (first
    | refine wpList_load_row rfl 101 _ rfl w.heap.size rfl 101 (pairC (joinL (padTo l) n m r)) (0, 0) _ H0.out Try.underlying101 rfl HSJ.out ?_
    | refine wpList_exec rfl (exec_slice1 _ rfl (padTo l) n m r HPL.out rfl) ?_)
  have A1 := hid (show ((w.alloc (.cells (pairC (joinL (padTo l) n m r)) 101)).alloc (.cells (pairC (joinL (padTo l) n m r)) 101)).heap[w.heap.size + 1]? = some (.cells (pairC (joinL (padTo l) n m r)) 101 (0, 0)) by
    have := heap_new0 (w.alloc (.cells (pairC (joinL (padTo l) n m r)) 101)) (.cells (pairC (joinL (padTo l) n m r)) 101)
    rwa [World.size_alloc] at this)
  have A0 := hid ((Below.heap_alloc _ (.cells (pairC (joinL (padTo l) n m r)) 101) _ (lt_of_block H0.out)).trans H0.out)
  have AB := hid (HB.out.alloc HB.out.size (.cells (pairC (joinL (padTo l) n m r)) 101))
  generalize World.alloc (World.alloc w _) _ = Y at A1 A0 AB ⊢
  have HYS := hid (show w.heap.size + 1 < Y.heap.size from lt_of_block A1.out)
  refine (HNS.out (w.heap.size + 1) 1 Y (rangeAt_head A1.out (fun _ _ h => h)) HYS.out).mono ?_
  rintro e w1 ⟨⟨v1, v2, rfl, hg1, hg2, hab⟩, hb1⟩
  obtain ⟨g1, c1, cs1, rfl, _, _, _⟩ := hg1.head' (by rw [HNN.out]; omega)
  obtain ⟨g2, c2, cs2, rfl, _, _, hlo2⟩ := hg2.head' (by rw [othersL_length]; omega)
  rw [HNN.out] at hg1 hab
  rw [othersL_length] at hg2 hab
  have HLO := hid (show w.heap.size ≤ g2 by have := HYS.out; omega)
  have H12 := hid (show g1 ≠ g2 from fun e => hab g1 rfl (by rw [e]; rfl))
  have I0 := hid ((hb1.block _ (lt_of_block A0.out)).trans A0.out)
  have IB := hid (AB.out.trans (hb1.mono AB.out.size))
  have IG1 := hid hg1
  have IG2 := hid hg2
  have IL := hid (lt_of_block I0.out)
  rw [HNN.out, othersL_length]
  clear hg1 hg2 hab hb1 hlo2
  have HSO := hid (sew_one (.slice (some ⟨g1, 0, none⟩) N c1) (.slice (some ⟨g2, 0, none⟩) N c2) rfl rfl)
  have N0 := hid (heap_new0 w1 (.cells zeroSew 165))
  have HXB := hid (show Below w1.heap.size w1 ((w1.alloc (.cells zeroSew 165)).setRow w1.heap.size #[.slice (some ⟨g1, 0, none⟩) N c1, .slice (some ⟨g2, 0, none⟩) N c2]) from below_setRow' ((Below.refl w1.heap.size w1).alloc (Nat.le_refl _) _) (Nat.le_refl _) _)
  have XS := hid (setRow_heap _ _ _ #[.slice (some ⟨g1, 0, none⟩) N c1, .slice (some ⟨g2, 0, none⟩) N c2] _ _ N0.out)
  generalize hX : (w1.alloc (.cells zeroSew 165)).setRow w1.heap.size #[.slice (some ⟨g1, 0, none⟩) N c1, .slice (some ⟨g2, 0, none⟩) N c2] = X at HXB XS
  have HX := hid hX
  have X0 := hid ((HXB.out.block _ IL.out).trans I0.out)
  have XG1 := hid (IG1.out.belowC HXB.out)
  have XG2 := hid (IG2.out.belowC HXB.out)
  have XB := hid (IB.out.trans (HXB.out.mono IB.out.size))
  have hcell : X.cell? ⟨w.heap.size, 20, none⟩ = some (.int .i64 (n : Int)) := by rw [cell_of_row _ _ _ _ _ _ X0.out]; exact HC0.out
  clear hX
  go_wp2_with (refine wpList_store_row rfl 165 _ _ rfl w1.heap.size #[.slice (some ⟨g1, 0, none⟩) N c1, .slice (some ⟨g2, 0, none⟩) N c2] rfl rfl 165 zeroSew N0.out Try.size_sewing rfl HSO.out ?_; rw [HX.out])
  clear hcell
  have HWL := hid (show w1.heap.size ≠ g2 from by have := (World.ownsRow.lt IG2.out g2 rfl).2; omega)
  generalize hcs : pairC (joinL (padTo l) n m r) = cs at *
  clear hcs
  go_loopw [10] (fun (iv : Value) (wr : World) => ∃ k : Nat, k ≤ n ∧ iv = .int .i64 k ∧ GrowI wr Y.heap.size (.slice (some ⟨g1, 0, none⟩) N c1) l ∧ GrowI wr Y.heap.size (.slice (some ⟨g2, 0, none⟩) N c2) (othersL N (sewT k m N)) ∧ wr.heap[w1.heap.size]? = some (.cells #[.slice (some ⟨g1, 0, none⟩) N c1, .slice (some ⟨g2, 0, none⟩) N c2] 165 (0, 0)) ∧ wr.heap[w.heap.size]? = some (.cells cs 101 (0, 0)) ∧ Below w.heap.size w wr) (fun i _ => n - (intOf i).toNat)
  case atStart => exact ⟨0, by omega, rfl, XG1.out, XG2.out, XS.out, X0.out, XB.out⟩
  case round =>
    obtain ⟨k, hk, rfl, hg1, hg2, hs, h0, hb⟩ := hrel
    have G1 := hid hg1
    have G2 := hid hg2
    have BS := hid hs
    have B0 := hid h0
    have BB := hid hb
    clear hg1 hg2 hs h0 hb
    by_cases hlt : k < n
    · have hki : (k : Int) < (n : Int) := by omega
      go_wp2_with fail
      obtain ⟨z, hz⟩ : ∃ z, N - 1 - k = z := ⟨_, rfl⟩
      have HZ := hid hz
      have HLE2 := hid (show ∀ W, Calls Try.prog 147 #[.agg cs, .int .i64 (k : Int)] W fun e w' => e = .returned (.int .i64 (z : Int)) ∧ Below W.heap.size W w' from fun W => by
        have h1 := HLE.out k W hlt
        rwa [show 2 * n + 2 * m - 1 - k = z by have := HLEN.out; omega] at h1)
      refine wp_region_rel_tail (by kernel_rfl) 7 (by kernel_rfl) (fun us => { tmps := #[.agg cs, .pointer (some ⟨w.heap.size, 0, none⟩), .int .i64 0, .pointer (some ⟨w1.heap.size, 0, none⟩), .int .i64 (k : Int), .agg cs, .slice (some ⟨w.heap.size + 1, 0, none⟩) 1 1, .agg #[.slice (some ⟨g1, 0, none⟩) N c1, .slice (some ⟨g2, 0, none⟩) N c2], .pointer (some ⟨w.heap.size, 20, none⟩), .int .i64 (n : Int), .int .i64 (k : Int), .bool true, .int .i64 (k : Int), us 0, us 1, us 2, us 3, us 4, us 5, us 6, u20, u21, undef, undef], defers := [] }) (fun i => if i = 0 then u13 else if i = 1 then u14 else if i = 2 then u15 else if i = 3 then u16 else if i = 4 then u17 else if i = 5 then u18 else u19) rfl (sewRel #[.slice (some ⟨g1, 0, none⟩) N c1, .slice (some ⟨g2, 0, none⟩) N c2] m k z cs) (fun i v W W' h hb => h) (fun i us v hi => ?_) (fun i us W hi hb hd => ?_) (fun us W hb hr => ?_)
      · match i, hi with
        | 0, _ => rfl
        | 1, _ => rfl
        | 2, _ => rfl
        | 3, _ => rfl
        | 4, _ => rfl
        | 5, _ => rfl
        | 6, _ => rfl
      · have L0 := hid ((hb.block _ (lt_of_block B0.out)).trans B0.out)
        have LS := hid ((hb.block _ (lt_of_block BS.out)).trans BS.out)
        match i, hi with
        | 0, _ => exact wpOp_val rfl rfl (exec_load_row 165 _ rfl w1.heap.size rfl 165 #[.slice (some ⟨g1, 0, none⟩) N c1, .slice (some ⟨g2, 0, none⟩) N c2] (0, 0) _ LS.out Try.underlying165 rfl Try.size_sewing) rfl
        | 1, _ => exact wpOp_val rfl rfl (exec_load_row 101 _ rfl w.heap.size rfl 101 cs (0, 0) _ L0.out Try.underlying101 rfl HSJ.out) rfl
        | 2, _ => exact wpOp_val rfl rfl (by go_simp) rfl
        | 3, _ =>
          have h0 : us 1 = _ := hd _ rfl { on := 1, ground := .data } (by simp) rfl
          have h1 : us 2 = _ := hd _ rfl { on := 2, ground := .data } (by simp) rfl
          rw [h0, h1]
          exact wpOp_call rfl rfl (by go_simp) ((HRE.out k W hlt).mono fun e w'' ⟨he, hb'⟩ => ⟨_, he, rfl, hb'⟩)
        | 4, _ => exact wpOp_val rfl rfl (exec_load_row 101 _ rfl w.heap.size rfl 101 cs (0, 0) _ L0.out Try.underlying101 rfl HSJ.out) rfl
        | 5, _ => exact wpOp_val rfl rfl (by go_simp) rfl
        | 6, _ =>
          have h0 : us 4 = _ := hd _ rfl { on := 4, ground := .data } (by simp) rfl
          have h1 : us 5 = _ := hd _ rfl { on := 5, ground := .data } (by simp) rfl
          rw [h0, h1]
          exact wpOp_call rfl rfl (by go_simp) ((HLE2.out W).mono fun e w'' ⟨he, hb'⟩ => ⟨_, he, rfl, hb'⟩)
      · have h0 : us 0 = _ := hr 0 (by omega)
        have h1 : us 1 = _ := hr 1 (by omega)
        have h2 : us 2 = _ := hr 2 (by omega)
        have h3 : us 3 = _ := hr 3 (by omega)
        have h4 : us 4 = _ := hr 4 (by omega)
        have h5 : us 5 = _ := hr 5 (by omega)
        have h6 : us 6 = _ := hr 6 (by omega)
        rw [h0, h1, h2, h3, h4, h5, h6]
        have L0 := hid ((hb.block _ (lt_of_block B0.out)).trans B0.out)
        have LS := hid ((hb.block _ (lt_of_block BS.out)).trans BS.out)
        have LG1 := hid (G1.out.belowC hb)
        have LG2 := hid (G2.out.belowC hb)
        have LB := hid (BB.out.trans (hb.mono BB.out.size))
        clear h0 h1 h2 h3 h4 h5 h6 hr hb
        obtain ⟨y, hy⟩ : ∃ y, m + k = y := ⟨_, rfl⟩
        have HY := hid hy
        rw [hy]
        obtain ⟨g', c', cs2, hv, hh2, hsz, _⟩ := LG2.out.head' (by rw [othersL_length]; omega)
        obtain rfl : g2 = g' := by simpa [Value.ownBlock] using congrArg Value.ownBlock hv
        rw [othersL_length] at hsz
        have HH2 := hid hh2
        have HSE := hid (sew_any (some ⟨g1, 0, none⟩) c1 c2 g2 N y z cs2 W hh2 hsz (by have := HLEN.out; omega) (by have := HLEN.out; omega) (by have := HLEN.out; omega))
        have HOS := hid (othersL_sew (N := N) (m := m) (k := k) (by have := HLEN.out; omega))
        rw [hy, hz] at HOS
        clear hv hh2 hsz hy hz
        go_wp2_with fail
        refine HSE.out.mono ?_
        rintro e w3 ⟨rfl, hpr⟩
        have DG2 := hid (show GrowI w3 Y.heap.size (.slice (some ⟨g2, 0, none⟩) N c2) (othersL N (sewT (k + 1) m N)) by rw [← HOS.out]; exact LG2.out.paired HH2.out hpr)
        have DG1 := hid (LG1.out.but hpr.2 (fun b e => by cases e; exact H12.out))
        have D0 := hid ((hpr.2.block _ (lt_of_block L0.out) (by have := HLO.out; have := HYS.out; have := (World.ownsRow.lt LG2.out g2 rfl).1; omega)).trans L0.out)
        have DS := hid ((hpr.2.block _ (lt_of_block LS.out) HWL.out).trans LS.out)
        have DB := hid (LB.out.trans (hpr.2.below HLO.out LB.out.size))
        clear hpr
        go_wp2_with fail
        go_roundw
        case rel => exact ⟨k + 1, by omega, by go_num, DG1.out, DG2.out, DS.out, D0.out, DB.out⟩
        case measure => simp [intOf]; omega
    · obtain rfl : k = n := by omega
      have HREAD := hid (show SewR wr wr.heap.size (.agg #[.slice (some ⟨g1, 0, none⟩) N c1, .slice (some ⟨g2, 0, none⟩) N c2]) N (mateN l) (sewT k m N) from ⟨_, _, _, _, rfl, by rw [HLS.out]; exact G1.out.ints'.2, G2.out.ints'.2⟩)
      go_wp2_with (refine wpList_load_row rfl 165 _ rfl w1.heap.size rfl 165 #[.slice (some ⟨g1, 0, none⟩) N c1, .slice (some ⟨g2, 0, none⟩) N c2] (0, 0) _ BS.out Try.underlying165 rfl Try.size_sewing ?_)
      refine (HSR.out _ _ HREAD.out).mono ?_
      rintro e w2 ⟨rfl, hb2⟩
      have B2 := hid (BB.out.trans (hb2.mono BB.out.size))
      clear hb2
      go_wp2_with fail
      go_ret
      exact ⟨rfl, B2.out⟩

/-- What JoinClose comes to. -/
def closeV (n m : Nat) (l : List Int) : Int := ((roundsTo l.length (mateN l) (sewT n m l.length) l.length : Nat) : Int)

set_option maxRecDepth 100000 in
set_option maxHeartbeats 4000000 in
theorem implJoinClose_any (n m : Int) (A : Option Addr) (c : Nat) (l : List Int) (w : World) (h : Ints w w.heap.size A l) (hn : l.length ≤ 1048576) :
    Calls Try.prog 34 #[.int .i64 n, .int .i64 m, .slice A l.length c] w fun e w' => Below w.heap.size w w' ∧ ∃ res ok, e = .returned (.tuple #[.int .i64 res, .bool ok]) ∧ IOut (PairOf n m l) (closeV n.toNat m.toNat l) res ok := by
  have H := hid (readJoined_any n m A c l w h hn)
  go_enter Try.func34, Try.ntmps34
  go_wp2_with fail
  refine H.out.mono ?_
  rintro e w1 ⟨⟨a, b, rfl, rfl, hp, rfl⟩ | ⟨hp, rfl⟩, hb⟩
  · have hpl := padTo_length hp.2.2.1.2.1
    have HD := hid hp
    have HSJ := hid (size_joinL hpl a b 0)
    have HZJ := hid (zero_joinL hpl a b 0)
    have HF := hid (fun W => closed_any l a b 0 W hp.2.2.1 (by have := hp.1.2; omega) (by have := hp.2.1.2; omega) (by have := hp.2.2.2; omega))
    have HFR := hid (show ((roundsTo l.length (mateN l) (sewT a b l.length) l.length : Nat) : Int) = closeV (a : Int).toNat (b : Int).toNat l by rw [Int.toNat_natCast, Int.toNat_natCast]; rfl)
    have N0 := hid (heap_new0 w1 (.cells zeroJ 101))
    have NB := hid (below_setRow' (hb.alloc hb.size (.cells zeroJ 101)) hb.size (pairC (joinL (padTo l) a b 0)))
    have N1 := hid (setRow_heap _ _ _ (pairC (joinL (padTo l) a b 0)) _ _ N0.out)
    clear hb hp hpl
    generalize hY : World.setRow (w1.alloc (.cells zeroJ 101)) w1.heap.size (pairC (joinL (padTo l) a b 0)) = Y at NB N1
    have HY := hid hY
    clear hY
    generalize ((roundsTo l.length (mateN l) (sewT a b l.length) l.length : Nat) : Int) = FR at *
    go_wp2_with (first
      | (refine wpList_store_row rfl 101 _ _ rfl w1.heap.size (pairC (joinL (padTo l) a b 0)) rfl rfl 101 zeroJ N0.out HSJ.out HZJ.out (pairC_one _) ?_; rw [HY.out])
      | refine wpList_load_row rfl 101 _ rfl w1.heap.size rfl 101 (pairC (joinL (padTo l) a b 0)) (0, 0) _ N1.out Try.underlying101 rfl HSJ.out ?_)
    refine (HF.out _).mono ?_
    rintro e w2 ⟨rfl, hb2⟩
    have B2 := hid (NB.out.trans (hb2.mono NB.out.size))
    clear hb2
    go_wp2_with fail
    refine bodyPost_ret (results_tmp2 rfl _ _ _) rfl ?_
    exact ⟨B2.out, FR, true, rfl, .inl ⟨HD.out, HFR.out, rfl⟩⟩
  · have HNo := hid hp
    have HB := hid hb
    clear hb hp
    have N0 := hid (heap_new0 w1 (.cells zeroJ 101))
    have NB := hid (below_setRow' (HB.out.alloc HB.out.size (.cells zeroJ 101)) HB.out.size zeroJ)
    go_wp2_with (refine wpList_store_row rfl 101 _ _ rfl w1.heap.size zeroJ rfl rfl 101 zeroJ N0.out Try.size_joined rfl zeroJ_one ?_)
    refine bodyPost_ret (results_tmp2 rfl _ _ _) rfl ?_
    exact ⟨NB.out, 0, false, rfl, .inr ⟨HNo.out, rfl, rfl⟩⟩

set_option maxRecDepth 100000 in
set_option maxHeartbeats 4000000 in
theorem implJoinUnit_any (n m : Int) (w : World) :
    Calls Try.prog 37 #[.int .i64 n, .int .i64 m] w fun e w' => Below w.heap.size w w' ∧ ∃ A' c' res ok, e = .returned (.tuple #[.slice A' res.length c', .bool ok]) ∧ LOut ((1 ≤ n ∧ n ≤ 5) ∧ 1 ≤ m ∧ m ≤ 5) (unitL n.toNat m.toNat) res ok ∧ Own3 w' w.heap.size A' res := by
  have HS := hid (fun x W => sideIn_any x W)
  by_cases hn : 1 ≤ n ∧ n ≤ 5
  · obtain ⟨a, rfl⟩ : ∃ a : Nat, n = (a : Int) := ⟨n.toNat, by omega⟩
    have s1 := hid (show ∀ W, Calls Try.prog 97 #[.int .i64 (a : Int)] W fun e w' => e = .returned (.bool true) ∧ W = w' from fun W => by have := HS.out (a : Int) W; rwa [decide_eq_true hn] at this)
    by_cases hm : 1 ≤ m ∧ m ≤ 5
    · obtain ⟨b, rfl⟩ : ∃ b : Nat, m = (b : Int) := ⟨m.toNat, by omega⟩
      have s2 := hid (show ∀ W, Calls Try.prog 97 #[.int .i64 (b : Int)] W fun e w' => e = .returned (.bool true) ∧ W = w' from fun W => by have := HS.out (b : Int) W; rwa [decide_eq_true hm] at this)
      have HD := hid (And.intro hn hm)
      have HU := hid (fun W => unitPairing_any a b W (by omega) (by omega) (by omega) (by omega))
      have hup := unitL_pair (n := a) (m := b) (by omega) (by omega) (by omega) (by omega)
      have HPL := hid (padTo_length hup.2.1)
      have HLI := hid (fun W => pair_plist (unitL a b) W hup)
      have HFR := hid (show unitL a b = unitL (a : Int).toNat (b : Int).toNat by rw [Int.toNat_natCast, Int.toNat_natCast])
      generalize unitL a b = FR at *
      clear hn hm hup
      go_enter Try.func37, Try.ntmps37
      go_wp2_with fail
      refine (s1.out _).mono ?_
      rintro e w' ⟨rfl, rfl⟩
      go_wp2_with fail
      refine (s2.out _).mono ?_
      rintro e w' ⟨rfl, rfl⟩
      go_wp2_with fail
      refine (HU.out _).mono ?_
      rintro e w2 ⟨rfl, hb2⟩
      have B2 := hid hb2
      clear hb2
      go_wp2_with (refine wpList_exec rfl (exec_field0 _ rfl (padTo FR) a b 0 HPL.out rfl) ?_)
      refine (HLI.out _).mono ?_
      rintro e w3 ⟨v, rfl, hg3, hb3⟩
      obtain ⟨A', c', rfl, hown⟩ := (hg3.lower B2.out.size).own
      have HOW := hid hown
      have B3 := hid (B2.out.trans (hb3.mono B2.out.size))
      clear hg3 hb3 hown
      go_wp2_with fail
      refine bodyPost_ret (results_tmp2 rfl _ _ _) rfl ?_
      exact ⟨B3.out, A', c', FR, true, rfl, .inl ⟨HD.out, HFR.out, rfl⟩, HOW.out⟩
    · have s2 := hid (show ∀ W, Calls Try.prog 97 #[.int .i64 m] W fun e w' => e = .returned (.bool false) ∧ W = w' from fun W => by have := HS.out m W; rwa [decide_eq_false hm] at this)
      have HNo := hid (show ¬ ((1 ≤ (a : Int) ∧ (a : Int) ≤ 5) ∧ 1 ≤ m ∧ m ≤ 5) from fun h => hm h.2)
      clear hn hm
      go_enter Try.func37, Try.ntmps37
      go_wp2_with fail
      refine (s1.out _).mono ?_
      rintro e w' ⟨rfl, rfl⟩
      go_wp2_with fail
      refine (s2.out _).mono ?_
      rintro e w' ⟨rfl, rfl⟩
      go_wp2_with fail
      refine bodyPost_ret (results_tmp2 rfl _ _ _) rfl ?_
      exact ⟨Below.refl _ _, none, 0, [], false, rfl, .inr ⟨HNo.out, rfl, rfl⟩, .inl ⟨rfl, rfl⟩⟩
  · have s1 := hid (show ∀ W, Calls Try.prog 97 #[.int .i64 n] W fun e w' => e = .returned (.bool false) ∧ W = w' from fun W => by have := HS.out n W; rwa [decide_eq_false hn] at this)
    have HNo := hid (show ¬ ((1 ≤ n ∧ n ≤ 5) ∧ 1 ≤ m ∧ m ≤ 5) from fun h => hn h.1)
    clear hn
    go_enter Try.func37, Try.ntmps37
    go_wp2_with fail
    refine (s1.out _).mono ?_
    rintro e w' ⟨rfl, rfl⟩
    go_wp2_with fail
    refine bodyPost_ret (results_tmp2 rfl _ _ _) rfl ?_
    exact ⟨Below.refl _ _, none, 0, [], false, rfl, .inr ⟨HNo.out, rfl, rfl⟩, .inl ⟨rfl, rfl⟩⟩
end Go.Proofs.Ytonhnmpgikmlpaa

/- JoinUnit of the specification, by its contract. -/
namespace Go.Proofs.Ytonhnmpgikmlpaa
open Go.RowKit Go.Shelf

theorem made_pairC (N : Nat) : madeCells #[Value.int .i64 0] N = pairC (List.replicate N 0) := by
  refine Array.ext_getElem? fun k => ?_
  unfold pairC
  by_cases hk : k < N
  · simp [madeCells, hk, Nat.mod_one]
  · rw [Array.getElem?_eq_none (by rw [size_madeCells]; omega), Array.getElem?_eq_none (by simp; omega)]
/-- So far the ports in V have their partners, and these them. -/
def PairsIn (L : List Int) (N : Nat) (V : Nat → Prop) (s : Nat → Nat) : Prop := L.length = N ∧ ∀ q, q < N → V q → L[q]? = some ((s q : Nat) : Int) ∧ L[s q]? = some ((q : Nat) : Int)
theorem pairsIn_step {L : List Int} {N q0 : Nat} {V V' : Nat → Prop} {s : Nat → Nat} (hs : Mates N s) (h : PairsIn L N V s) (hq0 : q0 < N) (hV : ∀ q, V' q → V q ∨ q = q0) :
    PairsIn ((L.set q0 ((s q0 : Nat) : Int)).set (s q0) ((q0 : Nat) : Int)) N V' s := by
  obtain ⟨h1, h2⟩ := h
  have hs0 := hs.lt _ hq0
  have hne : s q0 ≠ q0 := hs.ne _ hq0
  have at0 : ((L.set q0 ((s q0 : Nat) : Int)).set (s q0) ((q0 : Nat) : Int))[q0]? = some ((s q0 : Nat) : Int) := by
    rw [List.getElem?_set_ne hne, List.getElem?_set_self (by omega)]
  have at1 : ((L.set q0 ((s q0 : Nat) : Int)).set (s q0) ((q0 : Nat) : Int))[s q0]? = some ((q0 : Nat) : Int) := by
    rw [List.getElem?_set_self (by rw [List.length_set]; omega)]
  refine ⟨by simp [h1], fun q hq hv => ?_⟩
  by_cases e : q = q0
  · subst e
    exact ⟨at0, at1⟩
  · rcases hV q hv with hv | hv
    · obtain ⟨k1, k2⟩ := h2 q hq hv
      by_cases e1 : q = s q0
      · subst e1
        rw [hs.back _ hq0]
        exact ⟨at1, at0⟩
      · have n3 : s q ≠ q0 := fun e2 => e1 (by rw [← e2, hs.back _ hq])
        have n5 : s q ≠ s q0 := fun e2 => e (by rw [← hs.back _ hq, e2, hs.back _ hq0])
        rw [List.getElem?_set_ne (fun x => e1 x.symm), List.getElem?_set_ne (fun x => e x.symm), List.getElem?_set_ne n5.symm, List.getElem?_set_ne n3.symm]
        exact ⟨k1, k2⟩
    · exact absurd hv e
theorem pairsIn_done {L : List Int} {N : Nat} {V : Nat → Prop} {s : Nat → Nat} (hs : Mates N s) (h : PairsIn L N V s) (hV : ∀ q, q < N → V q ∨ V (s q)) : L = listS N s := by
  refine listS_all h.1 fun q hq => ?_
  rcases hV q hq with hv | hv
  · exact (h.2 _ hq hv).1
  · have := (h.2 _ (hs.lt _ hq) hv).2
    rwa [hs.back _ hq] at this
theorem row8_pairC {w : World} {g : Nat} {l : List Int} (h : w.heap[g]? = some (.cells (pairC l) 3 (0, 0))) : Row8 w g l := ⟨_, h, fun _ _ hk => pairC_at hk⟩

end Go.Proofs.Ytonhnmpgikmlpaa
