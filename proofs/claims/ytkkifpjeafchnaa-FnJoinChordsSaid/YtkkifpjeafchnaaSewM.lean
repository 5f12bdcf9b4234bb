/- Plain words on ports that are sewn: paths, where they end, rounds, which of them lead. No program is named. -/
namespace Go.Proofs.Ytkkifpjeafchnaa

/-- Ports below N: s tells partners, t to what a port is sewn; a port that t leaves where it is is loose. -/
structure Sewn (N : Nat) (s t : Nat → Nat) : Prop where
  slt : ∀ p, p < N → s p < N
  ss : ∀ p, p < N → s (s p) = p
  sne : ∀ p, p < N → s p ≠ p
  tlt : ∀ p, p < N → t p < N
  tt : ∀ p, p < N → t (t p) = p
/-- The port at which light comes in next, k times. -/
def goN (s t : Nat → Nat) : Nat → Nat → Nat
  | 0, p => p
  | k + 1, p => t (s (goN s t k p))
/-- A path that came in at p ends behind x. -/
def stopB (s t : Nat → Nat) (p x : Nat) : Bool := t (s x) == s x || t (s x) == p
/-- How often light comes in on a path. -/
def plen (N : Nat) (s t : Nat → Nat) (p : Nat) : Nat := ((List.range N).findIdx fun j => stopB s t p (goN s t j p)) + 1
/-- Where a path ends. -/
def pend (N : Nat) (s t : Nat → Nat) (p : Nat) : Nat := s (goN s t (plen N s t p - 1) p)
/-- The path goes round. -/
def onS (N : Nat) (s t : Nat → Nat) (p : Nat) : Bool := t (pend N s t p) != pend N s t p
/-- One of the ports of a path without end. -/
def ringS (s t : Nat → Nat) (p q : Nat) : Prop := ∃ j, q = goN s t j p ∨ q = s (goN s t j p)
/-- The first ports of a path. -/
def pathTo (s t : Nat → Nat) (p k : Nat) : List Nat := (List.range k).flatMap fun j => [goN s t j p, s (goN s t j p)]
/-- The port is the least one of a round. -/
def leadS (N : Nat) (s t : Nat → Nat) (p : Nat) : Bool := onS N s t p && (pathTo s t p (plen N s t p)).all fun q => decide (p ≤ q)
/-- The number of rounds that have their least port below x. -/
def roundsTo (N : Nat) (s t : Nat → Nat) (x : Nat) : Nat := (List.range x).countP (leadS N s t)
/-- Ports that paths from loose ports below x go through. -/
def fromTo (N : Nat) (s t : Nat → Nat) (x c : Nat) : Prop := ∃ i, i < x ∧ t i = i ∧ ∃ j, j + 1 < plen N s t i ∧ (c = s (goN s t j i) ∨ c = goN s t (j + 1) i)
/-- Ports that have been seen, once the rounds of the ports below x are. -/
def seenS (N : Nat) (s t : Nat → Nat) (x c : Nat) : Prop := (t c ≠ c ∧ onS N s t c = false) ∨ ∃ l, l < x ∧ leadS N s t l = true ∧ ringS s t l c

theorem pigeonS : ∀ (N : Nat) (f : Nat → Nat), (∀ j, j ≤ N → f j < N) → ∃ a b, a < b ∧ b ≤ N ∧ f a = f b
  | 0, f, h => absurd (h 0 (Nat.le_refl _)) (by omega)
  | N + 1, f, h => by
    -- send the place N to f (N + 1)
    by_cases hex : ∃ a, a ≤ N ∧ f a = f (N + 1)
    · obtain ⟨a, ha, e⟩ := hex
      exact ⟨a, N + 1, by omega, Nat.le_refl _, e⟩
    · have hne : ∀ a, a ≤ N → f a ≠ f (N + 1) := fun a ha e => hex ⟨a, ha, e⟩
      obtain ⟨a, b, hab, hb, e⟩ := pigeonS N (fun j => if f j = N then f (N + 1) else f j) (fun j hj => by
        have h1 := h j (by omega)
        have h2 := h (N + 1) (Nat.le_refl _)
        have h3 := hne j hj
        show (if f j = N then f (N + 1) else f j) < N
        split <;> omega)
      refine ⟨a, b, hab, by omega, ?_⟩
      have h3 := hne a (by omega)
      have h4 := hne b hb
      have e' : (if f a = N then f (N + 1) else f a) = (if f b = N then f (N + 1) else f b) := e
      split at e' <;> split at e' <;> omega

section
variable {N : Nat} {s t : Nat → Nat}
theorem goN_lt (h : Sewn N s t) {p : Nat} (hp : p < N) : ∀ k, goN s t k p < N
  | 0 => hp
  | k + 1 => h.tlt _ (h.slt _ (goN_lt h hp k))
theorem goN_add (a : Nat) (p : Nat) : ∀ b, goN s t (a + b) p = goN s t b (goN s t a p)
  | 0 => rfl
  | b + 1 => by
    show t (s (goN s t (a + b) p)) = t (s (goN s t b (goN s t a p)))
    rw [goN_add a p b]
theorem go_inj (h : Sewn N s t) {x y : Nat} (hx : x < N) (hy : y < N) (e : t (s x) = t (s y)) : x = y := by
  have e1 := congrArg t e
  rw [h.tt _ (h.slt _ hx), h.tt _ (h.slt _ hy)] at e1
  have e2 := congrArg s e1
  rwa [h.ss _ hx, h.ss _ hy] at e2
theorem goN_inj (h : Sewn N s t) {x y : Nat} (hx : x < N) (hy : y < N) : ∀ k, goN s t k x = goN s t k y → x = y
  | 0, e => e
  | k + 1, e => goN_inj h hx hy k (go_inj h (goN_lt h hx k) (goN_lt h hy k) e)
theorem goN_back (h : Sewn N s t) {p : Nat} (hp : p < N) : ∃ P, 1 ≤ P ∧ P ≤ N ∧ goN s t P p = p := by
  obtain ⟨a, b, hab, hb, e⟩ := pigeonS N (fun j => goN s t j p) (fun j _ => goN_lt h hp j)
  refine ⟨b - a, by omega, by omega, ?_⟩
  have e2 : goN s t a p = goN s t ((b - a) + a) p := by rw [show b - a + a = b by omega]; exact e
  rw [goN_add] at e2
  exact (goN_inj h hp (goN_lt h hp _) a e2).symm
theorem goN_mul {p P : Nat} (h : goN s t P p = p) : ∀ a, goN s t (a * P) p = p
  | 0 => by rw [Nat.zero_mul]; rfl
  | a + 1 => by rw [Nat.add_mul, Nat.one_mul, goN_add, goN_mul h a, h]
theorem goN_mod {p P : Nat} (h : goN s t P p = p) (b : Nat) : goN s t b p = goN s t (b % P) p := by
  have e := goN_add (s := s) (t := t) (b / P * P) p (b % P)
  rw [goN_mul h, Nat.mul_comm, Nat.div_add_mod] at e
  exact e
/-- Backwards. -/
theorem goN_rev (h : Sewn N s t) {p : Nat} (hp : p < N) (a : Nat) : ∀ i, goN s t i (s (goN s t (a + i) p)) = s (goN s t a p)
  | 0 => rfl
  | i + 1 => by
    have e := goN_rev h hp (a + 1) i
    rw [show a + 1 + i = a + (i + 1) by omega] at e
    show t (s (goN s t i (s (goN s t (a + (i + 1)) p)))) = _
    rw [e]
    have h1 := goN_lt h hp (a + 1)
    rw [h.ss _ h1]
    show t (t (s (goN s t a p))) = _
    rw [h.tt _ (h.slt _ (goN_lt h hp a))]

theorem plen_facts (h : Sewn N s t) {p : Nat} (hp : p < N) : 1 ≤ plen N s t p ∧ plen N s t p ≤ N ∧
    (t (pend N s t p) = pend N s t p ∨ goN s t (plen N s t p) p = p) ∧ (∀ j, j + 1 < plen N s t p → t (s (goN s t j p)) ≠ s (goN s t j p) ∧ goN s t (j + 1) p ≠ p) := by
  obtain ⟨P, hP1, hP, e⟩ := goN_back h hp
  have hex : ∃ j ∈ List.range N, (stopB s t p (goN s t j p)) = true := ⟨P - 1, List.mem_range.2 (by omega), by
    unfold stopB
    rw [Bool.or_eq_true]
    right
    have : goN s t (P - 1 + 1) p = p := by rw [show P - 1 + 1 = P by omega]; exact e
    exact beq_iff_eq.2 this⟩
  have hlt := List.findIdx_lt_length_of_exists hex
  obtain ⟨k1, k2⟩ := (List.findIdx_eq hlt).1 rfl
  rw [List.length_range] at hlt
  rw [List.getElem_range] at k1
  refine ⟨by unfold plen; omega, by unfold plen; omega, ?_, fun j hj => ?_⟩
  · unfold pend plen
    rw [Nat.add_sub_cancel]
    unfold stopB at k1
    rw [Bool.or_eq_true, beq_iff_eq, beq_iff_eq] at k1
    exact k1
  · have h3 := k2 j (by unfold plen at hj; omega)
    rw [List.getElem_range] at h3
    unfold stopB at h3
    rw [Bool.or_eq_false_iff, beq_eq_false_iff_ne, beq_eq_false_iff_ne] at h3
    exact h3
theorem plen_of (h : Sewn N s t) {p k : Nat} (hp : p < N) (hs : t (s (goN s t k p)) = s (goN s t k p) ∨ goN s t (k + 1) p = p)
    (hn : ∀ j, j < k → t (s (goN s t j p)) ≠ s (goN s t j p) ∧ goN s t (j + 1) p ≠ p) : plen N s t p = k + 1 := by
  obtain ⟨h1, h2, h3, h4⟩ := plen_facts h hp
  rcases Nat.lt_trichotomy (plen N s t p) (k + 1) with hlt | heq | hgt
  · have h5 := hn (plen N s t p - 1) (by omega)
    unfold pend at h3
    rw [show plen N s t p - 1 + 1 = plen N s t p by omega] at h5
    rcases h3 with h3 | h3
    · exact absurd h3 h5.1
    · exact absurd h3 h5.2
  · exact heq
  · have h5 := h4 k (by omega)
    rcases hs with hs | hs
    · exact absurd hs h5.1
    · exact absurd hs h5.2
theorem pend_lt (h : Sewn N s t) {p : Nat} (hp : p < N) : pend N s t p < N := h.slt _ (goN_lt h hp _)
/-- A path from a loose port ends at a loose one. -/
theorem loose_end (h : Sewn N s t) {p : Nat} (hp : p < N) (hl : t p = p) : t (pend N s t p) = pend N s t p := by
  obtain ⟨h1, _, h3, _⟩ := plen_facts h hp
  rcases h3 with h3 | h3
  · exact h3
  · have e : t (pend N s t p) = p := by
      unfold pend
      have : goN s t (plen N s t p - 1 + 1) p = p := by rw [show plen N s t p - 1 + 1 = plen N s t p by omega]; exact h3
      exact this
    have e2 := congrArg t e
    rw [h.tt _ (pend_lt h hp), hl] at e2
    rw [e2]; exact hl
theorem loose_off (h : Sewn N s t) {p : Nat} (hp : p < N) (hl : t p = p) : onS N s t p = false := by
  unfold onS
  rw [loose_end h hp hl]
  simp
/-- Until its end a path goes through ports that are sewn. -/
theorem path_sewn (h : Sewn N s t) {p j : Nat} (hp : p < N) (hj : j + 1 < plen N s t p) : t (goN s t (j + 1) p) = s (goN s t j p) ∧ t (goN s t (j + 1) p) ≠ goN s t (j + 1) p := by
  obtain ⟨_, _, _, h4⟩ := plen_facts h hp
  have e : t (goN s t (j + 1) p) = s (goN s t j p) := h.tt _ (h.slt _ (goN_lt h hp j))
  refine ⟨e, fun e2 => (h4 j hj).1 ?_⟩
  rw [e] at e2
  have e3 : t (s (goN s t j p)) = goN s t (j + 1) p := rfl
  rw [e3, ← e2]
/-- Backwards from the end of a path that does not go round. -/
theorem end_back (h : Sewn N s t) {p : Nat} (hp : p < N) (i : Nat) (hi : i < plen N s t p) : goN s t i (pend N s t p) = s (goN s t (plen N s t p - 1 - i) p) := by
  have e := goN_rev h hp (plen N s t p - 1 - i) i
  rw [show plen N s t p - 1 - i + i = plen N s t p - 1 by omega] at e
  exact e
theorem back_nostop (h : Sewn N s t) {p : Nat} (hp : p < N) (hl : t (pend N s t p) = pend N s t p) (i : Nat) (hi : i + 1 < plen N s t p) :
    t (s (goN s t i (pend N s t p))) ≠ s (goN s t i (pend N s t p)) ∧ goN s t (i + 1) (pend N s t p) ≠ pend N s t p := by
  obtain ⟨_, _, _, h4⟩ := plen_facts h hp
  have hlt := goN_lt h hp (plen N s t p - 1 - i)
  have e := end_back h hp i (by omega)
  obtain ⟨b, hb⟩ : ∃ b, plen N s t p - 1 - i = b + 1 := ⟨plen N s t p - 2 - i, by omega⟩
  rw [hb] at e hlt
  have h5 := path_sewn h hp (j := b) (by omega)
  rw [e, h.ss _ hlt]
  refine ⟨h5.2, fun e2 => ?_⟩
  have e3 : goN s t (i + 1) (pend N s t p) = s (goN s t b p) := by
    show t (s (goN s t i (pend N s t p))) = _
    rw [e, h.ss _ hlt, h5.1]
  rw [e3] at e2
  have h6 := (h4 b (by omega)).1
  rw [e2] at h6
  exact h6 hl
/-- From a loose port there and back. -/
theorem end_end (h : Sewn N s t) {p : Nat} (hp : p < N) (hl : t p = p) : pend N s t (pend N s t p) = p := by
  have he := loose_end h hp hl
  obtain ⟨h1, _, _, _⟩ := plen_facts h hp
  have e0 := end_back h hp (plen N s t p - 1) (by omega)
  rw [show plen N s t p - 1 - (plen N s t p - 1) = 0 by omega] at e0
  have e0' : s (goN s t (plen N s t p - 1) (pend N s t p)) = p := by rw [e0]; exact h.ss _ hp
  have hL := plen_of h (pend_lt h hp) (k := plen N s t p - 1) (.inl (by rw [e0']; exact hl)) (fun j hj => back_nostop h hp he j (by omega))
  unfold pend at e0' ⊢
  unfold pend at hL
  rw [hL, Nat.add_sub_cancel]
  exact e0'
/-- No loose port is its own end. -/
theorem end_ne (h : Sewn N s t) {p : Nat} (hp : p < N) : pend N s t p ≠ p := by
  intro e
  obtain ⟨h1, _, _, h4⟩ := plen_facts h hp
  generalize hLL : plen N s t p = L at *
  have key : ∀ i, i < L → goN s t i p = s (goN s t (L - 1 - i) p) := fun i hi => by
    have := end_back h hp i (by omega)
    rw [hLL, e] at this
    exact this
  rcases Nat.mod_two_eq_zero_or_one L with h0 | h0
  · -- even: the middle step
    have hm := key (L / 2) (by omega)
    rw [show L - 1 - L / 2 = L / 2 - 1 by omega] at hm
    have h5 := (h4 (L / 2 - 1) (by omega)).1
    have e2 : goN s t (L / 2 - 1 + 1) p = t (s (goN s t (L / 2 - 1) p)) := rfl
    rw [show L / 2 - 1 + 1 = L / 2 by omega] at e2
    exact h5 (by rw [← e2]; exact hm)
  · have hm := key (L / 2) (by omega)
    rw [show L - 1 - L / 2 = L / 2 by omega] at hm
    exact h.sne _ (goN_lt h hp _) hm.symm

/-- A round: its path comes back. -/
theorem on_back (h : Sewn N s t) {p : Nat} (hp : p < N) (ho : onS N s t p = true) : goN s t (plen N s t p) p = p := by
  obtain ⟨_, _, h3, _⟩ := plen_facts h hp
  rcases h3 with h3 | h3
  · unfold onS at ho
    rw [h3] at ho
    simp at ho
  · exact h3
theorem on_sewn (h : Sewn N s t) {p : Nat} (hp : p < N) (ho : onS N s t p = true) : ∀ j, t (s (goN s t j p)) ≠ s (goN s t j p) := by
  obtain ⟨h1, _, _, h4⟩ := plen_facts h hp
  have hb := on_back h hp ho
  have low : ∀ j, j < plen N s t p → t (s (goN s t j p)) ≠ s (goN s t j p) := fun j hj => by
    rcases Nat.lt_or_ge (j + 1) (plen N s t p) with h5 | h5
    · exact (h4 j h5).1
    · obtain rfl : j = plen N s t p - 1 := by omega
      unfold onS at ho
      simpa [pend] using ho
  intro j
  rw [goN_mod hb]
  exact low _ (Nat.mod_lt _ (by omega))
/-- A port whose path never comes to a loose one is of a round. -/
theorem on_of {p : Nat} (hs : ∀ j, t (s (goN s t j p)) ≠ s (goN s t j p)) : onS N s t p = true := by
  unfold onS pend
  simpa using hs _
theorem ring_refl (p : Nat) : ringS s t p p := ⟨0, .inl rfl⟩
theorem ring_lt (h : Sewn N s t) {p q : Nat} (hp : p < N) (hr : ringS s t p q) : q < N := by
  obtain ⟨j, rfl | rfl⟩ := hr
  · exact goN_lt h hp j
  · exact h.slt _ (goN_lt h hp j)
theorem ring_s (h : Sewn N s t) {p q : Nat} (hp : p < N) (hr : ringS s t p q) : ringS s t p (s q) := by
  obtain ⟨j, rfl | rfl⟩ := hr
  · exact ⟨j, .inr rfl⟩
  · exact ⟨j, .inl (h.ss _ (goN_lt h hp j))⟩
theorem ring_t (h : Sewn N s t) {p q : Nat} (hp : p < N) (ho : onS N s t p = true) (hr : ringS s t p q) : ringS s t p (t q) := by
  have hb := on_back h hp ho
  have h1 := (plen_facts h hp).1
  obtain ⟨j, rfl | rfl⟩ := hr
  · -- one step back
    have e : goN s t j p = goN s t (j + plen N s t p - 1 + 1) p := by
      rw [show j + plen N s t p - 1 + 1 = plen N s t p + j by omega, goN_add, hb]
    refine ⟨j + plen N s t p - 1, .inr ?_⟩
    rw [e]
    exact h.tt _ (h.slt _ (goN_lt h hp _))
  · exact ⟨j + 1, .inl rfl⟩
theorem ring_sewn (h : Sewn N s t) {p q : Nat} (hp : p < N) (ho : onS N s t p = true) (hr : ringS s t p q) : t q ≠ q := by
  have hs := on_sewn h hp ho
  have hr2 := ring_t h hp ho hr
  obtain ⟨j, rfl | rfl⟩ := hr
  · intro e
    have h1 := (plen_facts h hp).1
    have hb := on_back h hp ho
    have e1 : goN s t j p = goN s t (j + plen N s t p - 1 + 1) p := by
      rw [show j + plen N s t p - 1 + 1 = plen N s t p + j by omega, goN_add, hb]
    have e2 : t (goN s t j p) = s (goN s t (j + plen N s t p - 1) p) := by
      rw [e1]; exact h.tt _ (h.slt _ (goN_lt h hp _))
    have e3 : t (s (goN s t (j + plen N s t p - 1) p)) = goN s t j p := by rw [e1]; rfl
    exact hs (j + plen N s t p - 1) (by rw [e3, ← e2, e])
  · exact hs j
theorem ring_go (h : Sewn N s t) {p q : Nat} (hp : p < N) (ho : onS N s t p = true) (hr : ringS s t p q) : ∀ j, ringS s t p (goN s t j q)
  | 0 => hr
  | j + 1 => ring_t h hp ho (ring_s h hp (ring_go h hp ho hr j))
theorem ring_on (h : Sewn N s t) {p q : Nat} (hp : p < N) (ho : onS N s t p = true) (hr : ringS s t p q) : onS N s t q = true :=
  on_of fun j => ring_sewn h hp ho (ring_s h hp (ring_go h hp ho hr j))
theorem ring_symm (h : Sewn N s t) {p q : Nat} (hp : p < N) (ho : onS N s t p = true) (hr : ringS s t p q) : ringS s t q p := by
  have hq := ring_on h hp ho hr
  have hql := ring_lt h hp hr
  obtain ⟨j, hj⟩ := hr
  have down : ∀ j, ringS s t q (goN s t j p) → ringS s t q p := by
    intro j
    induction j with
    | zero => exact fun h => h
    | succ j ih =>
      intro h2
      have h3 := ring_t h hql hq h2
      have e : t (goN s t (j + 1) p) = s (goN s t j p) := h.tt _ (h.slt _ (goN_lt h hp j))
      rw [e] at h3
      have h4 := ring_s h hql h3
      rw [h.ss _ (goN_lt h hp j)] at h4
      exact ih h4
  rcases hj with hj | hj
  · exact down j (by rw [← hj]; exact ring_refl q)
  · refine down j ?_
    have h4 := ring_s h hql (ring_refl q)
    rw [hj, h.ss _ (goN_lt h hp j)] at h4
    rw [hj]
    exact h4
theorem ring_trans (h : Sewn N s t) {p q r : Nat} (hp : p < N) (ho : onS N s t p = true) (h1 : ringS s t p q) (h2 : ringS s t q r) : ringS s t p r := by
  obtain ⟨j, rfl | rfl⟩ := h2
  · exact ring_go h hp ho h1 j
  · exact ring_s h hp (ring_go h hp ho h1 j)
theorem pathTo_mem {p k q : Nat} : q ∈ pathTo s t p k ↔ ∃ j, j < k ∧ (q = goN s t j p ∨ q = s (goN s t j p)) := by
  unfold pathTo
  rw [List.mem_flatMap]
  constructor
  · rintro ⟨j, hj, hq⟩
    rw [List.mem_range] at hj
    simp only [List.mem_cons, List.not_mem_nil, or_false] at hq
    exact ⟨j, hj, hq⟩
  · rintro ⟨j, hj, hq⟩
    exact ⟨j, List.mem_range.2 hj, by simpa using hq⟩
theorem path_ring (h : Sewn N s t) {p q : Nat} (hp : p < N) (ho : onS N s t p = true) : q ∈ pathTo s t p (plen N s t p) ↔ ringS s t p q := by
  rw [pathTo_mem]
  constructor
  · rintro ⟨j, _, hq⟩
    exact ⟨j, hq⟩
  · rintro ⟨j, hq⟩
    rw [goN_mod (on_back h hp ho)] at hq
    exact ⟨_, Nat.mod_lt _ (plen_facts h hp).1, hq⟩
theorem leadS_iff (h : Sewn N s t) {p : Nat} (hp : p < N) : leadS N s t p = true ↔ onS N s t p = true ∧ ∀ q, ringS s t p q → p ≤ q := by
  unfold leadS
  rw [Bool.and_eq_true, List.all_eq_true]
  constructor
  · rintro ⟨h1, h2⟩
    exact ⟨h1, fun q hq => of_decide_eq_true (h2 q ((path_ring h hp h1).2 hq))⟩
  · rintro ⟨h1, h2⟩
    exact ⟨h1, fun q hq => decide_eq_true (h2 q ((path_ring h hp h1).1 hq))⟩

/-- What paths from loose ports go through is what is sewn and of no round. -/
theorem from_iff (h : Sewn N s t) {c : Nat} (hc : c < N) : fromTo N s t N c ↔ (t c ≠ c ∧ onS N s t c = false) := by
  constructor
  · rintro ⟨i, hi, hl, j, hj, hcj⟩
    have hsw : t c ≠ c := by
      rcases hcj with rfl | rfl
      · exact ((plen_facts h hi).2.2.2 j hj).1
      · exact (path_sewn h hi hj).2
    refine ⟨hsw, ?_⟩
    cases hon : onS N s t c with
    | false => rfl
    | true =>
      exfalso
      have down : ∀ j, ringS s t c (goN s t j i) → ringS s t c i := by
        intro j
        induction j with
        | zero => exact fun h => h
        | succ j ih =>
          intro h2
          have h3 := ring_t h hc hon h2
          have e : t (goN s t (j + 1) i) = s (goN s t j i) := h.tt _ (h.slt _ (goN_lt h hi j))
          rw [e] at h3
          have h4 := ring_s h hc h3
          rw [h.ss _ (goN_lt h hi j)] at h4
          exact ih h4
      have hri : ringS s t c i := by
        rcases hcj with e | e
        · refine down j ?_
          have h4 := ring_s h hc (ring_refl (s := s) (t := t) c)
          rw [e, h.ss _ (goN_lt h hi j)] at h4
          rw [e]
          exact h4
        · exact down (j + 1) (by rw [← e]; exact ring_refl c)
      exact ring_sewn h hc hon hri hl
  · rintro ⟨hsw, hoff⟩
    have hl : t (pend N s t c) = pend N s t c := by
      unfold onS at hoff
      simpa using hoff
    have he := pend_lt h hc
    have h1 := (plen_facts h hc).1
    have e0 := end_back h hc (plen N s t c - 1) (by omega)
    rw [show plen N s t c - 1 - (plen N s t c - 1) = 0 by omega] at e0
    refine ⟨pend N s t c, he, hl, plen N s t c - 1, ?_, .inl ?_⟩
    · rcases Nat.lt_or_ge (plen N s t c - 1 + 1) (plen N s t (pend N s t c)) with h2 | h2
      · exact h2
      · exfalso
        obtain ⟨g1, _, g3, _⟩ := plen_facts h he
        have g3' := loose_end h he hl
        -- its end would be before c, or c itself
        rcases Nat.lt_or_ge (plen N s t (pend N s t c)) (plen N s t c) with h5 | h5
        · have h6 := (back_nostop h hc hl (plen N s t (pend N s t c) - 1) (by omega)).1
          exact h6 g3'
        · have h6 : plen N s t (pend N s t c) = plen N s t c := by omega
          have h7 : pend N s t (pend N s t c) = c := by
            show s (goN s t (plen N s t (pend N s t c) - 1) (pend N s t c)) = c
            rw [h6, e0]
            exact h.ss _ hc
          rw [h7] at g3'
          exact hsw g3'
    · rw [e0]
      exact (h.ss _ hc).symm
theorem fromTo_zero (c : Nat) : ¬ fromTo N s t 0 c := fun ⟨i, hi, _⟩ => absurd hi (by omega)
theorem fromTo_yes {x c : Nat} (hl : t x = x) : fromTo N s t (x + 1) c ↔ fromTo N s t x c ∨ ∃ j, j + 1 < plen N s t x ∧ (c = s (goN s t j x) ∨ c = goN s t (j + 1) x) := by
  constructor
  · rintro ⟨i, hi, h1, h2⟩
    rcases Nat.lt_or_ge i x with h3 | h3
    · exact .inl ⟨i, h3, h1, h2⟩
    · obtain rfl : i = x := by omega
      exact .inr h2
  · rintro (⟨i, hi, h1, h2⟩ | h2)
    · exact ⟨i, by omega, h1, h2⟩
    · exact ⟨x, by omega, hl, h2⟩
theorem fromTo_no {x c : Nat} (hl : t x ≠ x) : fromTo N s t (x + 1) c ↔ fromTo N s t x c := by
  constructor
  · rintro ⟨i, hi, h1, h2⟩
    rcases Nat.lt_or_ge i x with h3 | h3
    · exact ⟨i, h3, h1, h2⟩
    · obtain rfl : i = x := by omega
      exact absurd h1 hl
  · rintro ⟨i, hi, h1, h2⟩
    exact ⟨i, by omega, h1, h2⟩
theorem seen_zero {c : Nat} : seenS N s t 0 c ↔ (t c ≠ c ∧ onS N s t c = false) :=
  ⟨fun h => h.resolve_right fun ⟨l, hl, _⟩ => absurd hl (by omega), .inl⟩
theorem ring_leadS (h : Sewn N s t) {p : Nat} (hp : p < N) (ho : onS N s t p = true) : ∀ (k q : Nat), ringS s t p q → q = k → ∃ l, l ≤ k ∧ leadS N s t l = true ∧ ringS s t l p := by
  intro k
  induction k using Nat.strongRecOn with
  | _ k ih =>
    intro q hq hk
    have hon := ring_on h hp ho hq
    have hql := ring_lt h hp hq
    by_cases hex : ∃ z, ringS s t p z ∧ z < k
    · obtain ⟨z, hz, hlt⟩ := hex
      obtain ⟨l, hl, h2, h3⟩ := ih _ hlt z hz rfl
      exact ⟨l, by omega, h2, h3⟩
    · refine ⟨k, Nat.le_refl _, ?_, ?_⟩
      · rw [← hk]
        refine (leadS_iff h hql).2 ⟨hon, fun z hz => ?_⟩
        rw [hk]
        exact Nat.le_of_not_lt fun hlt => hex ⟨z, ring_trans h hp ho hq hz, hlt⟩
      · rw [← hk]
        exact ring_symm h hp ho hq
/-- A sewn port that has not been seen leads. -/
theorem seen_lead (h : Sewn N s t) {x : Nat} (hx : x < N) (hsw : t x ≠ x) (hn : ¬ seenS N s t x x) : leadS N s t x = true := by
  have hon : onS N s t x = true := by
    cases hb : onS N s t x with
    | true => rfl
    | false => exact absurd (.inl ⟨hsw, hb⟩) hn
  obtain ⟨l, hl, h2, h3⟩ := ring_leadS h hx hon x x (ring_refl _) rfl
  rcases Nat.lt_or_ge l x with hlt | hge
  · exact absurd (.inr ⟨l, hlt, h2, h3⟩) hn
  · obtain rfl : l = x := by omega
    exact h2
theorem seen_not (h : Sewn N s t) {x : Nat} (hx : x < N) (hn : t x = x ∨ seenS N s t x x) : leadS N s t x = false := by
  rw [Bool.eq_false_iff]
  intro hl
  obtain ⟨h1, h2⟩ := (leadS_iff h hx).1 hl
  rcases hn with hn | ⟨_, hn⟩ | ⟨l, hlt, hll, hr⟩
  · rw [loose_off h hx hn] at h1; cases h1
  · rw [hn] at h1; cases h1
  · have hlN : l < N := by omega
    have h3 := h2 _ (ring_symm h hlN ((leadS_iff h hlN).1 hll).1 hr)
    omega
theorem seen_yes {x c : Nat} (hl : leadS N s t x = true) : seenS N s t (x + 1) c ↔ seenS N s t x c ∨ ringS s t x c := by
  constructor
  · rintro (h1 | ⟨l, hl, h2, h3⟩)
    · exact .inl (.inl h1)
    · rcases Nat.lt_or_ge l x with hlt | hge
      · exact .inl (.inr ⟨l, hlt, h2, h3⟩)
      · obtain rfl : l = x := by omega
        exact .inr h3
  · rintro ((h1 | ⟨l, hl, h2, h3⟩) | h1)
    · exact .inl h1
    · exact .inr ⟨l, by omega, h2, h3⟩
    · exact .inr ⟨x, by omega, hl, h1⟩
theorem seen_no {x c : Nat} (hl : leadS N s t x = false) : seenS N s t (x + 1) c ↔ seenS N s t x c := by
  constructor
  · rintro (h1 | ⟨l, hl2, h2, h3⟩)
    · exact .inl h1
    · rcases Nat.lt_or_ge l x with hlt | hge
      · exact .inr ⟨l, hlt, h2, h3⟩
      · obtain rfl : l = x := by omega
        rw [hl] at h2; cases h2
  · rintro (h1 | ⟨l, hl2, h2, h3⟩)
    · exact .inl h1
    · exact .inr ⟨l, by omega, h2, h3⟩
theorem roundsTo_zero : roundsTo N s t 0 = 0 := rfl
theorem roundsTo_yes {x : Nat} (h : leadS N s t x = true) : roundsTo N s t (x + 1) = roundsTo N s t x + 1 := by
  unfold roundsTo
  rw [List.range_succ, List.countP_append, List.countP_cons, List.countP_nil, if_pos h]
theorem roundsTo_no {x : Nat} (h : leadS N s t x = false) : roundsTo N s t (x + 1) = roundsTo N s t x := by
  unfold roundsTo
  rw [List.range_succ, List.countP_append, List.countP_cons, List.countP_nil, if_neg (by rw [h]; decide), Nat.zero_add, Nat.add_zero]
theorem roundsTo_le (x : Nat) : roundsTo N s t x ≤ x := by
  have := List.countP_le_length (p := leadS N s t) (l := List.range x)
  rwa [List.length_range] at this
/-- A round goes through no port both ways. -/
theorem ring_alt (h : Sewn N s t) {p : Nat} (hp : p < N) (ho : onS N s t p = true) : ∀ d j, goN s t (j + d) p ≠ s (goN s t j p) := by
  intro d
  induction d using Nat.strongRecOn with
  | _ d ih =>
    intro j e
    match d, ih, e with
    | 0, _, e => exact h.sne _ (goN_lt h hp j) e.symm
    | 1, _, e => exact on_sewn h hp ho j e
    | d + 2, ih, e =>
      refine ih d (by omega) (j + 1) ?_
      have e1 := congrArg t e
      have e2 : t (goN s t (j + (d + 2)) p) = s (goN s t (j + 1 + d) p) := by
        rw [show j + (d + 2) = j + 1 + d + 1 by omega]
        exact h.tt _ (h.slt _ (goN_lt h hp _))
      rw [e2] at e1
      have e3 := congrArg s e1
      rw [h.ss _ (goN_lt h hp _)] at e3
      exact e3
/-- A round is seen, port by port: the marking stops where it began. -/
theorem mark_go (h : Sewn N s t) {x k : Nat} (hx : x < N) (hl : leadS N s t x = true) (hk : k < plen N s t x) :
    ¬ (seenS N s t x (goN s t k x) ∨ ∃ j, j < k ∧ (goN s t k x = goN s t j x ∨ goN s t k x = s (goN s t j x))) := by
  obtain ⟨ho, hle⟩ := (leadS_iff h hx).1 hl
  obtain ⟨h1, _, _, h4⟩ := plen_facts h hx
  rintro ((⟨_, hs⟩ | ⟨l, hl1, hl2, hr⟩) | ⟨j, hj, e | e⟩)
  · rw [ring_on h hx ho ⟨k, .inl rfl⟩] at hs; cases hs
  · have hlN : l < N := by omega
    have hol := ((leadS_iff h hlN).1 hl2).1
    have h5 := ring_symm h hx ho ⟨k, .inl rfl⟩
    have h6 := ring_trans h hlN hol hr h5
    have h7 := hle _ (ring_symm h hlN hol h6)
    omega
  · have e2 : goN s t j x = goN s t (k - j + j) x := by rw [show k - j + j = k by omega]; exact e.symm
    rw [goN_add] at e2
    have e3 := goN_inj h hx (goN_lt h hx _) j e2
    have h5 := (h4 (k - j - 1) (by omega)).2
    rw [show k - j - 1 + 1 = k - j by omega] at h5
    exact h5 e3.symm
  · refine ring_alt h hx ho (k - j) j ?_
    rw [show j + (k - j) = k by omega]
    exact e
theorem mark_stop (h : Sewn N s t) {x : Nat} (hx : x < N) (hl : leadS N s t x = true) :
    ∃ j, j < plen N s t x ∧ goN s t (plen N s t x) x = goN s t j x := ⟨0, (plen_facts h hx).1, on_back h hx ((leadS_iff h hx).1 hl).1⟩
theorem mark_ring (h : Sewn N s t) {x c : Nat} (hx : x < N) (hl : leadS N s t x = true) :
    (∃ j, j < plen N s t x ∧ (c = goN s t j x ∨ c = s (goN s t j x))) ↔ ringS s t x c := by
  rw [← path_ring h hx ((leadS_iff h hx).1 hl).1, pathTo_mem]
end

/-- The ports of so many rows at both ends of a list of N ports are sewn: those from m on to the last ones, backwards. -/
def sewT (n m N i : Nat) : Nat := if m ≤ i ∧ i < m + n then N - 1 - (i - m) else if N - n ≤ i ∧ i < N then m + (N - 1 - i) else i
theorem sewT_tt {n m N : Nat} (h : m + n + n ≤ N) (i : Nat) : sewT n m N (sewT n m N i) = i := by
  unfold sewT
  by_cases h1 : m ≤ i ∧ i < m + n
  · rw [if_pos h1, if_neg (by omega), if_pos (by omega)]; omega
  · rw [if_neg h1]
    by_cases h2 : N - n ≤ i ∧ i < N
    · rw [if_pos h2, if_pos (by omega)]; omega
    · rw [if_neg h2, if_neg h1, if_neg h2]
theorem sewT_lt {n m N i : Nat} (h : m + n + n ≤ N) (hi : i < N) : sewT n m N i < N := by
  unfold sewT
  split
  · omega
  · split <;> omega
theorem sewT_loose {n m N i : Nat} (h : m + n + n ≤ N) (hi : i < N) : sewT n m N i = i ↔ i < m ∨ (m + n ≤ i ∧ i < N - n) := by
  unfold sewT
  split
  · omega
  · split <;> omega
/-- The partner of a port of two pairings, those of the second one numbered on. -/
def twoS (p : Nat) (a b : Nat → Nat) (i : Nat) : Nat := if i < p then a i else p + b (i - p)
theorem twoS_sewn {n m p q : Nat} {a b : Nat → Nat} (ha : ∀ i, i < p → a i < p ∧ a i ≠ i ∧ a (a i) = i) (hb : ∀ i, i < q → b i < q ∧ b i ≠ i ∧ b (b i) = i) (h : m + n + n ≤ p + q) :
    Sewn (p + q) (twoS p a b) (sewT n m (p + q)) where
  slt i hi := by
    unfold twoS
    split
    · have := (ha i ‹_›).1; omega
    · have := (hb (i - p) (by omega)).1; omega
  ss i hi := by
    unfold twoS
    by_cases h1 : i < p
    · have h2 := ha i h1
      rw [if_pos h1, if_pos h2.1]
      exact h2.2.2
    · have h2 := hb (i - p) (by omega)
      rw [if_neg h1, if_neg (by omega), Nat.add_sub_cancel_left, h2.2.2]
      omega
  sne i hi := by
    unfold twoS
    by_cases h1 : i < p
    · rw [if_pos h1]; exact (ha i h1).2.1
    · have h2 := hb (i - p) (by omega)
      rw [if_neg h1]
      omega
  tlt _ hi := sewT_lt h hi
  tt _ _ := sewT_tt h _
theorem oneS_sewn {n m p : Nat} {a : Nat → Nat} (ha : ∀ i, i < p → a i < p ∧ a i ≠ i ∧ a (a i) = i) (h : m + n + n ≤ p) : Sewn p a (sewT n m p) where
  slt i hi := (ha i hi).1
  ss i hi := (ha i hi).2.2
  sne i hi := (ha i hi).2.1
  tlt _ hi := sewT_lt h hi
  tt _ _ := sewT_tt h _
/-- The number of a loose port of two pairings round both; r is how many of the second one's are loose. -/
def nameN (n m p r i : Nat) : Nat := if i < m then i else if p ≤ i then m + (i - p) else m + r + (i - m - n)
/-- The loose port with a number round both. -/
def aroundN (n m p r j : Nat) : Nat := if j < m then j else if j < m + r then p + (j - m) else j - r + n
theorem name_around {n m p r j : Nat} (hp : m + n ≤ p) (hj : j < p - n + r) : nameN n m p r (aroundN n m p r j) = j := by
  unfold nameN aroundN
  by_cases h1 : j < m
  · rw [if_pos h1, if_pos h1]
  · rw [if_neg h1]
    by_cases h2 : j < m + r
    · rw [if_pos h2, if_neg (by omega), if_pos (by omega)]; omega
    · rw [if_neg h2, if_neg (by omega), if_neg (by omega)]; omega
theorem around_name {n m p r i : Nat} (hi : i < m ∨ (m + n ≤ i ∧ i < p + r)) : aroundN n m p r (nameN n m p r i) = i := by
  unfold nameN aroundN
  by_cases h1 : i < m
  · rw [if_pos h1, if_pos h1]
  · rw [if_neg h1]
    by_cases h2 : p ≤ i
    · rw [if_pos h2, if_neg (by omega), if_pos (by omega)]; omega
    · rw [if_neg h2, if_neg (by omega), if_neg (by omega)]; omega
theorem name_lt {n m p r i : Nat} (hp : m + n ≤ p) (hi : i < m ∨ (m + n ≤ i ∧ i < p + r)) : nameN n m p r i < p - n + r := by
  unfold nameN
  split
  · omega
  · split <;> omega
theorem around_loose {n m p r j : Nat} (hp : m + n ≤ p) (hj : j < p - n + r) : aroundN n m p r j < m ∨ (m + n ≤ aroundN n m p r j ∧ aroundN n m p r j < p + r) := by
  unfold aroundN
  split
  · omega
  · split <;> omega
end Go.Proofs.Ytkkifpjeafchnaa
