/- Plain words on beams: how often a beam goes through a cell; cells of two beams. No program is named. -/
import Derived.Test.YtmdgbcepjnfbnaaBeamM
namespace Go.Proofs.Ytmdgbcepjnfbnaa

/-- The number of a way's cell. -/
def cellN (m : Nat) (x : Wy) : Nat := x.i.toNat * m + x.k.toNat
theorem cellN_int {n m : Nat} {x : Wy} (h : inG n m x) : x.i * (m : Int) + x.k = ((cellN m x : Nat) : Int) := by
  obtain ⟨h1, _, h3, _⟩ := h
  unfold cellN
  rw [Int.natCast_add, Int.natCast_mul, Int.toNat_of_nonneg h1, Int.toNat_of_nonneg h3]
theorem cellN_lt {n m : Nat} {x : Wy} (h : inG n m x) : cellN m x < n * m := by
  obtain ⟨h1, h2, h3, h4⟩ := h
  exact parts_lt (by omega) (by omega)
theorem cellN_iff {n m i k : Nat} {x : Wy} (h : inG n m x) (hk : k < m) : cellN m x = i * m + k ↔ x.i = i ∧ x.k = k := by
  obtain ⟨h1, h2, h3, h4⟩ := h
  constructor
  · intro e
    obtain ⟨e1, e2⟩ := parts_inj e (by omega) hk
    omega
  · rintro ⟨e1, e2⟩
    unfold cellN
    rw [e1, e2, Int.toNat_natCast, Int.toNat_natCast]
/-- The cells of a beam. -/
def bcells (n m : Nat) (t : Int → Int → UInt8) (p : Nat) : List Nat := (List.range (blen n m t p)).map fun j => cellN m (bway n m t p j)
theorem bcells_length (n m : Nat) (t : Int → Int → UInt8) (p : Nat) : (bcells n m t p).length = blen n m t p := by simp [bcells]
/-- Does the beam go this way? -/
def sameW (x y : Wy) : Bool := decide (x.i = y.i ∧ x.k = y.k ∧ x.d = y.d)
theorem sameW_iff {x y : Wy} : sameW x y = true ↔ x = y := by
  unfold sameW
  rw [decide_eq_true_iff]
  exact ⟨fun h => Wy.eq h.1 h.2.1 h.2.2, fun h => by subst h; exact ⟨rfl, rfl, rfl⟩⟩
def goesTo (W : Nat → Wy) (L : Nat) (x : Wy) : Bool := (List.range L).any fun j => sameW (W j) x
theorem goesTo_iff {W : Nat → Wy} {L : Nat} {x : Wy} : goesTo W L x = true ↔ ∃ j, j < L ∧ W j = x := by
  unfold goesTo
  rw [List.any_eq_true]
  exact ⟨fun ⟨j, h1, h2⟩ => ⟨j, List.mem_range.1 h1, sameW_iff.1 h2⟩, fun ⟨j, h1, h2⟩ => ⟨j, List.mem_range.2 h1, sameW_iff.2 h2⟩⟩
theorem goesTo_succ (W : Nat → Wy) (L : Nat) (x : Wy) : goesTo W (L + 1) x = (goesTo W L x || sameW (W L) x) := by
  unfold goesTo
  rw [List.range_succ, List.any_append]
  simp
/-- In how many of the first h headings. -/
def upT (g : Nat → Bool) : Nat → Nat
  | 0 => 0
  | h + 1 => upT g h + (g h).toNat
theorem upT_le (g : Nat → Bool) : ∀ h, upT g h ≤ h
  | 0 => Nat.le_refl _
  | h + 1 => by
    have := upT_le g h
    have h2 : (g h).toNat ≤ 1 := by cases g h <;> decide
    rw [upT]; omega
/-- How often the beam goes through a place. -/
def timesN (n m : Nat) (t : Int → Int → UInt8) (p : Nat) (i k : Int) : Nat := upT (fun d => goesTo (bway n m t p) (blen n m t p) ⟨i, k, d⟩) 4

theorem upT_four (g : Nat → Bool) : upT g 4 = (g 0).toNat + (g 1).toNat + (g 2).toNat + (g 3).toNat := by
  simp [upT]
theorem times_gen (W : Nat → Wy) (i k : Int) : ∀ L : Nat, (∀ a b, a < b → b < L → W a ≠ W b) → (∀ j, j < L → (W j).d < 4) →
    upT (fun d => goesTo W L ⟨i, k, d⟩) 4 = (List.range L).countP fun j => decide ((W j).i = i ∧ (W j).k = k)
  | 0, _, _ => by simp [upT, goesTo]
  | L + 1, hne, hd => by
    have ih := times_gen W i k L (fun a b h1 h2 => hne a b h1 (by omega)) (fun j hj => hd j (by omega))
    rw [List.range_succ, List.countP_append, ← ih]
    simp only [List.countP_cons, List.countP_nil, Nat.zero_add]
    rw [upT_four, upT_four]
    simp only [goesTo_succ]
    by_cases hat : (W L).i = i ∧ (W L).k = k
    · have hdl := hd L (by omega)
      have hnew : goesTo W L ⟨i, k, (W L).d⟩ = false := by
        rw [Bool.eq_false_iff]
        intro h
        obtain ⟨j, hj, e⟩ := goesTo_iff.1 h
        exact hne j L hj (by omega) (by rw [e]; exact Wy.eq hat.1.symm hat.2.symm rfl)
      have hs : ∀ d, sameW (W L) ⟨i, k, d⟩ = decide ((W L).d = d) := fun d => by
        unfold sameW
        simp [hat.1, hat.2]
      rw [hs, hs, hs, hs]
      simp only [hat, and_self, decide_true, if_true]
      rcases four hdl with e | e | e | e <;> rw [e] at hnew ⊢ <;> simp [hnew] <;> omega
    · have hs : ∀ d, sameW (W L) ⟨i, k, d⟩ = false := fun d => by
        unfold sameW
        rw [decide_eq_false_iff_not]
        exact fun h => hat ⟨h.1, h.2.1⟩
      rw [hs, hs, hs, hs]
      simp [hat]

section
variable {n m : Nat} {t : Int → Int → UInt8}
theorem times_count {p i k : Nat} (hp : p < 2 * (n + m)) (hk : k < m) : timesN n m t p i k = (bcells n m t p).count (i * m + k) := by
  unfold timesN
  rw [times_gen _ _ _ _ (fun a b h1 h2 => bway_ne hp h1 (by omega)) (fun j _ => bway_d p j)]
  unfold bcells
  rw [List.count, List.countP_map]
  refine List.countP_congr fun j hj => ?_
  have hin := blen_in (n := n) (m := m) (t := t) (p := p) (List.mem_range.1 hj)
  simp only [Function.comp, decide_eq_true_iff, beq_iff_eq]
  exact (cellN_iff hin hk).symm
theorem goes_back {p : Nat} {x : Wy} (h : goesTo (bway n m t p) (blen n m t p) x = true) : goesTo (bway n m t p) (blen n m t p) (rev t x) = false := by
  rw [Bool.eq_false_iff]
  intro h2
  obtain ⟨a, ha, rfl⟩ := goesTo_iff.1 h
  obtain ⟨b, hb, e⟩ := goesTo_iff.1 h2
  exact bway_ne_rev b a hb ha e
theorem toNat_false {b : Bool} (h : b = false) : b.toNat = 0 := by subst h; rfl
theorem toNat_le (b : Bool) : b.toNat ≤ 1 := by cases b <;> decide
/-- Of a way and its way back one is gone at most. -/
theorem pair_le {g : Bool} {g' : Bool} (h : g = true → g' = false) : g.toNat + g'.toNat ≤ 1 := by
  cases g
  · simpa using toNat_le g'
  · rw [h rfl]; decide
/-- A beam goes through a cell twice at most. -/
theorem times_le {p : Nat} (i k : Int) : timesN n m t p i k ≤ 2 := by
  unfold timesN
  rw [upT_four]
  have hb : ∀ d, d < 4 → goesTo (bway n m t p) (blen n m t p) ⟨i, k, d⟩ = true → goesTo (bway n m t p) (blen n m t p) ⟨i, k, opp (bend (t i k) d)⟩ = false := fun d _ h => goes_back h
  generalize goesTo (bway n m t p) (blen n m t p) = g at hb ⊢
  by_cases h1 : t i k = 114
  · rw [h1] at hb
    have a := pair_le (hb 0 (by decide))
    have b := pair_le (hb 1 (by decide))
    simp only [bend, opp] at a b
    simp at a b
    omega
  · by_cases h2 : t i k = 102
    · rw [h2] at hb
      have a := pair_le (hb 0 (by decide))
      have b := pair_le (hb 2 (by decide))
      simp only [bend, opp] at a b
      simp at a b
      omega
    · have a := pair_le (hb 0 (by decide))
      have b := pair_le (hb 1 (by decide))
      rw [bend_e h1 h2] at a b
      simp only [opp] at a b
      simp at a b
      omega
/-- Two beams that share a way begin at one port. -/
theorem share {p q : Nat} (hp : p < 2 * (n + m)) (hq : q < 2 * (n + m)) : ∀ (a b : Nat), a < blen n m t p → b < blen n m t q → bway n m t p a = bway n m t q b → p = q
  | 0, 0, _, _, e => by
    have h1 := (entr_back (t := t) hp).2
    have h2 := (entr_back (t := t) hq).2
    have e' : entr n m p = entr n m q := e
    rw [e', h2] at h1
    omega
  | 0, b + 1, _, hb, e => absurd e.symm (entr_ne hp (blen_in (by omega)) (bway_d q b))
  | a + 1, 0, ha, _, e => absurd e (entr_ne hq (blen_in (by omega)) (bway_d p a))
  | a + 1, b + 1, ha, hb, e => share hp hq a b (by omega) (by omega) (nxt_inj (bway_d p a) (bway_d q b) e)
/-- .. and where one goes what the other goes backwards, they are the ends of one beam. -/
theorem share_back {p q : Nat} (hn : 1 ≤ n) (hm : 1 ≤ m) (hp : p < 2 * (n + m)) (hq : q < 2 * (n + m)) {a b : Nat} (ha : a < blen n m t p) (hb : b < blen n m t q) (e : bway n m t p a = rev t (bway n m t q b)) : p = bend_ n m t q := by
  have h := bway_back (t := t) hn hm hq (blen n m t q - 1 - b) (by omega)
  rw [show blen n m t q - 1 - (blen n m t q - 1 - b) = b by omega, ← e] at h
  have hl := (back_facts (t := t) hn hm hq).1
  exact share hp (bend_facts (t := t) hn hm hq).2.1 a (blen n m t q - 1 - b) ha (by omega) h.symm
/-- A cell of another beam is gone through once at most. -/
theorem times_other {p q : Nat} (hn : 1 ≤ n) (hm : 1 ≤ m) (hp : p < 2 * (n + m)) (hq : q < 2 * (n + m)) (h1 : p ≠ q) (h2 : p ≠ bend_ n m t q) (i k : Int) (h0 : 0 < timesN n m t p i k) : timesN n m t q i k ≤ 1 := by
  unfold timesN at *
  rw [upT_four] at h0 ⊢
  have hb : ∀ d, d < 4 → goesTo (bway n m t q) (blen n m t q) ⟨i, k, d⟩ = true → goesTo (bway n m t q) (blen n m t q) ⟨i, k, opp (bend (t i k) d)⟩ = false := fun d _ h => goes_back h
  have hx : ∀ d, goesTo (bway n m t p) (blen n m t p) ⟨i, k, d⟩ = true → goesTo (bway n m t q) (blen n m t q) ⟨i, k, d⟩ = false := fun d h => by
    rw [Bool.eq_false_iff]
    intro h'
    obtain ⟨a, ha, ea⟩ := goesTo_iff.1 h
    obtain ⟨b, hb, eb⟩ := goesTo_iff.1 h'
    exact h1 (share hp hq a b ha hb (ea.trans eb.symm))
  have hy : ∀ d, d < 4 → goesTo (bway n m t p) (blen n m t p) ⟨i, k, d⟩ = true → goesTo (bway n m t q) (blen n m t q) ⟨i, k, opp (bend (t i k) d)⟩ = false := fun d hd h => by
    rw [Bool.eq_false_iff]
    intro h'
    obtain ⟨a, ha, ea⟩ := goesTo_iff.1 h
    obtain ⟨b, hb, eb⟩ := goesTo_iff.1 h'
    refine h2 (share_back hn hm hp hq ha hb ?_)
    rw [ea, eb]
    exact (rev_rev (t := t) (x := ⟨i, k, d⟩) hd).symm
  generalize goesTo (bway n m t p) (blen n m t p) = f at *
  generalize goesTo (bway n m t q) (blen n m t q) = g at *
  have l0 := toNat_le (g ⟨i, k, 0⟩)
  have l1 := toNat_le (g ⟨i, k, 1⟩)
  have l2 := toNat_le (g ⟨i, k, 2⟩)
  have l3 := toNat_le (g ⟨i, k, 3⟩)
  have hz : ∀ d, d < 4 → f ⟨i, k, d⟩ = true → (g ⟨i, k, d⟩).toNat = 0 ∧ (g ⟨i, k, opp (bend (t i k) d)⟩).toNat = 0 := fun d hd h => ⟨toNat_false (hx d h), toNat_false (hy d hd h)⟩
  have hsome : f ⟨i, k, 0⟩ = true ∨ f ⟨i, k, 1⟩ = true ∨ f ⟨i, k, 2⟩ = true ∨ f ⟨i, k, 3⟩ = true := by
    cases e0 : f ⟨i, k, 0⟩ <;> cases e1 : f ⟨i, k, 1⟩ <;> cases e2 : f ⟨i, k, 2⟩ <;> cases e3 : f ⟨i, k, 3⟩ <;> simp_all
  by_cases g1 : t i k = 114
  · rw [g1] at hb hz
    have a := pair_le (hb 0 (by decide))
    have b := pair_le (hb 1 (by decide))
    simp only [bend, opp] at a b hz
    simp at a b
    rcases hsome with e | e | e | e <;> (have h' := hz _ (by decide) e; simp at h'; have a1 := toNat_false h'.1; have a2 := toNat_false h'.2; omega)
  · by_cases g2 : t i k = 102
    · rw [g2] at hb hz
      have a := pair_le (hb 0 (by decide))
      have b := pair_le (hb 2 (by decide))
      simp only [bend, opp] at a b hz
      simp at a b
      rcases hsome with e | e | e | e <;> (have h' := hz _ (by decide) e; simp at h'; have a1 := toNat_false h'.1; have a2 := toNat_false h'.2; omega)
    · have a := pair_le (hb 0 (by decide))
      have b := pair_le (hb 1 (by decide))
      rw [bend_e g1 g2] at a b
      simp only [opp] at a b
      simp at a b
      rcases hsome with e | e | e | e <;> (have h' := hz _ (by decide) e; rw [bend_e g1 g2] at h'; simp [opp] at h'; have a1 := toNat_false h'.1; have a2 := toNat_false h'.2; omega)
end

/-- A sum over a list of numbers below N, each number as often as it comes. -/
def sumN (f : Nat → Nat) : Nat → Nat
  | 0 => 0
  | c + 1 => sumN f c + f c
theorem sumN_congr {f g : Nat → Nat} : ∀ N, (∀ c, c < N → f c = g c) → sumN f N = sumN g N
  | 0, _ => rfl
  | N + 1, h => by rw [sumN, sumN, sumN_congr N (fun c hc => h c (by omega)), h N (by omega)]
theorem sumN_add (f g : Nat → Nat) : ∀ N, sumN (fun c => f c + g c) N = sumN f N + sumN g N
  | 0 => rfl
  | N + 1 => by rw [sumN, sumN, sumN, sumN_add f g N]; omega
theorem sumN_one (x v : Nat) : ∀ N, sumN (fun c => if x = c then v else 0) N = if x < N then v else 0
  | 0 => by simp [sumN]
  | N + 1 => by
    rw [sumN, sumN_one x v N]
    by_cases h1 : x = N
    · subst h1; simp
    · by_cases h2 : x < N
      · rw [if_pos h2, if_neg h1, if_pos (by omega), Nat.add_zero]
      · rw [if_neg h2, if_neg h1, if_neg (by omega)]
theorem sum_swap (φ : Nat → Nat) (N : Nat) : ∀ l : List Nat, (∀ x ∈ l, x < N) → (l.map φ).sum = sumN (fun c => l.count c * φ c) N
  | [], _ => by
    rw [List.map_nil, List.sum_nil, sumN_congr (g := fun _ => 0) N (fun c _ => by simp)]
    have : ∀ N, sumN (fun _ => 0) N = 0 := fun N => by induction N with
      | zero => rfl
      | succ N ih => rw [sumN, ih]
    rw [this]
  | x :: l, h => by
    rw [List.map_cons, List.sum_cons, sum_swap φ N l (fun y hy => h y (by simp [hy]))]
    have e : sumN (fun c => (x :: l).count c * φ c) N = sumN (fun c => (if x = c then φ x else 0) + l.count c * φ c) N := by
      refine sumN_congr N fun c _ => ?_
      rw [List.count_cons]
      by_cases hxc : x = c
      · subst hxc; simp [Nat.add_mul]; omega
      · simp [hxc]
    rw [e, sumN_add, sumN_one, if_pos (h x (by simp))]

end Go.Proofs.Ytmdgbcepjnfbnaa
