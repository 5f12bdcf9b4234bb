/- Settled texts in one file. Each begins with what it holds. -/
import Derived.Test.YtongjijkdjagdaaDoorBunA
/- Plain words on beams: ways, how they go on, that they end, that they lead back. No program is named. -/
namespace Go.Proofs.YtongjijkdjagdaaDoor

/-- A way: row, column, heading. -/
structure Wy where
  i : Int
  k : Int
  d : Nat

theorem Wy.eq {x y : Wy} (h1 : x.i = y.i) (h2 : x.k = y.k) (h3 : x.d = y.d) : x = y := by
  cases x; cases y; simp only at h1 h2 h3; subst h1; subst h2; subst h3; rfl

/-- The heading behind a cell with a letter. -/
def bend (b : UInt8) (d : Nat) : Nat :=
  if b = 114 then (if d = 0 then 1 else if d = 1 then 0 else if d = 2 then 3 else 2) else if b = 102 then 3 - d else d
/-- The other way round. -/
def opp (d : Nat) : Nat := if d = 0 then 2 else if d = 1 then 3 else if d = 2 then 0 else 1
def stepI (i : Int) (d : Nat) : Int := if d = 0 then i - 1 else if d = 2 then i + 1 else i
def stepK (k : Int) (d : Nat) : Int := if d = 1 then k + 1 else if d = 3 then k - 1 else k
/-- The letter at a place. -/
def lett (m : Nat) (ls : List UInt8) (i k : Int) : UInt8 := ls.getD (i * m + k).toNat 0

theorem four {d : Nat} (h : d < 4) : d = 0 ∨ d = 1 ∨ d = 2 ∨ d = 3 := by omega
theorem bend_lt (b : UInt8) {d : Nat} (h : d < 4) : bend b d < 4 := by
  unfold bend
  split
  · split
    · decide
    · split
      · decide
      · split <;> decide
  · split <;> omega
theorem opp_lt (d : Nat) : opp d < 4 := by
  unfold opp
  split
  · decide
  · split
    · decide
    · split <;> decide
theorem opp_opp {d : Nat} (h : d < 4) : opp (opp d) = d := by
  rcases four h with rfl | rfl | rfl | rfl <;> rfl
theorem bend_r {d : Nat} : bend 114 d = (if d = 0 then 1 else if d = 1 then 0 else if d = 2 then 3 else 2) := rfl
theorem bend_f {d : Nat} : bend 102 d = 3 - d := rfl
theorem bend_e {b : UInt8} {d : Nat} (h1 : b ≠ 114) (h2 : b ≠ 102) : bend b d = d := by unfold bend; rw [if_neg h1, if_neg h2]
theorem bend_opp (b : UInt8) {d : Nat} (h : d < 4) : bend b (opp (bend b d)) = opp d := by
  by_cases h1 : b = 114
  · subst h1
    rcases four h with rfl | rfl | rfl | rfl <;> rfl
  · by_cases h2 : b = 102
    · subst h2
      rcases four h with rfl | rfl | rfl | rfl <;> rfl
    · rw [bend_e h1 h2, bend_e h1 h2]
theorem bend_ne (b : UInt8) {d : Nat} (h : d < 4) : opp (bend b d) ≠ d := by
  by_cases h1 : b = 114
  · subst h1
    rcases four h with rfl | rfl | rfl | rfl <;> decide
  · by_cases h2 : b = 102
    · subst h2
      rcases four h with rfl | rfl | rfl | rfl <;> decide
    · rw [bend_e h1 h2]
      rcases four h with rfl | rfl | rfl | rfl <;> decide
theorem stepI_opp (i : Int) {d : Nat} (h : d < 4) : stepI (stepI i d) (opp d) = i := by
  rcases four h with rfl | rfl | rfl | rfl <;> simp [stepI, opp] <;> omega
theorem stepK_opp (k : Int) {d : Nat} (h : d < 4) : stepK (stepK k d) (opp d) = k := by
  rcases four h with rfl | rfl | rfl | rfl <;> simp [stepK, opp] <;> omega
theorem step_moves (i k : Int) {d : Nat} (h : d < 4) : ¬ (stepI i d = i ∧ stepK k d = k) := by
  rcases four h with rfl | rfl | rfl | rfl <;> simp [stepI, stepK] <;> omega

section
variable (t : Int → Int → UInt8)
/-- The way behind a way. -/
def nxt (x : Wy) : Wy := ⟨stepI x.i (bend (t x.i x.k) x.d), stepK x.k (bend (t x.i x.k) x.d), bend (t x.i x.k) x.d⟩
/-- The same way backwards. -/
def rev (x : Wy) : Wy := ⟨x.i, x.k, opp (bend (t x.i x.k) x.d)⟩
def iter (x : Wy) : Nat → Wy
  | 0 => x
  | j + 1 => nxt t (iter x j)
end

section
variable {t : Int → Int → UInt8}
theorem nxt_d {x : Wy} (h : x.d < 4) : (nxt t x).d < 4 := bend_lt _ h
theorem rev_d (x : Wy) : (rev t x).d < 4 := opp_lt _
theorem iter_d {x : Wy} (h : x.d < 4) : ∀ j, (iter t x j).d < 4
  | 0 => h
  | j + 1 => nxt_d (iter_d h j)
theorem nxt_rev {x : Wy} (h : x.d < 4) : nxt t (rev t x) = ⟨stepI x.i (opp x.d), stepK x.k (opp x.d), opp x.d⟩ := by
  unfold nxt rev
  simp only
  rw [bend_opp _ h]
theorem nxt_rev_nxt {x : Wy} (h : x.d < 4) : nxt t (rev t (nxt t x)) = rev t x := by
  rw [nxt_rev (nxt_d h)]
  have hb := bend_lt (t x.i x.k) h
  unfold nxt rev
  simp only
  rw [stepI_opp _ hb, stepK_opp _ hb]
theorem rev_rev {x : Wy} (h : x.d < 4) : rev t (rev t x) = x := by
  refine Wy.eq rfl rfl ?_
  show opp (bend (t x.i x.k) (opp (bend (t x.i x.k) x.d))) = x.d
  rw [bend_opp _ h, opp_opp h]
theorem nxt_inj {x y : Wy} (hx : x.d < 4) (hy : y.d < 4) (h : nxt t x = nxt t y) : x = y := by
  have e1 := nxt_rev_nxt (t := t) hx
  have e2 := nxt_rev_nxt (t := t) hy
  rw [h, e2] at e1
  have := congrArg (rev t) e1
  rw [rev_rev hx, rev_rev hy] at this
  exact this.symm
theorem rev_ne {x : Wy} (h : x.d < 4) : rev t x ≠ x := fun e => bend_ne (t x.i x.k) h (congrArg Wy.d e)
theorem rev_ne_nxt {x : Wy} (h : x.d < 4) : rev t x ≠ nxt t x := fun e =>
  step_moves x.i x.k (bend_lt (t x.i x.k) h) ⟨(congrArg Wy.i e).symm, (congrArg Wy.k e).symm⟩
theorem iter_succ' (x : Wy) : ∀ j, iter t x (j + 1) = iter t (nxt t x) j
  | 0 => rfl
  | j + 1 => by rw [iter, iter_succ' x j]; rfl
theorem iter_add (x : Wy) (a : Nat) : ∀ b, iter t x (a + b) = iter t (iter t x a) b
  | 0 => rfl
  | b + 1 => by rw [← Nat.add_assoc, iter, iter_add x a b]; rfl
end

/-- The way lies in the grid. -/
def inG (n m : Nat) (x : Wy) : Prop := 0 ≤ x.i ∧ x.i < n ∧ 0 ≤ x.k ∧ x.k < m
instance (n m : Nat) (x : Wy) : Decidable (inG n m x) := by unfold inG; infer_instance
/-- The way into the first cell behind a port. -/
def entr (n m p : Nat) : Wy :=
  if p < m then ⟨0, p, 2⟩ else if p < m + n then ⟨(p : Int) - m, (m : Int) - 1, 3⟩ else if p < 2 * m + n then ⟨(n : Int) - 1, 2 * (m : Int) + n - 1 - p, 0⟩ else ⟨2 * ((n : Int) + m) - 1 - p, 0, 1⟩
/-- The port of a way that has left the grid. -/
def leav (n m : Nat) (x : Wy) : Int :=
  if x.d = 0 then x.k else if x.d = 1 then m + x.i else if x.d = 2 then 2 * (m : Int) + n - 1 - x.k else 2 * ((n : Int) + m) - 1 - x.i

theorem entr_d (n m p : Nat) : (entr n m p).d < 4 := by
  unfold entr
  split
  · exact (by decide : 2 < 4)
  · split
    · exact (by decide : 3 < 4)
    · split
      · exact (by decide : 0 < 4)
      · exact (by decide : 1 < 4)
theorem entr_in {n m p : Nat} (hn : 1 ≤ n) (hm : 1 ≤ m) (hp : p < 2 * (n + m)) : inG n m (entr n m p) := by
  unfold entr inG
  split
  · refine ⟨?_, ?_, ?_, ?_⟩ <;> simp only <;> omega
  · split
    · refine ⟨?_, ?_, ?_, ?_⟩ <;> simp only <;> omega
    · split
      · refine ⟨?_, ?_, ?_, ?_⟩ <;> simp only <;> omega
      · refine ⟨?_, ?_, ?_, ?_⟩ <;> simp only <;> omega
theorem entr_back {t : Int → Int → UInt8} {n m p : Nat} (_ : p < 2 * (n + m)) : ¬ inG n m (nxt t (rev t (entr n m p))) ∧ leav n m (nxt t (rev t (entr n m p))) = p := by
  rw [nxt_rev (entr_d n m p)]
  unfold entr inG leav
  split
  · simp only [stepI, stepK, opp]; simp <;> omega
  · split
    · simp only [stepI, stepK, opp]; simp <;> omega
    · split
      · simp only [stepI, stepK, opp]; simp <;> omega
      · simp only [stepI, stepK, opp]; simp <;> omega
theorem leav_entr {t : Int → Int → UInt8} {n m : Nat} {y : Wy} (hd : y.d < 4) (hi : inG n m y) (ho : ¬ inG n m (nxt t y)) :
    0 ≤ leav n m (nxt t y) ∧ leav n m (nxt t y) < 2 * ((n : Int) + m) ∧ entr n m (leav n m (nxt t y)).toNat = rev t y := by
  obtain ⟨h1, h2, h3, h4⟩ := hi
  have hb := bend_lt (t y.i y.k) hd
  unfold nxt at *
  unfold rev
  generalize bend (t y.i y.k) y.d = e at *
  unfold inG at ho
  rcases four hb with rfl | rfl | rfl | rfl
  · simp only [stepI, stepK] at ho ⊢
    simp at ho
    have hz : y.i = 0 := by omega
    simp only [leav]
    simp
    refine ⟨by omega, by omega, ?_⟩
    unfold entr
    rw [if_pos (by omega)]
    exact Wy.eq (by simp; omega) (by simp; omega) rfl
  · simp only [stepI, stepK] at ho ⊢
    simp at ho
    have hz : y.k = (m : Int) - 1 := by omega
    simp only [leav]
    simp
    refine ⟨by omega, by omega, ?_⟩
    unfold entr
    rw [if_neg (by omega), if_pos (by omega)]
    exact Wy.eq (by simp; omega) (by simp; omega) rfl
  · simp only [stepI, stepK] at ho ⊢
    simp at ho
    have hz : y.i = (n : Int) - 1 := by omega
    simp only [leav]
    simp
    refine ⟨by omega, by omega, ?_⟩
    unfold entr
    rw [if_neg (by omega), if_neg (by omega), if_pos (by omega)]
    exact Wy.eq (by simp; omega) (by simp; omega) rfl
  · simp only [stepI, stepK] at ho ⊢
    simp at ho
    have hz : y.k = 0 := by omega
    simp only [leav]
    simp
    refine ⟨by omega, by omega, ?_⟩
    unfold entr
    rw [if_neg (by omega), if_neg (by omega), if_neg (by omega)]
    exact Wy.eq (by simp; omega) (by simp; omega) rfl

/-- Among N + 1 numbers below N two are the same. -/
theorem pigeon : ∀ (N : Nat) (f : Nat → Nat), (∀ j, j ≤ N → f j < N) → ∃ a b, a < b ∧ b ≤ N ∧ f a = f b
  | 0, f, h => absurd (h 0 (Nat.le_refl _)) (by omega)
  | N + 1, f, h => by
    by_cases hex : ∃ j, j ≤ N ∧ f j = f (N + 1)
    · obtain ⟨j, hj, e⟩ := hex
      exact ⟨j, N + 1, by omega, Nat.le_refl _, e⟩
    · have hno : ∀ j, j ≤ N → f j ≠ f (N + 1) := fun j hj e => hex ⟨j, hj, e⟩
      have hv := h (N + 1) (Nat.le_refl _)
      obtain ⟨a, b, hab, hbN, e⟩ := pigeon N (fun j => if f j = N then f (N + 1) else f j) (fun j hj => by
        have hj1 := h j (by omega)
        have hj2 := hno j hj
        show (if f j = N then f (N + 1) else f j) < N
        split <;> omega)
      have ha := hno a (by omega)
      have hb := hno b hbN
      refine ⟨a, b, hab, by omega, ?_⟩
      have e' : (if f a = N then f (N + 1) else f a) = (if f b = N then f (N + 1) else f b) := e
      by_cases h1 : f a = N
      · by_cases h2 : f b = N
        · rw [h1, h2]
        · rw [if_pos h1, if_neg h2] at e'
          exact absurd e'.symm hb
      · by_cases h2 : f b = N
        · rw [if_neg h1, if_pos h2] at e'
          exact absurd e' ha
        · rw [if_neg h1, if_neg h2] at e'
          exact e'

theorem parts_inj {a a' m b b' : Nat} (h : a * m + b = a' * m + b') (hb : b < m) (hb' : b' < m) : a = a' ∧ b = b' := by
  have e1 : (a * m + b) / m = a := by rw [Nat.mul_comm, Nat.mul_add_div (by omega), Nat.div_eq_of_lt hb, Nat.add_zero]
  have e2 : (a' * m + b') / m = a' := by rw [Nat.mul_comm, Nat.mul_add_div (by omega), Nat.div_eq_of_lt hb', Nat.add_zero]
  have e : a = a' := by rw [← e1, h, e2]
  subst e
  exact ⟨rfl, by omega⟩
theorem parts_lt {a n m b : Nat} (ha : a < n) (hb : b < m) : a * m + b < n * m := by
  have : (a + 1) * m ≤ n * m := Nat.mul_le_mul ha (Nat.le_refl _)
  rw [Nat.add_mul, Nat.one_mul] at this
  omega
/-- A number for each way. -/
def wcode (m : Nat) (x : Wy) : Nat := (x.i.toNat * m + x.k.toNat) * 4 + x.d
theorem wcode_lt {n m : Nat} {x : Wy} (h : inG n m x) (hd : x.d < 4) : wcode m x < 4 * (n * m) := by
  obtain ⟨h1, h2, h3, h4⟩ := h
  have := parts_lt (a := x.i.toNat) (n := n) (m := m) (b := x.k.toNat) (by omega) (by omega)
  unfold wcode
  omega
theorem wcode_inj {n m : Nat} {x y : Wy} (h : inG n m x) (hd : x.d < 4) (h' : inG n m y) (hd' : y.d < 4) (e : wcode m x = wcode m y) : x = y := by
  obtain ⟨h1, h2, h3, h4⟩ := h
  obtain ⟨g1, g2, g3, g4⟩ := h'
  unfold wcode at e
  have e1 : x.i.toNat * m + x.k.toNat = y.i.toNat * m + y.k.toNat := by omega
  obtain ⟨e2, e3⟩ := parts_inj e1 (by omega) (by omega)
  exact Wy.eq (by omega) (by omega) (by omega)

section
variable (n m : Nat) (t : Int → Int → UInt8)
/-- How many cells a way goes through, at most f of them. -/
def runL : Nat → Wy → Nat
  | 0, _ => 0
  | f + 1, x => if inG n m x then runL f (nxt t x) + 1 else 0
/-- The length of the beam of a port. -/
def blen (p : Nat) : Nat := runL n m t (4 * (n * m) + 1) (entr n m p)
/-- The ways of the beam of a port. -/
def bway (p j : Nat) : Wy := iter t (entr n m p) j
/-- Its partner. -/
def bend_ (p : Nat) : Nat := (leav n m (bway n m t p (blen n m t p))).toNat
end

section
variable {n m : Nat} {t : Int → Int → UInt8}
theorem runL_in : ∀ (f : Nat) (x : Wy) (j : Nat), j < runL n m t f x → inG n m (iter t x j)
  | 0, x, j, h => by simp [runL] at h
  | f + 1, x, j, h => by
    rw [runL] at h
    by_cases hx : inG n m x
    · rw [if_pos hx] at h
      cases j with
      | zero => exact hx
      | succ j => rw [iter_succ']; exact runL_in f _ j (by omega)
    · rw [if_neg hx] at h; omega
theorem runL_out : ∀ (f : Nat) (x : Wy), runL n m t f x < f → ¬ inG n m (iter t x (runL n m t f x))
  | 0, x, h => by omega
  | f + 1, x, h => by
    rw [runL] at h ⊢
    by_cases hx : inG n m x
    · rw [if_pos hx] at h ⊢
      rw [iter_succ']
      exact runL_out f _ (by omega)
    · rw [if_neg hx]; exact hx
theorem runL_le (f : Nat) (x : Wy) (N : Nat) (h : ¬ inG n m (iter t x N)) : runL n m t f x ≤ N :=
  Nat.le_of_not_lt fun hlt => h (runL_in f x N hlt)
/-- Nothing in the grid leads to the first cell. -/
theorem entr_ne {p : Nat} (hp : p < 2 * (n + m)) {y : Wy} (hy : inG n m y) (hd : y.d < 4) : nxt t y ≠ entr n m p := fun e => by
  have h1 := (entr_back (t := t) hp).1
  rw [← e, nxt_rev_nxt hd] at h1
  exact h1 hy
/-- A beam never meets a way again. -/
theorem iter_ne {p : Nat} (hp : p < 2 * (n + m)) : ∀ (a b : Nat), a < b → (∀ j, j < b → inG n m (bway n m t p j)) → bway n m t p a ≠ bway n m t p b
  | 0, b, hab, hin => by
    obtain ⟨b, rfl⟩ : ∃ c, b = c + 1 := ⟨b - 1, by omega⟩
    exact fun e => entr_ne hp (hin b (by omega)) (iter_d (entr_d n m p) b) e.symm
  | a + 1, b, hab, hin => by
    obtain ⟨b, rfl⟩ : ∃ c, b = c + 1 := ⟨b - 1, by omega⟩
    exact fun e => iter_ne hp a b (by omega) (fun j hj => hin j (by omega)) (nxt_inj (iter_d (entr_d n m p) a) (iter_d (entr_d n m p) b) e)
theorem blen_lt {p : Nat} (hp : p < 2 * (n + m)) : blen n m t p ≤ 4 * (n * m) := by
  by_cases h : ∀ j, j ≤ 4 * (n * m) → inG n m (bway n m t p j)
  · obtain ⟨a, b, hab, hb, e⟩ := pigeon (4 * (n * m)) (fun j => wcode m (bway n m t p j)) (fun j hj => wcode_lt (h j hj) (iter_d (entr_d n m p) j))
    exact absurd (wcode_inj (h a (by omega)) (iter_d (entr_d n m p) a) (h b hb) (iter_d (entr_d n m p) b) e) (iter_ne hp a b hab (fun j hj => h j (by omega)))
  · obtain ⟨j, hj⟩ := Classical.not_forall.1 h
    obtain ⟨h1, h2⟩ := Classical.not_imp.1 hj
    exact Nat.le_trans (runL_le _ _ j h2) h1
theorem blen_in {p j : Nat} (h : j < blen n m t p) : inG n m (bway n m t p j) := runL_in _ _ _ h
theorem blen_out {p : Nat} (hp : p < 2 * (n + m)) : ¬ inG n m (bway n m t p (blen n m t p)) := by
  have := blen_lt (t := t) hp
  exact runL_out _ _ (by unfold blen at this; omega)
theorem blen_pos {p : Nat} (hn : 1 ≤ n) (hm : 1 ≤ m) (hp : p < 2 * (n + m)) : 1 ≤ blen n m t p := by
  refine Nat.le_of_not_lt fun h => ?_
  have h0 : blen n m t p = 0 := by omega
  have := blen_out (t := t) hp
  rw [h0] at this
  exact this (entr_in hn hm hp)
theorem blen_of {p L : Nat} (hp : p < 2 * (n + m)) (hi : ∀ j, j < L → inG n m (bway n m t p j)) (ho : ¬ inG n m (bway n m t p L)) : blen n m t p = L := by
  have h1 := runL_le (n := n) (m := m) (t := t) (4 * (n * m) + 1) (entr n m p) L ho
  refine Nat.le_antisymm h1 (Nat.le_of_not_lt fun hlt => ?_)
  exact blen_out (t := t) hp (hi _ hlt)
theorem bway_d (p j : Nat) : (bway n m t p j).d < 4 := iter_d (entr_d n m p) j
theorem bway_ne {p a b : Nat} (hp : p < 2 * (n + m)) (hab : a < b) (hb : b ≤ blen n m t p) : bway n m t p a ≠ bway n m t p b :=
  iter_ne hp a b hab fun _ hj => blen_in (by omega)
theorem bend_facts {p : Nat} (hn : 1 ≤ n) (hm : 1 ≤ m) (hp : p < 2 * (n + m)) :
    ((bend_ n m t p : Nat) : Int) = leav n m (bway n m t p (blen n m t p)) ∧ bend_ n m t p < 2 * (n + m) ∧ entr n m (bend_ n m t p) = rev t (bway n m t p (blen n m t p - 1)) := by
  have hpos := blen_pos (t := t) hn hm hp
  obtain ⟨L, hL⟩ : ∃ L, blen n m t p = L + 1 := ⟨blen n m t p - 1, by omega⟩
  have hin := blen_in (n := n) (m := m) (t := t) (p := p) (j := L) (by omega)
  have hout := blen_out (t := t) hp
  unfold bend_
  rw [hL] at hout ⊢
  obtain ⟨h1, h2, h3⟩ := leav_entr (bway_d p L) hin hout
  rw [Nat.add_sub_cancel]
  exact ⟨Int.toNat_of_nonneg h1, by
    show (leav n m (nxt t (bway n m t p L))).toNat < _
    omega, h3⟩
/-- The way back. -/
theorem bway_back {p : Nat} (hn : 1 ≤ n) (hm : 1 ≤ m) (hp : p < 2 * (n + m)) : ∀ j, j < blen n m t p → bway n m t (bend_ n m t p) j = rev t (bway n m t p (blen n m t p - 1 - j))
  | 0, _ => (bend_facts hn hm hp).2.2
  | j + 1, hj => by
    have ih := bway_back hn hm hp j (by omega)
    show nxt t (bway n m t (bend_ n m t p) j) = _
    rw [ih, show blen n m t p - 1 - j = (blen n m t p - 1 - (j + 1)) + 1 by omega]
    exact nxt_rev_nxt (bway_d p _)
theorem back_facts {p : Nat} (hn : 1 ≤ n) (hm : 1 ≤ m) (hp : p < 2 * (n + m)) : blen n m t (bend_ n m t p) = blen n m t p ∧ bend_ n m t (bend_ n m t p) = p := by
  have hpos := blen_pos (t := t) hn hm hp
  have hq := (bend_facts (t := t) hn hm hp).2.1
  obtain ⟨L, hL⟩ : ∃ L, blen n m t p = L + 1 := ⟨blen n m t p - 1, by omega⟩
  have hlast : bway n m t (bend_ n m t p) (L + 1) = nxt t (rev t (entr n m p)) := by
    show nxt t (bway n m t (bend_ n m t p) L) = _
    rw [bway_back hn hm hp L (by omega), hL, show L + 1 - 1 - L = 0 by omega]
    rfl
  have hb := entr_back (t := t) hp
  have hlen : blen n m t (bend_ n m t p) = L + 1 := by
    refine blen_of hq (fun j hj => ?_) ?_
    · rw [bway_back hn hm hp j (by omega)]
      exact blen_in (n := n) (m := m) (t := t) (p := p) (j := blen n m t p - 1 - j) (by omega)
    · rw [hlast]; exact hb.1
  refine ⟨by rw [hlen, hL], ?_⟩
  show (leav n m (bway n m t (bend_ n m t p) (blen n m t (bend_ n m t p)))).toNat = p
  rw [hlen, hlast, hb.2]
  simp
/-- No beam goes a way and its way back. -/
theorem bway_ne_rev {p : Nat} (a b : Nat) (ha : a < blen n m t p) (hb : b < blen n m t p) : bway n m t p a ≠ rev t (bway n m t p b) := by
  have main : ∀ (s a b : Nat), b = a + s → b < blen n m t p → bway n m t p a ≠ rev t (bway n m t p b) := by
    intro s
    induction s using Nat.strongRecOn with
    | ind s ih =>
      intro a b hs hb e
      match s, hs with
      | 0, hs =>
        subst hs
        exact rev_ne (bway_d p _) e.symm
      | 1, hs =>
        subst hs
        have h2 : rev t (bway n m t p a) = nxt t (bway n m t p a) := by
          rw [e, rev_rev (bway_d p (a + 1))]
          conv => rhs; rw [← e]
          rfl
        exact rev_ne_nxt (bway_d p a) h2
      | s + 2, hs =>
        obtain ⟨b, rfl⟩ : ∃ c, b = c + 1 := ⟨b - 1, by omega⟩
        refine ih s (by omega) (a + 1) b (by omega) (by omega) ?_
        show nxt t (bway n m t p a) = _
        rw [e]
        exact nxt_rev_nxt (bway_d p b)
  intro e
  by_cases h : a ≤ b
  · exact main (b - a) a b (by omega) hb e
  · refine main (a - b) b a (by omega) ha ?_
    rw [e, rev_rev (bway_d p b)]
end

end Go.Proofs.YtongjijkdjagdaaDoor

/- Plain words on beams: how often a beam goes through a cell; cells of two beams. No program is named. -/
namespace Go.Proofs.YtongjijkdjagdaaDoor

/-- The number of a way's cell. -/
def cellN (m : Nat) (x : Wy) : Nat := x.i.toNat * m + x.k.toNat
theorem cellN_int {n m : Nat} {x : Wy} (h : inG n m x) : x.i * (m : Int) + x.k = ((cellN m x : Nat) : Int) := by
  obtain ⟨h1, _, h3, _⟩ := h
  unfold cellN
  rw [Int.natCast_add, Int.natCast_mul, Int.toNat_of_nonneg h1, Int.toNat_of_nonneg h3]
theorem cellN_lt {n m : Nat} {x : Wy} (h : inG n m x) : cellN m x < n * m := by
  obtain ⟨h1, h2, h3, h4⟩ := h
  exact parts_lt (by omega) (by omega)
theorem cellN_iff {n m i k : Nat} {x : Wy} (h : inG n m x) (hk : k < m) : cellN m x = i * m + k ↔ x.i = i ∧ x.k = k := by
  obtain ⟨h1, h2, h3, h4⟩ := h
  constructor
  · intro e
    obtain ⟨e1, e2⟩ := parts_inj e (by omega) hk
    omega
  · rintro ⟨e1, e2⟩
    unfold cellN
    rw [e1, e2, Int.toNat_natCast, Int.toNat_natCast]
/-- The cells of a beam. -/
def bcells (n m : Nat) (t : Int → Int → UInt8) (p : Nat) : List Nat := (List.range (blen n m t p)).map fun j => cellN m (bway n m t p j)
theorem bcells_length (n m : Nat) (t : Int → Int → UInt8) (p : Nat) : (bcells n m t p).length = blen n m t p := by simp [bcells]
/-- Does the beam go this way? -/
def sameW (x y : Wy) : Bool := decide (x.i = y.i ∧ x.k = y.k ∧ x.d = y.d)
theorem sameW_iff {x y : Wy} : sameW x y = true ↔ x = y := by
  unfold sameW
  rw [decide_eq_true_iff]
  exact ⟨fun h => Wy.eq h.1 h.2.1 h.2.2, fun h => by subst h; exact ⟨rfl, rfl, rfl⟩⟩
def goesTo (W : Nat → Wy) (L : Nat) (x : Wy) : Bool := (List.range L).any fun j => sameW (W j) x
theorem goesTo_iff {W : Nat → Wy} {L : Nat} {x : Wy} : goesTo W L x = true ↔ ∃ j, j < L ∧ W j = x := by
  unfold goesTo
  rw [List.any_eq_true]
  exact ⟨fun ⟨j, h1, h2⟩ => ⟨j, List.mem_range.1 h1, sameW_iff.1 h2⟩, fun ⟨j, h1, h2⟩ => ⟨j, List.mem_range.2 h1, sameW_iff.2 h2⟩⟩
theorem goesTo_succ (W : Nat → Wy) (L : Nat) (x : Wy) : goesTo W (L + 1) x = (goesTo W L x || sameW (W L) x) := by
  unfold goesTo
  rw [List.range_succ, List.any_append]
  simp
/-- In how many of the first h headings. -/
def upT (g : Nat → Bool) : Nat → Nat
  | 0 => 0
  | h + 1 => upT g h + (g h).toNat
theorem upT_le (g : Nat → Bool) : ∀ h, upT g h ≤ h
  | 0 => Nat.le_refl _
  | h + 1 => by
    have := upT_le g h
    have h2 : (g h).toNat ≤ 1 := by cases g h <;> decide
    rw [upT]; omega
/-- How often the beam goes through a place. -/
def timesN (n m : Nat) (t : Int → Int → UInt8) (p : Nat) (i k : Int) : Nat := upT (fun d => goesTo (bway n m t p) (blen n m t p) ⟨i, k, d⟩) 4

theorem upT_four (g : Nat → Bool) : upT g 4 = (g 0).toNat + (g 1).toNat + (g 2).toNat + (g 3).toNat := by
  simp [upT]
theorem times_gen (W : Nat → Wy) (i k : Int) : ∀ L : Nat, (∀ a b, a < b → b < L → W a ≠ W b) → (∀ j, j < L → (W j).d < 4) →
    upT (fun d => goesTo W L ⟨i, k, d⟩) 4 = (List.range L).countP fun j => decide ((W j).i = i ∧ (W j).k = k)
  | 0, _, _ => by simp [upT, goesTo]
  | L + 1, hne, hd => by
    have ih := times_gen W i k L (fun a b h1 h2 => hne a b h1 (by omega)) (fun j hj => hd j (by omega))
    rw [List.range_succ, List.countP_append, ← ih]
    simp only [List.countP_cons, List.countP_nil, Nat.zero_add]
    rw [upT_four, upT_four]
    simp only [goesTo_succ]
    by_cases hat : (W L).i = i ∧ (W L).k = k
    · have hdl := hd L (by omega)
      have hnew : goesTo W L ⟨i, k, (W L).d⟩ = false := by
        rw [Bool.eq_false_iff]
        intro h
        obtain ⟨j, hj, e⟩ := goesTo_iff.1 h
        exact hne j L hj (by omega) (by rw [e]; exact Wy.eq hat.1.symm hat.2.symm rfl)
      have hs : ∀ d, sameW (W L) ⟨i, k, d⟩ = decide ((W L).d = d) := fun d => by
        unfold sameW
        simp [hat.1, hat.2]
      rw [hs, hs, hs, hs]
      simp only [hat, and_self, decide_true, if_true]
      rcases four hdl with e | e | e | e <;> rw [e] at hnew ⊢ <;> simp [hnew] <;> omega
    · have hs : ∀ d, sameW (W L) ⟨i, k, d⟩ = false := fun d => by
        unfold sameW
        rw [decide_eq_false_iff_not]
        exact fun h => hat ⟨h.1, h.2.1⟩
      rw [hs, hs, hs, hs]
      simp [hat]

section
variable {n m : Nat} {t : Int → Int → UInt8}
theorem times_count {p i k : Nat} (hp : p < 2 * (n + m)) (hk : k < m) : timesN n m t p i k = (bcells n m t p).count (i * m + k) := by
  unfold timesN
  rw [times_gen _ _ _ _ (fun a b h1 h2 => bway_ne hp h1 (by omega)) (fun j _ => bway_d p j)]
  unfold bcells
  rw [List.count, List.countP_map]
  refine List.countP_congr fun j hj => ?_
  have hin := blen_in (n := n) (m := m) (t := t) (p := p) (List.mem_range.1 hj)
  simp only [Function.comp, decide_eq_true_iff, beq_iff_eq]
  exact (cellN_iff hin hk).symm
theorem goes_back {p : Nat} {x : Wy} (h : goesTo (bway n m t p) (blen n m t p) x = true) : goesTo (bway n m t p) (blen n m t p) (rev t x) = false := by
  rw [Bool.eq_false_iff]
  intro h2
  obtain ⟨a, ha, rfl⟩ := goesTo_iff.1 h
  obtain ⟨b, hb, e⟩ := goesTo_iff.1 h2
  exact bway_ne_rev b a hb ha e
theorem toNat_false {b : Bool} (h : b = false) : b.toNat = 0 := by subst h; rfl
theorem toNat_le (b : Bool) : b.toNat ≤ 1 := by cases b <;> decide
/-- Of a way and its way back one is gone at most. -/
theorem pair_le {g : Bool} {g' : Bool} (h : g = true → g' = false) : g.toNat + g'.toNat ≤ 1 := by
  cases g
  · simpa using toNat_le g'
  · rw [h rfl]; decide
/-- A beam goes through a cell twice at most. -/
theorem times_le {p : Nat} (i k : Int) : timesN n m t p i k ≤ 2 := by
  unfold timesN
  rw [upT_four]
  have hb : ∀ d, d < 4 → goesTo (bway n m t p) (blen n m t p) ⟨i, k, d⟩ = true → goesTo (bway n m t p) (blen n m t p) ⟨i, k, opp (bend (t i k) d)⟩ = false := fun d _ h => goes_back h
  generalize goesTo (bway n m t p) (blen n m t p) = g at hb ⊢
  by_cases h1 : t i k = 114
  · rw [h1] at hb
    have a := pair_le (hb 0 (by decide))
    have b := pair_le (hb 1 (by decide))
    simp only [bend, opp] at a b
    simp at a b
    omega
  · by_cases h2 : t i k = 102
    · rw [h2] at hb
      have a := pair_le (hb 0 (by decide))
      have b := pair_le (hb 2 (by decide))
      simp only [bend, opp] at a b
      simp at a b
      omega
    · have a := pair_le (hb 0 (by decide))
      have b := pair_le (hb 1 (by decide))
      rw [bend_e h1 h2] at a b
      simp only [opp] at a b
      simp at a b
      omega
/-- Two beams that share a way begin at one port. -/
theorem share {p q : Nat} (hp : p < 2 * (n + m)) (hq : q < 2 * (n + m)) : ∀ (a b : Nat), a < blen n m t p → b < blen n m t q → bway n m t p a = bway n m t q b → p = q
  | 0, 0, _, _, e => by
    have h1 := (entr_back (t := t) hp).2
    have h2 := (entr_back (t := t) hq).2
    have e' : entr n m p = entr n m q := e
    rw [e', h2] at h1
    omega
  | 0, b + 1, _, hb, e => absurd e.symm (entr_ne hp (blen_in (by omega)) (bway_d q b))
  | a + 1, 0, ha, _, e => absurd e (entr_ne hq (blen_in (by omega)) (bway_d p a))
  | a + 1, b + 1, ha, hb, e => share hp hq a b (by omega) (by omega) (nxt_inj (bway_d p a) (bway_d q b) e)
/-- .. and where one goes what the other goes backwards, they are the ends of one beam. -/
theorem share_back {p q : Nat} (hn : 1 ≤ n) (hm : 1 ≤ m) (hp : p < 2 * (n + m)) (hq : q < 2 * (n + m)) {a b : Nat} (ha : a < blen n m t p) (hb : b < blen n m t q) (e : bway n m t p a = rev t (bway n m t q b)) : p = bend_ n m t q := by
  have h := bway_back (t := t) hn hm hq (blen n m t q - 1 - b) (by omega)
  rw [show blen n m t q - 1 - (blen n m t q - 1 - b) = b by omega, ← e] at h
  have hl := (back_facts (t := t) hn hm hq).1
  exact share hp (bend_facts (t := t) hn hm hq).2.1 a (blen n m t q - 1 - b) ha (by omega) h.symm
/-- A cell of another beam is gone through once at most. -/
theorem times_other {p q : Nat} (hn : 1 ≤ n) (hm : 1 ≤ m) (hp : p < 2 * (n + m)) (hq : q < 2 * (n + m)) (h1 : p ≠ q) (h2 : p ≠ bend_ n m t q) (i k : Int) (h0 : 0 < timesN n m t p i k) : timesN n m t q i k ≤ 1 := by
  unfold timesN at *
  rw [upT_four] at h0 ⊢
  have hb : ∀ d, d < 4 → goesTo (bway n m t q) (blen n m t q) ⟨i, k, d⟩ = true → goesTo (bway n m t q) (blen n m t q) ⟨i, k, opp (bend (t i k) d)⟩ = false := fun d _ h => goes_back h
  have hx : ∀ d, goesTo (bway n m t p) (blen n m t p) ⟨i, k, d⟩ = true → goesTo (bway n m t q) (blen n m t q) ⟨i, k, d⟩ = false := fun d h => by
    rw [Bool.eq_false_iff]
    intro h'
    obtain ⟨a, ha, ea⟩ := goesTo_iff.1 h
    obtain ⟨b, hb, eb⟩ := goesTo_iff.1 h'
    exact h1 (share hp hq a b ha hb (ea.trans eb.symm))
  have hy : ∀ d, d < 4 → goesTo (bway n m t p) (blen n m t p) ⟨i, k, d⟩ = true → goesTo (bway n m t q) (blen n m t q) ⟨i, k, opp (bend (t i k) d)⟩ = false := fun d hd h => by
    rw [Bool.eq_false_iff]
    intro h'
    obtain ⟨a, ha, ea⟩ := goesTo_iff.1 h
    obtain ⟨b, hb, eb⟩ := goesTo_iff.1 h'
    refine h2 (share_back hn hm hp hq ha hb ?_)
    rw [ea, eb]
    exact (rev_rev (t := t) (x := ⟨i, k, d⟩) hd).symm
  generalize goesTo (bway n m t p) (blen n m t p) = f at *
  generalize goesTo (bway n m t q) (blen n m t q) = g at *
  have l0 := toNat_le (g ⟨i, k, 0⟩)
  have l1 := toNat_le (g ⟨i, k, 1⟩)
  have l2 := toNat_le (g ⟨i, k, 2⟩)
  have l3 := toNat_le (g ⟨i, k, 3⟩)
  have hz : ∀ d, d < 4 → f ⟨i, k, d⟩ = true → (g ⟨i, k, d⟩).toNat = 0 ∧ (g ⟨i, k, opp (bend (t i k) d)⟩).toNat = 0 := fun d hd h => ⟨toNat_false (hx d h), toNat_false (hy d hd h)⟩
  have hsome : f ⟨i, k, 0⟩ = true ∨ f ⟨i, k, 1⟩ = true ∨ f ⟨i, k, 2⟩ = true ∨ f ⟨i, k, 3⟩ = true := by
    cases e0 : f ⟨i, k, 0⟩ <;> cases e1 : f ⟨i, k, 1⟩ <;> cases e2 : f ⟨i, k, 2⟩ <;> cases e3 : f ⟨i, k, 3⟩ <;> simp_all
  by_cases g1 : t i k = 114
  · rw [g1] at hb hz
    have a := pair_le (hb 0 (by decide))
    have b := pair_le (hb 1 (by decide))
    simp only [bend, opp] at a b hz
    simp at a b
    rcases hsome with e | e | e | e <;> (have h' := hz _ (by decide) e; simp at h'; have a1 := toNat_false h'.1; have a2 := toNat_false h'.2; omega)
  · by_cases g2 : t i k = 102
    · rw [g2] at hb hz
      have a := pair_le (hb 0 (by decide))
      have b := pair_le (hb 2 (by decide))
      simp only [bend, opp] at a b hz
      simp at a b
      rcases hsome with e | e | e | e <;> (have h' := hz _ (by decide) e; simp at h'; have a1 := toNat_false h'.1; have a2 := toNat_false h'.2; omega)
    · have a := pair_le (hb 0 (by decide))
      have b := pair_le (hb 1 (by decide))
      rw [bend_e g1 g2] at a b
      simp only [opp] at a b
      simp at a b
      rcases hsome with e | e | e | e <;> (have h' := hz _ (by decide) e; rw [bend_e g1 g2] at h'; simp [opp] at h'; have a1 := toNat_false h'.1; have a2 := toNat_false h'.2; omega)
end

/-- A sum over a list of numbers below N, each number as often as it comes. -/
def sumN (f : Nat → Nat) : Nat → Nat
  | 0 => 0
  | c + 1 => sumN f c + f c
theorem sumN_congr {f g : Nat → Nat} : ∀ N, (∀ c, c < N → f c = g c) → sumN f N = sumN g N
  | 0, _ => rfl
  | N + 1, h => by rw [sumN, sumN, sumN_congr N (fun c hc => h c (by omega)), h N (by omega)]
theorem sumN_add (f g : Nat → Nat) : ∀ N, sumN (fun c => f c + g c) N = sumN f N + sumN g N
  | 0 => rfl
  | N + 1 => by rw [sumN, sumN, sumN, sumN_add f g N]; omega
theorem sumN_one (x v : Nat) : ∀ N, sumN (fun c => if x = c then v else 0) N = if x < N then v else 0
  | 0 => by simp [sumN]
  | N + 1 => by
    rw [sumN, sumN_one x v N]
    by_cases h1 : x = N
    · subst h1; simp
    · by_cases h2 : x < N
      · rw [if_pos h2, if_neg h1, if_pos (by omega), Nat.add_zero]
      · rw [if_neg h2, if_neg h1, if_neg (by omega)]
theorem sum_swap (φ : Nat → Nat) (N : Nat) : ∀ l : List Nat, (∀ x ∈ l, x < N) → (l.map φ).sum = sumN (fun c => l.count c * φ c) N
  | [], _ => by
    rw [List.map_nil, List.sum_nil, sumN_congr (g := fun _ => 0) N (fun c _ => by simp)]
    have : ∀ N, sumN (fun _ => 0) N = 0 := fun N => by induction N with
      | zero => rfl
      | succ N ih => rw [sumN, ih]
    rw [this]
  | x :: l, h => by
    rw [List.map_cons, List.sum_cons, sum_swap φ N l (fun y hy => h y (by simp [hy]))]
    have e : sumN (fun c => (x :: l).count c * φ c) N = sumN (fun c => (if x = c then φ x else 0) + l.count c * φ c) N := by
      refine sumN_congr N fun c _ => ?_
      rw [List.count_cons]
      by_cases hxc : x = c
      · subst hxc; simp [Nat.add_mul]; omega
      · simp [hxc]
    rw [e, sumN_add, sumN_one, if_pos (h x (by simp))]

end Go.Proofs.YtongjijkdjagdaaDoor

/- Plain words on rounds: ways that come back, their lengths, the least ways of rounds. No program is named. -/
namespace Go.Proofs.YtongjijkdjagdaaDoor

section
variable (n m : Nat) (t : Int → Int → UInt8)
/-- The way is one of a round: it never leaves the grid. -/
def onR (x : Wy) : Bool := runL n m t (4 * (n * m) + 1) x == 4 * (n * m) + 1
/-- The length of its round. -/
def rlen (x : Wy) : Nat := ((List.range (4 * (n * m))).findIdx fun j => sameW (iter t x (j + 1)) x) + 1
/-- The way with a number. -/
def wayN (c : Nat) : Wy := ⟨((c / 4 / m : Nat) : Int), ((c / 4 % m : Nat) : Int), c % 4⟩
/-- The way has the least number of its round, there and back. -/
def leadB (c : Nat) : Bool := onR n m t (wayN m c) && (List.range (rlen n m t (wayN m c))).all fun j => decide (c ≤ wcode m (iter t (wayN m c) j) ∧ c ≤ wcode m (rev t (iter t (wayN m c) j)))
/-- The leading numbers. -/
def leads : List Nat := (List.range (4 * (n * m))).filter (leadB n m t)
/-- One of the ways of a round, there or back. -/
def ringW (x y : Wy) : Prop := ∃ j, y = iter t x j ∨ y = rev t (iter t x j)
end

section
variable {n m : Nat} {t : Int → Int → UInt8}
theorem wayN_d (c : Nat) : (wayN m c).d < 4 := Nat.mod_lt _ (by decide)
theorem wayN_in {c : Nat} (h : c < 4 * (n * m)) : inG n m (wayN m c) := by
  have hm : 0 < m := by
    rcases Nat.eq_zero_or_pos m with h0 | h0
    · subst h0; simp at h
    · exact h0
  have h1 : c / 4 < n * m := by omega
  have h2 : c / 4 / m < n := by rw [Nat.div_lt_iff_lt_mul hm]; exact h1
  have h3 : c / 4 % m < m := Nat.mod_lt _ hm
  exact ⟨Int.natCast_nonneg _, Int.ofNat_lt.2 h2, Int.natCast_nonneg _, Int.ofNat_lt.2 h3⟩
theorem wcode_way (c : Nat) : wcode m (wayN m c) = c := by
  unfold wcode wayN
  simp only [Int.toNat_natCast]
  have h1 : c / 4 / m * m + c / 4 % m = c / 4 := by rw [Nat.mul_comm]; exact Nat.div_add_mod (c / 4) m
  rw [h1]; omega
theorem wayN_code {x : Wy} (h : inG n m x) (hd : x.d < 4) : wayN m (wcode m x) = x :=
  wcode_inj (wayN_in (wcode_lt h hd)) (wayN_d _) h hd (wcode_way _)
theorem runL_max : ∀ (f : Nat) (x : Wy), runL n m t f x ≤ f
  | 0, _ => Nat.le_refl _
  | f + 1, x => by
    rw [runL]
    split
    · have := runL_max f (nxt t x); omega
    · omega
theorem runL_full {f : Nat} {x : Wy} (h : ∀ j, j < f → inG n m (iter t x j)) : runL n m t f x = f := by
  refine Nat.le_antisymm (runL_max f x) (Nat.le_of_not_lt fun hlt => ?_)
  exact runL_out f x hlt (h _ hlt)
theorem onR_iff {x : Wy} : onR n m t x = true ↔ ∀ j, j ≤ 4 * (n * m) → inG n m (iter t x j) := by
  unfold onR
  rw [beq_iff_eq]
  constructor
  · intro h j hj
    exact runL_in _ _ _ (by rw [h]; omega)
  · intro h
    exact runL_full fun j hj => h j (by omega)
theorem onR_false {x : Wy} (h : onR n m t x = false) : ∃ j, j ≤ 4 * (n * m) ∧ ¬ inG n m (iter t x j) := by
  refine Classical.byContradiction fun hno => ?_
  have : onR n m t x = true := onR_iff.2 fun j hj => Classical.byContradiction fun h2 => hno ⟨j, hj, h2⟩
  rw [h] at this; cases this
theorem iter_inj {x y : Wy} (hx : x.d < 4) (hy : y.d < 4) : ∀ j, iter t x j = iter t y j → x = y
  | 0, h => h
  | j + 1, h => iter_inj hx hy j (nxt_inj (iter_d hx j) (iter_d hy j) h)
theorem iter_mul {x : Wy} {P : Nat} (h : iter t x P = x) : ∀ a, iter t x (a * P) = x
  | 0 => by rw [Nat.zero_mul]; rfl
  | a + 1 => by rw [Nat.add_mul, Nat.one_mul, iter_add, iter_mul h a, h]
theorem iter_per {x : Wy} {P : Nat} (h : iter t x P = x) (a b : Nat) : iter t x (a * P + b) = iter t x b := by
  rw [iter_add, iter_mul h]
theorem iter_mod {x : Wy} {P : Nat} (h : iter t x P = x) (b : Nat) : iter t x b = iter t x (b % P) := by
  conv => lhs; rw [← Nat.div_add_mod b P, Nat.mul_comm]
  exact iter_per h _ _
theorem onR_comes {x : Wy} (hd : x.d < 4) (h : onR n m t x = true) : ∃ P, 1 ≤ P ∧ P ≤ 4 * (n * m) ∧ iter t x P = x := by
  have hi := onR_iff.1 h
  obtain ⟨a, b, hab, hb, e⟩ := pigeon (4 * (n * m)) (fun j => wcode m (iter t x j)) (fun j hj => wcode_lt (hi j hj) (iter_d hd j))
  have e2 := wcode_inj (hi a (by omega)) (iter_d hd a) (hi b hb) (iter_d hd b) e
  refine ⟨b - a, by omega, by omega, ?_⟩
  rw [show b = (b - a) + a by omega, iter_add] at e2
  exact (iter_inj hd (iter_d hd _) a e2).symm
/-- A round's length: it comes back then, and no sooner. -/
theorem rlen_facts {x : Wy} (hd : x.d < 4) (h : onR n m t x = true) : 1 ≤ rlen n m t x ∧ rlen n m t x ≤ 4 * (n * m) ∧ iter t x (rlen n m t x) = x ∧ ∀ j, 1 ≤ j → j < rlen n m t x → iter t x j ≠ x := by
  obtain ⟨P, hP1, hP, e⟩ := onR_comes hd h
  have hex : ∃ j ∈ List.range (4 * (n * m)), (sameW (iter t x (j + 1)) x) = true := ⟨P - 1, List.mem_range.2 (by omega), sameW_iff.2 (by rw [show P - 1 + 1 = P by omega]; exact e)⟩
  have hlt := List.findIdx_lt_length_of_exists hex
  obtain ⟨k1, k2⟩ := (List.findIdx_eq hlt).1 rfl
  rw [List.length_range] at hlt
  rw [List.getElem_range] at k1
  refine ⟨by unfold rlen; omega, by unfold rlen; omega, sameW_iff.1 k1, fun j hj1 hj => fun he => ?_⟩
  have h3 := k2 (j - 1) (by unfold rlen at hj; omega)
  rw [List.getElem_range, show j - 1 + 1 = j by omega, Bool.eq_false_iff] at h3
  exact h3 (sameW_iff.2 he)
theorem onR_all {x : Wy} (hd : x.d < 4) (h : onR n m t x = true) (j : Nat) : inG n m (iter t x j) := by
  obtain ⟨k1, k2, k3, _⟩ := rlen_facts hd h
  rw [iter_mod k3]
  exact onR_iff.1 h _ (by have := Nat.mod_lt j (show 0 < rlen n m t x by omega); omega)
theorem onR_of {x : Wy} (h : ∀ j, inG n m (iter t x j)) : onR n m t x = true := onR_iff.2 fun j _ => h j
theorem onR_iter {x : Wy} (hd : x.d < 4) (h : onR n m t x = true) (a : Nat) : onR n m t (iter t x a) = true := onR_of fun j => by
  rw [← iter_add]; exact onR_all hd h _
theorem ring_ne {x : Wy} (hd : x.d < 4) (h : onR n m t x = true) {a b : Nat} (hab : a < b) (hb : b < rlen n m t x) : iter t x a ≠ iter t x b := fun e => by
  rw [show b = (b - a) + a by omega, iter_add] at e
  exact (rlen_facts hd h).2.2.2 (b - a) (by omega) (by omega) (iter_inj hd (iter_d hd _) a e).symm
theorem rev_in {x : Wy} : inG n m (rev t x) ↔ inG n m x := Iff.rfl
theorem iter_rev {x : Wy} (hd : x.d < 4) (a : Nat) : ∀ j, iter t (rev t (iter t x (a + j))) j = rev t (iter t x a)
  | 0 => rfl
  | j + 1 => by
    rw [iter_succ', ← Nat.add_assoc]
    show iter t (nxt t (rev t (nxt t (iter t x (a + j))))) j = _
    rw [nxt_rev_nxt (iter_d hd _)]
    exact iter_rev hd a j
theorem onR_rev {x : Wy} (hd : x.d < 4) (h : onR n m t x = true) : onR n m t (rev t x) = true := onR_of fun j => by
  obtain ⟨k1, _, k3, _⟩ := rlen_facts hd h
  have hj : j ≤ j * rlen n m t x := Nat.le_mul_of_pos_right _ (by omega)
  have e := iter_rev (t := t) hd (j * rlen n m t x - j) j
  rw [show j * rlen n m t x - j + j = j * rlen n m t x by omega, iter_mul k3] at e
  rw [e]
  exact onR_all hd h _
theorem onR_back {x : Wy} (hd : x.d < 4) (h : onR n m t (rev t x) = true) : onR n m t x = true := by
  have := onR_rev (rev_d x) h
  rwa [rev_rev hd] at this
theorem onR_next {x : Wy} (hd : x.d < 4) : onR n m t (nxt t x) = true ∧ inG n m x ↔ onR n m t x = true := by
  constructor
  · rintro ⟨h, hi⟩
    obtain ⟨_, _, k3, _⟩ := rlen_facts (nxt_d hd) h
    have e : iter t x (rlen n m t (nxt t x)) = x := by
      refine nxt_inj (t := t) (iter_d hd _) hd ?_
      rw [show nxt t (iter t x (rlen n m t (nxt t x))) = iter t x (rlen n m t (nxt t x) + 1) from rfl, iter_succ', k3]
    refine onR_of fun j => ?_
    cases j with
    | zero => exact hi
    | succ j => rw [iter_succ']; exact onR_all (nxt_d hd) h j
  · intro h
    exact ⟨onR_iter hd h 1, onR_all hd h 0⟩
theorem ringW_on {x y : Wy} (hd : x.d < 4) (h : onR n m t x = true) (hr : ringW t x y) : onR n m t y = true ∧ y.d < 4 := by
  obtain ⟨j, rfl | rfl⟩ := hr
  · exact ⟨onR_iter hd h j, iter_d hd j⟩
  · exact ⟨onR_rev (iter_d hd j) (onR_iter hd h j), rev_d _⟩
theorem ringW_refl (x : Wy) : ringW t x x := ⟨0, .inl rfl⟩
theorem ringW_symm {x y : Wy} (hd : x.d < 4) (h : onR n m t x = true) (hr : ringW t x y) : ringW t y x := by
  obtain ⟨k1, _, k3, _⟩ := rlen_facts hd h
  obtain ⟨j, rfl | rfl⟩ := hr
  · refine ⟨j * rlen n m t x - j, .inl ?_⟩
    have hj : j ≤ j * rlen n m t x := Nat.le_mul_of_pos_right _ (by omega)
    rw [← iter_add, show j + (j * rlen n m t x - j) = j * rlen n m t x by omega, iter_mul k3]
  · refine ⟨j, .inr ?_⟩
    have e := iter_rev (t := t) hd 0 j
    rw [Nat.zero_add] at e
    rw [e]
    exact (rev_rev hd).symm
theorem ringW_trans {x y z : Wy} (hd : x.d < 4) (h : onR n m t x = true) (h1 : ringW t x y) (h2 : ringW t y z) : ringW t x z := by
  obtain ⟨k1, _, k3, _⟩ := rlen_facts hd h
  obtain ⟨a, rfl | rfl⟩ := h1
  · obtain ⟨b, rfl | rfl⟩ := h2
    · exact ⟨a + b, .inl (iter_add _ _ _).symm⟩
    · exact ⟨a + b, .inr (by rw [iter_add])⟩
  · obtain ⟨b, hb⟩ := h2
    -- rev (iter x a) gone on b: rev (iter x (a + bL - b))
    have hbL : b ≤ b * rlen n m t x := Nat.le_mul_of_pos_right _ (by omega)
    have e : iter t (rev t (iter t x a)) b = rev t (iter t x (a + b * rlen n m t x - b)) := by
      have e1 := iter_rev (t := t) hd (a + b * rlen n m t x - b) b
      rw [show a + b * rlen n m t x - b + b = b * rlen n m t x + a by omega, iter_per k3] at e1
      exact e1
    rw [e, rev_rev (iter_d hd _)] at hb
    rcases hb with rfl | rfl
    · exact ⟨_, .inr rfl⟩
    · exact ⟨_, .inl rfl⟩
theorem ringW_low {x y : Wy} (hd : x.d < 4) (h : onR n m t x = true) (hr : ringW t x y) : ∃ j, j < rlen n m t x ∧ (y = iter t x j ∨ y = rev t (iter t x j)) := by
  obtain ⟨k1, _, k3, _⟩ := rlen_facts hd h
  obtain ⟨j, hj⟩ := hr
  rw [iter_mod k3] at hj
  exact ⟨_, Nat.mod_lt _ (by omega), hj⟩
/-- A way leads just if none of its round, there or back, has a lesser number. -/
theorem lead_iff {c : Nat} : leadB n m t c = true ↔ onR n m t (wayN m c) = true ∧ ∀ y, ringW t (wayN m c) y → c ≤ wcode m y := by
  unfold leadB
  rw [Bool.and_eq_true, List.all_eq_true]
  constructor
  · rintro ⟨h, ha⟩
    refine ⟨h, fun y hy => ?_⟩
    obtain ⟨j, hj, e⟩ := ringW_low (wayN_d c) h hy
    have := of_decide_eq_true (ha j (List.mem_range.2 hj))
    rcases e with rfl | rfl
    · exact this.1
    · exact this.2
  · rintro ⟨h, ha⟩
    refine ⟨h, fun j _ => decide_eq_true ⟨ha _ ⟨j, .inl rfl⟩, ha _ ⟨j, .inr rfl⟩⟩⟩
theorem leads_lt {c : Nat} (h : c ∈ leads n m t) : c < 4 * (n * m) ∧ leadB n m t c = true := by
  unfold leads at h
  rw [List.mem_filter] at h
  exact ⟨List.mem_range.1 h.1, h.2⟩

/-- The ways of beams are those that are of no round. -/
theorem beam_not {p j : Nat} (hp : p < 2 * (n + m)) (hj : j < blen n m t p) : onR n m t (bway n m t p j) = false := by
  rw [Bool.eq_false_iff]
  intro h
  have h2 := onR_all (bway_d p j) h (blen n m t p - j)
  rw [show iter t (bway n m t p j) (blen n m t p - j) = bway n m t p (blen n m t p) by unfold bway; rw [← iter_add, show j + (blen n m t p - j) = blen n m t p by omega]] at h2
  exact blen_out hp h2
theorem not_beam {y : Wy} (hn : 1 ≤ n) (hm : 1 ≤ m) (hi : inG n m y) (hd : y.d < 4) (h : onR n m t y = false) : ∃ p j, p < 2 * (n + m) ∧ j < blen n m t p ∧ bway n m t p j = y := by
  have hR1 : runL n m t (4 * (n * m) + 1) y < 4 * (n * m) + 1 := by
    have := runL_max (n := n) (m := m) (t := t) (4 * (n * m) + 1) y
    have h2 : ¬ runL n m t (4 * (n * m) + 1) y = 4 * (n * m) + 1 := fun e => by
      unfold onR at h
      rw [e] at h
      simp at h
    omega
  have hin := runL_in (n := n) (m := m) (t := t) (4 * (n * m) + 1) y
  have hout := runL_out (n := n) (m := m) (t := t) (4 * (n * m) + 1) y hR1
  generalize runL n m t (4 * (n * m) + 1) y = R at hin hout
  have hR0 : 1 ≤ R := by
    rcases Nat.eq_zero_or_pos R with h0 | h0
    · subst h0; exact absurd hi hout
    · exact h0
  obtain ⟨J, rfl⟩ : ∃ J, R = J + 1 := ⟨R - 1, by omega⟩
  obtain ⟨l1, l2, l3⟩ := leav_entr (iter_d hd J) (hin J (by omega)) hout
  obtain ⟨q, hq⟩ : ∃ q, (leav n m (nxt t (iter t y J))).toNat = q := ⟨_, rfl⟩
  rw [hq] at l3
  have hq2 : q < 2 * (n + m) := by omega
  have hb : ∀ i, i ≤ J → bway n m t q i = rev t (iter t y (J - i)) := fun i hi2 => by
    have e := iter_rev (t := t) hd (J - i) i
    rw [show J - i + i = J by omega] at e
    unfold bway
    rw [l3, e]
  have hlen : J + 1 ≤ blen n m t q := Nat.le_of_not_lt fun hlt => by
    have := blen_out (t := t) hq2
    rw [hb _ (by omega)] at this
    exact this (hin _ (by omega))
  have hbk := bway_back (t := t) hn hm hq2 (blen n m t q - 1 - J) (by omega)
  rw [show blen n m t q - 1 - (blen n m t q - 1 - J) = J by omega, hb J (Nat.le_refl _), Nat.sub_self, rev_rev (iter_d hd 0)] at hbk
  refine ⟨bend_ n m t q, blen n m t q - 1 - J, (bend_facts hn hm hq2).2.1, ?_, hbk⟩
  rw [(back_facts hn hm hq2).1]
  omega
end
end Go.Proofs.YtongjijkdjagdaaDoor

/- Plain words on rounds: what the specification marks, leading numbers one by one, the way of a round until it closes. No program is named. -/
namespace Go.Proofs.YtongjijkdjagdaaDoor

/-- The leading numbers below x. -/
def leadsTo (n m : Nat) (t : Int → Int → UInt8) (x : Nat) : List Nat := (List.range x).filter (leadB n m t)
/-- Number c is marked, once the rounds of the numbers below x are. -/
def Mk (n m : Nat) (t : Int → Int → UInt8) (x c : Nat) : Prop := onR n m t (wayN m c) = false ∨ ∃ l, l < x ∧ leadB n m t l = true ∧ ringW t (wayN m l) (wayN m c)
/-- How far a way goes until it comes back or leaves the grid. -/
def goL (n m : Nat) (t : Int → Int → UInt8) (x : Wy) : Nat := if onR n m t x = true then rlen n m t x else runL n m t (4 * (n * m) + 1) x

section
variable {n m : Nat} {t : Int → Int → UInt8}
theorem leadsTo_all : leadsTo n m t (4 * (n * m)) = leads n m t := rfl
theorem leadsTo_zero : leadsTo n m t 0 = [] := rfl
theorem leadsTo_yes {x : Nat} (h : leadB n m t x = true) : leadsTo n m t (x + 1) = leadsTo n m t x ++ [x] := by
  unfold leadsTo
  rw [List.range_succ, List.filter_append]
  simp [h]
theorem leadsTo_no {x : Nat} (h : leadB n m t x = false) : leadsTo n m t (x + 1) = leadsTo n m t x := by
  unfold leadsTo
  rw [List.range_succ, List.filter_append]
  simp [h]
theorem leadsTo_le (x : Nat) : (leadsTo n m t x).length ≤ x := by
  have := List.length_filter_le (leadB n m t) (List.range x)
  rw [List.length_range] at this
  exact this
theorem leadsTo_mem {x l : Nat} (h : l ∈ leadsTo n m t x) : l < x ∧ leadB n m t l = true := by
  unfold leadsTo at h
  rw [List.mem_filter] at h
  exact ⟨List.mem_range.1 h.1, h.2⟩
theorem mk_zero {c : Nat} : Mk n m t 0 c ↔ onR n m t (wayN m c) = false := by
  constructor
  · rintro (h | ⟨l, hl, _⟩)
    · exact h
    · omega
  · exact .inl
/-- On the ring of a way there is a leading number, no greater than any. -/
theorem ring_lead {x : Wy} (hd : x.d < 4) (h : onR n m t x = true) : ∀ (k : Nat) (y : Wy), ringW t x y → wcode m y = k → ∃ l, l ≤ k ∧ leadB n m t l = true ∧ ringW t (wayN m l) x := by
  intro k
  induction k using Nat.strongRecOn with
  | _ k ih =>
    intro y hy hk
    obtain ⟨hon, hd4⟩ := ringW_on hd h hy
    have hin := onR_all hd4 hon 0
    have hw : wayN m k = y := by rw [← hk]; exact wayN_code hin hd4
    by_cases hex : ∃ z, ringW t x z ∧ wcode m z < k
    · obtain ⟨z, hz, hlt⟩ := hex
      obtain ⟨l, hl, h2, h3⟩ := ih _ hlt z hz rfl
      exact ⟨l, by omega, h2, h3⟩
    · refine ⟨k, Nat.le_refl _, lead_iff.2 ⟨by rw [hw]; exact hon, fun z hz => ?_⟩, ?_⟩
      · rw [hw] at hz
        exact Nat.le_of_not_lt fun hlt => hex ⟨z, ringW_trans hd h hy hz, hlt⟩
      · rw [hw]; exact ringW_symm hd h hy
theorem mk_lead {x : Nat} (h : ¬ Mk n m t x x) : leadB n m t x = true := by
  have hon : onR n m t (wayN m x) = true := by
    cases hb : onR n m t (wayN m x) with
    | true => rfl
    | false => exact absurd (.inl hb) h
  obtain ⟨l, hl, h2, h3⟩ := ring_lead (wayN_d x) hon x (wayN m x) (ringW_refl _) (wcode_way x)
  rcases Nat.lt_or_ge l x with hlt | hge
  · exact absurd (.inr ⟨l, hlt, h2, h3⟩) h
  · obtain rfl : l = x := by omega
    exact h2
theorem mk_not {x : Nat} (h : Mk n m t x x) : leadB n m t x = false := by
  rw [Bool.eq_false_iff]
  intro hl
  obtain ⟨h1, h2⟩ := lead_iff.1 hl
  rcases h with h | ⟨l, hlt, hll, hr⟩
  · rw [h] at h1; cases h1
  · have h3 := h2 _ (ringW_symm (wayN_d l) (lead_iff.1 hll).1 hr)
    rw [wcode_way] at h3
    omega
theorem mk_yes {x c : Nat} (h : leadB n m t x = true) : Mk n m t (x + 1) c ↔ Mk n m t x c ∨ ringW t (wayN m x) (wayN m c) := by
  constructor
  · rintro (h1 | ⟨l, hl, h2, h3⟩)
    · exact .inl (.inl h1)
    · rcases Nat.lt_or_ge l x with hlt | hge
      · exact .inl (.inr ⟨l, hlt, h2, h3⟩)
      · obtain rfl : l = x := by omega
        exact .inr h3
  · rintro ((h1 | ⟨l, hl, h2, h3⟩) | h1)
    · exact .inl h1
    · exact .inr ⟨l, by omega, h2, h3⟩
    · exact .inr ⟨x, by omega, h, h1⟩
theorem mk_no {x c : Nat} (h : leadB n m t x = false) : Mk n m t (x + 1) c ↔ Mk n m t x c := by
  constructor
  · rintro (h1 | ⟨l, hl, h2, h3⟩)
    · exact .inl h1
    · rcases Nat.lt_or_ge l x with hlt | hge
      · exact .inr ⟨l, hlt, h2, h3⟩
      · obtain rfl : l = x := by omega
        rw [h] at h2; cases h2
  · rintro (h1 | ⟨l, hl, h2, h3⟩)
    · exact .inl h1
    · exact .inr ⟨l, by omega, h2, h3⟩
/-- What the marking of one round, way by way, comes to. -/
theorem ring_marks {x c : Nat} (h : leadB n m t x = true) :
    (∃ j, j < rlen n m t (wayN m x) ∧ (c = wcode m (iter t (wayN m x) j) ∨ c = wcode m (rev t (iter t (wayN m x) j)))) ↔ ringW t (wayN m x) (wayN m c) := by
  have hon := (lead_iff.1 h).1
  have hin : ∀ j, inG n m (iter t (wayN m x) j) := onR_all (wayN_d x) hon
  constructor
  · rintro ⟨j, _, e | e⟩
    · exact ⟨j, .inl (by rw [e]; exact wayN_code (hin j) (iter_d (wayN_d x) j))⟩
    · exact ⟨j, .inr (by rw [e]; exact wayN_code (rev_in.2 (hin j)) (rev_d _))⟩
  · intro hr
    obtain ⟨j, hj, e | e⟩ := ringW_low (wayN_d x) hon hr
    · exact ⟨j, hj, .inl (by rw [← e, wcode_way])⟩
    · exact ⟨j, hj, .inr (by rw [← e, wcode_way])⟩
/-- The numbers of all ways of beams are those of no round. -/
theorem beam_marks {c : Nat} (hn : 1 ≤ n) (hm : 1 ≤ m) (hc : c < 4 * (n * m)) : (∃ p, p < 2 * (n + m) ∧ ∃ j, j < blen n m t p ∧ wcode m (bway n m t p j) = c) ↔ onR n m t (wayN m c) = false := by
  constructor
  · rintro ⟨p, hp, j, hj, rfl⟩
    rw [wayN_code (blen_in hj) (bway_d p j)]
    exact beam_not hp hj
  · intro h
    obtain ⟨p, j, hp, hj, e⟩ := not_beam hn hm (wayN_in hc) (wayN_d c) h
    exact ⟨p, hp, j, hj, by rw [e, wcode_way]⟩

/-- A way until it closes: where it lies, how it ends. -/
theorem goL_facts {x : Wy} (hd : x.d < 4) (hx : inG n m x) :
    1 ≤ goL n m t x ∧ goL n m t x ≤ 4 * (n * m) ∧ (∀ j, j < goL n m t x → inG n m (iter t x j)) ∧ (∀ a b, a < b → b < goL n m t x → iter t x a ≠ iter t x b) ∧
    (onR n m t x = true → iter t x (goL n m t x) = x ∧ goL n m t x = rlen n m t x) ∧ (onR n m t x = false → ¬ inG n m (iter t x (goL n m t x))) := by
  unfold goL
  cases h : onR n m t x with
  | true =>
    rw [if_pos rfl]
    obtain ⟨h1, h2, h3, h4⟩ := rlen_facts hd h
    exact ⟨h1, h2, fun j _ => onR_all hd h j, fun a b hab hb => ring_ne hd h hab hb, fun _ => ⟨h3, rfl⟩, (fun e => by cases e)⟩
  | false =>
    rw [if_neg (by simp)]
    have hR1 : runL n m t (4 * (n * m) + 1) x < 4 * (n * m) + 1 := by
      have := runL_max (n := n) (m := m) (t := t) (4 * (n * m) + 1) x
      have h2 : ¬ runL n m t (4 * (n * m) + 1) x = 4 * (n * m) + 1 := fun e => by
        unfold onR at h
        rw [e] at h
        simp at h
      omega
    have hin := runL_in (n := n) (m := m) (t := t) (4 * (n * m) + 1) x
    have hout := runL_out (n := n) (m := m) (t := t) (4 * (n * m) + 1) x hR1
    generalize runL n m t (4 * (n * m) + 1) x = R at hin hout hR1
    refine ⟨?_, by omega, hin, fun a b hab hb e => ?_, (fun e => by cases e), fun _ => hout⟩
    · rcases Nat.eq_zero_or_pos R with h0 | h0
      · subst h0; exact absurd hx hout
      · exact h0
    · rw [show b = (b - a) + a by omega, iter_add] at e
      have e2 := iter_inj hd (iter_d hd _) a e
      have e3 := iter_mod (t := t) (x := x) e2.symm R
      rw [e3] at hout
      exact hout (hin _ (by have := Nat.mod_lt R (show 0 < b - a by omega); omega))
/-- .. and never before its end is it at its beginning again. -/
theorem goL_back {x : Wy} (hd : x.d < 4) (hx : inG n m x) {j : Nat} (h1 : 1 ≤ j) (h2 : j < goL n m t x) : iter t x j ≠ x := fun e => (goL_facts hd hx).2.2.2.1 0 j h1 h2 e.symm

theorem wayN_cell {c d : Nat} (hd : d < 4) : wayN m (4 * c + d) = ⟨((c / m : Nat) : Int), ((c % m : Nat) : Int), d⟩ := by
  unfold wayN
  rw [show (4 * c + d) / 4 = c by omega, show (4 * c + d) % 4 = d by omega]
theorem wcode_cell (x : Wy) : 4 * cellN m x + x.d = wcode m x := by unfold wcode cellN; omega
theorem cellN_way (c : Nat) : cellN m (wayN m c) = c / 4 := by
  unfold cellN wayN
  simp only [Int.toNat_natCast]
  rw [Nat.mul_comm]; exact Nat.div_add_mod (c / 4) m

/-- The first number on a round leads. -/
theorem first_lead {x : Nat} (hx : x < 4 * (n * m)) (h : ∀ c, c < x → onR n m t (wayN m c) = false) (hon : onR n m t (wayN m x) = true) : (leads n m t).head? = some x := by
  have hl : leadB n m t x = true := mk_lead (fun hm => by
    rcases hm with h1 | ⟨l, hl, h2, _⟩
    · rw [hon] at h1; cases h1
    · have := (lead_iff.1 h2).1
      rw [h l hl] at this; cases this)
  have hnone : ∀ k, k ≤ x → leadsTo n m t k = [] := by
    intro k
    induction k with
    | zero => intro _; rfl
    | succ k ih =>
      intro hk
      rw [leadsTo_no, ih (by omega)]
      rw [Bool.eq_false_iff]
      intro h2
      have := (lead_iff.1 h2).1
      rw [h k (by omega)] at this; cases this
  have hsome : ∀ k, (leadsTo n m t (x + 1 + k)).head? = some x := by
    intro k
    induction k with
    | zero => rw [Nat.add_zero, leadsTo_yes hl, hnone x (Nat.le_refl _)]; rfl
    | succ k ih =>
      rw [← Nat.add_assoc]
      cases hb : leadB n m t (x + 1 + k) with
      | false => rw [leadsTo_no hb]; exact ih
      | true =>
        rw [leadsTo_yes hb]
        generalize leadsTo n m t (x + 1 + k) = l at ih
        cases l with
        | nil => simp at ih
        | cons a l => simpa using ih
  have := hsome (4 * (n * m) - (x + 1))
  rw [show x + 1 + (4 * (n * m) - (x + 1)) = 4 * (n * m) by omega] at this
  exact this
theorem no_lead (h : ∀ c, c < 4 * (n * m) → onR n m t (wayN m c) = false) : leads n m t = [] := by
  unfold leads
  rw [List.filter_eq_nil_iff]
  intro c hc h2
  have := (lead_iff.1 h2).1
  rw [h c (List.mem_range.1 hc)] at this; cases this
/-- How often rounds go through a cell. -/
def atN (n m : Nat) (t : Int → Int → UInt8) (c : Nat) : Nat := upT (fun d => onR n m t (wayN m (4 * c + d))) 4 / 2
theorem atN_le (c : Nat) : atN n m t c ≤ 2 := by
  unfold atN
  have := upT_le (fun d => onR n m t (wayN m (4 * c + d))) 4
  omega
end
end Go.Proofs.YtongjijkdjagdaaDoor

/- Plain words on rounds: three letters of one cell make as many rounds, or one more once. No program is named. -/
namespace Go.Proofs.YtongjijkdjagdaaDoor

/-- The way out of a cell with a heading. -/
def outW (i k : Int) (h : Nat) : Wy := ⟨stepI i h, stepK k h, h⟩
/-- The way lies in this cell. -/
def atC (i k : Int) (x : Wy) : Prop := x.i = i ∧ x.k = k
instance (i k : Int) (x : Wy) : Decidable (atC i k x) := by unfold atC; infer_instance
/-- Two letterings that differ in one cell at most. -/
def OffSame (n m : Nat) (t t' : Int → Int → UInt8) (i k : Int) : Prop := ∀ x : Wy, inG n m x → ¬ atC i k x → t x.i x.k = t' x.i x.k
/-- Light that leaves the cell with a heading comes into it next with a heading. -/
def Strand (n m : Nat) (t : Int → Int → UInt8) (i k : Int) (h d : Nat) : Prop :=
  ∃ j, iter t (outW i k h) j = ⟨i, k, d⟩ ∧ ∀ a, a < j → inG n m (iter t (outW i k h) a) ∧ ¬ atC i k (iter t (outW i k h) a)

section
variable {n m : Nat} {t t' : Int → Int → UInt8} {i k : Int}
theorem atC_eq {x : Wy} (h : atC i k x) : x = ⟨i, k, x.d⟩ := Wy.eq h.1 h.2 rfl
theorem atC_mk (d : Nat) : atC i k ⟨i, k, d⟩ := ⟨rfl, rfl⟩
theorem outW_d (h : Nat) : (outW i k h).d = h := rfl
theorem nxt_at (d : Nat) : nxt t ⟨i, k, d⟩ = outW i k (bend (t i k) d) := rfl
theorem outW_off {h : Nat} (hh : h < 4) : ¬ atC i k (outW i k h) := step_moves i k hh
theorem nxt_same (hs : OffSame n m t t' i k) {x : Wy} (hi : inG n m x) (ho : ¬ atC i k x) : nxt t x = nxt t' x := by
  unfold nxt
  rw [hs x hi ho]
theorem iter_same (hs : OffSame n m t t' i k) {x : Wy} : ∀ j, (∀ a, a < j → inG n m (iter t x a) ∧ ¬ atC i k (iter t x a)) → iter t x j = iter t' x j
  | 0, _ => rfl
  | j + 1, h => by
    show nxt t (iter t x j) = nxt t' (iter t' x j)
    rw [← iter_same hs j (fun a ha => h a (by omega))]
    exact nxt_same hs (h j (by omega)).1 (h j (by omega)).2
theorem OffSame.symm (hs : OffSame n m t t' i k) : OffSame n m t' t i k := fun x h1 h2 => (hs x h1 h2).symm
theorem strand_same (hs : OffSame n m t t' i k) {h d : Nat} (hst : Strand n m t i k h d) : Strand n m t' i k h d := by
  obtain ⟨j, h1, h2⟩ := hst
  refine ⟨j, by rw [← iter_same hs j h2]; exact h1, fun a ha => ?_⟩
  rw [← iter_same hs a (fun b hb => h2 b (by omega))]
  exact h2 a ha
theorem strand_uniq {h d d' : Nat} (h1 : Strand n m t i k h d) (h2 : Strand n m t i k h d') : d = d' := by
  obtain ⟨j, e1, o1⟩ := h1
  obtain ⟨j', e2, o2⟩ := h2
  rcases Nat.lt_trichotomy j j' with hlt | rfl | hlt
  · have := (o2 j hlt).2
    rw [e1] at this
    exact absurd (atC_mk d) this
  · rw [e1] at e2
    exact congrArg Wy.d e2
  · have := (o1 j' hlt).2
    rw [e2] at this
    exact absurd (atC_mk d') this
theorem strand_lt {h d : Nat} (hh : h < 4) (hst : Strand n m t i k h d) : d < 4 := by
  obtain ⟨j, e1, _⟩ := hst
  have := iter_d (t := t) (x := outW i k h) hh j
  rw [e1] at this
  exact this
theorem strand_back {h d : Nat} (hh : h < 4) (hst : Strand n m t i k h d) : Strand n m t i k (opp d) (opp h) := by
  have hd4 := strand_lt hh hst
  obtain ⟨j, e1, o1⟩ := hst
  cases j with
  | zero =>
    have e0 : outW i k h = ⟨i, k, d⟩ := e1
    exact absurd (by rw [e0]; exact atC_mk d) (outW_off (i := i) (k := k) hh)
  | succ j =>
    have hdy : (outW i k h).d < 4 := hh
    have e0 : outW i k (opp d) = rev t (iter t (outW i k h) j) := by
      rw [← nxt_rev_nxt (t := t) (iter_d hdy j)]
      rw [show nxt t (iter t (outW i k h) j) = ⟨i, k, d⟩ from e1, nxt_rev hd4]
      rfl
    have hb : ∀ a, a ≤ j → iter t (outW i k (opp d)) a = rev t (iter t (outW i k h) (j - a)) := fun a ha => by
      rw [e0]
      have e := iter_rev (t := t) hdy (j - a) a
      rwa [show j - a + a = j by omega] at e
    refine ⟨j + 1, ?_, fun a ha => ?_⟩
    · show nxt t (iter t (outW i k (opp d)) j) = _
      rw [hb j (Nat.le_refl _), Nat.sub_self, nxt_rev (iter_d hdy 0)]
      show (⟨stepI (stepI i h) (opp h), stepK (stepK k h) (opp h), opp h⟩ : Wy) = _
      rw [stepI_opp i hh, stepK_opp k hh]
    · rw [hb a (by omega)]
      exact o1 (j - a) (by omega)

theorem least_at (f : Nat → Bool) : ∀ P, f P = true → ∃ j, f j = true ∧ ∀ a, a < j → f a = false := by
  intro P
  induction P using Nat.strongRecOn with
  | _ P ih =>
    intro h
    by_cases hex : ∃ a, a < P ∧ f a = true
    · obtain ⟨a, h1, h2⟩ := hex
      exact ih a h1 h2
    · exact ⟨P, h, fun a ha => by
        cases hf : f a with
        | false => rfl
        | true => exact absurd ⟨a, ha, hf⟩ hex⟩
/-- On a round, light that leaves the cell comes into it again. -/
theorem strand_on {d : Nat} (hd : d < 4) (hon : onR n m t ⟨i, k, d⟩ = true) : ∃ e, Strand n m t i k (bend (t i k) d) e ∧ onR n m t ⟨i, k, e⟩ = true := by
  obtain ⟨P, hP, _, e⟩ := onR_comes (x := ⟨i, k, d⟩) hd hon
  obtain ⟨P, rfl⟩ : ∃ q, P = q + 1 := ⟨P - 1, by omega⟩
  rw [iter_succ'] at e
  rw [nxt_at] at e
  have hon' : ∀ j, inG n m (iter t (outW i k (bend (t i k) d)) j) := fun j => by
    have := onR_all (x := ⟨i, k, d⟩) hd hon (j + 1)
    rwa [iter_succ', nxt_at] at this
  have hcell : ∀ j e', iter t (outW i k (bend (t i k) d)) j = ⟨i, k, e'⟩ → onR n m t ⟨i, k, e'⟩ = true := fun j e' he => by
    have := onR_iter (x := ⟨i, k, d⟩) hd hon (j + 1)
    rwa [iter_succ', nxt_at, he] at this
  unfold Strand
  generalize outW i k (bend (t i k) d) = y at *
  have hP0 : atC i k (iter t y P) := by rw [e]; exact atC_mk d
  obtain ⟨j, ha, hb⟩ := least_at (fun j => decide (atC i k (iter t y j))) P (decide_eq_true hP0)
  have haj := of_decide_eq_true ha
  refine ⟨(iter t y j).d, ⟨j, atC_eq haj, fun a hlt => ⟨hon' a, ?_⟩⟩, hcell j _ (atC_eq haj)⟩
  have := hb a hlt
  exact of_decide_eq_false this

/-- The strands of a cell, told by four numbers, 4 for none. -/
def StrandsAt (n m : Nat) (t : Int → Int → UInt8) (i k : Int) (s : Nat → Nat) : Prop :=
  ∀ h, h < 4 → s h ≤ 4 ∧ (s h < 4 → Strand n m t i k h (s h)) ∧ (s h = 4 → ∀ d, ¬ Strand n m t i k h d)
def four4 (a b c d : Nat) (h : Nat) : Nat := if h = 0 then a else if h = 1 then b else if h = 2 then c else d
theorem strands_ex (n m : Nat) (t : Int → Int → UInt8) (i k : Int) : ∃ a b c d, StrandsAt n m t i k (four4 a b c d) := by
  have one : ∀ h, h < 4 → ∃ a, a ≤ 4 ∧ (a < 4 → Strand n m t i k h a) ∧ (a = 4 → ∀ d, ¬ Strand n m t i k h d) := fun h hh => by
    by_cases hex : ∃ d, Strand n m t i k h d
    · obtain ⟨d, hd⟩ := hex
      have := strand_lt hh hd
      exact ⟨d, by omega, fun _ => hd, fun e => by omega⟩
    · exact ⟨4, by omega, fun e => by omega, fun _ d hd => hex ⟨d, hd⟩⟩
  obtain ⟨a, ha⟩ := one 0 (by decide)
  obtain ⟨b, hb⟩ := one 1 (by decide)
  obtain ⟨c, hc⟩ := one 2 (by decide)
  obtain ⟨d, hd⟩ := one 3 (by decide)
  refine ⟨a, b, c, d, fun h hh => ?_⟩
  rcases four hh with rfl | rfl | rfl | rfl
  · exact ha
  · exact hb
  · exact hc
  · exact hd
theorem StrandsAt.same {s : Nat → Nat} (h : StrandsAt n m t i k s) (hs : OffSame n m t t' i k) : StrandsAt n m t' i k s := fun a ha =>
  ⟨(h a ha).1, fun h1 => strand_same hs ((h a ha).2.1 h1), fun h1 d hd => (h a ha).2.2 h1 d (strand_same hs.symm hd)⟩
theorem StrandsAt.eq {s : Nat → Nat} (h : StrandsAt n m t i k s) {a d : Nat} (ha : a < 4) (hd : Strand n m t i k a d) : s a = d := by
  obtain ⟨h1, h2, h3⟩ := h a ha
  by_cases e : s a = 4
  · exact absurd hd (h3 e d)
  · exact strand_uniq (h2 (by omega)) hd
theorem StrandsAt.back {s : Nat → Nat} (h : StrandsAt n m t i k s) {a d : Nat} (ha : a < 4) (hd : d < 4) (e : s a = d) : s (opp d) = opp a := by
  obtain ⟨h1, h2, _⟩ := h a ha
  have := strand_back ha (h2 (by omega))
  rw [e] at this
  exact h.eq (opp_lt d) this

/-- The heading with which light comes into the cell again, k times. -/
def fit (b : UInt8) (s : Nat → Nat) (d : Nat) : Nat → Nat
  | 0 => d
  | k + 1 => if fit b s d k < 4 then s (bend b (fit b s d k)) else 4
theorem fit_succ' (b : UInt8) (s : Nat → Nat) (d : Nat) (hd : d < 4) : ∀ q, fit b s d (q + 1) = fit b s (fit b s d 1) q
  | 0 => rfl
  | q + 1 => by
    show (if fit b s d (q + 1) < 4 then s (bend b (fit b s d (q + 1))) else 4) = _
    rw [fit_succ' b s d hd q]
    rfl
theorem fit_add (b : UInt8) (s : Nat → Nat) (d p : Nat) : ∀ q, fit b s d (p + q) = fit b s (fit b s d p) q
  | 0 => rfl
  | q + 1 => by
    show (if fit b s d (p + q) < 4 then s (bend b (fit b s d (p + q))) else 4) = _
    rw [fit_add b s d p q]
    rfl
theorem fit_down {b : UInt8} {s : Nat → Nat} {d p q : Nat} (h : fit b s d q < 4) (hp : p ≤ q) : fit b s d p < 4 := by
  induction q with
  | zero => obtain rfl : p = 0 := by omega
            exact h
  | succ q ih =>
    have h1 : (if fit b s d q < 4 then s (bend b (fit b s d q)) else 4) < 4 := h
    by_cases h2 : fit b s d q < 4
    · rcases Nat.lt_or_ge q p with h3 | h3
      · obtain rfl : p = q + 1 := by omega
        exact h
      · exact ih h2 h3
    · rw [if_neg h2] at h1
      omega
/-- Where it comes again, it comes by going on. -/
theorem fit_way {s : Nat → Nat} (hs : StrandsAt n m t i k s) (hc : inG n m ⟨i, k, 0⟩) {d : Nat} (hd : d < 4) : ∀ q, fit (t i k) s d q < 4 →
    ∃ j, q ≤ j ∧ iter t ⟨i, k, d⟩ j = ⟨i, k, fit (t i k) s d q⟩ ∧ ∀ a, a ≤ j → inG n m (iter t ⟨i, k, d⟩ a)
  | 0, _ => ⟨0, Nat.le_refl _, rfl, fun a ha => by
      obtain rfl : a = 0 := by omega
      exact hc⟩
  | q + 1, h => by
    have hq : fit (t i k) s d q < 4 := fit_down h (Nat.le_succ q)
    obtain ⟨j, hj, e, hin⟩ := fit_way hs hc hd q hq
    have e1 : fit (t i k) s d (q + 1) = s (bend (t i k) (fit (t i k) s d q)) := by
      show (if fit (t i k) s d q < 4 then s (bend (t i k) (fit (t i k) s d q)) else 4) = _
      rw [if_pos hq]
    rw [e1] at h ⊢
    obtain ⟨j2, e2, hin2⟩ := (hs _ (bend_lt (t i k) hq)).2.1 h
    have hstep : ∀ a, iter t ⟨i, k, d⟩ (j + 1 + a) = iter t (outW i k (bend (t i k) (fit (t i k) s d q))) a := fun a => by
      rw [iter_add]
      show iter t (nxt t (iter t ⟨i, k, d⟩ j)) a = _
      rw [e, nxt_at]
    refine ⟨j + 1 + j2, by omega, by rw [hstep, e2], fun a ha => ?_⟩
    by_cases h1 : a ≤ j
    · exact hin a h1
    · obtain ⟨c, rfl⟩ : ∃ c, a = j + 1 + c := ⟨a - (j + 1), by omega⟩
      rw [hstep]
      by_cases h2 : c < j2
      · exact (hin2 c h2).1
      · obtain rfl : c = j2 := by omega
        rw [e2]
        exact hc
/-- On a round just if it comes four times. -/
theorem fit_on {s : Nat → Nat} (hs : StrandsAt n m t i k s) (hc : inG n m ⟨i, k, 0⟩) {d : Nat} (hd : d < 4) : onR n m t ⟨i, k, d⟩ = true ↔ fit (t i k) s d 4 < 4 := by
  constructor
  · intro hon
    have all : ∀ q, fit (t i k) s d q < 4 ∧ onR n m t ⟨i, k, fit (t i k) s d q⟩ = true := fun q => by
      induction q with
      | zero => exact ⟨hd, hon⟩
      | succ q ih =>
        obtain ⟨e, h1, h2⟩ := strand_on ih.1 ih.2
        have h3 := hs.eq (bend_lt _ ih.1) h1
        have e1 : fit (t i k) s d (q + 1) = e := by
          show (if fit (t i k) s d q < 4 then s (bend (t i k) (fit (t i k) s d q)) else 4) = _
          rw [if_pos ih.1, h3]
        rw [e1]
        exact ⟨strand_lt (bend_lt _ ih.1) h1, h2⟩
    exact (all 4).1
  · intro h4
    obtain ⟨a, b, hab, hb, e⟩ := pigeon 4 (fit (t i k) s d) (fun j hj => fit_down h4 hj)
    obtain ⟨j, _, ej, hin⟩ := fit_way hs hc hd a (fit_down h4 (by omega))
    have hfa := fit_down h4 (show a ≤ 4 by omega)
    obtain ⟨j2, hj2, ej2, hin2⟩ := fit_way hs hc hfa (b - a) (by rw [← fit_add, show a + (b - a) = b by omega]; exact fit_down h4 hb)
    rw [← fit_add, show a + (b - a) = b by omega, ← e] at ej2
    have h1 : iter t ⟨i, k, d⟩ (j2 + j) = iter t ⟨i, k, d⟩ j := by rw [Nat.add_comm, iter_add, ej, ej2]
    have h2 : iter t ⟨i, k, d⟩ j2 = ⟨i, k, d⟩ := by
      rw [iter_add] at h1
      exact iter_inj (t := t) (iter_d (x := ⟨i, k, d⟩) hd j2) hd j h1
    have hin3 : ∀ x, x < j2 → inG n m (iter t ⟨i, k, d⟩ x) := fun x hx => by
      by_cases hxj : x ≤ j
      · exact hin x hxj
      · have := hin2 (x - j) (by omega)
        rwa [← ej, ← iter_add, show j + (x - j) = x by omega] at this
    exact onR_of fun x => by
      rw [iter_mod h2]
      exact hin3 _ (Nat.mod_lt _ (by omega))
theorem fit_all {b : UInt8} {s : Nat → Nat} {d : Nat} (h4 : fit b s d 4 < 4) : ∀ q, ∃ p, p < 4 ∧ fit b s d q = fit b s d p := by
  intro q
  induction q using Nat.strongRecOn with
  | _ q ih =>
    by_cases hq : q < 4
    · exact ⟨q, hq, rfl⟩
    · obtain ⟨a, c, hac, hc, e⟩ := pigeon 4 (fit b s d) (fun j hj => fit_down h4 hj)
      obtain ⟨p, hp, e2⟩ := ih (q - (c - a)) (by omega)
      refine ⟨p, hp, ?_⟩
      rw [← e2, show q = c + (q - c) by omega, fit_add, ← e, ← fit_add]
      congr 1
      omega
/-- Ways of one round in the cell. -/
theorem fit_ring {s : Nat → Nat} (hs : StrandsAt n m t i k s) (hc : inG n m ⟨i, k, 0⟩) {d e : Nat} (hd : d < 4) (hon : onR n m t ⟨i, k, d⟩ = true) :
    (∃ j, iter t ⟨i, k, d⟩ j = ⟨i, k, e⟩) ↔ ∃ p, p < 4 ∧ fit (t i k) s d p = e := by
  have h4 := (fit_on hs hc hd).1 hon
  constructor
  · rintro ⟨j, hj⟩
    have main : ∀ (j d : Nat), d < 4 → onR n m t ⟨i, k, d⟩ = true → iter t ⟨i, k, d⟩ j = ⟨i, k, e⟩ → ∃ q, fit (t i k) s d q = e := by
      intro j
      induction j using Nat.strongRecOn with
      | _ j ih =>
        intro d hd hon hj
        cases j with
        | zero => exact ⟨0, congrArg Wy.d hj⟩
        | succ j =>
          obtain ⟨e1, ⟨j1, h1, h2⟩, hon1⟩ := strand_on hd hon
          have h3 := hs.eq (bend_lt _ hd) ⟨j1, h1, h2⟩
          rw [iter_succ', nxt_at] at hj
          have hle : j1 ≤ j := Nat.le_of_not_lt fun hlt => (h2 j hlt).2 (by rw [hj]; exact atC_mk e)
          have he1 : e1 < 4 := strand_lt (bend_lt _ hd) ⟨j1, h1, h2⟩
          obtain ⟨q, hq⟩ := ih (j - j1) (by omega) e1 he1 hon1 (by rw [← h1, ← iter_add, show j1 + (j - j1) = j by omega]; exact hj)
          refine ⟨q + 1, ?_⟩
          rw [fit_succ' _ _ _ hd]
          have e2 : fit (t i k) s d 1 = e1 := by
            show (if d < 4 then s (bend (t i k) d) else 4) = _
            rw [if_pos hd, h3]
          rw [e2, hq]
    obtain ⟨q, hq⟩ := main j d hd hon hj
    obtain ⟨p, hp, e2⟩ := fit_all h4 q
    exact ⟨p, hp, by rw [← e2, hq]⟩
  · rintro ⟨p, hp, rfl⟩
    obtain ⟨j, _, h, _⟩ := fit_way hs hc hd p (fit_down h4 (by omega))
    exact ⟨j, h⟩

/-- Does the cell's way d lie on a round? Do two of its ways lie on one round? -/
def onB (b : UInt8) (s : Nat → Nat) (d : Nat) : Bool := decide (fit b s d 4 < 4)
def sameB (b : UInt8) (s : Nat → Nat) (d e : Nat) : Bool := (List.range 4).any fun p => fit b s d p == e || fit b s d p == opp (bend b e)
theorem sameB_iff {s : Nat → Nat} (hs : StrandsAt n m t i k s) (hc : inG n m ⟨i, k, 0⟩) {d e : Nat} (hd : d < 4) (he : e < 4) (hon : onR n m t ⟨i, k, d⟩ = true) :
    sameB (t i k) s d e = true ↔ ringW t ⟨i, k, d⟩ ⟨i, k, e⟩ := by
  unfold sameB ringW
  rw [List.any_eq_true]
  constructor
  · rintro ⟨p, hp, h⟩
    have hp := List.mem_range.1 hp
    rw [Bool.or_eq_true, beq_iff_eq, beq_iff_eq] at h
    rcases h with h | h
    · obtain ⟨j, hj⟩ := (fit_ring hs hc hd hon).2 ⟨p, hp, h⟩
      exact ⟨j, .inl hj.symm⟩
    · obtain ⟨j, hj⟩ := (fit_ring hs hc hd hon).2 ⟨p, hp, h⟩
      refine ⟨j, .inr ?_⟩
      rw [hj]
      exact (rev_rev (t := t) (x := ⟨i, k, e⟩) he).symm
  · rintro ⟨j, h | h⟩
    · obtain ⟨p, hp, h2⟩ := (fit_ring hs hc hd hon).1 ⟨j, h.symm⟩
      exact ⟨p, List.mem_range.2 hp, by rw [h2]; simp⟩
    · have hj : iter t ⟨i, k, d⟩ j = ⟨i, k, opp (bend (t i k) e)⟩ := by
        have h5 := congrArg (rev t) h
        rw [rev_rev (iter_d (x := ⟨i, k, d⟩) hd j)] at h5
        rw [← h5]
        rfl
      obtain ⟨p, hp, h2⟩ := (fit_ring hs hc hd hon).1 ⟨j, hj⟩
      exact ⟨p, List.mem_range.2 hp, by rw [h2]; simp⟩
end

/-- The first way of the cell that is of no other pair than way 0. -/
def oth2 (b : UInt8) : Nat := if b = 102 then 2 else 1
theorem oth2_lt (b : UInt8) : oth2 b < 4 := by unfold oth2; split <;> decide
/-- How many rounds go through the cell. -/
def viaN (b : UInt8) (s : Nat → Nat) : Nat := (onB b s 0).toNat + (onB b s (oth2 b) && !(onB b s 0 && sameB b s 0 (oth2 b))).toNat
theorem four_pairs (b : UInt8) {d : Nat} (hd : d < 4) : d = 0 ∨ d = opp (bend b 0) ∨ d = oth2 b ∨ d = opp (bend b (oth2 b)) := by
  unfold oth2
  by_cases h1 : b = 114
  · subst h1
    rcases four hd with rfl | rfl | rfl | rfl <;> decide
  · by_cases h2 : b = 102
    · subst h2
      rcases four hd with rfl | rfl | rfl | rfl <;> decide
    · rw [if_neg h2, bend_e h1 h2, bend_e h1 h2]
      rcases four hd with rfl | rfl | rfl | rfl <;> decide

theorem countP_eq_one {N a : Nat} (ha : a < N) : (List.range N).countP (fun l => l == a) = 1 := by
  induction N with
  | zero => omega
  | succ N ih =>
    rw [List.range_succ, List.countP_append, List.countP_singleton]
    by_cases h : a = N
    · subst h
      have : (List.range a).countP (fun l => l == a) = 0 := by
        rw [List.countP_eq_zero]
        intro l hl
        have := List.mem_range.1 hl
        simp; omega
      rw [this]; simp
    · rw [ih (by omega)]
      have : (N == a) = false := by rw [beq_eq_false_iff_ne]; omega
      rw [this]; simp
theorem countP_or {α : Type} (p q : α → Bool) : ∀ l : List α, l.countP (fun x => p x || q x) + l.countP (fun x => p x && q x) = l.countP p + l.countP q
  | [] => rfl
  | x :: l => by
    have ih := countP_or p q l
    simp only [List.countP_cons]
    cases p x <;> cases q x <;> simp <;> omega
theorem countP_split {α : Type} (p q : α → Bool) : ∀ l : List α, l.countP p = l.countP (fun x => p x && !q x) + l.countP (fun x => p x && q x)
  | [] => rfl
  | x :: l => by
    have ih := countP_split p q l
    simp only [List.countP_cons]
    cases p x <;> cases q x <;> simp <;> omega

section
variable {n m : Nat} {t t' : Int → Int → UInt8} {i k : Int}
/-- The round of a number goes through the cell. -/
def thruB (n m : Nat) (t : Int → Int → UInt8) (i k : Int) (l : Nat) : Bool := (List.range (4 * (n * m))).any fun j => decide (atC i k (iter t (wayN m l) j))
theorem thru_iff {l : Nat} (hon : onR n m t (wayN m l) = true) : thruB n m t i k l = true ↔ ∃ j, atC i k (iter t (wayN m l) j) := by
  unfold thruB
  rw [List.any_eq_true]
  constructor
  · rintro ⟨j, _, h⟩
    exact ⟨j, of_decide_eq_true h⟩
  · rintro ⟨j, h⟩
    obtain ⟨h1, h2, h3, _⟩ := rlen_facts (wayN_d l) hon
    rw [iter_mod h3] at h
    exact ⟨_, List.mem_range.2 (Nat.lt_of_lt_of_le (Nat.mod_lt _ (by omega)) h2), decide_eq_true h⟩
/-- A round that does not go through the cell is the same whatever its letter. -/
theorem avoid_same (hs : OffSame n m t t' i k) {l : Nat} (hl : leadB n m t l = true) (ht : thruB n m t i k l = false) : leadB n m t' l = true ∧ thruB n m t' i k l = false := by
  obtain ⟨hon, hmin⟩ := lead_iff.1 hl
  have hoff : ∀ j, ¬ atC i k (iter t (wayN m l) j) := fun j h => by
    rw [(thru_iff hon).2 ⟨j, h⟩] at ht
    cases ht
  have hin := onR_all (wayN_d l) hon
  have he : ∀ j, iter t (wayN m l) j = iter t' (wayN m l) j := fun j => iter_same hs j fun a _ => ⟨hin a, hoff a⟩
  have hon' : onR n m t' (wayN m l) = true := onR_of fun j => by rw [← he]; exact hin j
  refine ⟨lead_iff.2 ⟨hon', ?_⟩, ?_⟩
  · rintro y ⟨j, h | h⟩
    · exact hmin y ⟨j, .inl (by rw [he]; exact h)⟩
    · refine hmin y ⟨j, .inr ?_⟩
      rw [h, ← he]
      unfold rev
      rw [hs _ (hin j) (hoff j)]
  · rw [Bool.eq_false_iff]
    intro h
    obtain ⟨j, hj⟩ := (thru_iff hon').1 h
    rw [← he] at hj
    exact hoff j hj
theorem avoid_count (hs : OffSame n m t t' i k) (N : Nat) : (List.range N).countP (fun l => leadB n m t l && !thruB n m t i k l) = (List.range N).countP (fun l => leadB n m t' l && !thruB n m t' i k l) := by
  refine List.countP_congr fun l _ => ?_
  rw [Bool.and_eq_true, Bool.and_eq_true, Bool.not_eq_true', Bool.not_eq_true']
  exact ⟨fun h => avoid_same hs h.1 h.2, fun h => avoid_same hs.symm h.1 h.2⟩

/-- The leading number of a way's round is one. -/
theorem lead_one {x : Wy} (hd : x.d < 4) (hon : onR n m t x = true) : ∃ l, l < 4 * (n * m) ∧ ∀ l', (leadB n m t l' = true ∧ ringW t (wayN m l') x) ↔ l' = l := by
  have hin := onR_all hd hon 0
  obtain ⟨l, hl, h2, h3⟩ := ring_lead hd hon _ x (ringW_refl x) rfl
  refine ⟨l, Nat.lt_of_le_of_lt hl (wcode_lt hin hd), fun l' => ⟨fun ⟨h4, h5⟩ => ?_, fun e => by rw [e]; exact ⟨h2, h3⟩⟩⟩
  have o1 := (lead_iff.1 h2).1
  have o2 := (lead_iff.1 h4).1
  have r1 := ringW_trans (wayN_d l) o1 h3 (ringW_symm (wayN_d l') o2 h5)
  have r2 := ringW_trans (wayN_d l') o2 h5 (ringW_symm (wayN_d l) o1 h3)
  have a := (lead_iff.1 h2).2 _ r1
  have b := (lead_iff.1 h4).2 _ r2
  rw [wcode_way] at a b
  omega
theorem thru_ring {l : Nat} (hon : onR n m t (wayN m l) = true) : thruB n m t i k l = true ↔ ringW t (wayN m l) ⟨i, k, 0⟩ ∨ ringW t (wayN m l) ⟨i, k, oth2 (t i k)⟩ := by
  rw [thru_iff hon]
  constructor
  · rintro ⟨j, h⟩
    have e := atC_eq h
    have hd4 := iter_d (t := t) (wayN_d (m := m) l) j
    rcases four_pairs (t i k) hd4 with h0 | h0 | h0 | h0
    · exact .inl ⟨j, .inl (by rw [e, h0])⟩
    · refine .inl ⟨j, .inr ?_⟩
      rw [e, h0]
      exact (rev_rev (t := t) (x := ⟨i, k, 0⟩) (Nat.zero_lt_succ 3)).symm
    · exact .inr ⟨j, .inl (by rw [e, h0])⟩
    · refine .inr ⟨j, .inr ?_⟩
      rw [e, h0]
      exact (rev_rev (t := t) (x := ⟨i, k, oth2 (t i k)⟩) (oth2_lt _)).symm
  · rintro (⟨j, h | h⟩ | ⟨j, h | h⟩)
    · exact ⟨j, by rw [← h]; exact atC_mk _⟩
    · exact ⟨j, (congrArg Wy.i h).symm, (congrArg Wy.k h).symm⟩
    · exact ⟨j, by rw [← h]; exact atC_mk _⟩
    · exact ⟨j, (congrArg Wy.i h).symm, (congrArg Wy.k h).symm⟩
/-- How many leading numbers' rounds go through the cell. -/
theorem via_count {s : Nat → Nat} (hs : StrandsAt n m t i k s) (hc : inG n m ⟨i, k, 0⟩) : (List.range (4 * (n * m))).countP (fun l => leadB n m t l && thruB n m t i k l) = viaN (t i k) s := by
  have h2 := oth2_lt (t i k)
  have hcount : ∀ (f : Nat → Bool), (∀ l, (leadB n m t l && thruB n m t i k l) = true ↔ f l = true) → (List.range (4 * (n * m))).countP (fun l => leadB n m t l && thruB n m t i k l) = (List.range (4 * (n * m))).countP f := fun f hf => List.countP_congr fun l _ => hf l
  have hthru : ∀ l, (leadB n m t l && thruB n m t i k l) = true ↔ (leadB n m t l = true ∧ ringW t (wayN m l) ⟨i, k, 0⟩) ∨ (leadB n m t l = true ∧ ringW t (wayN m l) ⟨i, k, oth2 (t i k)⟩) := fun l => by
    rw [Bool.and_eq_true]
    constructor
    · rintro ⟨a, b⟩
      rcases (thru_ring (lead_iff.1 a).1).1 b with c | c
      · exact .inl ⟨a, c⟩
      · exact .inr ⟨a, c⟩
    · rintro (⟨a, b⟩ | ⟨a, b⟩)
      · exact ⟨a, (thru_ring (lead_iff.1 a).1).2 (.inl b)⟩
      · exact ⟨a, (thru_ring (lead_iff.1 a).1).2 (.inr b)⟩
  have hoff : ∀ (d : Nat), d < 4 → onR n m t ⟨i, k, d⟩ = false → ∀ l, ¬ (leadB n m t l = true ∧ ringW t (wayN m l) ⟨i, k, d⟩) := fun d hd hon l h => by
    have := (ringW_on (wayN_d l) (lead_iff.1 h.1).1 h.2).1
    rw [hon] at this
    cases this
  have honB : ∀ d, d < 4 → onB (t i k) s d = onR n m t ⟨i, k, d⟩ := fun d hd => by
    unfold onB
    cases h : onR n m t ⟨i, k, d⟩ with
    | true => exact decide_eq_true ((fit_on hs hc hd).1 h)
    | false => exact decide_eq_false fun h3 => by rw [(fit_on hs hc hd).2 h3] at h; cases h
  unfold viaN
  rw [honB 0 (by decide), honB _ h2]
  cases ha : onR n m t ⟨i, k, 0⟩ with
  | true =>
    obtain ⟨la, hla, hua⟩ := lead_one (x := ⟨i, k, 0⟩) (Nat.zero_lt_succ 3) ha
    have hra := (hua la).2 rfl
    cases hb : onR n m t ⟨i, k, oth2 (t i k)⟩ with
    | true =>
      obtain ⟨lb, hlb, hub⟩ := lead_one (x := ⟨i, k, oth2 (t i k)⟩) h2 hb
      have hrb := (hub lb).2 rfl
      have hsame := sameB_iff hs hc (d := 0) (by decide) h2 ha
      have hab : sameB (t i k) s 0 (oth2 (t i k)) = true ↔ la = lb := by
        rw [hsame]
        constructor
        · intro h
          exact (hub la).1 ⟨hra.1, ringW_trans (wayN_d la) (lead_iff.1 hra.1).1 hra.2 h⟩
        · intro h
          subst h
          exact ringW_trans (x := ⟨i, k, 0⟩) (Nat.zero_lt_succ 3) ha (ringW_symm (wayN_d la) (lead_iff.1 hra.1).1 hra.2) hrb.2
      rw [hcount (fun l => l == la || l == lb) (fun l => by rw [hthru, hua, hub, Bool.or_eq_true, beq_iff_eq, beq_iff_eq])]
      have hor := countP_or (fun l => l == la) (fun l => l == lb) (List.range (4 * (n * m)))
      rw [countP_eq_one hla, countP_eq_one hlb] at hor
      cases hsb : sameB (t i k) s 0 (oth2 (t i k)) with
      | true =>
        obtain rfl := hab.1 hsb
        have : (List.range (4 * (n * m))).countP (fun l => l == la && l == la) = 1 := by
          rw [← countP_eq_one hla]
          exact List.countP_congr fun l _ => by simp
        rw [this] at hor
        simp only [Bool.true_and, Bool.not_true, Bool.and_false]
        show _ = 1 + 0
        omega
      | false =>
        have hne : la ≠ lb := fun e => by rw [hab.2 e] at hsb; cases hsb
        have : (List.range (4 * (n * m))).countP (fun l => l == la && l == lb) = 0 := by
          rw [List.countP_eq_zero]
          intro l _ h
          rw [Bool.and_eq_true, beq_iff_eq, beq_iff_eq] at h
          exact hne (h.1.symm.trans h.2)
        rw [this] at hor
        simp only [Bool.true_and, Bool.not_false]
        show _ = 1 + 1
        omega
    | false =>
      rw [hcount (fun l => l == la) (fun l => by
        rw [hthru, hua, beq_iff_eq]
        exact ⟨fun h => h.resolve_right (hoff _ h2 hb l), .inl⟩), countP_eq_one hla]
      rfl
  | false =>
    cases hb : onR n m t ⟨i, k, oth2 (t i k)⟩ with
    | true =>
      obtain ⟨lb, hlb, hub⟩ := lead_one (x := ⟨i, k, oth2 (t i k)⟩) h2 hb
      rw [hcount (fun l => l == lb) (fun l => by
        rw [hthru, hub, beq_iff_eq]
        exact ⟨fun h => h.resolve_left (hoff 0 (by decide) ha l), .inr⟩), countP_eq_one hlb]
      rfl
    | false =>
      rw [hcount (fun _ => false) (fun l => by
        rw [hthru]
        exact ⟨fun h => by rcases h with h | h
                           · exact absurd h (hoff 0 (by decide) ha l)
                           · exact absurd h (hoff _ h2 hb l), fun h => by cases h⟩)]
      rw [List.countP_eq_zero.2 (fun _ _ => by simp)]
      rfl
/-- The number of rounds: those that do not go through the cell, and those that do. -/
theorem leads_count {s : Nat → Nat} (hs : StrandsAt n m t i k s) (hc : inG n m ⟨i, k, 0⟩) :
    (leads n m t).length = (List.range (4 * (n * m))).countP (fun l => leadB n m t l && !thruB n m t i k l) + viaN (t i k) s := by
  rw [← via_count hs hc]
  unfold leads
  rw [← List.countP_eq_length_filter]
  exact countP_split _ _ _
end

/-- All three the same, or the third one 1 more. -/
def law3 (a b c : Nat) : Bool := a + b + c == 3 * min a (min b c) || a + b + c == 3 * min a (min b c) + 1
def symm4 (s : Nat → Nat) : Bool := (List.range 4).all fun h => s h == 4 || s (opp (s h)) == opp h
def checkAll : Bool := (List.range 5).all fun a => (List.range 5).all fun b => (List.range 5).all fun c => (List.range 5).all fun d =>
  !symm4 (four4 a b c d) || law3 (viaN 46 (four4 a b c d)) (viaN 114 (four4 a b c d)) (viaN 102 (four4 a b c d))
theorem checked_all : checkAll = true := by decide +kernel
/-- Three letters of a cell. -/
theorem three_leads {n m : Nat} {t0 t1 t2 : Int → Int → UInt8} {i k : Int} (hc : inG n m ⟨i, k, 0⟩) (h1 : OffSame n m t0 t1 i k) (h2 : OffSame n m t0 t2 i k) (e0 : t0 i k = 46) (e1 : t1 i k = 114) (e2 : t2 i k = 102) :
    law3 (leads n m t0).length (leads n m t1).length (leads n m t2).length = true := by
  obtain ⟨a, b, c, d, hs⟩ := strands_ex n m t0 i k
  have l0 := leads_count hs hc
  have l1 := leads_count (hs.same h1) hc
  have l2 := leads_count (hs.same h2) hc
  rw [← avoid_count h1] at l1
  rw [← avoid_count h2] at l2
  rw [e0] at l0
  rw [e1] at l1
  rw [e2] at l2
  generalize (List.range (4 * (n * m))).countP (fun l => leadB n m t0 l && !thruB n m t0 i k l) = B at l0 l1 l2
  have ha := (hs 0 (by decide)).1
  have hb := (hs 1 (by decide)).1
  have hcc := (hs 2 (by decide)).1
  have hd := (hs 3 (by decide)).1
  have hsym : symm4 (four4 a b c d) = true := by
    unfold symm4
    rw [List.all_eq_true]
    intro h hh
    have hh := List.mem_range.1 hh
    rw [Bool.or_eq_true, beq_iff_eq, beq_iff_eq]
    by_cases e : four4 a b c d h = 4
    · exact .inl e
    · exact .inr (hs.back hh (by have := (hs h hh).1; omega) rfl)
  have hall := checked_all
  unfold checkAll at hall
  have p1 := List.all_eq_true.1 hall a (List.mem_range.2 (by show a < 5; have : a ≤ 4 := ha; omega))
  have p2 := List.all_eq_true.1 p1 b (List.mem_range.2 (by have : b ≤ 4 := hb; omega))
  have p3 := List.all_eq_true.1 p2 c (List.mem_range.2 (by have : c ≤ 4 := hcc; omega))
  have p4 := List.all_eq_true.1 p3 d (List.mem_range.2 (by have : d ≤ 4 := hd; omega))
  rw [hsym, Bool.not_true, Bool.false_or] at p4
  rw [l0, l1, l2]
  unfold law3 at p4 ⊢
  rw [Bool.or_eq_true, beq_iff_eq, beq_iff_eq] at p4 ⊢
  omega
end Go.Proofs.YtongjijkdjagdaaDoor
