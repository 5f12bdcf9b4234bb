/- Plain words on beams: ways, how they go on, that they end, that they lead back. No program is named. -/
import Derived.Test.YtmdgbcepjnfbnaaGridM
namespace Go.Proofs.Ytmdgbcepjnfbnaa

/-- A way: row, column, heading. -/
structure Wy where
  i : Int
  k : Int
  d : Nat

theorem Wy.eq {x y : Wy} (h1 : x.i = y.i) (h2 : x.k = y.k) (h3 : x.d = y.d) : x = y := by
  cases x; cases y; simp only at h1 h2 h3; subst h1; subst h2; subst h3; rfl

/-- The heading behind a cell with a letter. -/
def bend (b : UInt8) (d : Nat) : Nat :=
  if b = 114 then (if d = 0 then 1 else if d = 1 then 0 else if d = 2 then 3 else 2) else if b = 102 then 3 - d else d
/-- The other way round. -/
def opp (d : Nat) : Nat := if d = 0 then 2 else if d = 1 then 3 else if d = 2 then 0 else 1
def stepI (i : Int) (d : Nat) : Int := if d = 0 then i - 1 else if d = 2 then i + 1 else i
def stepK (k : Int) (d : Nat) : Int := if d = 1 then k + 1 else if d = 3 then k - 1 else k
/-- The letter at a place. -/
def lett (m : Nat) (ls : List UInt8) (i k : Int) : UInt8 := ls.getD (i * m + k).toNat 0

theorem four {d : Nat} (h : d < 4) : d = 0 ∨ d = 1 ∨ d = 2 ∨ d = 3 := by omega
theorem bend_lt (b : UInt8) {d : Nat} (h : d < 4) : bend b d < 4 := by
  unfold bend
  split
  · split
    · decide
    · split
      · decide
      · split <;> decide
  · split <;> omega
theorem opp_lt (d : Nat) : opp d < 4 := by
  unfold opp
  split
  · decide
  · split
    · decide
    · split <;> decide
theorem opp_opp {d : Nat} (h : d < 4) : opp (opp d) = d := by
  rcases four h with rfl | rfl | rfl | rfl <;> rfl
theorem bend_r {d : Nat} : bend 114 d = (if d = 0 then 1 else if d = 1 then 0 else if d = 2 then 3 else 2) := rfl
theorem bend_f {d : Nat} : bend 102 d = 3 - d := rfl
theorem bend_e {b : UInt8} {d : Nat} (h1 : b ≠ 114) (h2 : b ≠ 102) : bend b d = d := by unfold bend; rw [if_neg h1, if_neg h2]
theorem bend_opp (b : UInt8) {d : Nat} (h : d < 4) : bend b (opp (bend b d)) = opp d := by
  by_cases h1 : b = 114
  · subst h1
    rcases four h with rfl | rfl | rfl | rfl <;> rfl
  · by_cases h2 : b = 102
    · subst h2
      rcases four h with rfl | rfl | rfl | rfl <;> rfl
    · rw [bend_e h1 h2, bend_e h1 h2]
theorem bend_ne (b : UInt8) {d : Nat} (h : d < 4) : opp (bend b d) ≠ d := by
  by_cases h1 : b = 114
  · subst h1
    rcases four h with rfl | rfl | rfl | rfl <;> decide
  · by_cases h2 : b = 102
    · subst h2
      rcases four h with rfl | rfl | rfl | rfl <;> decide
    · rw [bend_e h1 h2]
      rcases four h with rfl | rfl | rfl | rfl <;> decide
theorem stepI_opp (i : Int) {d : Nat} (h : d < 4) : stepI (stepI i d) (opp d) = i := by
  rcases four h with rfl | rfl | rfl | rfl <;> simp [stepI, opp] <;> omega
theorem stepK_opp (k : Int) {d : Nat} (h : d < 4) : stepK (stepK k d) (opp d) = k := by
  rcases four h with rfl | rfl | rfl | rfl <;> simp [stepK, opp] <;> omega
theorem step_moves (i k : Int) {d : Nat} (h : d < 4) : ¬ (stepI i d = i ∧ stepK k d = k) := by
  rcases four h with rfl | rfl | rfl | rfl <;> simp [stepI, stepK] <;> omega

section
variable (t : Int → Int → UInt8)
/-- The way behind a way. -/
def nxt (x : Wy) : Wy := ⟨stepI x.i (bend (t x.i x.k) x.d), stepK x.k (bend (t x.i x.k) x.d), bend (t x.i x.k) x.d⟩
/-- The same way backwards. -/
def rev (x : Wy) : Wy := ⟨x.i, x.k, opp (bend (t x.i x.k) x.d)⟩
def iter (x : Wy) : Nat → Wy
  | 0 => x
  | j + 1 => nxt t (iter x j)
end

section
variable {t : Int → Int → UInt8}
theorem nxt_d {x : Wy} (h : x.d < 4) : (nxt t x).d < 4 := bend_lt _ h
theorem rev_d (x : Wy) : (rev t x).d < 4 := opp_lt _
theorem iter_d {x : Wy} (h : x.d < 4) : ∀ j, (iter t x j).d < 4
  | 0 => h
  | j + 1 => nxt_d (iter_d h j)
theorem nxt_rev {x : Wy} (h : x.d < 4) : nxt t (rev t x) = ⟨stepI x.i (opp x.d), stepK x.k (opp x.d), opp x.d⟩ := by
  unfold nxt rev
  simp only
  rw [bend_opp _ h]
theorem nxt_rev_nxt {x : Wy} (h : x.d < 4) : nxt t (rev t (nxt t x)) = rev t x := by
  rw [nxt_rev (nxt_d h)]
  have hb := bend_lt (t x.i x.k) h
  unfold nxt rev
  simp only
  rw [stepI_opp _ hb, stepK_opp _ hb]
theorem rev_rev {x : Wy} (h : x.d < 4) : rev t (rev t x) = x := by
  refine Wy.eq rfl rfl ?_
  show opp (bend (t x.i x.k) (opp (bend (t x.i x.k) x.d))) = x.d
  rw [bend_opp _ h, opp_opp h]
theorem nxt_inj {x y : Wy} (hx : x.d < 4) (hy : y.d < 4) (h : nxt t x = nxt t y) : x = y := by
  have e1 := nxt_rev_nxt (t := t) hx
  have e2 := nxt_rev_nxt (t := t) hy
  rw [h, e2] at e1
  have := congrArg (rev t) e1
  rw [rev_rev hx, rev_rev hy] at this
  exact this.symm
theorem rev_ne {x : Wy} (h : x.d < 4) : rev t x ≠ x := fun e => bend_ne (t x.i x.k) h (congrArg Wy.d e)
theorem rev_ne_nxt {x : Wy} (h : x.d < 4) : rev t x ≠ nxt t x := fun e =>
  step_moves x.i x.k (bend_lt (t x.i x.k) h) ⟨(congrArg Wy.i e).symm, (congrArg Wy.k e).symm⟩
theorem iter_succ' (x : Wy) : ∀ j, iter t x (j + 1) = iter t (nxt t x) j
  | 0 => rfl
  | j + 1 => by rw [iter, iter_succ' x j]; rfl
theorem iter_add (x : Wy) (a : Nat) : ∀ b, iter t x (a + b) = iter t (iter t x a) b
  | 0 => rfl
  | b + 1 => by rw [← Nat.add_assoc, iter, iter_add x a b]; rfl
end

/-- The way lies in the grid. -/
def inG (n m : Nat) (x : Wy) : Prop := 0 ≤ x.i ∧ x.i < n ∧ 0 ≤ x.k ∧ x.k < m
instance (n m : Nat) (x : Wy) : Decidable (inG n m x) := by unfold inG; infer_instance
/-- The way into the first cell behind a port. -/
def entr (n m p : Nat) : Wy :=
  if p < m then ⟨0, p, 2⟩ else if p < m + n then ⟨(p : Int) - m, (m : Int) - 1, 3⟩ else if p < 2 * m + n then ⟨(n : Int) - 1, 2 * (m : Int) + n - 1 - p, 0⟩ else ⟨2 * ((n : Int) + m) - 1 - p, 0, 1⟩
/-- The port of a way that has left the grid. -/
def leav (n m : Nat) (x : Wy) : Int :=
  if x.d = 0 then x.k else if x.d = 1 then m + x.i else if x.d = 2 then 2 * (m : Int) + n - 1 - x.k else 2 * ((n : Int) + m) - 1 - x.i

theorem entr_d (n m p : Nat) : (entr n m p).d < 4 := by
  unfold entr
  split
  · exact (by decide : 2 < 4)
  · split
    · exact (by decide : 3 < 4)
    · split
      · exact (by decide : 0 < 4)
      · exact (by decide : 1 < 4)
theorem entr_in {n m p : Nat} (hn : 1 ≤ n) (hm : 1 ≤ m) (hp : p < 2 * (n + m)) : inG n m (entr n m p) := by
  unfold entr inG
  split
  · refine ⟨?_, ?_, ?_, ?_⟩ <;> simp only <;> omega
  · split
    · refine ⟨?_, ?_, ?_, ?_⟩ <;> simp only <;> omega
    · split
      · refine ⟨?_, ?_, ?_, ?_⟩ <;> simp only <;> omega
      · refine ⟨?_, ?_, ?_, ?_⟩ <;> simp only <;> omega
theorem entr_back {t : Int → Int → UInt8} {n m p : Nat} (_ : p < 2 * (n + m)) : ¬ inG n m (nxt t (rev t (entr n m p))) ∧ leav n m (nxt t (rev t (entr n m p))) = p := by
  rw [nxt_rev (entr_d n m p)]
  unfold entr inG leav
  split
  · simp only [stepI, stepK, opp]; simp <;> omega
  · split
    · simp only [stepI, stepK, opp]; simp <;> omega
    · split
      · simp only [stepI, stepK, opp]; simp <;> omega
      · simp only [stepI, stepK, opp]; simp <;> omega
theorem leav_entr {t : Int → Int → UInt8} {n m : Nat} {y : Wy} (hd : y.d < 4) (hi : inG n m y) (ho : ¬ inG n m (nxt t y)) :
    0 ≤ leav n m (nxt t y) ∧ leav n m (nxt t y) < 2 * ((n : Int) + m) ∧ entr n m (leav n m (nxt t y)).toNat = rev t y := by
  obtain ⟨h1, h2, h3, h4⟩ := hi
  have hb := bend_lt (t y.i y.k) hd
  unfold nxt at *
  unfold rev
  generalize bend (t y.i y.k) y.d = e at *
  unfold inG at ho
  rcases four hb with rfl | rfl | rfl | rfl
  · simp only [stepI, stepK] at ho ⊢
    simp at ho
    have hz : y.i = 0 := by omega
    simp only [leav]
    simp
    refine ⟨by omega, by omega, ?_⟩
    unfold entr
    rw [if_pos (by omega)]
    exact Wy.eq (by simp; omega) (by simp; omega) rfl
  · simp only [stepI, stepK] at ho ⊢
    simp at ho
    have hz : y.k = (m : Int) - 1 := by omega
    simp only [leav]
    simp
    refine ⟨by omega, by omega, ?_⟩
    unfold entr
    rw [if_neg (by omega), if_pos (by omega)]
    exact Wy.eq (by simp; omega) (by simp; omega) rfl
  · simp only [stepI, stepK] at ho ⊢
    simp at ho
    have hz : y.i = (n : Int) - 1 := by omega
    simp only [leav]
    simp
    refine ⟨by omega, by omega, ?_⟩
    unfold entr
    rw [if_neg (by omega), if_neg (by omega), if_pos (by omega)]
    exact Wy.eq (by simp; omega) (by simp; omega) rfl
  · simp only [stepI, stepK] at ho ⊢
    simp at ho
    have hz : y.k = 0 := by omega
    simp only [leav]
    simp
    refine ⟨by omega, by omega, ?_⟩
    unfold entr
    rw [if_neg (by omega), if_neg (by omega), if_neg (by omega)]
    exact Wy.eq (by simp; omega) (by simp; omega) rfl

/-- Among N + 1 numbers below N two are the same. -/
theorem pigeon : ∀ (N : Nat) (f : Nat → Nat), (∀ j, j ≤ N → f j < N) → ∃ a b, a < b ∧ b ≤ N ∧ f a = f b
  | 0, f, h => absurd (h 0 (Nat.le_refl _)) (by omega)
  | N + 1, f, h => by
    by_cases hex : ∃ j, j ≤ N ∧ f j = f (N + 1)
    · obtain ⟨j, hj, e⟩ := hex
      exact ⟨j, N + 1, by omega, Nat.le_refl _, e⟩
    · have hno : ∀ j, j ≤ N → f j ≠ f (N + 1) := fun j hj e => hex ⟨j, hj, e⟩
      have hv := h (N + 1) (Nat.le_refl _)
      obtain ⟨a, b, hab, hbN, e⟩ := pigeon N (fun j => if f j = N then f (N + 1) else f j) (fun j hj => by
        have hj1 := h j (by omega)
        have hj2 := hno j hj
        show (if f j = N then f (N + 1) else f j) < N
        split <;> omega)
      have ha := hno a (by omega)
      have hb := hno b hbN
      refine ⟨a, b, hab, by omega, ?_⟩
      have e' : (if f a = N then f (N + 1) else f a) = (if f b = N then f (N + 1) else f b) := e
      by_cases h1 : f a = N
      · by_cases h2 : f b = N
        · rw [h1, h2]
        · rw [if_pos h1, if_neg h2] at e'
          exact absurd e'.symm hb
      · by_cases h2 : f b = N
        · rw [if_neg h1, if_pos h2] at e'
          exact absurd e' ha
        · rw [if_neg h1, if_neg h2] at e'
          exact e'

theorem parts_inj {a a' m b b' : Nat} (h : a * m + b = a' * m + b') (hb : b < m) (hb' : b' < m) : a = a' ∧ b = b' := by
  have e1 : (a * m + b) / m = a := by rw [Nat.mul_comm, Nat.mul_add_div (by omega), Nat.div_eq_of_lt hb, Nat.add_zero]
  have e2 : (a' * m + b') / m = a' := by rw [Nat.mul_comm, Nat.mul_add_div (by omega), Nat.div_eq_of_lt hb', Nat.add_zero]
  have e : a = a' := by rw [← e1, h, e2]
  subst e
  exact ⟨rfl, by omega⟩
theorem parts_lt {a n m b : Nat} (ha : a < n) (hb : b < m) : a * m + b < n * m := by
  have : (a + 1) * m ≤ n * m := Nat.mul_le_mul ha (Nat.le_refl _)
  rw [Nat.add_mul, Nat.one_mul] at this
  omega
/-- A number for each way. -/
def wcode (m : Nat) (x : Wy) : Nat := (x.i.toNat * m + x.k.toNat) * 4 + x.d
theorem wcode_lt {n m : Nat} {x : Wy} (h : inG n m x) (hd : x.d < 4) : wcode m x < 4 * (n * m) := by
  obtain ⟨h1, h2, h3, h4⟩ := h
  have := parts_lt (a := x.i.toNat) (n := n) (m := m) (b := x.k.toNat) (by omega) (by omega)
  unfold wcode
  omega
theorem wcode_inj {n m : Nat} {x y : Wy} (h : inG n m x) (hd : x.d < 4) (h' : inG n m y) (hd' : y.d < 4) (e : wcode m x = wcode m y) : x = y := by
  obtain ⟨h1, h2, h3, h4⟩ := h
  obtain ⟨g1, g2, g3, g4⟩ := h'
  unfold wcode at e
  have e1 : x.i.toNat * m + x.k.toNat = y.i.toNat * m + y.k.toNat := by omega
  obtain ⟨e2, e3⟩ := parts_inj e1 (by omega) (by omega)
  exact Wy.eq (by omega) (by omega) (by omega)

section
variable (n m : Nat) (t : Int → Int → UInt8)
/-- How many cells a way goes through, at most f of them. -/
def runL : Nat → Wy → Nat
  | 0, _ => 0
  | f + 1, x => if inG n m x then runL f (nxt t x) + 1 else 0
/-- The length of the beam of a port. -/
def blen (p : Nat) : Nat := runL n m t (4 * (n * m) + 1) (entr n m p)
/-- The ways of the beam of a port. -/
def bway (p j : Nat) : Wy := iter t (entr n m p) j
/-- Its partner. -/
def bend_ (p : Nat) : Nat := (leav n m (bway n m t p (blen n m t p))).toNat
end

section
variable {n m : Nat} {t : Int → Int → UInt8}
theorem runL_in : ∀ (f : Nat) (x : Wy) (j : Nat), j < runL n m t f x → inG n m (iter t x j)
  | 0, x, j, h => by simp [runL] at h
  | f + 1, x, j, h => by
    rw [runL] at h
    by_cases hx : inG n m x
    · rw [if_pos hx] at h
      cases j with
      | zero => exact hx
      | succ j => rw [iter_succ']; exact runL_in f _ j (by omega)
    · rw [if_neg hx] at h; omega
theorem runL_out : ∀ (f : Nat) (x : Wy), runL n m t f x < f → ¬ inG n m (iter t x (runL n m t f x))
  | 0, x, h => by omega
  | f + 1, x, h => by
    rw [runL] at h ⊢
    by_cases hx : inG n m x
    · rw [if_pos hx] at h ⊢
      rw [iter_succ']
      exact runL_out f _ (by omega)
    · rw [if_neg hx]; exact hx
theorem runL_le (f : Nat) (x : Wy) (N : Nat) (h : ¬ inG n m (iter t x N)) : runL n m t f x ≤ N :=
  Nat.le_of_not_lt fun hlt => h (runL_in f x N hlt)
/-- Nothing in the grid leads to the first cell. -/
theorem entr_ne {p : Nat} (hp : p < 2 * (n + m)) {y : Wy} (hy : inG n m y) (hd : y.d < 4) : nxt t y ≠ entr n m p := fun e => by
  have h1 := (entr_back (t := t) hp).1
  rw [← e, nxt_rev_nxt hd] at h1
  exact h1 hy
/-- A beam never meets a way again. -/
theorem iter_ne {p : Nat} (hp : p < 2 * (n + m)) : ∀ (a b : Nat), a < b → (∀ j, j < b → inG n m (bway n m t p j)) → bway n m t p a ≠ bway n m t p b
  | 0, b, hab, hin => by
    obtain ⟨b, rfl⟩ : ∃ c, b = c + 1 := ⟨b - 1, by omega⟩
    exact fun e => entr_ne hp (hin b (by omega)) (iter_d (entr_d n m p) b) e.symm
  | a + 1, b, hab, hin => by
    obtain ⟨b, rfl⟩ : ∃ c, b = c + 1 := ⟨b - 1, by omega⟩
    exact fun e => iter_ne hp a b (by omega) (fun j hj => hin j (by omega)) (nxt_inj (iter_d (entr_d n m p) a) (iter_d (entr_d n m p) b) e)
theorem blen_lt {p : Nat} (hp : p < 2 * (n + m)) : blen n m t p ≤ 4 * (n * m) := by
  by_cases h : ∀ j, j ≤ 4 * (n * m) → inG n m (bway n m t p j)
  · obtain ⟨a, b, hab, hb, e⟩ := pigeon (4 * (n * m)) (fun j => wcode m (bway n m t p j)) (fun j hj => wcode_lt (h j hj) (iter_d (entr_d n m p) j))
    exact absurd (wcode_inj (h a (by omega)) (iter_d (entr_d n m p) a) (h b hb) (iter_d (entr_d n m p) b) e) (iter_ne hp a b hab (fun j hj => h j (by omega)))
  · obtain ⟨j, hj⟩ := Classical.not_forall.1 h
    obtain ⟨h1, h2⟩ := Classical.not_imp.1 hj
    exact Nat.le_trans (runL_le _ _ j h2) h1
theorem blen_in {p j : Nat} (h : j < blen n m t p) : inG n m (bway n m t p j) := runL_in _ _ _ h
theorem blen_out {p : Nat} (hp : p < 2 * (n + m)) : ¬ inG n m (bway n m t p (blen n m t p)) := by
  have := blen_lt (t := t) hp
  exact runL_out _ _ (by unfold blen at this; omega)
theorem blen_pos {p : Nat} (hn : 1 ≤ n) (hm : 1 ≤ m) (hp : p < 2 * (n + m)) : 1 ≤ blen n m t p := by
  refine Nat.le_of_not_lt fun h => ?_
  have h0 : blen n m t p = 0 := by omega
  have := blen_out (t := t) hp
  rw [h0] at this
  exact this (entr_in hn hm hp)
theorem blen_of {p L : Nat} (hp : p < 2 * (n + m)) (hi : ∀ j, j < L → inG n m (bway n m t p j)) (ho : ¬ inG n m (bway n m t p L)) : blen n m t p = L := by
  have h1 := runL_le (n := n) (m := m) (t := t) (4 * (n * m) + 1) (entr n m p) L ho
  refine Nat.le_antisymm h1 (Nat.le_of_not_lt fun hlt => ?_)
  exact blen_out (t := t) hp (hi _ hlt)
theorem bway_d (p j : Nat) : (bway n m t p j).d < 4 := iter_d (entr_d n m p) j
theorem bway_ne {p a b : Nat} (hp : p < 2 * (n + m)) (hab : a < b) (hb : b ≤ blen n m t p) : bway n m t p a ≠ bway n m t p b :=
  iter_ne hp a b hab fun _ hj => blen_in (by omega)
theorem bend_facts {p : Nat} (hn : 1 ≤ n) (hm : 1 ≤ m) (hp : p < 2 * (n + m)) :
    ((bend_ n m t p : Nat) : Int) = leav n m (bway n m t p (blen n m t p)) ∧ bend_ n m t p < 2 * (n + m) ∧ entr n m (bend_ n m t p) = rev t (bway n m t p (blen n m t p - 1)) := by
  have hpos := blen_pos (t := t) hn hm hp
  obtain ⟨L, hL⟩ : ∃ L, blen n m t p = L + 1 := ⟨blen n m t p - 1, by omega⟩
  have hin := blen_in (n := n) (m := m) (t := t) (p := p) (j := L) (by omega)
  have hout := blen_out (t := t) hp
  unfold bend_
  rw [hL] at hout ⊢
  obtain ⟨h1, h2, h3⟩ := leav_entr (bway_d p L) hin hout
  rw [Nat.add_sub_cancel]
  exact ⟨Int.toNat_of_nonneg h1, by
    show (leav n m (nxt t (bway n m t p L))).toNat < _
    omega, h3⟩
/-- The way back. -/
theorem bway_back {p : Nat} (hn : 1 ≤ n) (hm : 1 ≤ m) (hp : p < 2 * (n + m)) : ∀ j, j < blen n m t p → bway n m t (bend_ n m t p) j = rev t (bway n m t p (blen n m t p - 1 - j))
  | 0, _ => (bend_facts hn hm hp).2.2
  | j + 1, hj => by
    have ih := bway_back hn hm hp j (by omega)
    show nxt t (bway n m t (bend_ n m t p) j) = _
    rw [ih, show blen n m t p - 1 - j = (blen n m t p - 1 - (j + 1)) + 1 by omega]
    exact nxt_rev_nxt (bway_d p _)
theorem back_facts {p : Nat} (hn : 1 ≤ n) (hm : 1 ≤ m) (hp : p < 2 * (n + m)) : blen n m t (bend_ n m t p) = blen n m t p ∧ bend_ n m t (bend_ n m t p) = p := by
  have hpos := blen_pos (t := t) hn hm hp
  have hq := (bend_facts (t := t) hn hm hp).2.1
  obtain ⟨L, hL⟩ : ∃ L, blen n m t p = L + 1 := ⟨blen n m t p - 1, by omega⟩
  have hlast : bway n m t (bend_ n m t p) (L + 1) = nxt t (rev t (entr n m p)) := by
    show nxt t (bway n m t (bend_ n m t p) L) = _
    rw [bway_back hn hm hp L (by omega), hL, show L + 1 - 1 - L = 0 by omega]
    rfl
  have hb := entr_back (t := t) hp
  have hlen : blen n m t (bend_ n m t p) = L + 1 := by
    refine blen_of hq (fun j hj => ?_) ?_
    · rw [bway_back hn hm hp j (by omega)]
      exact blen_in (n := n) (m := m) (t := t) (p := p) (j := blen n m t p - 1 - j) (by omega)
    · rw [hlast]; exact hb.1
  refine ⟨by rw [hlen, hL], ?_⟩
  show (leav n m (bway n m t (bend_ n m t p) (blen n m t (bend_ n m t p)))).toNat = p
  rw [hlen, hlast, hb.2]
  simp
/-- No beam goes a way and its way back. -/
theorem bway_ne_rev {p : Nat} (a b : Nat) (ha : a < blen n m t p) (hb : b < blen n m t p) : bway n m t p a ≠ rev t (bway n m t p b) := by
  have main : ∀ (s a b : Nat), b = a + s → b < blen n m t p → bway n m t p a ≠ rev t (bway n m t p b) := by
    intro s
    induction s using Nat.strongRecOn with
    | ind s ih =>
      intro a b hs hb e
      match s, hs with
      | 0, hs =>
        subst hs
        exact rev_ne (bway_d p _) e.symm
      | 1, hs =>
        subst hs
        have h2 : rev t (bway n m t p a) = nxt t (bway n m t p a) := by
          rw [e, rev_rev (bway_d p (a + 1))]
          conv => rhs; rw [← e]
          rfl
        exact rev_ne_nxt (bway_d p a) h2
      | s + 2, hs =>
        obtain ⟨b, rfl⟩ : ∃ c, b = c + 1 := ⟨b - 1, by omega⟩
        refine ih s (by omega) (a + 1) b (by omega) (by omega) ?_
        show nxt t (bway n m t p a) = _
        rw [e]
        exact nxt_rev_nxt (bway_d p b)
  intro e
  by_cases h : a ≤ b
  · exact main (b - a) a b (by omega) hb e
  · refine main (a - b) b a (by omega) ha ?_
    rw [e, rev_rev (bway_d p b)]
end

end Go.Proofs.Ytmdgbcepjnfbnaa
