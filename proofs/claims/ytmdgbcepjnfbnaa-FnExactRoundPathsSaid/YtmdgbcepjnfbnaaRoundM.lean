/- Plain words on rounds: ways that come back, their lengths, the least ways of rounds. No program is named. -/
import Derived.Test.YtmdgbcepjnfbnaaBeamN
namespace Go.Proofs.Ytmdgbcepjnfbnaa

section
variable (n m : Nat) (t : Int → Int → UInt8)
/-- The way is one of a round: it never leaves the grid. -/
def onR (x : Wy) : Bool := runL n m t (4 * (n * m) + 1) x == 4 * (n * m) + 1
/-- The length of its round. -/
def rlen (x : Wy) : Nat := ((List.range (4 * (n * m))).findIdx fun j => sameW (iter t x (j + 1)) x) + 1
/-- The way with a number. -/
def wayN (c : Nat) : Wy := ⟨((c / 4 / m : Nat) : Int), ((c / 4 % m : Nat) : Int), c % 4⟩
/-- The way has the least number of its round, there and back. -/
def leadB (c : Nat) : Bool := onR n m t (wayN m c) && (List.range (rlen n m t (wayN m c))).all fun j => decide (c ≤ wcode m (iter t (wayN m c) j) ∧ c ≤ wcode m (rev t (iter t (wayN m c) j)))
/-- The leading numbers. -/
def leads : List Nat := (List.range (4 * (n * m))).filter (leadB n m t)
/-- One of the ways of a round, there or back. -/
def ringW (x y : Wy) : Prop := ∃ j, y = iter t x j ∨ y = rev t (iter t x j)
end

section
variable {n m : Nat} {t : Int → Int → UInt8}
theorem wayN_d (c : Nat) : (wayN m c).d < 4 := Nat.mod_lt _ (by decide)
theorem wayN_in {c : Nat} (h : c < 4 * (n * m)) : inG n m (wayN m c) := by
  have hm : 0 < m := by
    rcases Nat.eq_zero_or_pos m with h0 | h0
    · subst h0; simp at h
    · exact h0
  have h1 : c / 4 < n * m := by omega
  have h2 : c / 4 / m < n := by rw [Nat.div_lt_iff_lt_mul hm]; exact h1
  have h3 : c / 4 % m < m := Nat.mod_lt _ hm
  exact ⟨Int.natCast_nonneg _, Int.ofNat_lt.2 h2, Int.natCast_nonneg _, Int.ofNat_lt.2 h3⟩
theorem wcode_way (c : Nat) : wcode m (wayN m c) = c := by
  unfold wcode wayN
  simp only [Int.toNat_natCast]
  have h1 : c / 4 / m * m + c / 4 % m = c / 4 := by rw [Nat.mul_comm]; exact Nat.div_add_mod (c / 4) m
  rw [h1]; omega
theorem wayN_code {x : Wy} (h : inG n m x) (hd : x.d < 4) : wayN m (wcode m x) = x :=
  wcode_inj (wayN_in (wcode_lt h hd)) (wayN_d _) h hd (wcode_way _)
theorem runL_max : ∀ (f : Nat) (x : Wy), runL n m t f x ≤ f
  | 0, _ => Nat.le_refl _
  | f + 1, x => by
    rw [runL]
    split
    · have := runL_max f (nxt t x); omega
    · omega
theorem runL_full {f : Nat} {x : Wy} (h : ∀ j, j < f → inG n m (iter t x j)) : runL n m t f x = f := by
  refine Nat.le_antisymm (runL_max f x) (Nat.le_of_not_lt fun hlt => ?_)
  exact runL_out f x hlt (h _ hlt)
theorem onR_iff {x : Wy} : onR n m t x = true ↔ ∀ j, j ≤ 4 * (n * m) → inG n m (iter t x j) := by
  unfold onR
  rw [beq_iff_eq]
  constructor
  · intro h j hj
    exact runL_in _ _ _ (by rw [h]; omega)
  · intro h
    exact runL_full fun j hj => h j (by omega)
theorem onR_false {x : Wy} (h : onR n m t x = false) : ∃ j, j ≤ 4 * (n * m) ∧ ¬ inG n m (iter t x j) := by
  refine Classical.byContradiction fun hno => ?_
  have : onR n m t x = true := onR_iff.2 fun j hj => Classical.byContradiction fun h2 => hno ⟨j, hj, h2⟩
  rw [h] at this; cases this
theorem iter_inj {x y : Wy} (hx : x.d < 4) (hy : y.d < 4) : ∀ j, iter t x j = iter t y j → x = y
  | 0, h => h
  | j + 1, h => iter_inj hx hy j (nxt_inj (iter_d hx j) (iter_d hy j) h)
theorem iter_mul {x : Wy} {P : Nat} (h : iter t x P = x) : ∀ a, iter t x (a * P) = x
  | 0 => by rw [Nat.zero_mul]; rfl
  | a + 1 => by rw [Nat.add_mul, Nat.one_mul, iter_add, iter_mul h a, h]
theorem iter_per {x : Wy} {P : Nat} (h : iter t x P = x) (a b : Nat) : iter t x (a * P + b) = iter t x b := by
  rw [iter_add, iter_mul h]
theorem iter_mod {x : Wy} {P : Nat} (h : iter t x P = x) (b : Nat) : iter t x b = iter t x (b % P) := by
  conv => lhs; rw [← Nat.div_add_mod b P, Nat.mul_comm]
  exact iter_per h _ _
theorem onR_comes {x : Wy} (hd : x.d < 4) (h : onR n m t x = true) : ∃ P, 1 ≤ P ∧ P ≤ 4 * (n * m) ∧ iter t x P = x := by
  have hi := onR_iff.1 h
  obtain ⟨a, b, hab, hb, e⟩ := pigeon (4 * (n * m)) (fun j => wcode m (iter t x j)) (fun j hj => wcode_lt (hi j hj) (iter_d hd j))
  have e2 := wcode_inj (hi a (by omega)) (iter_d hd a) (hi b hb) (iter_d hd b) e
  refine ⟨b - a, by omega, by omega, ?_⟩
  rw [show b = (b - a) + a by omega, iter_add] at e2
  exact (iter_inj hd (iter_d hd _) a e2).symm
/-- A round's length: it comes back then, and no sooner. -/
theorem rlen_facts {x : Wy} (hd : x.d < 4) (h : onR n m t x = true) : 1 ≤ rlen n m t x ∧ rlen n m t x ≤ 4 * (n * m) ∧ iter t x (rlen n m t x) = x ∧ ∀ j, 1 ≤ j → j < rlen n m t x → iter t x j ≠ x := by
  obtain ⟨P, hP1, hP, e⟩ := onR_comes hd h
  have hex : ∃ j ∈ List.range (4 * (n * m)), (sameW (iter t x (j + 1)) x) = true := ⟨P - 1, List.mem_range.2 (by omega), sameW_iff.2 (by rw [show P - 1 + 1 = P by omega]; exact e)⟩
  have hlt := List.findIdx_lt_length_of_exists hex
  obtain ⟨k1, k2⟩ := (List.findIdx_eq hlt).1 rfl
  rw [List.length_range] at hlt
  rw [List.getElem_range] at k1
  refine ⟨by unfold rlen; omega, by unfold rlen; omega, sameW_iff.1 k1, fun j hj1 hj => fun he => ?_⟩
  have h3 := k2 (j - 1) (by unfold rlen at hj; omega)
  rw [List.getElem_range, show j - 1 + 1 = j by omega, Bool.eq_false_iff] at h3
  exact h3 (sameW_iff.2 he)
theorem onR_all {x : Wy} (hd : x.d < 4) (h : onR n m t x = true) (j : Nat) : inG n m (iter t x j) := by
  obtain ⟨k1, k2, k3, _⟩ := rlen_facts hd h
  rw [iter_mod k3]
  exact onR_iff.1 h _ (by have := Nat.mod_lt j (show 0 < rlen n m t x by omega); omega)
theorem onR_of {x : Wy} (h : ∀ j, inG n m (iter t x j)) : onR n m t x = true := onR_iff.2 fun j _ => h j
theorem onR_iter {x : Wy} (hd : x.d < 4) (h : onR n m t x = true) (a : Nat) : onR n m t (iter t x a) = true := onR_of fun j => by
  rw [← iter_add]; exact onR_all hd h _
theorem ring_ne {x : Wy} (hd : x.d < 4) (h : onR n m t x = true) {a b : Nat} (hab : a < b) (hb : b < rlen n m t x) : iter t x a ≠ iter t x b := fun e => by
  rw [show b = (b - a) + a by omega, iter_add] at e
  exact (rlen_facts hd h).2.2.2 (b - a) (by omega) (by omega) (iter_inj hd (iter_d hd _) a e).symm
theorem rev_in {x : Wy} : inG n m (rev t x) ↔ inG n m x := Iff.rfl
theorem iter_rev {x : Wy} (hd : x.d < 4) (a : Nat) : ∀ j, iter t (rev t (iter t x (a + j))) j = rev t (iter t x a)
  | 0 => rfl
  | j + 1 => by
    rw [iter_succ', ← Nat.add_assoc]
    show iter t (nxt t (rev t (nxt t (iter t x (a + j))))) j = _
    rw [nxt_rev_nxt (iter_d hd _)]
    exact iter_rev hd a j
theorem onR_rev {x : Wy} (hd : x.d < 4) (h : onR n m t x = true) : onR n m t (rev t x) = true := onR_of fun j => by
  obtain ⟨k1, _, k3, _⟩ := rlen_facts hd h
  have hj : j ≤ j * rlen n m t x := Nat.le_mul_of_pos_right _ (by omega)
  have e := iter_rev (t := t) hd (j * rlen n m t x - j) j
  rw [show j * rlen n m t x - j + j = j * rlen n m t x by omega, iter_mul k3] at e
  rw [e]
  exact onR_all hd h _
theorem onR_back {x : Wy} (hd : x.d < 4) (h : onR n m t (rev t x) = true) : onR n m t x = true := by
  have := onR_rev (rev_d x) h
  rwa [rev_rev hd] at this
theorem onR_next {x : Wy} (hd : x.d < 4) : onR n m t (nxt t x) = true ∧ inG n m x ↔ onR n m t x = true := by
  constructor
  · rintro ⟨h, hi⟩
    obtain ⟨_, _, k3, _⟩ := rlen_facts (nxt_d hd) h
    have e : iter t x (rlen n m t (nxt t x)) = x := by
      refine nxt_inj (t := t) (iter_d hd _) hd ?_
      rw [show nxt t (iter t x (rlen n m t (nxt t x))) = iter t x (rlen n m t (nxt t x) + 1) from rfl, iter_succ', k3]
    refine onR_of fun j => ?_
    cases j with
    | zero => exact hi
    | succ j => rw [iter_succ']; exact onR_all (nxt_d hd) h j
  · intro h
    exact ⟨onR_iter hd h 1, onR_all hd h 0⟩
theorem ringW_on {x y : Wy} (hd : x.d < 4) (h : onR n m t x = true) (hr : ringW t x y) : onR n m t y = true ∧ y.d < 4 := by
  obtain ⟨j, rfl | rfl⟩ := hr
  · exact ⟨onR_iter hd h j, iter_d hd j⟩
  · exact ⟨onR_rev (iter_d hd j) (onR_iter hd h j), rev_d _⟩
theorem ringW_refl (x : Wy) : ringW t x x := ⟨0, .inl rfl⟩
theorem ringW_symm {x y : Wy} (hd : x.d < 4) (h : onR n m t x = true) (hr : ringW t x y) : ringW t y x := by
  obtain ⟨k1, _, k3, _⟩ := rlen_facts hd h
  obtain ⟨j, rfl | rfl⟩ := hr
  · refine ⟨j * rlen n m t x - j, .inl ?_⟩
    have hj : j ≤ j * rlen n m t x := Nat.le_mul_of_pos_right _ (by omega)
    rw [← iter_add, show j + (j * rlen n m t x - j) = j * rlen n m t x by omega, iter_mul k3]
  · refine ⟨j, .inr ?_⟩
    have e := iter_rev (t := t) hd 0 j
    rw [Nat.zero_add] at e
    rw [e]
    exact (rev_rev hd).symm
theorem ringW_trans {x y z : Wy} (hd : x.d < 4) (h : onR n m t x = true) (h1 : ringW t x y) (h2 : ringW t y z) : ringW t x z := by
  obtain ⟨k1, _, k3, _⟩ := rlen_facts hd h
  obtain ⟨a, rfl | rfl⟩ := h1
  · obtain ⟨b, rfl | rfl⟩ := h2
    · exact ⟨a + b, .inl (iter_add _ _ _).symm⟩
    · exact ⟨a + b, .inr (by rw [iter_add])⟩
  · obtain ⟨b, hb⟩ := h2
    -- rev (iter x a) gone on b: rev (iter x (a + bL - b))
    have hbL : b ≤ b * rlen n m t x := Nat.le_mul_of_pos_right _ (by omega)
    have e : iter t (rev t (iter t x a)) b = rev t (iter t x (a + b * rlen n m t x - b)) := by
      have e1 := iter_rev (t := t) hd (a + b * rlen n m t x - b) b
      rw [show a + b * rlen n m t x - b + b = b * rlen n m t x + a by omega, iter_per k3] at e1
      exact e1
    rw [e, rev_rev (iter_d hd _)] at hb
    rcases hb with rfl | rfl
    · exact ⟨_, .inr rfl⟩
    · exact ⟨_, .inl rfl⟩
theorem ringW_low {x y : Wy} (hd : x.d < 4) (h : onR n m t x = true) (hr : ringW t x y) : ∃ j, j < rlen n m t x ∧ (y = iter t x j ∨ y = rev t (iter t x j)) := by
  obtain ⟨k1, _, k3, _⟩ := rlen_facts hd h
  obtain ⟨j, hj⟩ := hr
  rw [iter_mod k3] at hj
  exact ⟨_, Nat.mod_lt _ (by omega), hj⟩
/-- A way leads just if none of its round, there or back, has a lesser number. -/
theorem lead_iff {c : Nat} : leadB n m t c = true ↔ onR n m t (wayN m c) = true ∧ ∀ y, ringW t (wayN m c) y → c ≤ wcode m y := by
  unfold leadB
  rw [Bool.and_eq_true, List.all_eq_true]
  constructor
  · rintro ⟨h, ha⟩
    refine ⟨h, fun y hy => ?_⟩
    obtain ⟨j, hj, e⟩ := ringW_low (wayN_d c) h hy
    have := of_decide_eq_true (ha j (List.mem_range.2 hj))
    rcases e with rfl | rfl
    · exact this.1
    · exact this.2
  · rintro ⟨h, ha⟩
    refine ⟨h, fun j _ => decide_eq_true ⟨ha _ ⟨j, .inl rfl⟩, ha _ ⟨j, .inr rfl⟩⟩⟩
theorem leads_lt {c : Nat} (h : c ∈ leads n m t) : c < 4 * (n * m) ∧ leadB n m t c = true := by
  unfold leads at h
  rw [List.mem_filter] at h
  exact ⟨List.mem_range.1 h.1, h.2⟩

/-- The ways of beams are those that are of no round. -/
theorem beam_not {p j : Nat} (hp : p < 2 * (n + m)) (hj : j < blen n m t p) : onR n m t (bway n m t p j) = false := by
  rw [Bool.eq_false_iff]
  intro h
  have h2 := onR_all (bway_d p j) h (blen n m t p - j)
  rw [show iter t (bway n m t p j) (blen n m t p - j) = bway n m t p (blen n m t p) by unfold bway; rw [← iter_add, show j + (blen n m t p - j) = blen n m t p by omega]] at h2
  exact blen_out hp h2
theorem not_beam {y : Wy} (hn : 1 ≤ n) (hm : 1 ≤ m) (hi : inG n m y) (hd : y.d < 4) (h : onR n m t y = false) : ∃ p j, p < 2 * (n + m) ∧ j < blen n m t p ∧ bway n m t p j = y := by
  have hR1 : runL n m t (4 * (n * m) + 1) y < 4 * (n * m) + 1 := by
    have := runL_max (n := n) (m := m) (t := t) (4 * (n * m) + 1) y
    have h2 : ¬ runL n m t (4 * (n * m) + 1) y = 4 * (n * m) + 1 := fun e => by
      unfold onR at h
      rw [e] at h
      simp at h
    omega
  have hin := runL_in (n := n) (m := m) (t := t) (4 * (n * m) + 1) y
  have hout := runL_out (n := n) (m := m) (t := t) (4 * (n * m) + 1) y hR1
  generalize runL n m t (4 * (n * m) + 1) y = R at hin hout
  have hR0 : 1 ≤ R := by
    rcases Nat.eq_zero_or_pos R with h0 | h0
    · subst h0; exact absurd hi hout
    · exact h0
  obtain ⟨J, rfl⟩ : ∃ J, R = J + 1 := ⟨R - 1, by omega⟩
  obtain ⟨l1, l2, l3⟩ := leav_entr (iter_d hd J) (hin J (by omega)) hout
  obtain ⟨q, hq⟩ : ∃ q, (leav n m (nxt t (iter t y J))).toNat = q := ⟨_, rfl⟩
  rw [hq] at l3
  have hq2 : q < 2 * (n + m) := by omega
  have hb : ∀ i, i ≤ J → bway n m t q i = rev t (iter t y (J - i)) := fun i hi2 => by
    have e := iter_rev (t := t) hd (J - i) i
    rw [show J - i + i = J by omega] at e
    unfold bway
    rw [l3, e]
  have hlen : J + 1 ≤ blen n m t q := Nat.le_of_not_lt fun hlt => by
    have := blen_out (t := t) hq2
    rw [hb _ (by omega)] at this
    exact this (hin _ (by omega))
  have hbk := bway_back (t := t) hn hm hq2 (blen n m t q - 1 - J) (by omega)
  rw [show blen n m t q - 1 - (blen n m t q - 1 - J) = J by omega, hb J (Nat.le_refl _), Nat.sub_self, rev_rev (iter_d hd 0)] at hbk
  refine ⟨bend_ n m t q, blen n m t q - 1 - J, (bend_facts hn hm hq2).2.1, ?_, hbk⟩
  rw [(back_facts hn hm hq2).1]
  omega
end
end Go.Proofs.Ytmdgbcepjnfbnaa
