/- Two grids beside each other: their beams and rounds are those of both, sewn. In plain words. No program is named. -/
import Derived.Test.YtonhnmpgikmlpaaBunV
import Derived.Test.YtonhnmpgikmlpaaSymQ
import Derived.Test.YtonhnmpgikmlpaaSymB
namespace Go.Proofs.Ytonhnmpgikmlpaa

/-- A way of the right one of two grids, in both. -/
def shW (m : Nat) (x : Wy) : Wy := ⟨x.i, x.k + m, x.d⟩
/-- The way out where a way comes in. -/
def outX (x : Wy) : Wy := ⟨stepI x.i (opp x.d), stepK x.k (opp x.d), opp x.d⟩
theorem shW_inj {m : Nat} {x y : Wy} (h : shW m x = shW m y) : x = y :=
  Wy.eq (show (shW m x).i = (shW m y).i by rw [h]) (by have := congrArg Wy.k h; simp only [shW] at this; omega) (show (shW m x).d = (shW m y).d by rw [h])
theorem outX_sh (m : Nat) (x : Wy) : outX (shW m x) = shW m (outX x) := by
  unfold outX shW
  refine Wy.eq rfl ?_ rfl
  simp only
  unfold stepK
  split
  · omega
  · split <;> omega
theorem outX_rev {t : Int → Int → UInt8} {x : Wy} (hd : x.d < 4) : nxt t (rev t x) = outX x := nxt_rev hd
/-- The grids: the left one, the right one, both. -/
structure Beside2 (n m k : Nat) (tg th to : Int → Int → UInt8) : Prop where
  l : ∀ i c : Int, 0 ≤ i → i < n → 0 ≤ c → c < m → to i c = tg i c
  r : ∀ i c : Int, 0 ≤ i → i < n → 0 ≤ c → c < k → to i (c + m) = th i c
section
variable {n m k : Nat} {tg th to : Int → Int → UInt8}
theorem Beside2.nl (B : Beside2 n m k tg th to) {x : Wy} (h : inG n m x) : nxt to x = nxt tg x ∧ rev to x = rev tg x := by
  have e := B.l x.i x.k h.1 h.2.1 h.2.2.1 h.2.2.2
  unfold nxt rev
  rw [e]
  exact ⟨rfl, rfl⟩
theorem Beside2.nr (B : Beside2 n m k tg th to) {x : Wy} (h : inG n k x) : nxt to (shW m x) = shW m (nxt th x) ∧ rev to (shW m x) = shW m (rev th x) := by
  have e : to (shW m x).i (shW m x).k = th x.i x.k := B.r x.i x.k h.1 h.2.1 h.2.2.1 h.2.2.2
  unfold nxt rev
  rw [e]
  refine ⟨Wy.eq rfl ?_ rfl, rfl⟩
  show stepK (x.k + m) (bend (th x.i x.k) x.d) = stepK x.k (bend (th x.i x.k) x.d) + m
  unfold stepK
  split
  · omega
  · split <;> omega
theorem Beside2.il {x : Wy} (h : inG n m x) : inG n (m + k) x := ⟨h.1, h.2.1, h.2.2.1, by have := h.2.2.2; omega⟩
theorem Beside2.ir {x : Wy} (h : inG n k x) : inG n (m + k) (shW m x) := ⟨h.1, h.2.1, by have := h.2.2.1; show 0 ≤ x.k + (m : Int); omega, by have := h.2.2.2; show x.k + (m : Int) < ((m + k : Nat) : Int); omega⟩
theorem Beside2.cases {y : Wy} (h : inG n (m + k) y) : inG n m y ∨ ∃ x, y = shW m x ∧ inG n k x := by
  obtain ⟨h1, h2, h3, h4⟩ := h
  by_cases hc : y.k < m
  · exact .inl ⟨h1, h2, h3, hc⟩
  · exact .inr ⟨⟨y.i, y.k - m, y.d⟩, Wy.eq rfl (by show y.k = y.k - (m : Int) + m; omega) rfl, h1, h2, by show 0 ≤ y.k - (m : Int); omega, by show y.k - (m : Int) < (k : Int); omega⟩
theorem Beside2.iterl (B : Beside2 n m k tg th to) {x : Wy} : ∀ j, (∀ i, i < j → inG n m (iter tg x i)) → iter to x j = iter tg x j
  | 0, _ => rfl
  | j + 1, h => by
    show nxt to (iter to x j) = nxt tg (iter tg x j)
    rw [B.iterl j fun i hi => h i (by omega)]
    exact (B.nl (h j (by omega))).1
theorem Beside2.iterr (B : Beside2 n m k tg th to) {x : Wy} : ∀ j, (∀ i, i < j → inG n k (iter th x i)) → iter to (shW m x) j = shW m (iter th x j)
  | 0, _ => rfl
  | j + 1, h => by
    show nxt to (iter to (shW m x) j) = shW m (nxt th (iter th x j))
    rw [B.iterr j fun i hi => h i (by omega)]
    exact (B.nr (h j (by omega))).1
/-- The way in at a port of one of both, and how far it goes there. -/
def entE (n m k p : Nat) : Wy := if p < 2 * (n + m) then entr n m p else shW m (entr n k (p - 2 * (n + m)))
def segL (n m k : Nat) (tg th : Int → Int → UInt8) (p : Nat) : Nat := if p < 2 * (n + m) then blen n m tg p else blen n k th (p - 2 * (n + m))
def endS (n m k : Nat) (tg th : Int → Int → UInt8) (p : Nat) : Nat := twoS (2 * (n + m)) (bend_ n m tg) (bend_ n k th) p
theorem entE_d (p : Nat) : (entE n m k p).d < 4 := by
  unfold entE
  split
  · exact entr_d n m p
  · exact entr_d n k _
theorem exit_out {t : Int → Int → UInt8} {p : Nat} (hn : 1 ≤ n) (hm : 1 ≤ m) (hp : p < 2 * (n + m)) : bway n m t p (blen n m t p) = outX (entr n m (bend_ n m t p)) := by
  have hpos := blen_pos (t := t) hn hm hp
  obtain ⟨L, hL⟩ : ∃ L, blen n m t p = L + 1 := ⟨blen n m t p - 1, by omega⟩
  have h := (bend_facts (t := t) hn hm hp).2.2
  rw [hL] at h ⊢
  rw [← outX_rev (t := t) (entr_d n m _), h, Nat.add_sub_cancel, rev_rev (bway_d p L)]
  rfl
/-- One stretch: through one of the grids. -/
theorem Beside2.seg (B : Beside2 n m k tg th to) (hn : 1 ≤ n) (hm : 1 ≤ m) (hk : 1 ≤ k) {p : Nat} (hp : p < 2 * (n + m) + 2 * (n + k)) :
    1 ≤ segL n m k tg th p ∧ (∀ j, j < segL n m k tg th p → inG n (m + k) (iter to (entE n m k p) j)) ∧ iter to (entE n m k p) (segL n m k tg th p) = outX (entE n m k (endS n m k tg th p)) := by
  unfold segL entE endS twoS
  by_cases h : p < 2 * (n + m)
  · have hb := (bend_facts (t := tg) hn hm h).2.1
    simp only [if_pos h, if_pos hb]
    have hin : ∀ i, i < blen n m tg p → inG n m (iter tg (entr n m p) i) := fun i hi => blen_in (t := tg) hi
    refine ⟨blen_pos hn hm h, fun j hj => ?_, ?_⟩
    · rw [B.iterl j fun i hi => hin i (by omega)]
      exact Beside2.il (hin j hj)
    · rw [B.iterl _ hin]
      exact exit_out hn hm h
  · have hq : p - 2 * (n + m) < 2 * (n + k) := by omega
    have hb := (bend_facts (t := th) hn hk hq).2.1
    simp only [if_neg h]
    rw [if_neg (show ¬ 2 * (n + m) + bend_ n k th (p - 2 * (n + m)) < 2 * (n + m) by omega), Nat.add_sub_cancel_left, outX_sh]
    have hin : ∀ i, i < blen n k th (p - 2 * (n + m)) → inG n k (iter th (entr n k (p - 2 * (n + m))) i) := fun i hi => blen_in (t := th) hi
    refine ⟨blen_pos hn hk hq, fun j hj => ?_, ?_⟩
    · rw [B.iterr j fun i hi => hin i (by omega)]
      exact Beside2.ir (hin j hj)
    · rw [B.iterr _ hin]
      exact congrArg (shW m) (exit_out hn hk hq)
/-- Across the seam. -/
theorem seam_in {q : Nat} (hm : 1 ≤ m) (hk : 1 ≤ k) (hq : q < 2 * (n + m) + 2 * (n + k)) (ht : sewT n m (2 * (n + m) + 2 * (n + k)) q ≠ q) : outX (entE n m k q) = entE n m k (sewT n m (2 * (n + m) + 2 * (n + k)) q) := by
  unfold sewT at ht ⊢
  by_cases h1 : m ≤ q ∧ q < m + n
  · rw [if_pos h1] at ht ⊢
    unfold entE
    rw [if_pos (by omega), if_neg (by omega)]
    unfold entr
    rw [if_neg (by omega), if_pos (by omega), if_neg (by omega), if_neg (by omega), if_neg (by omega)]
    unfold outX shW
    refine Wy.eq ?_ ?_ ?_ <;> simp [stepI, stepK, opp] <;> omega
  · rw [if_neg h1] at ht ⊢
    by_cases h2 : 2 * (n + m) + 2 * (n + k) - n ≤ q ∧ q < 2 * (n + m) + 2 * (n + k)
    · rw [if_pos h2] at ht ⊢
      unfold entE
      rw [if_neg (by omega), if_pos (by omega)]
      unfold entr
      rw [if_neg (by omega), if_neg (by omega), if_neg (by omega), if_neg (by omega), if_pos (by omega)]
      unfold outX shW
      refine Wy.eq ?_ ?_ ?_ <;> simp [stepI, stepK, opp] <;> omega
    · rw [if_neg h2] at ht
      exact absurd rfl ht
theorem loose_in {q : Nat} (hm : 1 ≤ m) (hk : 1 ≤ k) (h : q < m ∨ (m + n ≤ q ∧ q < 2 * (n + m) + (2 * (n + k) - n))) :
    nameN n m (2 * (n + m)) (2 * (n + k) - n) q < 2 * (n + (m + k)) ∧ entr n (m + k) (nameN n m (2 * (n + m)) (2 * (n + k) - n) q) = entE n m k q := by
  have hlt := name_lt (n := n) (m := m) (p := 2 * (n + m)) (r := 2 * (n + k) - n) (by omega) h
  refine ⟨by omega, ?_⟩
  unfold nameN entE
  by_cases h1 : q < m
  · rw [if_pos h1, if_pos (by omega)]
    unfold entr
    rw [if_pos (by omega), if_pos h1]
  · rw [if_neg h1]
    by_cases h2 : q < 2 * (n + m)
    · rw [if_neg (by omega), if_pos h2]
      unfold entr
      by_cases h3 : q < 2 * m + n
      · rw [if_neg (by omega), if_neg (by omega), if_pos (by omega), if_neg (by omega), if_neg (by omega), if_pos h3]
        refine Wy.eq rfl ?_ rfl
        simp only
        omega
      · rw [if_neg (by omega), if_neg (by omega), if_neg (by omega), if_neg (by omega), if_neg (by omega), if_neg h3]
        refine Wy.eq ?_ rfl rfl
        simp only
        omega
    · rw [if_pos (by omega), if_neg h2]
      unfold entr shW
      by_cases h3 : q - 2 * (n + m) < k
      · rw [if_pos (by omega), if_pos h3]
        refine Wy.eq rfl ?_ rfl
        simp only
        omega
      · by_cases h4 : q - 2 * (n + m) < k + n
        · rw [if_neg (by omega), if_pos (by omega), if_neg h3, if_pos h4]
          refine Wy.eq ?_ ?_ rfl <;> simp only <;> omega
        · rw [if_neg (by omega), if_neg (by omega), if_pos (by omega), if_neg h3, if_neg h4, if_pos (by omega)]
          refine Wy.eq rfl ?_ rfl
          simp only
          omega
/-- How far it is to the j-th port where light comes in. -/
def timeT (n m k : Nat) (tg th : Int → Int → UInt8) (t : Nat → Nat) (p : Nat) : Nat → Nat
  | 0 => 0
  | j + 1 => timeT n m k tg th t p j + segL n m k tg th (goN (endS n m k tg th) t j p)
abbrev seamT (n m k : Nat) : Nat → Nat := sewT n m (2 * (n + m) + 2 * (n + k))
theorem endS_sewn (hn : 1 ≤ n) (hm : 1 ≤ m) (hk : 1 ≤ k) : Sewn (2 * (n + m) + 2 * (n + k)) (endS n m k tg th) (seamT n m k) := by
  have hne : ∀ {n m : Nat} {t : Int → Int → UInt8}, 1 ≤ n → 1 ≤ m → ∀ p, p < 2 * (n + m) → bend_ n m t p ≠ p := fun {n m t} hn hm p hp e => by
    have hpos := blen_pos (t := t) hn hm hp
    have hb := bway_back (t := t) hn hm hp 0 (by omega)
    rw [e] at hb
    exact bway_ne_rev 0 (blen n m t p - 1 - 0) (by omega) (by omega) hb
  exact twoS_sewn (fun i hi => ⟨(bend_facts hn hm hi).2.1, hne hn hm i hi, (back_facts hn hm hi).2⟩) (fun i hi => ⟨(bend_facts hn hk hi).2.1, hne hn hk i hi, (back_facts hn hk hi).2⟩) (by omega)
/-- From port to port. -/
theorem Beside2.go (B : Beside2 n m k tg th to) (hn : 1 ≤ n) (hm : 1 ≤ m) (hk : 1 ≤ k) {p : Nat} (hp : p < 2 * (n + m) + 2 * (n + k)) : ∀ j, (∀ i, i < j → seamT n m k (endS n m k tg th (goN (endS n m k tg th) (seamT n m k) i p)) ≠ endS n m k tg th (goN (endS n m k tg th) (seamT n m k) i p)) →
    iter to (entE n m k p) (timeT n m k tg th (seamT n m k) p j) = entE n m k (goN (endS n m k tg th) (seamT n m k) j p) ∧ ∀ a, a < timeT n m k tg th (seamT n m k) p j → inG n (m + k) (iter to (entE n m k p) a)
  | 0, _ => ⟨rfl, fun a ha => absurd ha (Nat.not_lt_zero a)⟩
  | j + 1, h => by
    obtain ⟨e, hin⟩ := B.go hn hm hk hp j fun i hi => h i (by omega)
    have hs := endS_sewn (tg := tg) (th := th) hn hm hk
    have hg := goN_lt hs hp j
    obtain ⟨_, s1, s2⟩ := B.seg hn hm hk hg
    constructor
    · show iter to (entE n m k p) (timeT n m k tg th (seamT n m k) p j + segL n m k tg th (goN (endS n m k tg th) (seamT n m k) j p)) = _
      rw [iter_add, e, s2, seam_in hm hk (hs.slt _ hg) (h j (by omega))]
      rfl
    · intro a ha
      rcases Nat.lt_or_ge a (timeT n m k tg th (seamT n m k) p j) with h1 | h1
      · exact hin a h1
      · obtain ⟨b, rfl⟩ := Nat.exists_eq_add_of_le h1
        rw [iter_add, e]
        have : timeT n m k tg th (seamT n m k) p j + b < timeT n m k tg th (seamT n m k) p j + segL n m k tg th (goN (endS n m k tg th) (seamT n m k) j p) := ha
        exact s1 b (by omega)
/-- Beams of both. -/
theorem Beside2.beam (B : Beside2 n m k tg th to) (hn : 1 ≤ n) (hm : 1 ≤ m) (hk : 1 ≤ k) {p : Nat} (hp : p < m ∨ (m + n ≤ p ∧ p < 2 * (n + m) + (2 * (n + k) - n))) :
    bend_ n (m + k) to (nameN n m (2 * (n + m)) (2 * (n + k) - n) p) = nameN n m (2 * (n + m)) (2 * (n + k) - n) (pend (2 * (n + m) + 2 * (n + k)) (endS n m k tg th) (seamT n m k) p) := by
  have hs := endS_sewn (tg := tg) (th := th) hn hm hk
  have hpN : p < 2 * (n + m) + 2 * (n + k) := by omega
  have hl : seamT n m k p = p := (sewT_loose (by omega) hpN).2 (by omega)
  have pf := plen_facts hs hpN
  have hend := loose_end hs hpN hl
  have hel := (sewT_loose (by omega) (pend_lt hs hpN)).1 hend
  obtain ⟨g1, g2⟩ := B.go hn hm hk hpN (plen (2 * (n + m) + 2 * (n + k)) (endS n m k tg th) (seamT n m k) p - 1) fun i hi => (pf.2.2.2 i (by omega)).1
  have hg := goN_lt hs hpN (plen (2 * (n + m) + 2 * (n + k)) (endS n m k tg th) (seamT n m k) p - 1)
  obtain ⟨_, s1, s2⟩ := B.seg hn hm hk hg
  obtain ⟨l1, l2⟩ := loose_in (n := n) hm hk hp
  obtain ⟨e1, e2⟩ := loose_in (n := n) hm hk (q := pend (2 * (n + m) + 2 * (n + k)) (endS n m k tg th) (seamT n m k) p) (by omega)
  have hpe : endS n m k tg th (goN (endS n m k tg th) (seamT n m k) (plen (2 * (n + m) + 2 * (n + k)) (endS n m k tg th) (seamT n m k) p - 1) p) = pend (2 * (n + m) + 2 * (n + k)) (endS n m k tg th) (seamT n m k) p := rfl
  rw [hpe] at s2
  generalize plen (2 * (n + m) + 2 * (n + k)) (endS n m k tg th) (seamT n m k) p - 1 = J at *
  generalize pend (2 * (n + m) + 2 * (n + k)) (endS n m k tg th) (seamT n m k) p = q at *
  generalize timeT n m k tg th (seamT n m k) p J = T at *
  generalize goN (endS n m k tg th) (seamT n m k) J p = z at *
  have hout : iter to (entE n m k p) (T + segL n m k tg th z) = outX (entE n m k q) := by rw [iter_add, g1, s2]
  have hin : ∀ a, a < T + segL n m k tg th z → inG n (m + k) (iter to (entE n m k p) a) := fun a ha => by
    rcases Nat.lt_or_ge a T with h1 | h1
    · exact g2 a h1
    · obtain ⟨b, rfl⟩ := Nat.exists_eq_add_of_le h1
      rw [iter_add, g1]
      exact s1 b (by omega)
  rw [← l2] at hout hin
  rw [← e2, ← outX_rev (t := to) (entr_d n (m + k) _)] at hout
  have hb := entr_back (t := to) (n := n) (m := m + k) e1
  have hL : blen n (m + k) to (nameN n m (2 * (n + m)) (2 * (n + k) - n) p) = T + segL n m k tg th z := blen_of l1 hin (by
    show ¬ inG n (m + k) (iter to _ _)
    rw [hout]
    exact hb.1)
  have hf := (bend_facts (t := to) hn (show 1 ≤ m + k by omega) l1).1
  rw [hL] at hf
  have hf2 : bway n (m + k) to (nameN n m (2 * (n + m)) (2 * (n + k) - n) p) (T + segL n m k tg th z) = iter to (entr n (m + k) (nameN n m (2 * (n + m)) (2 * (n + k) - n) p)) (T + segL n m k tg th z) := rfl
  rw [hf2, hout, hb.2] at hf
  omega
end
end Go.Proofs.Ytonhnmpgikmlpaa
