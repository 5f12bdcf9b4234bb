/- Settled texts in one file. Each begins with what it holds. -/
import Derived.Test.YtonhnmpgikmlpaaTotalS
import Derived.Test.YtonhnmpgikmlpaaBunI
import Derived.Test.YtonhnmpgikmlpaaBunP
/- Two beams cross: counted by pairs of beams, and by cells. No program is named but the words on crossings. -/
namespace Go.Proofs.Ytonhnmpgikmlpaa

section
variable {n m : Nat} {t : Int → Int → UInt8}
/-- The beam of p goes this way through a cell. -/
def goD (n m : Nat) (t : Int → Int → UInt8) (p c d : Nat) : Bool := goesTo (bway n m t p) (blen n m t p) ⟨((c / m : Nat) : Int), ((c % m : Nat) : Int), d⟩
theorem goesC_iff {p c : Nat} (hp : p < 2 * (n + m)) (hm : 1 ≤ m) : goesC n m t p c = true ↔ ∃ d, d < 4 ∧ goD n m t p c d = true := by
  unfold goesC
  rw [decide_eq_true_iff, ← times_at hp hm, upT_four]
  show 0 < (goD n m t p c 0).toNat + (goD n m t p c 1).toNat + (goD n m t p c 2).toNat + (goD n m t p c 3).toNat ↔ _
  constructor
  · intro h
    cases h0 : goD n m t p c 0 with
    | true => exact ⟨0, by decide, h0⟩
    | false =>
      cases h1 : goD n m t p c 1 with
      | true => exact ⟨1, by decide, h1⟩
      | false =>
        cases h2 : goD n m t p c 2 with
        | true => exact ⟨2, by decide, h2⟩
        | false =>
          cases h3 : goD n m t p c 3 with
          | true => exact ⟨3, by decide, h3⟩
          | false => rw [h0, h1, h2, h3] at h; exact absurd h (by decide)
  · rintro ⟨d, hd, h⟩
    rcases four hd with rfl | rfl | rfl | rfl <;> rw [h] <;> simp <;> omega
theorem rev_empty {c d : Nat} (he : emptyC m t c = true) : rev t ⟨((c / m : Nat) : Int), ((c % m : Nat) : Int), d⟩ = ⟨((c / m : Nat) : Int), ((c % m : Nat) : Int), opp d⟩ := by
  have h46 : t ((c / m : Nat) : Int) ((c % m : Nat) : Int) = 46 := eq_of_beq he
  unfold rev
  simp only [h46]
  rw [bend_e (by decide) (by decide)]
theorem goD_iff {p c d : Nat} : goD n m t p c d = true ↔ ∃ j, j < blen n m t p ∧ bway n m t p j = ⟨((c / m : Nat) : Int), ((c % m : Nat) : Int), d⟩ := goesTo_iff
theorem goD_back {p c d : Nat} (hn : 1 ≤ n) (hm : 1 ≤ m) (hp : p < 2 * (n + m)) (he : emptyC m t c = true) (h : goD n m t p c d = true) : goD n m t (bend_ n m t p) c (opp d) = true := by
  obtain ⟨j, hj, e⟩ := goD_iff.1 h
  have hb := bway_back (t := t) hn hm hp (blen n m t p - 1 - j) (by omega)
  rw [show blen n m t p - 1 - (blen n m t p - 1 - j) = j by omega, e, rev_empty he] at hb
  exact goD_iff.2 ⟨_, by rw [(back_facts hn hm hp).1]; omega, hb⟩
theorem goD_same {p q c d : Nat} (hp : p < 2 * (n + m)) (hq : q < 2 * (n + m)) (h1 : goD n m t p c d = true) (h2 : goD n m t q c d = true) : p = q := by
  obtain ⟨a, ha, e1⟩ := goD_iff.1 h1
  obtain ⟨b, hb, e2⟩ := goD_iff.1 h2
  exact share hp hq a b ha hb (e1.trans e2.symm)
theorem goD_opp {p q c d : Nat} (hn : 1 ≤ n) (hm : 1 ≤ m) (hp : p < 2 * (n + m)) (hq : q < 2 * (n + m)) (he : emptyC m t c = true) (h1 : goD n m t p c (opp d) = true) (h2 : goD n m t q c d = true) : p = bend_ n m t q := by
  have h3 := goD_back hn hm hq he h2
  exact goD_same hp (bend_facts hn hm hq).2.1 h1 h3
/-- Of the two ends of a beam one is the lesser. -/
theorem low_rel {p q r : Nat} (hn : 1 ≤ n) (hm : 1 ≤ m) (hr : r < 2 * (n + m)) (hp : p < bend_ n m t p) (hq : q < bend_ n m t q) (h1 : p = r ∨ p = bend_ n m t r) (h2 : q = r ∨ q = bend_ n m t r) : p = q := by
  have e := (back_facts (t := t) hn hm hr).2
  rcases h1 with h1 | h1 <;> rcases h2 with h2 | h2
  · rw [h1, h2]
  · rw [h2, e] at hq
    rw [h1] at hp
    omega
  · rw [h1, e] at hp
    rw [h2] at hq
    omega
  · rw [h1, h2]
theorem bend_other {p : Nat} (hn : 1 ≤ n) (hm : 1 ≤ m) (hp : p < 2 * (n + m)) : bend_ n m t p ≠ p := fun e => by
  have hpos := blen_pos (t := t) hn hm hp
  have hb := bway_back (t := t) hn hm hp 0 (by omega)
  rw [e] at hb
  exact bway_ne_rev 0 (blen n m t p - 1 - 0) (by omega) (by omega) hb
theorem iter_bway (P a j : Nat) : iter t (bway n m t P a) j = bway n m t P (a + j) := by
  unfold bway
  rw [iter_add]
theorem goL_beam {P a : Nat} (hp : P < 2 * (n + m)) (ha : a < blen n m t P) : goL n m t (bway n m t P a) = blen n m t P - a := by
  have hon := beam_not hp ha
  have g := goL_facts (t := t) (bway_d P a) (blen_in ha)
  refine Nat.le_antisymm (Nat.le_of_not_lt fun h => ?_) (Nat.le_of_not_lt fun h => ?_)
  · have h1 := g.2.2.1 _ h
    rw [iter_bway, show a + (blen n m t P - a) = blen n m t P by omega] at h1
    exact blen_out hp h1
  · have h1 := g.2.2.2.2.2 hon
    rw [iter_bway] at h1
    exact h1 (blen_in (by omega))
theorem retB_beam {P a : Nat} {i k : Int} (hp : P < 2 * (n + m)) (ha : a < blen n m t P) : retB n m t i k (bway n m t P a) = true ↔ ∃ b, a < b ∧ b < blen n m t P ∧ atC i k (bway n m t P b) := by
  rw [retB_iff, goL_beam hp ha]
  constructor
  · rintro ⟨j, h1, h2, h3⟩
    rw [iter_bway] at h3
    exact ⟨a + j, by omega, by omega, h3⟩
  · rintro ⟨b, h1, h2, h3⟩
    exact ⟨b - a, by omega, by omega, by rw [iter_bway, show a + (b - a) = b by omega]; exact h3⟩
/-- The path of a cell's way upwards comes into the cell again just if its beam goes through it the other way as well. -/
theorem self_beams {P c : Nat} (hn : 1 ≤ n) (hm : 1 ≤ m) (hp : P < 2 * (n + m)) (he : emptyC m t c = true) (h0 : goD n m t P c 0 = true) : selfB n m t (placeN m c).i (placeN m c).k = true ↔ goD n m t P c 1 = true ∨ goD n m t P c 3 = true := by
  obtain ⟨a, ha, e0⟩ := goD_iff.1 h0
  have hl := (back_facts (t := t) hn hm hp).1
  have hq := (bend_facts (t := t) hn hm hp).2.1
  have hrv : rev t (bway n m t P a) = bway n m t (bend_ n m t P) (blen n m t P - 1 - a) := by
    have := bway_back (t := t) hn hm hp (blen n m t P - 1 - a) (by omega)
    rw [show blen n m t P - 1 - (blen n m t P - 1 - a) = a by omega] at this
    exact this.symm
  have hs : selfB n m t (placeN m c).i (placeN m c).k = (retB n m t (placeN m c).i (placeN m c).k (bway n m t P a) || retB n m t (placeN m c).i (placeN m c).k (bway n m t (bend_ n m t P) (blen n m t P - 1 - a))) := by
    rw [← hrv, e0]
    rfl
  have key : selfB n m t (placeN m c).i (placeN m c).k = true ↔ ∃ b, b ≠ a ∧ b < blen n m t P ∧ atC (placeN m c).i (placeN m c).k (bway n m t P b) := by
    rw [hs, Bool.or_eq_true, retB_beam hp ha, retB_beam hq (by rw [hl]; omega), hl]
    constructor
    · rintro (⟨b, h1, h2, h3⟩ | ⟨b, h1, h2, h3⟩)
      · exact ⟨b, by omega, h2, h3⟩
      · rw [bway_back hn hm hp b h2] at h3
        exact ⟨blen n m t P - 1 - b, by omega, by omega, h3⟩
    · rintro ⟨b, h1, h2, h3⟩
      rcases Nat.lt_or_ge a b with h4 | h4
      · exact .inl ⟨b, h4, h2, h3⟩
      · refine .inr ⟨blen n m t P - 1 - b, by omega, by omega, ?_⟩
        rw [bway_back hn hm hp _ (by omega), show blen n m t P - 1 - (blen n m t P - 1 - b) = b by omega]
        exact h3
  rw [key]
  constructor
  · rintro ⟨b, h1, h2, h3⟩
    have e := atC_eq h3
    have hd := bway_d (n := n) (m := m) (t := t) P b
    have e' : bway n m t P b = ⟨((c / m : Nat) : Int), ((c % m : Nat) : Int), (bway n m t P b).d⟩ := e
    rcases four hd with h | h | h | h
    · rw [h] at e'
      rcases Nat.lt_or_gt_of_ne h1 with h4 | h4
      · exact absurd (e'.trans e0.symm) (bway_ne hp h4 (by omega))
      · exact absurd (e0.trans e'.symm) (bway_ne hp h4 (by omega))
    · rw [h] at e'
      exact .inl (goD_iff.2 ⟨b, h2, e'⟩)
    · rw [h] at e'
      refine absurd ?_ (bway_ne_rev b a h2 ha)
      rw [e', e0, rev_empty he]
      rfl
    · rw [h] at e'
      exact .inr (goD_iff.2 ⟨b, h2, e'⟩)
  · rintro (h | h)
    · obtain ⟨b, hb, e⟩ := goD_iff.1 h
      refine ⟨b, fun hba => ?_, hb, by rw [e]; exact ⟨rfl, rfl⟩⟩
      rw [hba, e0] at e
      exact absurd (show (0 : Nat) = 1 from congrArg Wy.d e) (by decide)
    · obtain ⟨b, hb, e⟩ := goD_iff.1 h
      refine ⟨b, fun hba => ?_, hb, by rw [e]; exact ⟨rfl, rfl⟩⟩
      rw [hba, e0] at e
      exact absurd (show (0 : Nat) = 3 from congrArg Wy.d e) (by decide)
theorem on_opp {c d : Nat} (hd : d < 4) (he : emptyC m t c = true) : onR n m t ⟨((c / m : Nat) : Int), ((c % m : Nat) : Int), opp d⟩ = onR n m t ⟨((c / m : Nat) : Int), ((c % m : Nat) : Int), d⟩ := by
  rw [← rev_empty he, Bool.eq_iff_iff]
  exact ⟨fun h => onR_back (x := ⟨((c / m : Nat) : Int), ((c % m : Nat) : Int), d⟩) hd h, fun h => onR_rev (x := ⟨((c / m : Nat) : Int), ((c % m : Nat) : Int), d⟩) hd h⟩
theorem at_zero {c : Nat} (he : emptyC m t c = true) : atN n m t c = 0 ↔ onR n m t ⟨((c / m : Nat) : Int), ((c % m : Nat) : Int), 0⟩ = false ∧ onR n m t ⟨((c / m : Nat) : Int), ((c % m : Nat) : Int), 1⟩ = false := by
  have h2 := on_opp (n := n) (d := 0) (by decide) he
  have h3 := on_opp (n := n) (d := 1) (by decide) he
  rw [show opp 0 = 2 from rfl] at h2
  rw [show opp 1 = 3 from rfl] at h3
  unfold atN
  rw [upT_four, wayN_cell (by decide), wayN_cell (by decide), wayN_cell (by decide), wayN_cell (by decide), h2, h3]
  cases onR n m t ⟨((c / m : Nat) : Int), ((c % m : Nat) : Int), 0⟩ <;> cases onR n m t ⟨((c / m : Nat) : Int), ((c % m : Nat) : Int), 1⟩ <;> decide
end
end Go.Proofs.Ytonhnmpgikmlpaa

/- The sum over pairs of beams is the number of cells at which two beams cross. No program is named but the words on crossings. -/
namespace Go.Proofs.Ytonhnmpgikmlpaa

/-- Pairs of two places, the first one the lesser. -/
def pairsG (G : Nat → Bool) (N : Nat) : Nat := sumN (fun p => sumN (fun q => if p < q ∧ G p = true ∧ G q = true then 1 else 0) N) N
theorem sumN_zero (F : Nat → Nat) : ∀ N, (∀ c, c < N → F c = 0) → sumN F N = 0
  | 0, _ => rfl
  | N + 1, h => by rw [sumN, sumN_zero F N (fun c hc => h c (by omega)), h N (by omega)]
theorem pairsC_zero {G : Nat → Bool} {N : Nat} (h : ∀ p q, p < N → q < N → G p = true → G q = true → p = q) : pairsG G N = 0 := by
  refine sumN_zero _ N fun p hp => sumN_zero _ N fun q hq => ?_
  rw [if_neg]
  rintro ⟨h1, h2, h3⟩
  have := h p q hp hq h2 h3
  omega
theorem pairsC_one {G : Nat → Bool} {N a b : Nat} (hab : a < b) (hb : b < N) (h : ∀ p, p < N → (G p = true ↔ p = a ∨ p = b)) : pairsG G N = 1 := by
  have e : ∀ p, p < N → sumN (fun q => if p < q ∧ G p = true ∧ G q = true then 1 else 0) N = if a = p then 1 else 0 := fun p hp => by
    by_cases hpa : a = p
    · rw [if_pos hpa, sumN_congr (g := fun q => if b = q then 1 else 0) N (fun q hq => by
        have h1 := h p hp
        have h2 := h q hq
        by_cases hbq : b = q
        · rw [if_pos hbq, if_pos ⟨by omega, h1.2 (.inl hpa.symm), h2.2 (.inr hbq.symm)⟩]
        · rw [if_neg hbq, if_neg]
          rintro ⟨h3, _, h5⟩
          rcases h2.1 h5 with h6 | h6
          · omega
          · exact hbq h6.symm), sumN_one, if_pos hb]
    · rw [if_neg hpa]
      refine sumN_zero _ N fun q hq => ?_
      rw [if_neg]
      rintro ⟨h3, h4, h5⟩
      have h6 := (h p hp).1 h4
      have h7 := (h q hq).1 h5
      omega
  unfold pairsG
  rw [sumN_congr N e, sumN_one, if_pos (by omega)]

section
variable {n m : Nat} {t : Int → Int → UInt8}
/-- The port is the lesser end of a beam that goes through the cell. -/
def lowC (n m : Nat) (t : Int → Int → UInt8) (c p : Nat) : Bool := decide (p < bend_ n m t p) && goesC n m t p c
theorem lowC_iff {p c : Nat} (hp : p < 2 * (n + m)) (hm : 1 ≤ m) : lowC n m t c p = true ↔ p < bend_ n m t p ∧ ∃ d, d < 4 ∧ goD n m t p c d = true := by
  unfold lowC
  rw [Bool.and_eq_true, decide_eq_true_iff, goesC_iff hp hm]
/-- A beam that goes a way of a cell, or the way back, is the one of a port that goes it. -/
theorem goD_rel {p P c d e : Nat} (hn : 1 ≤ n) (hm : 1 ≤ m) (hp : p < 2 * (n + m)) (hP : P < 2 * (n + m)) (he : emptyC m t c = true) (h1 : goD n m t p c e = true) (h2 : goD n m t P c d = true) (h : e = d ∨ e = opp d) : p = P ∨ p = bend_ n m t P := by
  rcases h with rfl | rfl
  · exact .inl (goD_same hp hP h1 h2)
  · exact .inr (goD_opp hn hm hp hP he h1 h2)
theorem not_on {p c d : Nat} (hp : p < 2 * (n + m)) (h : goD n m t p c d = true) : onR n m t ⟨((c / m : Nat) : Int), ((c % m : Nat) : Int), d⟩ = false := by
  obtain ⟨j, hj, e⟩ := goD_iff.1 h
  rw [← e]
  exact beam_not hp hj
theorem on_beam {c d : Nat} (hn : 1 ≤ n) (hm : 1 ≤ m) (hc : c < n * m) (hd : d < 4) (h : onR n m t ⟨((c / m : Nat) : Int), ((c % m : Nat) : Int), d⟩ = false) : ∃ P, P < 2 * (n + m) ∧ goD n m t P c d = true := by
  have hx : inG n m ⟨((c / m : Nat) : Int), ((c % m : Nat) : Int), d⟩ := placeN_in hc
  obtain ⟨P, j, h1, h2, h3⟩ := not_beam hn hm hx hd h
  exact ⟨P, h1, goD_iff.2 ⟨j, h2, h3⟩⟩
/-- The lesser end of a beam. -/
theorem low_end {P : Nat} (hn : 1 ≤ n) (hm : 1 ≤ m) (hP : P < 2 * (n + m)) : ∃ L, L < 2 * (n + m) ∧ L < bend_ n m t L ∧ (L = P ∨ L = bend_ n m t P) := by
  have h1 := bend_other (t := t) hn hm hP
  have h2 := (bend_facts (t := t) hn hm hP).2.1
  have h3 := (back_facts (t := t) hn hm hP).2
  rcases Nat.lt_or_gt_of_ne h1 with h | h
  · exact ⟨bend_ n m t P, h2, by rw [h3]; exact h, .inr rfl⟩
  · exact ⟨P, hP, h, .inl rfl⟩
theorem goD_low {P L c d : Nat} (hn : 1 ≤ n) (hm : 1 ≤ m) (hP : P < 2 * (n + m)) (he : emptyC m t c = true) (h : goD n m t P c d = true) (hL : L = P ∨ L = bend_ n m t P) : goD n m t L c d = true ∨ goD n m t L c (opp d) = true := by
  rcases hL with rfl | rfl
  · exact .inl h
  · exact .inr (goD_back hn hm hP he h)
theorem pairs_cell {c : Nat} (hn : 1 ≤ n) (hm : 1 ≤ m) (hc : c < n * m) (he : emptyC m t c = true) : pairsG (lowC n m t c) (2 * (n + m)) = if (!selfB n m t (placeN m c).i (placeN m c).k && (atN n m t c == 0)) = true then 1 else 0 := by
  by_cases h0 : onR n m t ⟨((c / m : Nat) : Int), ((c % m : Nat) : Int), 0⟩ = false
  · obtain ⟨P0, hP0, g0⟩ := on_beam hn hm hc (by decide) h0
    by_cases h1 : onR n m t ⟨((c / m : Nat) : Int), ((c % m : Nat) : Int), 1⟩ = false
    · obtain ⟨P1, hP1, g1⟩ := on_beam hn hm hc (by decide) h1
      have hz : (atN n m t c == 0) = true := beq_iff_eq.2 ((at_zero he).2 ⟨h0, h1⟩)
      have hs := self_beams hn hm hP0 he g0
      obtain ⟨L0, l1, l2, l3⟩ := low_end (t := t) hn hm hP0
      obtain ⟨L1, k1, k2, k3⟩ := low_end (t := t) hn hm hP1
      -- each low port through the cell is one of both
      have hcl : ∀ p, p < 2 * (n + m) → lowC n m t c p = true → p = L0 ∨ p = L1 := fun p hp h => by
        obtain ⟨hl, d, hd, hg⟩ := (lowC_iff hp hm).1 h
        rcases four hd with rfl | rfl | rfl | rfl
        · exact .inl (low_rel hn hm hP0 hl l2 (goD_rel hn hm hp hP0 he hg g0 (.inl rfl)) l3)
        · exact .inr (low_rel hn hm hP1 hl k2 (goD_rel hn hm hp hP1 he hg g1 (.inl rfl)) k3)
        · exact .inl (low_rel hn hm hP0 hl l2 (goD_rel hn hm hp hP0 he hg g0 (.inr rfl)) l3)
        · exact .inr (low_rel hn hm hP1 hl k2 (goD_rel hn hm hp hP1 he hg g1 (.inr rfl)) k3)
      have hL0 : lowC n m t c L0 = true := (lowC_iff l1 hm).2 ⟨l2, by
        rcases goD_low hn hm hP0 he g0 l3 with h | h
        · exact ⟨0, by decide, h⟩
        · exact ⟨2, by decide, h⟩⟩
      have hL1 : lowC n m t c L1 = true := (lowC_iff k1 hm).2 ⟨k2, by
        rcases goD_low hn hm hP1 he g1 k3 with h | h
        · exact ⟨1, by decide, h⟩
        · exact ⟨3, by decide, h⟩⟩
      have hself : selfB n m t (placeN m c).i (placeN m c).k = true ↔ L0 = L1 := by
        rw [hs]
        constructor
        · rintro (h | h)
          · have := goD_same hP0 hP1 h g1
            rw [← this] at k3
            exact low_rel hn hm hP0 l2 k2 l3 k3
          · have h3 : P0 = bend_ n m t P1 := goD_opp (d := 1) hn hm hP0 hP1 he h g1
            have h4 : bend_ n m t P0 = P1 := by rw [h3]; exact (back_facts hn hm hP1).2
            rw [← h4] at k3
            rw [(back_facts (t := t) hn hm hP0).2] at k3
            exact low_rel hn hm hP0 l2 k2 l3 k3.symm
        · intro h
          have hg := goD_low hn hm hP1 he g1 k3
          rw [← h] at hg
          rcases l3 with h3 | h3
          · rw [h3] at hg
            exact hg
          · rw [h3] at hg
            rcases hg with hg | hg
            · have := goD_back hn hm (bend_facts (t := t) hn hm hP0).2.1 he hg
              rw [(back_facts (t := t) hn hm hP0).2] at this
              exact .inr this
            · have := goD_back hn hm (bend_facts (t := t) hn hm hP0).2.1 he hg
              rw [(back_facts (t := t) hn hm hP0).2] at this
              exact .inl this
      cases hsb : selfB n m t (placeN m c).i (placeN m c).k with
      | true =>
        have e := hself.1 hsb
        rw [if_neg (by simp)]
        refine pairsC_zero fun p q hp hq h1 h2 => ?_
        rcases hcl p hp h1 with h3 | h3 <;> rcases hcl q hq h2 with h4 | h4 <;> omega
      | false =>
        have hne : L0 ≠ L1 := fun e => by
          have := hself.2 e
          rw [hsb] at this
          cases this
        rw [if_pos (by rw [hz]; rfl)]
        rcases Nat.lt_or_gt_of_ne hne with h | h
        · refine pairsC_one h k1 fun p hp => ⟨hcl p hp, fun h => ?_⟩
          rcases h with rfl | rfl
          · exact hL0
          · exact hL1
        · refine pairsC_one h l1 fun p hp => ⟨fun h => (hcl p hp h).symm, fun h => ?_⟩
          rcases h with rfl | rfl
          · exact hL1
          · exact hL0
    · have hz : (atN n m t c == 0) = false := beq_eq_false_iff_ne.2 fun e => h1 ((at_zero he).1 e).2
      rw [hz, Bool.and_false, if_neg (by decide)]
      refine pairsC_zero fun p q hp hq hgp hgq => ?_
      obtain ⟨hl, d, hd, hg⟩ := (lowC_iff hp hm).1 hgp
      obtain ⟨hl', d', hd', hg'⟩ := (lowC_iff hq hm).1 hgq
      have only : ∀ r e, r < 2 * (n + m) → e < 4 → goD n m t r c e = true → e = 0 ∨ e = 2 := fun r e hr hel hge => by
        have := not_on hr hge
        rcases four hel with rfl | rfl | rfl | rfl
        · exact .inl rfl
        · exact absurd this h1
        · exact .inr rfl
        · have h3 := on_opp (n := n) (d := 1) (by decide) he
          rw [show opp 1 = 3 from rfl] at h3
          rw [h3] at this
          exact absurd this h1
      have r1 := only p d hp hd hg
      have r2 := only q d' hq hd' hg'
      refine low_rel hn hm hq hl hl' (goD_rel hn hm hp hq he hg hg' ?_) (.inl rfl)
      rcases r1 with rfl | rfl <;> rcases r2 with rfl | rfl
      · exact .inl rfl
      · exact .inr rfl
      · exact .inr rfl
      · exact .inl rfl
  · have hz : (atN n m t c == 0) = false := beq_eq_false_iff_ne.2 fun e => h0 ((at_zero he).1 e).1
    rw [hz, Bool.and_false, if_neg (by decide)]
    refine pairsC_zero fun p q hp hq hgp hgq => ?_
    obtain ⟨hl, d, hd, hg⟩ := (lowC_iff hp hm).1 hgp
    obtain ⟨hl', d', hd', hg'⟩ := (lowC_iff hq hm).1 hgq
    have only : ∀ r e, r < 2 * (n + m) → e < 4 → goD n m t r c e = true → e = 1 ∨ e = 3 := fun r e hr hel hge => by
      have := not_on hr hge
      rcases four hel with rfl | rfl | rfl | rfl
      · exact absurd this h0
      · exact .inl rfl
      · have h3 := on_opp (n := n) (d := 0) (by decide) he
        rw [show opp 0 = 2 from rfl] at h3
        rw [h3] at this
        exact absurd this h0
      · exact .inr rfl
    have r1 := only p d hp hd hg
    have r2 := only q d' hq hd' hg'
    refine low_rel hn hm hq hl hl' (goD_rel hn hm hp hq he hg hg' ?_) (.inl rfl)
    rcases r1 with rfl | rfl <;> rcases r2 with rfl | rfl
    · exact .inl rfl
    · exact .inr rfl
    · exact .inr rfl
    · exact .inl rfl

/-- What the specification adds up: over each pair of lesser ends. -/
def beamsS (n m : Nat) (t : Int → Int → UInt8) (p q : Nat) : Nat := if p < q ∧ p < bend_ n m t p ∧ q < bend_ n m t q then bothN n m t p q else 0
theorem sumN_if (P : Prop) [Decidable P] (F : Nat → Nat) (N : Nat) : (if P then sumN F N else 0) = sumN (fun c => if P then F c else 0) N := by
  by_cases h : P
  · rw [if_pos h]
    exact sumN_congr N fun c _ => by rw [if_pos h]
  · rw [if_neg h]
    exact (sumN_zero _ N fun c _ => by rw [if_neg h]).symm
theorem beams_all (hn : 1 ≤ n) (hm : 1 ≤ m) : sumN (fun p => sumN (fun q => beamsS n m t p q) (2 * (n + m))) (2 * (n + m)) = (List.range (n * m)).countP (crossC n m t [0]) := by
  obtain ⟨N, hN⟩ : ∃ N, 2 * (n + m) = N := ⟨_, rfl⟩
  have e1 : ∀ p q, beamsS n m t p q = sumN (fun c => if p < q ∧ p < bend_ n m t p ∧ q < bend_ n m t q then (if (goesC n m t p c && goesC n m t q c && emptyC m t c) = true then 1 else 0) else 0) (n * m) := fun p q => by
    unfold beamsS bothN
    rw [← sumN_cnt, sumN_if]
  have e2 : sumN (fun p => sumN (fun q => beamsS n m t p q) N) N = sumN (fun c => sumN (fun p => sumN (fun q => if p < q ∧ p < bend_ n m t p ∧ q < bend_ n m t q then (if (goesC n m t p c && goesC n m t q c && emptyC m t c) = true then 1 else 0) else 0) N) N) (n * m) := by
    rw [sumN_congr N fun p _ => sumN_congr N fun q _ => e1 p q, sumN_congr N fun p _ => sumN_swap (fun q c => if p < q ∧ p < bend_ n m t p ∧ q < bend_ n m t q then (if (goesC n m t p c && goesC n m t q c && emptyC m t c) = true then 1 else 0) else 0) (n * m) N]
    exact sumN_swap (fun p c => sumN (fun q => if p < q ∧ p < bend_ n m t p ∧ q < bend_ n m t q then (if (goesC n m t p c && goesC n m t q c && emptyC m t c) = true then 1 else 0) else 0) N) (n * m) N
  rw [hN, e2, ← sumN_cnt]
  refine sumN_congr _ fun c hc => ?_
  have hcr : crossC n m t [0] c = (emptyC m t c && (!selfB n m t (placeN m c).i (placeN m c).k && (atN n m t c == 0))) := by
    have hm' : decide (((atN n m t c : Nat) : Int) ∈ ([0] : List Int)) = (atN n m t c == 0) := by
      rw [Bool.eq_iff_iff, decide_eq_true_iff, beq_iff_eq]
      simp only [List.mem_cons, List.mem_nil_iff, or_false]
      omega
    unfold crossC
    rw [hm']
  rw [hcr]
  cases he : emptyC m t c with
  | false =>
    rw [Bool.false_and, if_neg (by decide)]
    refine sumN_zero _ N fun p _ => sumN_zero _ N fun q _ => ?_
    rw [Bool.and_false, if_neg (show ¬ (false = true) by decide)]
    split <;> rfl
  | true =>
    rw [Bool.true_and, ← pairs_cell hn hm hc he, hN]
    unfold pairsG
    refine sumN_congr N fun p _ => sumN_congr N fun q _ => ?_
    unfold lowC
    rw [Bool.and_true]
    by_cases h1 : p < q <;> by_cases h2 : p < bend_ n m t p <;> by_cases h3 : q < bend_ n m t q <;> simp [h1, h2, h3]
end
end Go.Proofs.Ytonhnmpgikmlpaa

/- CrossBeams of the specification, by its contract. -/
namespace Go.Proofs.Ytonhnmpgikmlpaa
open Go.RowKit Go.Shelf

theorem sumN_bound (F : Nat → Nat) (b : Nat) : ∀ N, (∀ c, c < N → F c ≤ b) → sumN F N ≤ b * N
  | 0, _ => Nat.zero_le _
  | N + 1, h => by
    have h1 := sumN_bound F b N (fun c hc => h c (by omega))
    have h2 := h N (by omega)
    rw [sumN, Nat.mul_add, Nat.mul_one]
    omega
theorem bothN_le (n m : Nat) (t : Int → Int → UInt8) (p q : Nat) : bothN n m t p q ≤ n * m := by
  unfold bothN
  have := List.countP_le_length (p := fun c => goesC n m t p c && goesC n m t q c && emptyC m t c) (l := List.range (n * m))
  rwa [List.length_range] at this
theorem beamsS_le (n m : Nat) (t : Int → Int → UInt8) (p q : Nat) : beamsS n m t p q ≤ n * m := by
  unfold beamsS
  split
  · exact bothN_le n m t p q
  · exact Nat.zero_le _

set_option maxRecDepth 100000 in
set_option maxHeartbeats 4000000 in
theorem specCrossBeams_any (A : Option Addr) (c B : Nat) (ss : List ByteArray) (w : World) (h : Strs w B A ss) (hB : B ≤ w.heap.size) (hn : ss.length ≤ 1048576) (hs : ∀ s ∈ ss, s.size ≤ 1048576) :
    Calls Try.prog 25 #[.slice A ss.length c] w fun e w' => Below w.heap.size w w' ∧ ∃ x ok, e = .returned (.tuple #[.int .i64 x, .bool ok]) ∧ GridOut (crossR [0]) ss x ok := by
  have HI := hid (specGridIn_any A c B ss w h hn hs)
  have HD := hid h
  clear h hs
  go_enter Try.func25, Try.ntmps25
  go_wp2_with fail
  refine HI.out.mono ?_
  rintro e w' ⟨ok, rfl, hok, d, rfl⟩
  have HO := hid hok
  clear hok
  have HBd := hid (below_drewN' (Below.refl w.heap.size w) d)
  cases ok with
  | false =>
    go_wp2_with fail
    refine bodyPost_ret (results_tmp2 rfl _ _ _) rfl ?_
    exact ⟨HBd.out, 0, false, rfl, .inr ⟨noGrid_of HO.out, rfl, rfl⟩⟩
  | true =>
    obtain ⟨n, m, hg⟩ := HO.out.1 rfl
    have c1 := hid (l2Pairs_any A c B n m ss (w.drewN d) (HD.out.drewN d) hB hg)
    have HG := hid hg
    have h25 := hg.le25
    have hn1 := hg.2.1
    have hn5 := hg.2.2.1
    have hm1 := hg.2.2.2.1
    have hm5 := hg.2.2.2.2.1
    obtain ⟨N, hN⟩ : ∃ N, 2 * (n + m) = N := ⟨_, rfl⟩
    have hN20 : N ≤ 20 := by omega
    have hN4 : 4 ≤ N := by omega
    have HST := hid (fun W (hb : Below w.heap.size w W) => HD.out.below hb hB)
    have HPB := hid (show ∀ p, p < N → bend_ n m (lett m (pad (flat ss))) p < N ∧ bend_ n m (lett m (pad (flat ss))) (bend_ n m (lett m (pad (flat ss))) p) = p from fun p hp => by
      have h1 := (bend_facts (t := lett m (pad (flat ss))) hn1 hm1 (p := p) (by omega)).2.1
      exact ⟨by omega, (back_facts hn1 hm1 (by omega)).2⟩)
    have HWAY := hid (show ∀ (p : Nat) (W : World), p < N → Below w.heap.size w W → Calls Try.prog 68 #[.slice A ss.length c, .int .i64 (p : Int)] W fun e w' => ∃ A1 c1 v' x, e = .returned (.tuple #[.slice A1 (bcells n m (lett m (pad (flat ss))) p).length c1, v', .int .i64 x]) ∧ Ints w' w'.heap.size A1 (natI (bcells n m (lett m (pad (flat ss))) p)) ∧ Below W.heap.size W w' from fun p W hp hbW => by
      refine (l2Way_port A c B n m p ss W (HST.out W hbW) (Nat.le_trans hB hbW.size) hg (by omega)).mono ?_
      rintro e w' ⟨v, v', rfl, hv, _, hb⟩
      obtain ⟨A1, c1, rfl, hi⟩ := hv.ints
      rw [cellsI_nat] at hi ⊢
      rw [natI_length]
      exact ⟨A1, c1, v', _, rfl, hi, hb⟩)
    have HBOT := hid (show ∀ (p q : Nat) (W : World) (A1 : Option Addr) (c1 : Nat) (A2 : Option Addr) (c2 : Nat), p < q → q < N → p < bend_ n m (lett m (pad (flat ss))) p → q < bend_ n m (lett m (pad (flat ss))) q → Below w.heap.size w W → Ints W W.heap.size A1 (natI (bcells n m (lett m (pad (flat ss))) p)) → Ints W W.heap.size A2 (natI (bcells n m (lett m (pad (flat ss))) q)) →
        Calls Try.prog 69 #[.slice A ss.length c, .slice A1 (bcells n m (lett m (pad (flat ss))) p).length c1, .slice A2 (bcells n m (lett m (pad (flat ss))) q).length c2] W fun e w' => e = .returned (.int .i64 ((beamsS n m (lett m (pad (flat ss))) p q : Nat) : Int)) ∧ ∃ d, w' = W.drewN d from fun p q W A1 c1 A2 c2 hpq hq hlp hlq hbW hi1 hi2 => by
      have hlen : ∀ r, r < N → (bcells n m (lett m (pad (flat ss))) r).length ≤ 100 := fun r hr => by
        rw [bcells_length]
        have := blen_lt (t := lett m (pad (flat ss))) (n := n) (m := m) (p := r) (by omega)
        omega
      have hc := l5Both_any A c B n m ss A1 c1 W.heap.size (bcells n m (lett m (pad (flat ss))) p) W (HST.out W hbW) hg hi1 A2 c2 W.heap.size (bcells n m (lett m (pad (flat ss))) q) hi2 (hlen q hq) bcells_lt (hlen p (by omega)) (fun x => count_le2 (n := n) (m := m) (c := x) (by omega) hm1)
      have e2 := (HPB.out q hq).2
      have e1 := (HPB.out p (by omega)).2
      have e : bothE m (lett m (pad (flat ss))) (bcells n m (lett m (pad (flat ss))) p) (bcells n m (lett m (pad (flat ss))) q) (bcells n m (lett m (pad (flat ss))) p).length = beamsS n m (lett m (pad (flat ss))) p q := by
        rw [bcells_length, bothE_all hn1 hm1 (by omega) (by omega) (by omega) (fun e => by rw [← e, e1] at hlq; omega) (fun e => by rw [← e] at hlq; omega)]
        unfold beamsS
        rw [if_pos ⟨hpq, hlp, hlq⟩]
      rw [e] at hc
      exact hc)
    have HBS := hid (show ∀ p q, beamsS n m (lett m (pad (flat ss))) p q = if p < q ∧ p < bend_ n m (lett m (pad (flat ss))) p ∧ q < bend_ n m (lett m (pad (flat ss))) q then bothN n m (lett m (pad (flat ss))) p q else 0 from fun _ _ => rfl)
    have HLE := hid (show ∀ p q, beamsS n m (lett m (pad (flat ss))) p q ≤ 25 from fun p q => Nat.le_trans (beamsS_le _ _ _ p q) h25)
    have HALL := hid (show ((sumN (fun p => sumN (fun q => beamsS n m (lett m (pad (flat ss))) p q) N) N : Nat) : Int) = (((List.range (n * m)).countP (crossC n m (lett m (pad (flat ss))) [0]) : Nat) : Int) by rw [← hN, beams_all hn1 hm1])
    have HRX := hid (show ((((List.range (n * m)).countP (crossC n m (lett m (pad (flat ss))) [0]) : Nat) : Int), true) = crossR [0] n m (lett m (pad (flat ss))) from rfl)
    have HPA := hid (fun p (hp : p < N) => pairsR_at (n := n) (m := m) (t := lett m (pad (flat ss))) (p := p) (by omega))
    have HPL := hid (show (pairsR n m (lett m (pad (flat ss)))).length = N by rw [pairsR_length, hN])
    clear hg h25 hn1 hn5 hm1 hm5 hN
    go_wp2_with fail
    refine c1.out.mono ?_
    rintro e w1 ⟨v, rfl, hv, hb1⟩
    obtain ⟨A1, cp, rfl, hints⟩ := hv.ints
    have HB1 := hid (HBd.out.trans hb1)
    obtain ⟨bp, offp, rfl, hlt1, hcc⟩ := hints (by rw [HPL.out]; omega)
    rw [HPL.out]
    have HCC := hid (show ∀ (k : Nat) (W : World), k < N → Below w1.heap.size w1 W → W.cell? ⟨bp, offp + k, none⟩ = some (.int .i64 ((bend_ n m (lett m (pad (flat ss))) k : Nat) : Int)) from fun k W hk hbW => (hbW.cell (p := ⟨bp, offp + k, none⟩) hlt1).trans (hcc k _ (HPA.out k hk)))
    have HB11 := hid (Below.refl w1.heap.size w1)
    clear hb1 hv hints hcc hlt1
    generalize beamsS n m (lett m (pad (flat ss))) = bs at *
    generalize bothN n m (lett m (pad (flat ss))) = bo at *
    generalize bend_ n m (lett m (pad (flat ss))) = bn at *
    generalize bcells n m (lett m (pad (flat ss))) = bc at *
    go_wp2_with fail
    go_loopw [5, 6] (fun (v i : Value) (wr : World) => ∃ k : Nat, k ≤ N ∧ i = .int .i64 k ∧ v = .int .i64 ((sumN (fun p => sumN (fun q => bs p q) N) k : Nat) : Int) ∧ Below w.heap.size w wr ∧ Below w1.heap.size w1 wr) (fun _ i _ => N - (intOf i).toNat)
    case atStart => exact ⟨0, by omega, rfl, rfl, HB1.out, HB11.out⟩
    case round =>
      obtain ⟨k, hk, rfl, rfl, hb, hbb⟩ := hrel
      have HBX := hid hb
      have HBX1 := hid hbb
      clear hb hbb
      have hle : sumN (fun p => sumN (fun q => bs p q) N) k ≤ 10000 := by
        have h1 := sumN_bound (fun p => sumN (fun q => bs p q) N) 500 k (fun p _ => by
          have := sumN_bound (fun q => bs p q) 25 N (fun q _ => HLE.out p q)
          omega)
        omega
      have hsn : sumN (fun p => sumN (fun q => bs p q) N) (k + 1) = sumN (fun p => sumN (fun q => bs p q) N) k + sumN (fun q => bs k q) N := rfl
      obtain ⟨gk, hgk⟩ : ∃ gk, sumN (fun p => sumN (fun q => bs p q) N) k = gk := ⟨_, rfl⟩
      have HGK := hid hgk
      have HSN := hid hsn
      rw [hgk] at hle ⊢
      clear hgk hsn
      by_cases hlt : k < N
      · have hlti : (k : Int) < (N : Int) := by omega
        have hkx := HPB.out k hlt
        have HCK := hid (fun W hbW => HCC.out k W hlt hbW)
        obtain ⟨bk, hbk⟩ : ∃ bk, bn k = bk := ⟨_, rfl⟩
        have HBK := hid hbk
        rw [hbk] at HCK hkx
        clear hbk
        have hbkN := hkx.1
        clear hkx
        go_wp2_with fail
        go_loopw [5, 7] (fun (v i : Value) (wr2 : World) => ∃ s : Nat, k + 1 ≤ s ∧ s ≤ N ∧ i = .int .i64 s ∧ v = .int .i64 ((gk + sumN (fun q => bs k q) s : Nat) : Int) ∧ Below w.heap.size w wr2 ∧ Below w1.heap.size w1 wr2) (fun _ i _ => N - (intOf i).toNat)
        case atStart => exact ⟨k + 1, by omega, by omega, by go_num, by
          rw [sumN_zero (fun q => bs k q) (k + 1) (fun q hq => by rw [HBS.out, if_neg (by omega)])]
          rfl, HBX.out, HBX1.out⟩
        case round =>
          obtain ⟨s, hs1, hs2, rfl, rfl, hb, hbb⟩ := hrel
          have HBY := hid hb
          have HBY1 := hid hbb
          clear hb hbb
          have hrl : sumN (fun q => bs k q) s ≤ 500 := by
            have := sumN_bound (fun q => bs k q) 25 s (fun q _ => HLE.out k q)
            omega
          have hrs : sumN (fun q => bs k q) (s + 1) = sumN (fun q => bs k q) s + bs k s := rfl
          have hbl := HLE.out k s
          have hbs := HBS.out k s
          obtain ⟨tot, htot⟩ : ∃ tot, gk + sumN (fun q => bs k q) s = tot := ⟨_, rfl⟩
          have HTOT := hid htot
          rw [htot]
          by_cases hst : s < N
          · have htot2 : tot ≤ 10500 := by omega
            have hsti : (s : Int) < (N : Int) := by omega
            have hck := HCK.out _ HBY1.out
            have hcs := HCC.out s _ hst HBY1.out
            have hsx := HPB.out s hst
            obtain ⟨bq, hbq⟩ : ∃ bq, bn s = bq := ⟨_, rfl⟩
            have HBQ := hid hbq
            rw [hbq] at hcs hsx
            rw [HBK.out, hbq] at hbs
            have hbqN := hsx.1
            clear hsx hbq
            by_cases hlp : k < bk
            · have hlpi : (k : Int) < (bk : Int) := by omega
              by_cases hlq : s < bq
              · have hlqi : (s : Int) < (bq : Int) := by omega
                have HR := hid (show gk + sumN (fun q => bs k q) (s + 1) = tot + bs k s by rw [hrs, ← Nat.add_assoc, htot])
                have HBOTX := hid (fun W A1 c1 A2 c2 => HBOT.out k s W A1 c1 A2 c2 (by omega) hst (by rw [HBK.out]; exact hlp) (by rw [HBQ.out]; exact hlq))
                have HWK := hid (fun W => HWAY.out k W hlt)
                have HWS := hid (fun W => HWAY.out s W hst)
                obtain ⟨z, hz⟩ : ∃ z, bs k s = z := ⟨_, rfl⟩
                rw [hz] at HR hbl HBOTX
                clear hrs hbs htot hz hrl
                go_wp2_with fail
                refine (HWK.out _ HBY.out).mono ?_
                rintro e w2 ⟨A2, c2, v2, x2, rfl, hi2, hb2⟩
                have HB2 := hid (HBY.out.trans (hb2.mono HBY.out.size))
                have HB21 := hid (HBY1.out.trans (hb2.mono HBY1.out.size))
                have HI2 := hid hi2
                clear hb2 hi2 hck hcs
                go_wp2_with fail
                refine (HWS.out _ HB2.out).mono ?_
                rintro e w3 ⟨A3, c3, v3, x3, rfl, hi3, hb3⟩
                have HB3 := hid (HB2.out.trans (hb3.mono HB2.out.size))
                have HB31 := hid (HB21.out.trans (hb3.mono HB21.out.size))
                have HCX := hid (HBOTX.out w3 A2 c2 A3 c3 HB3.out ((HI2.out.below hb3 (Nat.le_refl _)).more hb3.size) hi3)
                clear hb3 hi3
                go_wp2_with fail
                refine HCX.out.mono ?_
                rintro e w4 ⟨rfl, d4, rfl⟩
                go_wp2_with fail
                go_roundw
                case rel => exact ⟨s + 1, by omega, by omega, by go_num, by rw [HR.out]; go_num, below_drewN' HB3.out d4, below_drewN' HB31.out d4⟩
                case measure => simp [intOf]; omega
              · have hlqi : ¬ (s : Int) < (bq : Int) := by omega
                have HR := hid (show gk + sumN (fun q => bs k q) (s + 1) = tot by rw [hrs, hbs, if_neg (by omega), Nat.add_zero, htot])
                clear hrs hbs htot hrl
                go_wp2_with fail
                go_roundw
                case rel => exact ⟨s + 1, by omega, by omega, by go_num, by rw [HR.out], HBY.out, HBY1.out⟩
                case measure => simp [intOf]; omega
            · have hlpi : ¬ (k : Int) < (bk : Int) := by omega
              have HR := hid (show gk + sumN (fun q => bs k q) (s + 1) = tot by rw [hrs, hbs, if_neg (by omega), Nat.add_zero, htot])
              clear hrs hbs htot hrl
              go_wp2_with fail
              go_roundw
              case rel => exact ⟨s + 1, by omega, by omega, by go_num, by rw [HR.out], HBY.out, HBY1.out⟩
              case measure => simp [intOf]; omega
          · obtain rfl : s = N := by omega
            have HR := hid (show sumN (fun p => sumN (fun q => bs p q) s) (k + 1) = tot by rw [HSN.out, HGK.out, htot])
            clear hrs htot hbs hbl
            go_wp2_with fail
            go_roundw
            case rel => exact ⟨k + 1, by omega, by go_num, by rw [HR.out], HBY.out, HBY1.out⟩
            case measure => simp [intOf]; omega
      · obtain rfl : k = N := by omega
        have HX := hid (show ((gk : Nat) : Int) = (((List.range (n * m)).countP (crossC n m (lett m (pad (flat ss))) [0]) : Nat) : Int) by rw [← HGK.out]; exact HALL.out)
        go_wp2_with fail
        refine bodyPost_ret (results_tmp2 rfl _ _ _) rfl ?_
        exact ⟨HBX.out, _, true, rfl, .inl ⟨n, m, HG.out, by rw [HX.out]; exact HRX.out⟩⟩
end Go.Proofs.Ytonhnmpgikmlpaa
