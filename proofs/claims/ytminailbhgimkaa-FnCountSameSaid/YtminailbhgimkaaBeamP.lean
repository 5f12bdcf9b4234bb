/- Beams there and back, their turns, cells gone through twice: plain words for the promises of chapter 2. No program is named. -/
import Derived.Test.YtminailbhgimkaaBunB
import Derived.Test.YtminailbhgimkaaBunO
import Derived.Test.YtminailbhgimkaaBunE
import Derived.Test.YtminailbhgimkaaBunP
import Derived.Test.YtminailbhgimkaaGridQ
import Derived.Test.YtminailbhgimkaaSumQ
namespace Go.Proofs.Ytminailbhgimkaa

/-- The letter of a cell in a grid. -/
theorem lett_mem {n m : Nat} {ts : List ByteArray} (hg : IsGrid n m ts) (x : Wy) (hin : inG n m x) : ∃ b, b ∈ flat ts ∧ lett m (pad (flat ts)) x.i x.k = b := by
  have hlt := cellN_lt hin
  rw [← hg.flen] at hlt
  refine ⟨(flat ts)[cellN m x], List.getElem_mem hlt, ?_⟩
  unfold lett
  rw [cellN_int hin, Int.toNat_natCast, pad_getD _ _ hlt, List.getD_eq_getElem?_getD, List.getElem?_eq_getElem hlt]
  rfl
section
variable {n m : Nat} {t : Int → Int → UInt8}
theorem nxt_cell (x : Wy) : (rev t x).i = x.i ∧ (rev t x).k = x.k := ⟨rfl, rfl⟩
/-- The way back goes through the same cells, backwards. -/
theorem back_cell {q j : Nat} (hn : 1 ≤ n) (hm : 1 ≤ m) (hq : q < 2 * (n + m)) (hj : j < blen n m t q) :
    (bway n m t (bend_ n m t q) j).i = (bway n m t q (blen n m t q - 1 - j)).i ∧ (bway n m t (bend_ n m t q) j).k = (bway n m t q (blen n m t q - 1 - j)).k := by
  rw [bway_back hn hm hq j hj]
  exact ⟨rfl, rfl⟩
theorem back_cellN {q j : Nat} (hn : 1 ≤ n) (hm : 1 ≤ m) (hq : q < 2 * (n + m)) (hj : j < blen n m t q) :
    cellN m (bway n m t (bend_ n m t q) j) = cellN m (bway n m t q (blen n m t q - 1 - j)) := by
  obtain ⟨h1, h2⟩ := back_cell (t := t) hn hm hq hj
  unfold cellN
  rw [h1, h2]
theorem countP_back (p p' : Nat → Bool) (L : Nat) (h : ∀ j, j < L → p' j = p (L - 1 - j)) : (List.range L).countP p' = (List.range L).countP p := by
  rw [countP_range, countP_range, ← sumN_rev L (fun q => if p q = true then 1 else 0)]
  exact sumN_congr L fun j hj => by rw [h j hj]
theorem turns_back {q : Nat} (hn : 1 ≤ n) (hm : 1 ≤ m) (hq : q < 2 * (n + m)) : turnsR n m t (bend_ n m t q) = turnsR n m t q := by
  unfold turnsR
  rw [(back_facts (t := t) hn hm hq).1]
  congr 2
  refine countP_back _ _ _ fun j hj => ?_
  obtain ⟨h1, h2⟩ := back_cell (t := t) hn hm hq hj
  unfold mirrorAt
  rw [h1, h2]
theorem count_range (L c : Nat) (f : Nat → Nat) : ((List.range L).map f).count c = (List.range L).countP fun j => f j == c := by
  rw [List.count, List.countP_map]
  rfl
theorem count_back {q : Nat} (hn : 1 ≤ n) (hm : 1 ≤ m) (hq : q < 2 * (n + m)) (c : Nat) : (bcells n m t (bend_ n m t q)).count c = (bcells n m t q).count c := by
  unfold bcells
  rw [count_range, count_range, (back_facts (t := t) hn hm hq).1]
  exact countP_back _ _ _ fun j hj => by rw [back_cellN hn hm hq hj]
theorem twice_back {q : Nat} (hn : 1 ≤ n) (hm : 1 ≤ m) (hq : q < 2 * (n + m)) : twiceR n m t (bend_ n m t q) = twiceR n m t q := by
  unfold twiceR
  congr 2
  refine List.countP_congr fun c _ => ?_
  rw [count_back hn hm hq]
/-- A beam's length: how often it goes through each cell. -/
theorem blen_sum (q : Nat) : blen n m t q = sumN (fun c => (bcells n m t q).count c) (n * m) := by
  have h := sum_swap (fun _ => 1) (n * m) (bcells n m t q) bcells_lt
  rw [List.map_const', List.sum_replicate_nat, bcells_length, Nat.mul_one] at h
  rw [h]
  exact sumN_congr _ fun c _ => Nat.mul_one _
theorem blen_two {q : Nat} (hm : 1 ≤ m) (hq : q < 2 * (n + m)) : blen n m t q ≤ 2 * (n * m) := by
  rw [blen_sum]
  have h := sumN_const 2 (n * m)
  rw [← h]
  exact sumN_le _ fun c _ => count_le2 hq hm
theorem twice_le {q : Nat} : 2 * ((List.range (n * m)).countP fun c => (bcells n m t q).count c == 2) ≤ blen n m t q := by
  rw [blen_sum, countP_range, ← sumN_mul]
  refine sumN_le _ fun c _ => ?_
  split
  · rename_i h
    have := beq_iff_eq.1 h
    omega
  · omega
/-- How many cells it goes through. -/
theorem goes_le {q : Nat} (p : Nat → Bool) (hp : ∀ c, p c = true → 0 < (bcells n m t q).count c) : (List.range (n * m)).countP p ≤ blen n m t q := by
  rw [blen_sum, countP_range]
  refine sumN_le _ fun c _ => ?_
  split
  · rename_i h
    exact hp c h
  · omega
theorem meet_le {p q : Nat} : meetN n m t p q ≤ blen n m t p ∧ meetN n m t p q ≤ blen n m t q := by
  unfold meetN
  constructor
  · exact goes_le _ fun c h => by
      rw [Bool.and_eq_true] at h
      exact of_decide_eq_true h.1
  · exact goes_le _ fun c h => by
      rw [Bool.and_eq_true] at h
      exact of_decide_eq_true h.2
theorem meet_swap {p q : Nat} : meetN n m t q p = meetN n m t p q := by
  unfold meetN
  refine List.countP_congr fun c _ => ?_
  rw [Bool.and_comm]
theorem goes_end {q : Nat} (hn : 1 ≤ n) (hm : 1 ≤ m) (hq : q < 2 * (n + m)) (c : Nat) : goesC n m t (bend_ n m t q) c = goesC n m t q c := by
  unfold goesC
  rw [count_back hn hm hq]
theorem meet_ends {p q : Nat} (hn : 1 ≤ n) (hm : 1 ≤ m) (hp : p < 2 * (n + m)) (hq : q < 2 * (n + m)) : meetN n m t (bend_ n m t p) (bend_ n m t q) = meetN n m t p q := by
  unfold meetN
  refine List.countP_congr fun c _ => ?_
  rw [goes_end hn hm hp, goes_end hn hm hq]
/-- The sides add up to the length. -/
theorem heads_four (bw : Nat → Wy) (hd : ∀ j, (bw j).d < 4) : ∀ L, headsTo bw L 0 + headsTo bw L 1 + headsTo bw L 2 + headsTo bw L 3 = L
  | 0 => rfl
  | L + 1 => by
    have ih := heads_four bw hd L
    rw [headsTo_succ, headsTo_succ, headsTo_succ, headsTo_succ]
    rcases four (hd L) with e | e | e | e <;> rw [e] <;> simp <;> omega
theorem sides_sum (q : Nat) : (sidesR n m t q).sum = ((blen n m t q : Nat) : Int) := by
  have h := heads_four (bway n m t q) (bway_d q) (blen n m t q)
  unfold sidesR sidesL
  show ([_, _, _, _] : List Int).sum = _
  simp only [List.sum_cons, List.sum_nil]
  omega
theorem sides_four (q : Nat) : (sidesR n m t q).length = 4 := by simp [sidesR, sidesL]
theorem sides_mem {q : Nat} {x : Int} (h : x ∈ sidesR n m t q) : 0 ≤ x ∧ x ≤ ((blen n m t q : Nat) : Int) := by
  unfold sidesR sidesL at h
  obtain ⟨d, _, rfl⟩ := List.mem_map.1 h
  have := headsTo_le (bway n m t q) (blen n m t q) d
  omega
/-- Headings turn from up and down to left and right at each mirror. -/
theorem bend_par {b : UInt8} (hb : isLet b = true) {d : Nat} (hd : d < 4) : bend b d % 2 = (d + (if (b != 46) = true then 1 else 0)) % 2 := by
  simp only [isLet, Bool.or_eq_true, beq_iff_eq] at hb
  rcases hb with (rfl | rfl) | rfl <;> rcases four hd with rfl | rfl | rfl | rfl <;> decide
theorem way_par {q : Nat} (ht : ∀ x, inG n m x → isLet (t x.i x.k) = true) : ∀ L, L ≤ blen n m t q → (bway n m t q L).d % 2 = ((entr n m q).d + (List.range L).countP (mirrorAt t (bway n m t q))) % 2
  | 0, _ => by simp [bway, iter]
  | L + 1, h => by
    have ih := way_par (q := q) ht L (Nat.le_of_succ_le h)
    have hin := blen_in (n := n) (m := m) (t := t) (p := q) (j := L) h
    rw [List.range_succ, List.countP_append, List.countP_cons, List.countP_nil]
    have e := bend_par (ht _ hin) (bway_d (n := n) (m := m) (t := t) q L)
    show bend (t (bway n m t q L).i (bway n m t q L).k) (bway n m t q L).d % 2 = _
    rw [e]
    unfold mirrorAt at ih ⊢
    omega
theorem opp_par {d : Nat} (h : d < 4) : opp d % 2 = d % 2 := by
  rcases four h with rfl | rfl | rfl | rfl <;> rfl
/-- Is the port at an end of a row? -/
def rowP (n m p : Nat) : Bool := decide (m ≤ p) && decide (p < m + n) || decide (2 * m + n ≤ p)
theorem row_par (p : Nat) : rowP n m p = decide ((entr n m p).d % 2 = 1) := by
  rw [Bool.eq_iff_iff, decide_eq_true_iff]
  unfold rowP entr
  simp only [Bool.or_eq_true, Bool.and_eq_true, decide_eq_true_iff]
  split
  · simp; omega
  · split
    · simp; omega
    · split
      · simp; omega
      · simp; omega
theorem turns_par {q : Nat} (hn : 1 ≤ n) (hm : 1 ≤ m) (hq : q < 2 * (n + m)) (ht : ∀ x, inG n m x → isLet (t x.i x.k) = true) :
    ((List.range (blen n m t q)).countP (mirrorAt t (bway n m t q)) % 2 = 0) ↔ rowP n m q = rowP n m (bend_ n m t q) := by
  have h1 := way_par (q := q) ht _ (Nat.le_refl _)
  have hp := blen_pos (t := t) hn hm hq
  have h2 := (bend_facts (t := t) hn hm hq).2.2
  obtain ⟨L, hL⟩ : ∃ L, blen n m t q = L + 1 := ⟨blen n m t q - 1, by omega⟩
  rw [hL, Nat.add_sub_cancel] at h2
  have h3 : (entr n m (bend_ n m t q)).d % 2 = (bway n m t q (blen n m t q)).d % 2 := by
    rw [h2, hL]
    exact opp_par (bend_lt _ (bway_d q L))
  rw [row_par, row_par, Bool.eq_iff_iff, decide_eq_true_iff, decide_eq_true_iff, h3, h1]
  omega
/-- No cell is met again within two steps. -/
theorem no_two (x : Wy) (hd : x.d < 4) : ¬ ((nxt t (nxt t x)).i = x.i ∧ (nxt t (nxt t x)).k = x.k) := by
  have hb := bend_lt (t x.i x.k) hd
  have h2 := bend_ne (t (nxt t x).i (nxt t x).k) hb
  have hb2 := bend_lt (t (nxt t x).i (nxt t x).k) hb
  unfold nxt at *
  simp only at *
  generalize bend (t x.i x.k) x.d = d1 at *
  generalize bend (t (stepI x.i d1) (stepK x.k d1)) d1 = d2 at *
  rcases four hb with rfl | rfl | rfl | rfl <;> rcases four hb2 with rfl | rfl | rfl | rfl <;> simp [stepI, stepK, opp] at h2 ⊢ <;> omega
theorem step_par (x : Wy) (hd : x.d < 4) : (nxt t x).i + (nxt t x).k = x.i + x.k + 1 ∨ (nxt t x).i + (nxt t x).k = x.i + x.k - 1 := by
  have hb := bend_lt (t x.i x.k) hd
  unfold nxt
  simp only
  generalize bend (t x.i x.k) x.d = d1 at *
  rcases four hb with rfl | rfl | rfl | rfl <;> simp [stepI, stepK] <;> omega
theorem far_apart {q a b : Nat} (hab : a < b) (h : (bway n m t q a).i = (bway n m t q b).i ∧ (bway n m t q a).k = (bway n m t q b).k) : a + 4 ≤ b := by
  have hd := fun j => bway_d (n := n) (m := m) (t := t) q j
  have hs : ∀ j, bway n m t q (j + 1) = nxt t (bway n m t q j) := fun j => rfl
  have p1 := step_par (t := t) _ (hd a)
  have p2 := step_par (t := t) _ (hd (a + 1))
  have p3 := step_par (t := t) _ (hd (a + 2))
  rw [← hs] at p1 p2 p3
  have e2 : a + 1 + 1 = a + 2 := rfl
  have e3 : a + 2 + 1 = a + 3 := rfl
  rw [e2] at p2
  rw [e3] at p3
  have n2 := no_two (t := t) (bway n m t q a) (hd a)
  rw [← hs, ← hs] at n2
  apply Classical.byContradiction
  intro hlt
  rcases (by omega : b = a + 1 ∨ b = a + 2 ∨ b = a + 3) with rfl | rfl | rfl
  · omega
  · exact n2 ⟨h.1.symm, h.2.symm⟩
  · omega
theorem two_of {L : Nat} {p : Nat → Bool} : 2 ≤ (List.range L).countP p → ∃ a b, a < b ∧ b < L ∧ p a = true ∧ p b = true := by
  induction L with
  | zero => intro h; simp at h
  | succ L ih =>
    intro h
    rw [List.range_succ, List.countP_append, List.countP_cons, List.countP_nil] at h
    by_cases h2 : 2 ≤ (List.range L).countP p
    · obtain ⟨a, b, h3, h4, h5, h6⟩ := ih h2
      exact ⟨a, b, h3, by omega, h5, h6⟩
    · have hp : p L = true := by
        by_cases hp : p L = true
        · exact hp
        · rw [if_neg hp] at h; omega
      have h1 : 0 < (List.range L).countP p := by rw [if_pos hp] at h; omega
      obtain ⟨a, ha, hpa⟩ := List.countP_pos_iff.1 h1
      exact ⟨a, L, List.mem_range.1 ha, by omega, hpa, hp⟩
theorem twice_places {q c : Nat} (h : (bcells n m t q).count c = 2) : ∃ a b, a < b ∧ b < blen n m t q ∧ (bway n m t q a).i = (bway n m t q b).i ∧ (bway n m t q a).k = (bway n m t q b).k := by
  unfold bcells at h
  rw [count_range] at h
  obtain ⟨a, b, h1, h2, h3, h4⟩ := two_of (L := blen n m t q) (p := fun j => cellN m (bway n m t q j) == c) (Nat.le_of_eq h.symm)
  have ia := blen_in (n := n) (m := m) (t := t) (p := q) (j := a) (by omega)
  have ib := blen_in (n := n) (m := m) (t := t) (p := q) (j := b) h2
  have e : cellN m (bway n m t q a) = cellN m (bway n m t q b) := (beq_iff_eq.1 h3).trans (beq_iff_eq.1 h4).symm
  unfold cellN at e
  unfold inG at ia ib
  have := parts_inj e (by omega) (by omega)
  exact ⟨a, b, h1, h2, by omega, by omega⟩
theorem twice_short {q : Nat} (h : blen n m t q ≤ 3) : ((List.range (n * m)).countP fun c => (bcells n m t q).count c == 2) = 0 := by
  rw [List.countP_eq_zero]
  intro c _ h2
  obtain ⟨a, b, h3, h4, h5⟩ := twice_places (beq_iff_eq.1 h2)
  have := far_apart h3 h5
  omega
/-- A beam without mirrors goes straight on. -/
theorem straight {q : Nat} (h0 : ∀ j, j < blen n m t q → mirrorAt t (bway n m t q) j = false) : ∀ j, j ≤ blen n m t q → (bway n m t q j).d = (entr n m q).d ∧
    (bway n m t q j).i = (entr n m q).i + (if (entr n m q).d = 0 then -(j : Int) else if (entr n m q).d = 2 then (j : Int) else 0) ∧
    (bway n m t q j).k = (entr n m q).k + (if (entr n m q).d = 1 then (j : Int) else if (entr n m q).d = 3 then -(j : Int) else 0)
  | 0, _ => by
    have : bway n m t q 0 = entr n m q := rfl
    rw [this]
    refine ⟨rfl, ?_, ?_⟩ <;> (split <;> simp)
  | j + 1, hj => by
    obtain ⟨h1, h2, h3⟩ := straight h0 j (by omega)
    have hm := h0 j (by omega)
    have h4 := entr_d n m q
    unfold mirrorAt at hm
    have hb : bend (t (bway n m t q j).i (bway n m t q j).k) (bway n m t q j).d = (bway n m t q j).d := by
      rw [bne_eq_false_iff_eq] at hm
      rw [hm]; exact bend_e (by decide) (by decide)
    have e : bway n m t q (j + 1) = nxt t (bway n m t q j) := rfl
    rw [e]
    unfold nxt
    rw [hb]
    refine ⟨h1, ?_, ?_⟩
    · show stepI (bway n m t q j).i (bway n m t q j).d = _
      rw [h1, h2]
      rcases four h4 with e | e | e | e <;> rw [e] <;> simp [stepI] <;> omega
    · show stepK (bway n m t q j).k (bway n m t q j).d = _
      rw [h1, h3]
      rcases four h4 with e | e | e | e <;> rw [e] <;> simp [stepK] <;> omega
theorem twice_none {q : Nat} (h : (List.range (blen n m t q)).countP (mirrorAt t (bway n m t q)) = 0) : ((List.range (n * m)).countP fun c => (bcells n m t q).count c == 2) = 0 := by
  have h0 : ∀ j, j < blen n m t q → mirrorAt t (bway n m t q) j = false := fun j hj => by
    rw [Bool.eq_false_iff]
    exact fun h1 => List.countP_eq_zero.1 h j (List.mem_range.2 hj) h1
  rw [List.countP_eq_zero]
  intro c _ h2
  obtain ⟨a, b, h3, h4, h5, h6⟩ := twice_places (beq_iff_eq.1 h2)
  obtain ⟨_, a1, a2⟩ := straight h0 a (by omega)
  obtain ⟨_, b1, b2⟩ := straight h0 b (by omega)
  rw [a1, b1] at h5
  rw [a2, b2] at h6
  rcases four (entr_d n m q) with e | e | e | e <;> rw [e] at h5 h6 <;> simp at h5 h6 <;> omega
theorem turns_first {q : Nat} : (firstR n m t q).2 = decide (0 < (List.range (blen n m t q)).countP (mirrorAt t (bway n m t q))) := by
  unfold firstR
  cases h : (List.range (blen n m t q)).find? (mirrorAt t (bway n m t q)) with
  | none =>
    have : (List.range (blen n m t q)).countP (mirrorAt t (bway n m t q)) = 0 := List.countP_eq_zero.2 fun a ha h1 => by
      have := List.find?_eq_none.1 h a ha
      exact this h1
    rw [this]; rfl
  | some j =>
    have h1 := List.find?_some h
    have h2 := List.mem_of_find?_eq_some h
    have : 0 < (List.range (blen n m t q)).countP (mirrorAt t (bway n m t q)) := List.countP_pos_iff.2 ⟨j, h2, h1⟩
    rw [decide_eq_true this]
end
end Go.Proofs.Ytminailbhgimkaa
