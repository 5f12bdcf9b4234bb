/- For each size of at most 9 cells and each two ports a grid whose beam leads from the one to the other (aimtab.py wrote the table; the kernel goes through it). No program is named. -/
import Derived.Test.YtminailbhgimkaaAimM
namespace Go.Proofs.Ytminailbhgimkaa

def aimTab : List (List Nat) := [[],
  [],
  [],
  [],
  [],
  [],
  [],
  [0, 2, 0, 1, 0, 0, 1, 0, 0, 0, 0, 2, 0, 0, 0, 0],
  [0, 5, 2, 8, 0, 1, 0, 0, 6, 0, 4, 3, 0, 0, 0, 3, 1, 0, 0, 0, 0, 0, 7, 6, 0, 0, 0, 0, 0, 2, 0, 0, 0, 0, 0, 0],
  [0, 5, 11, 2, 20, 8, 0, 1, 0, 0, 15, 6, 24, 0, 4, 3, 0, 0, 0, 18, 0, 12, 10, 9, 0, 0, 0, 0, 9, 3, 1, 0, 0, 0, 0, 0, 0, 21, 19, 18, 0, 0, 0, 0, 0, 0, 7, 6, 0, 0, 0, 0, 0, 0, 0, 2, 0, 0, 0, 0, 0, 0, 0, 0],
  [0, 5, 11, 29, 2, 56, 20, 8, 0, 1, 0, 0, 15, 33, 6, 60, 24, 0, 4, 3, 0, 0, 0, 45, 18, 72, 0, 12, 10, 9, 0, 0, 0, 0, 54, 0, 36, 30, 28, 27, 0, 0, 0, 0, 0, 27, 9, 3, 1, 0, 0, 0, 0, 0, 0, 0, 63, 57, 55, 54, 0, 0, 0, 0, 0, 0, 0, 21, 19, 18, 0, 0, 0, 0, 0, 0, 0, 0, 7, 6, 0, 0, 0, 0, 0, 0, 0, 0, 0, 2, 0, 0, 0, 0, 0, 0, 0, 0, 0, 0],
  [0, 5, 11, 29, 83, 2, 164, 56, 20, 8, 0, 1, 0, 0, 15, 33, 87, 6, 168, 60, 24, 0, 4, 3, 0, 0, 0, 45, 99, 18, 180, 72, 0, 12, 10, 9, 0, 0, 0, 0, 135, 54, 216, 0, 36, 30, 28, 27, 0, 0, 0, 0, 0, 162, 0, 108, 90, 84, 82, 81, 0, 0, 0, 0, 0, 0, 81, 27, 9, 3, 1, 0, 0, 0, 0, 0, 0, 0, 0, 189, 171, 165, 163, 162, 0, 0, 0, 0, 0, 0, 0, 0, 63, 57, 55, 54, 0, 0, 0, 0, 0, 0, 0, 0, 0, 21, 19, 18, 0, 0, 0, 0, 0, 0, 0, 0, 0, 0, 7, 6, 0, 0, 0, 0, 0, 0, 0, 0, 0, 0, 0, 2, 0, 0, 0, 0, 0, 0, 0, 0, 0, 0, 0, 0],
  [],
  [0, 2, 6, 0, 3, 1, 0, 0, 7, 1, 4, 0, 0, 0, 0, 3, 0, 8, 0, 0, 0, 0, 6, 2, 0, 0, 0, 0, 0, 5, 0, 0, 0, 0, 0, 0],
  [0, 5, 2, 18, 8, 0, 9, 1, 0, 0, 6, 54, 0, 4, 27, 3, 0, 0, 0, 19, 3, 1, 10, 0, 0, 0, 0, 0, 27, 9, 0, 20, 0, 0, 0, 0, 0, 7, 54, 6, 0, 0, 0, 0, 0, 0, 18, 2, 0, 0, 0, 0, 0, 0, 0, 11, 0, 0, 0, 0, 0, 0, 0, 0],
  [0, 5, 11, 2, 54, 20, 8, 0, 27, 1, 0, 0, 15, 6, 162, 24, 0, 4, 81, 3, 0, 0, 0, 18, 486, 0, 12, 10, 243, 9, 0, 0, 0, 0, 55, 9, 3, 1, 28, 0, 0, 0, 0, 0, 0, 243, 81, 27, 0, 56, 0, 0, 0, 0, 0, 0, 21, 19, 486, 18, 0, 0, 0, 0, 0, 0, 0, 7, 162, 6, 0, 0, 0, 0, 0, 0, 0, 0, 54, 2, 0, 0, 0, 0, 0, 0, 0, 0, 0, 29, 0, 0, 0, 0, 0, 0, 0, 0, 0, 0],
  [0, 5, 11, 29, 2, 162, 56, 20, 8, 0, 81, 1, 0, 0, 15, 33, 6, 486, 60, 24, 0, 4, 243, 3, 0, 0, 0, 45, 18, 1458, 72, 0, 12, 10, 729, 9, 0, 0, 0, 0, 54, 4374, 0, 36, 30, 28, 2187, 27, 0, 0, 0, 0, 0, 163, 27, 9, 3, 1, 82, 0, 0, 0, 0, 0, 0, 0, 2187, 729, 243, 81, 0, 164, 0, 0, 0, 0, 0, 0, 0, 63, 57, 55, 4374, 54, 0, 0, 0, 0, 0, 0, 0, 0, 21, 19, 1458, 18, 0, 0, 0, 0, 0, 0, 0, 0, 0, 7, 486, 6, 0, 0, 0, 0, 0, 0, 0, 0, 0, 0, 162, 2, 0, 0, 0, 0, 0, 0, 0, 0, 0, 0, 0, 83, 0, 0, 0, 0, 0, 0, 0, 0, 0, 0, 0, 0],
  [],
  [],
  [0, 2, 6, 18, 0, 9, 3, 1, 0, 0, 7, 19, 1, 10, 4, 0, 0, 0, 0, 21, 3, 12, 0, 8, 0, 0, 0, 0, 9, 0, 24, 20, 0, 0, 0, 0, 0, 18, 6, 2, 0, 0, 0, 0, 0, 0, 15, 11, 0, 0, 0, 0, 0, 0, 0, 5, 0, 0, 0, 0, 0, 0, 0, 0],
  [0, 5, 2, 18, 162, 8, 0, 81, 9, 1, 0, 0, 6, 54, 486, 0, 4, 243, 27, 3, 0, 0, 0, 19, 163, 3, 1, 82, 10, 0, 0, 0, 0, 0, 171, 27, 9, 90, 0, 20, 0, 0, 0, 0, 0, 243, 81, 0, 180, 164, 0, 0, 0, 0, 0, 0, 7, 486, 54, 6, 0, 0, 0, 0, 0, 0, 0, 162, 18, 2, 0, 0, 0, 0, 0, 0, 0, 0, 99, 83, 0, 0, 0, 0, 0, 0, 0, 0, 0, 11, 0, 0, 0, 0, 0, 0, 0, 0, 0, 0],
  [0, 5, 11, 2, 54, 1458, 20, 8, 0, 729, 27, 1, 0, 0, 15, 6, 162, 4374, 24, 0, 4, 2187, 81, 3, 0, 0, 0, 18, 486, 13122, 0, 12, 10, 6561, 243, 9, 0, 0, 0, 0, 55, 1459, 9, 3, 1, 730, 28, 0, 0, 0, 0, 0, 0, 1485, 243, 81, 27, 756, 0, 56, 0, 0, 0, 0, 0, 0, 6561, 2187, 729, 0, 1512, 1460, 0, 0, 0, 0, 0, 0, 0, 21, 19, 13122, 486, 18, 0, 0, 0, 0, 0, 0, 0, 0, 7, 4374, 162, 6, 0, 0, 0, 0, 0, 0, 0, 0, 0, 1458, 54, 2, 0, 0, 0, 0, 0, 0, 0, 0, 0, 0, 783, 731, 0, 0, 0, 0, 0, 0, 0, 0, 0, 0, 0, 29, 0, 0, 0, 0, 0, 0, 0, 0, 0, 0, 0, 0],
  [],
  [],
  [],
  [0, 2, 6, 18, 54, 0, 27, 9, 3, 1, 0, 0, 7, 19, 55, 1, 28, 10, 4, 0, 0, 0, 0, 21, 57, 3, 30, 12, 0, 8, 0, 0, 0, 0, 63, 9, 36, 0, 24, 20, 0, 0, 0, 0, 0, 27, 0, 72, 60, 56, 0, 0, 0, 0, 0, 0, 54, 18, 6, 2, 0, 0, 0, 0, 0, 0, 0, 45, 33, 29, 0, 0, 0, 0, 0, 0, 0, 0, 15, 11, 0, 0, 0, 0, 0, 0, 0, 0, 0, 5, 0, 0, 0, 0, 0, 0, 0, 0, 0, 0],
  [0, 5, 2, 18, 162, 1458, 8, 0, 729, 81, 9, 1, 0, 0, 6, 54, 486, 4374, 0, 4, 2187, 243, 27, 3, 0, 0, 0, 19, 163, 1459, 3, 1, 730, 82, 10, 0, 0, 0, 0, 0, 171, 1467, 27, 9, 738, 90, 0, 20, 0, 0, 0, 0, 0, 1539, 243, 81, 810, 0, 180, 164, 0, 0, 0, 0, 0, 0, 2187, 729, 0, 1620, 1476, 1460, 0, 0, 0, 0, 0, 0, 0, 7, 4374, 486, 54, 6, 0, 0, 0, 0, 0, 0, 0, 0, 1458, 162, 18, 2, 0, 0, 0, 0, 0, 0, 0, 0, 0, 891, 747, 731, 0, 0, 0, 0, 0, 0, 0, 0, 0, 0, 99, 83, 0, 0, 0, 0, 0, 0, 0, 0, 0, 0, 0, 11, 0, 0, 0, 0, 0, 0, 0, 0, 0, 0, 0, 0],
  [],
  [],
  [],
  [],
  [0, 2, 6, 18, 54, 162, 0, 81, 27, 9, 3, 1, 0, 0, 7, 19, 55, 163, 1, 82, 28, 10, 4, 0, 0, 0, 0, 21, 57, 165, 3, 84, 30, 12, 0, 8, 0, 0, 0, 0, 63, 171, 9, 90, 36, 0, 24, 20, 0, 0, 0, 0, 0, 189, 27, 108, 0, 72, 60, 56, 0, 0, 0, 0, 0, 0, 81, 0, 216, 180, 168, 164, 0, 0, 0, 0, 0, 0, 0, 162, 54, 18, 6, 2, 0, 0, 0, 0, 0, 0, 0, 0, 135, 99, 87, 83, 0, 0, 0, 0, 0, 0, 0, 0, 0, 45, 33, 29, 0, 0, 0, 0, 0, 0, 0, 0, 0, 0, 15, 11, 0, 0, 0, 0, 0, 0, 0, 0, 0, 0, 0, 5, 0, 0, 0, 0, 0, 0, 0, 0, 0, 0, 0, 0],
  [],
  [],
  [],
  []]
def witL (N k : Nat) : List UInt8 := (List.range N).map fun c => if k / 3 ^ c % 3 = 0 then 46 else if k / 3 ^ c % 3 = 1 then 114 else 102
def witOf (n m p q : Nat) : List UInt8 := witL (n * m) ((aimTab.getD (n * 6 + m) []).getD (p * (2 * (n + m)) + q) 0)
def witB (n m : Nat) : Bool := decide (9 < n * m) || (List.range (2 * (n + m))).all fun p => (List.range (2 * (n + m))).all fun q => decide (q ≤ p) || bend_ n m (lett m (witOf n m p q)) p == q
set_option maxRecDepth 1000000 in
theorem wit_sizes : ∀ n, n < 6 → ∀ m, m < 6 → 1 ≤ n → 1 ≤ m → witB n m = true := by decide +kernel
theorem wit_all {n m p q : Nat} (hn5 : n ≤ 5) (hm5 : m ≤ 5) (hn : 1 ≤ n) (hm : 1 ≤ m) (h9 : n * m ≤ 9) (hp : p < 2 * (n + m)) (hq : q < 2 * (n + m)) (hpq : p < q) : bend_ n m (lett m (witOf n m p q)) p = q := by
  have h := wit_sizes n (by omega) m (by omega) hn hm
  unfold witB at h
  rw [decide_eq_false (by omega), Bool.false_or] at h
  have h2 := List.all_eq_true.1 (List.all_eq_true.1 h p (List.mem_range.2 hp)) q (List.mem_range.2 hq)
  rw [decide_eq_false (by omega), Bool.false_or] at h2
  exact eq_of_beq h2
theorem wit_let {n m p q c : Nat} (hc : c < n * m) : (witOf n m p q).getD c 0 = 46 ∨ (witOf n m p q).getD c 0 = 114 ∨ (witOf n m p q).getD c 0 = 102 := by
  unfold witOf witL
  rw [List.getD_eq_getElem?_getD, List.getElem?_map, List.getElem?_range hc]
  show (if _ then _ else if _ then _ else _ : UInt8) = 46 ∨ (if _ then _ else if _ then _ else _ : UInt8) = 114 ∨ (if _ then _ else if _ then _ else _ : UInt8) = 102
  split
  · exact .inl rfl
  · split
    · exact .inr (.inl rfl)
    · exact .inr (.inr rfl)
/-- Each two different ports can be aimed at each other. -/
theorem aim_reach {n m p q : Nat} (hn : 1 ≤ n) (hn5 : n ≤ 5) (hm : 1 ≤ m) (hm5 : m ≤ 5) (h9 : n * m ≤ 9) (hp : p < 2 * (n + m)) (hq : q < 2 * (n + m)) (hpq : p ≠ q) : ∃ ls : List UInt8, (∀ c, c < n * m → ls.getD c 0 = 46 ∨ ls.getD c 0 = 114 ∨ ls.getD c 0 = 102) ∧ bend_ n m (lett m ls) p = q := by
  by_cases h : p < q
  · exact ⟨witOf n m p q, fun c hc => wit_let hc, wit_all hn5 hm5 hn hm h9 hp hq h⟩
  · have e := wit_all hn5 hm5 hn hm h9 hq hp (show q < p by omega)
    refine ⟨witOf n m q p, fun c hc => wit_let hc, ?_⟩
    have := (back_facts (t := lett m (witOf n m q p)) hn hm hq).2
    rw [e] at this
    exact this
theorem apart_le (N : Nat) (fx : Nat → Bool) (ls ls' : List UInt8) : apartN N fx ls ls' ≤ N := by
  unfold apartN
  induction N with
  | zero => exact Nat.le_refl _
  | succ N ih =>
    have h : (if fx N = false ∧ ls.getD N 0 ≠ ls'.getD N 0 then 1 else 0 : Nat) ≤ 1 := by split <;> omega
    show sumN _ N + (if fx N = false ∧ ls.getD N 0 ≠ ls'.getD N 0 then 1 else 0) ≤ N + 1
    omega
/-- The least cost is at most the number of cells: the bound does not matter. -/
theorem aim_cells {S n m p q f : Nat} {ls : List UInt8} (hn : 1 ≤ n) (hn5 : n ≤ 5) (hm : 1 ≤ m) (hm5 : m ≤ 5) (h9 : n * m ≤ 9) (hp : p < 2 * (n + m)) (hq : q < 2 * (n + m)) (hpq : p ≠ q) (hl : n * m ≤ ls.length) (hf : 4 * (n * m) < f) : aimA S n m q f ls (fun _ => false) (entr n m p) ≤ n * m := by
  obtain ⟨ls', h1, h2⟩ := aim_reach hn hn5 hm hm5 h9 hp hq hpq
  have hlt := blen_lt (n := n) (m := m) (t := lett m ls') hp
  have hb := (bend_facts (t := lett m ls') hn hm hp).1
  rw [h2] at hb
  exact Nat.le_trans (aim_wit h1 f (blen n m (lett m ls') p) ls _ _ hl (fun _ _ h => by cases h) (by omega) (fun j hj => blen_in hj) (blen_out hp) hb.symm) (apart_le _ _ _ _)
/-- Two bounds, both above the number of cells. -/
theorem aim_any {s S n m p q f g : Nat} {ls : List UInt8} (hn : 1 ≤ n) (hn5 : n ≤ 5) (hm : 1 ≤ m) (hm5 : m ≤ 5) (h9 : n * m ≤ 9) (hp : p < 2 * (n + m)) (hq : q < 2 * (n + m)) (hpq : p ≠ q) (hl : n * m ≤ ls.length) (hf : 4 * (n * m) < f) (hg : 4 * (n * m) < g) (hs : n * m ≤ s) (hS : n * m ≤ S) : aimA s n m q f ls (fun _ => false) (entr n m p) = aimA S n m q g ls (fun _ => false) (entr n m p) := by
  have hd : aimD n m (4 * (n * m)) ls (fun _ => false) (entr n m p) := aim_deep (n := n) (m := m) hp (4 * (n * m)) 0 ls (fun _ => false) (by omega) (fun i hi => by omega)
  have e1 := aim_more (S := s) (q := q) (4 * (n * m)) (f - (4 * (n * m) + 1)) ls (fun _ => false) _ hd
  have e2 := aim_more (S := S) (q := q) (4 * (n * m)) (g - (4 * (n * m) + 1)) ls (fun _ => false) _ hd
  rw [show 4 * (n * m) + 1 + (f - (4 * (n * m) + 1)) = f by omega] at e1
  rw [show 4 * (n * m) + 1 + (g - (4 * (n * m) + 1)) = g by omega] at e2
  have c1 := aim_cells (S := s) (ls := ls) hn hn5 hm hm5 h9 hp hq hpq hl hf
  have c2 := aim_cells (S := S) (ls := ls) hn hn5 hm hm5 h9 hp hq hpq hl hg
  rw [e1] at c1 ⊢
  rw [e2] at c2 ⊢
  rcases Nat.le_total s S with h | h
  · have := aim_min (n := n) (m := m) (q := q) h (4 * (n * m) + 1) ls (fun _ => false) (entr n m p)
    omega
  · have := aim_min (n := n) (m := m) (q := q) h (4 * (n * m) + 1) ls (fun _ => false) (entr n m p)
    omega
/-- No cost: the beam itself leads there. -/
theorem aim_zero {S n m q : Nat} (hS : 1 ≤ S) : ∀ (f : Nat) (ls : List UInt8) (fx : Nat → Bool) (x : Wy), n * m ≤ ls.length → aimA S n m q f ls fx x = 0 → ∃ L, L < f ∧ (∀ j, j < L → inG n m (iter (lett m ls) x j)) ∧ ¬ inG n m (iter (lett m ls) x L) ∧ leav n m (iter (lett m ls) x L) = (q : Int)
  | 0, _, _, _, _, h => by
    have h' : S = 0 := h
    omega
  | f + 1, ls, fx, x, hl, h => by
    unfold aimA at h
    by_cases hx : inG n m x
    · rw [if_pos hx] at h
      have hc := cellN_lt hx
      have go : (∃ L, L < f ∧ (∀ j, j < L → inG n m (iter (lett m ls) (nxt (lett m ls) x) j)) ∧ ¬ inG n m (iter (lett m ls) (nxt (lett m ls) x) L) ∧ leav n m (iter (lett m ls) (nxt (lett m ls) x) L) = (q : Int)) → ∃ L, L < f + 1 ∧ (∀ j, j < L → inG n m (iter (lett m ls) x j)) ∧ ¬ inG n m (iter (lett m ls) x L) ∧ leav n m (iter (lett m ls) x L) = (q : Int) := fun ⟨L, h1, h2, h3, h4⟩ => by
        refine ⟨L + 1, by omega, fun j hj => ?_, by rw [iter_succ']; exact h3, by rw [iter_succ']; exact h4⟩
        cases j with
        | zero => exact hx
        | succ j => rw [iter_succ']; exact h2 j (by omega)
      by_cases hf : fx (cellN m x) = true
      · rw [if_pos hf] at h
        exact go (aim_zero hS f ls fx _ hl h)
      · rw [if_neg hf] at h
        have key : ∀ b : UInt8, aimA S n m q f (ls.set (cellN m x) b) (fixC fx (cellN m x)) (nxt (lett m (ls.set (cellN m x) b)) x) + (if ls.getD (cellN m x) 0 = b then 0 else 1) = 0 → ∃ L, L < f + 1 ∧ (∀ j, j < L → inG n m (iter (lett m ls) x j)) ∧ ¬ inG n m (iter (lett m ls) x L) ∧ leav n m (iter (lett m ls) x L) = (q : Int) := fun b hb => by
          by_cases e : ls.getD (cellN m x) 0 = b
          · subst e
            have hs : ls.set (cellN m x) (ls.getD (cellN m x) 0) = ls := by
              apply List.ext_getElem?
              intro k
              by_cases hk : cellN m x = k
              · subst hk
                rw [List.getElem?_set_self (by omega), List.getD_eq_getElem?_getD, List.getElem?_eq_getElem (show cellN m x < ls.length by omega)]
                rfl
              · rw [List.getElem?_set_ne hk]
            rw [hs] at hb
            exact go (aim_zero hS f ls _ _ hl (Nat.add_eq_zero_iff.1 hb).1)
          · rw [if_neg e] at hb
            omega
        by_cases k1 : aimA S n m q f (ls.set (cellN m x) 46) (fixC fx (cellN m x)) (nxt (lett m (ls.set (cellN m x) 46)) x) + (if ls.getD (cellN m x) 0 = 46 then 0 else 1) = 0
        · exact key 46 k1
        · by_cases k2 : aimA S n m q f (ls.set (cellN m x) 114) (fixC fx (cellN m x)) (nxt (lett m (ls.set (cellN m x) 114)) x) + (if ls.getD (cellN m x) 0 = 114 then 0 else 1) = 0
          · exact key 114 k2
          · exact key 102 (by omega)
    · rw [if_neg hx] at h
      by_cases hq : leav n m x = (q : Int)
      · exact ⟨0, by omega, fun j hj => by omega, hx, hq⟩
      · rw [if_neg hq] at h
        omega
/-- The least cost is none just if the beam leads there. -/
theorem aim_none {S n m p q f : Nat} {ls : List UInt8} (hS : 1 ≤ S) (hn : 1 ≤ n) (hm : 1 ≤ m) (hp : p < 2 * (n + m)) (hl : n * m ≤ ls.length) (hf : 4 * (n * m) < f) (hb : ∀ c, c < n * m → ls.getD c 0 = 46 ∨ ls.getD c 0 = 114 ∨ ls.getD c 0 = 102) : aimA S n m q f ls (fun _ => false) (entr n m p) = 0 ↔ bend_ n m (lett m ls) p = q := by
  have hlt := blen_lt (n := n) (m := m) (t := lett m ls) hp
  have hbf := (bend_facts (t := lett m ls) hn hm hp).1
  constructor
  · intro h
    obtain ⟨L, _, h2, h3, h4⟩ := aim_zero hS f ls _ _ hl h
    have e := blen_of (n := n) (m := m) (t := lett m ls) hp h2 h3
    rw [e] at hbf
    have : ((bend_ n m (lett m ls) p : Nat) : Int) = (q : Int) := hbf.trans h4
    omega
  · intro h
    rw [h] at hbf
    have h1 := aim_wit (S := S) (q := q) hb f (blen n m (lett m ls) p) ls (fun _ => false) (entr n m p) hl (fun _ _ h => by cases h) (by omega) (fun j hj => blen_in hj) (blen_out hp) hbf.symm
    have h2 : apartN (n * m) (fun _ => false) ls ls = 0 := by
      unfold apartN
      rw [sumN_congr (n * m) (g := fun _ => 0) (fun c _ => if_neg (fun h => h.2 rfl))]
      generalize n * m = N
      induction N with
      | zero => rfl
      | succ N ih => show sumN _ N + 0 = 0; rw [ih]
    omega
end Go.Proofs.Ytminailbhgimkaa
