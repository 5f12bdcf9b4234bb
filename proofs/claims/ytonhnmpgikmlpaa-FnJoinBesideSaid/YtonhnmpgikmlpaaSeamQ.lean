/- Two grids beside each other, columns of a grid: pairs and rounds by joining. -/
import Derived.Test.YtonhnmpgikmlpaaSeamR
import Derived.Test.YtonhnmpgikmlpaaSewQ
import Derived.Test.YtonhnmpgikmlpaaJoinN
import Derived.Test.YtonhnmpgikmlpaaBunP
import Derived.Test.YtonhnmpgikmlpaaSymB
namespace Go.Proofs.Ytonhnmpgikmlpaa

theorem pairs_same {n m : Nat} {t t' : Int → Int → UInt8} (h : ∀ i k : Int, 0 ≤ i → i < n → 0 ≤ k → k < m → t' i k = t i k) (hn : 1 ≤ n) (hm : 1 ≤ m) : pairsR n m t' = pairsR n m t := by
  unfold pairsR
  refine List.map_congr_left fun p hp => ?_
  rw [beam_agree h hn hm (List.mem_range.1 hp)]
section
variable {n m k : Nat} {tg th to : Int → Int → UInt8}
theorem pairs_at {n m q : Nat} {t : Int → Int → UInt8} (hq : q < 2 * (n + m)) : mateN (pairsR n m t) q = bend_ n m t q := listS_mate (s := bend_ n m t) hq
/-- Both tell the same partners. -/
theorem two_sym : SewSym (2 * (n + m) + 2 * (n + k)) (endS n m k tg th) (seamT n m k) (twoS (2 * (n + m)) (mateN (pairsR n m tg)) (mateN (pairsR n k th))) (sewT n m (2 * (n + m) + 2 * (n + k))) id id where
  flt _ h := h
  glt _ h := h
  gf _ _ := rfl
  fg _ _ := rfl
  hs q hq := by
    show twoS _ _ _ q = twoS _ _ _ q
    unfold twoS
    by_cases h : q < 2 * (n + m)
    · rw [if_pos h, if_pos h, pairs_at h]
    · rw [if_neg h, if_neg h, pairs_at (by omega)]
  ht _ _ := rfl
theorem two_sewn (hn : 1 ≤ n) (hm : 1 ≤ m) (hk : 1 ≤ k) : Sewn (2 * (n + m) + 2 * (n + k)) (twoS (2 * (n + m)) (mateN (pairsR n m tg)) (mateN (pairsR n k th))) (sewT n m (2 * (n + m) + 2 * (n + k))) := by
  have h : ∀ {n m : Nat} {t : Int → Int → UInt8}, 1 ≤ n → 1 ≤ m → ∀ i, i < 2 * (n + m) → mateN (pairsR n m t) i < 2 * (n + m) ∧ mateN (pairsR n m t) i ≠ i ∧ mateN (pairsR n m t) (mateN (pairsR n m t) i) = i := fun {n m t} hn hm i hi => by
    have hb := (bend_facts (t := t) hn hm hi).2.1
    rw [pairs_at hi, pairs_at hb]
    refine ⟨hb, fun e => ?_, (back_facts hn hm hi).2⟩
    have hpos := blen_pos (t := t) hn hm hi
    have h0 := bway_back (t := t) hn hm hi 0 (by omega)
    rw [e] at h0
    exact bway_ne_rev 0 (blen n m t i - 1 - 0) (by omega) (by omega) h0
  exact twoS_sewn (h hn hm) (h hn hk) (by omega)
/-- The pairs of two grids beside each other: joined. -/
theorem Beside2.pairs (B : Beside2 n m k tg th to) (hn : 1 ≤ n) (hm : 1 ≤ m) (hk : 1 ≤ k) : joinedL n m (pairsR n m tg) (pairsR n k th) = pairsR n (m + k) to := by
  have hL : joinP n (pairsR n m tg) (pairsR n k th) = 2 * (n + (m + k)) := by unfold joinP; rw [pairsR_length, pairsR_length]; omega
  unfold joinedL
  rw [hL]
  refine (listS_all (pairsR_length _ _ _) fun j hj => ?_).symm
  rw [pairsR_at hj]
  congr 2
  unfold joinS twoA sewA
  rw [pairsR_length, pairsR_length]
  have hal := around_loose (n := n) (m := m) (p := 2 * (n + m)) (r := 2 * (n + k) - n) (j := j) (by omega) (by omega)
  have hna := name_around (n := n) (m := m) (p := 2 * (n + m)) (r := 2 * (n + k) - n) (j := j) (by omega) (by omega)
  have hb := B.beam hn hm hk hal
  have hS := (two_sym (tg := tg) (th := th)).pend (endS_sewn hn hm hk) (p := aroundN n m (2 * (n + m)) (2 * (n + k) - n) j) (by omega)
  rw [hna] at hb
  have hS2 : pend (2 * (n + m) + 2 * (n + k)) (twoS (2 * (n + m)) (mateN (pairsR n m tg)) (mateN (pairsR n k th))) (sewT n m (2 * (n + m) + 2 * (n + k))) (aroundN n m (2 * (n + m)) (2 * (n + k) - n) j) = pend (2 * (n + m) + 2 * (n + k)) (endS n m k tg th) (seamT n m k) (aroundN n m (2 * (n + m)) (2 * (n + k) - n) j) := hS
  rw [hS2]
  exact hb
/-- Their rounds: of both, and those that come. -/
theorem Beside2.many (B : Beside2 n m k tg th to) (hn : 1 ≤ n) (hm : 1 ≤ m) (hk : 1 ≤ k) : (leads n (m + k) to).length = (leads n m tg).length + (leads n k th).length + joinedR n m (pairsR n m tg) (pairsR n k th) := by
  rw [B.rounds hn hm hk]
  congr 1
  unfold joinedR twoA sewA
  rw [pairsR_length, pairsR_length]
  exact ((two_sym (tg := tg) (th := th)).rounds (endS_sewn hn hm hk) (two_sewn hn hm hk)).symm
end
end Go.Proofs.Ytonhnmpgikmlpaa
