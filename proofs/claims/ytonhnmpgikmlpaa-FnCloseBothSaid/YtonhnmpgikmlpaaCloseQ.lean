/- Two pairings joined in both orders, and closed: as many rounds. -/
import Derived.Test.YtonhnmpgikmlpaaStageQ
import Derived.Test.YtonhnmpgikmlpaaJoinQ
namespace Go.Proofs.Ytonhnmpgikmlpaa

/-- The other seam: from the right of the second one to the left of the first one. -/
def seam2 (n m k q : Nat) : Nat := if 2 * (n + m) + k ≤ q ∧ q < 2 * (n + m) + k + n then 2 * (n + m) - 1 - (q - (2 * (n + m) + k)) else if 2 * (n + m) - n ≤ q ∧ q < 2 * (n + m) then 2 * (n + m) + k + (2 * (n + m) - 1 - q) else q
/-- Two pairings sewn at one seam, then at the other one. -/
theorem two_staged {n m k : Nat} {a b : List Int} (h : TwoOf (n : Int) (m : Int) a (k : Int) b) : Staged (2 * (n + m) + 2 * (n + k)) (2 * (n + (m + k))) (twoS (2 * (n + m)) (mateN a) (mateN b)) (sewT n m (2 * (n + m) + 2 * (n + k))) (seam2 n m k) (nameN n m (2 * (n + m)) (2 * (n + k) - n)) (aroundN n m (2 * (n + m)) (2 * (n + k) - n)) := by
  obtain ⟨la, lb, ha, hb, h1, h2, h3, h4, h5⟩ := two_lens h
  have hsw := twoA_sewn (n := n) (m := m) ha hb (by omega)
  unfold twoA sewA at hsw
  rw [la, lb] at hsw
  have hlo : ∀ q, q < 2 * (n + m) + 2 * (n + k) → (sewT n m (2 * (n + m) + 2 * (n + k)) q = q ↔ q < m ∨ (m + n ≤ q ∧ q < 2 * (n + m) + 2 * (n + k) - n)) := fun q hq => sewT_loose (by omega) hq
  refine ⟨hsw, fun q hq hl => ?_, fun q hq hl => ?_, fun q hq hl => ?_, fun j hj => ?_, fun j hj => ?_⟩
  · have hl := (hlo q hq).1 hl
    have hs2 : seam2 n m k q < 2 * (n + m) + 2 * (n + k) := by unfold seam2; split <;> (try split) <;> omega
    refine ⟨hs2, (hlo _ hs2).2 ?_, ?_⟩
    · unfold seam2; split <;> (try split) <;> omega
    · unfold seam2
      by_cases c1 : 2 * (n + m) + k ≤ q ∧ q < 2 * (n + m) + k + n
      · rw [if_pos c1, if_neg (by omega), if_pos (by omega)]; omega
      · rw [if_neg c1]
        by_cases c2 : 2 * (n + m) - n ≤ q ∧ q < 2 * (n + m)
        · rw [if_pos c2, if_pos (by omega)]; omega
        · rw [if_neg c2, if_neg c1, if_neg c2]
  · have hl := (hlo q hq).1 hl
    have := name_lt (n := n) (m := m) (p := 2 * (n + m)) (r := 2 * (n + k) - n) (i := q) (by omega) (by omega)
    omega
  · have hl := (hlo q hq).1 hl
    exact around_name (by omega)
  · have hl := around_loose (n := n) (m := m) (p := 2 * (n + m)) (r := 2 * (n + k) - n) (j := j) (by omega) (by omega)
    exact ⟨by omega, (hlo _ (by omega)).2 (by omega)⟩
  · exact name_around (by omega) (by omega)
/-- Closing the joined pairing is sewing the other seam. -/
theorem close_staged {n m k : Nat} {a b : List Int} (h : TwoOf (n : Int) (m : Int) a (k : Int) b) :
    roundsTo (2 * (n + (m + k))) (mateN (joinedL n m a b)) (sewT n (m + k) (2 * (n + (m + k)))) (2 * (n + (m + k))) = roundsTo (2 * (n + (m + k))) (stS (2 * (n + m) + 2 * (n + k)) (twoS (2 * (n + m)) (mateN a) (mateN b)) (sewT n m (2 * (n + m) + 2 * (n + k))) (nameN n m (2 * (n + m)) (2 * (n + k) - n)) (aroundN n m (2 * (n + m)) (2 * (n + k) - n))) (stT (seam2 n m k) (nameN n m (2 * (n + m)) (2 * (n + k) - n)) (aroundN n m (2 * (n + m)) (2 * (n + k) - n))) (2 * (n + (m + k))) := by
  obtain ⟨la, lb, ha, hb, h1, h2, h3, h4, h5⟩ := two_lens h
  have S := two_staged h
  have hJ := joinedL_pair h
  have hM := hJ.1.mates_of
  rw [hJ.2] at hM
  have hsw : Sewn (2 * (n + (m + k))) (mateN (joinedL n m a b)) (sewT n (m + k) (2 * (n + (m + k)))) := oneS_sewn (fun i hi => ⟨hM.lt i hi, hM.ne i hi, hM.back i hi⟩) (by omega)
  have hL : joinP n a b = 2 * (n + (m + k)) := by unfold joinP; omega
  refine (SewSym.rounds (φ := id) (ψ := id) ⟨fun _ h => h, fun _ h => h, fun _ _ => rfl, fun _ _ => rfl, fun q hq => ?_, fun q hq => ?_⟩ S.second hsw)
  · show mateN (joinedL n m a b) q = stS _ _ _ _ _ q
    unfold joinedL
    rw [hL, listS_mate hq]
    unfold joinS stS twoA sewA
    rw [la, lb]
  · show sewT n (m + k) (2 * (n + (m + k))) q = stT _ _ _ q
    obtain ⟨P, hP⟩ : ∃ P, P = 2 * (n + m) := ⟨_, rfl⟩
    have et : sewT n (m + k) (2 * (n + (m + k))) q = if m + k ≤ q ∧ q < m + k + n then 2 * (n + (m + k)) - 1 - (q - (m + k)) else if 2 * (n + (m + k)) - n ≤ q ∧ q < 2 * (n + (m + k)) then m + k + (2 * (n + (m + k)) - 1 - q) else q := rfl
    rw [et]
    unfold stT
    have st : ∀ x y z, aroundN n m (2 * (n + m)) (2 * (n + k) - n) q = x → seam2 n m k x = y → nameN n m (2 * (n + m)) (2 * (n + k) - n) y = z → nameN n m (2 * (n + m)) (2 * (n + k) - n) (seam2 n m k (aroundN n m (2 * (n + m)) (2 * (n + k) - n) q)) = z := fun x y z h1 h2 h3 => by rw [h1, h2, h3]
    by_cases c1 : q < m
    · rw [if_neg (by omega), if_neg (by omega)]
      refine (st q q q ?_ ?_ ?_).symm
      · unfold aroundN; rw [if_pos c1]
      · unfold seam2; rw [if_neg (by omega), if_neg (by omega)]
      · unfold nameN; rw [if_pos c1]
    · by_cases c2 : q < m + (2 * (n + k) - n)
      · have ha : aroundN n m (2 * (n + m)) (2 * (n + k) - n) q = 2 * (n + m) + (q - m) := by unfold aroundN; rw [if_neg c1, if_pos c2]
        by_cases c3 : m + k ≤ q ∧ q < m + k + n
        · rw [if_pos c3]
          refine (st _ (2 * (n + m) - 1 - (q - m - k)) _ ha ?_ ?_).symm
          · unfold seam2; rw [if_pos (by omega)]; omega
          · unfold nameN; rw [if_neg (by omega), if_neg (by omega)]; omega
        · rw [if_neg c3, if_neg (by omega)]
          refine (st _ (2 * (n + m) + (q - m)) _ ha ?_ ?_).symm
          · unfold seam2; rw [if_neg (by omega), if_neg (by omega)]
          · unfold nameN; rw [if_neg (by omega), if_pos (by omega)]; omega
      · have ha : aroundN n m (2 * (n + m)) (2 * (n + k) - n) q = n + (q - (2 * (n + k) - n)) := by unfold aroundN; rw [if_neg c1, if_neg c2]; omega
        rw [if_neg (by omega)]
        by_cases c3 : 2 * (n + (m + k)) - n ≤ q ∧ q < 2 * (n + (m + k))
        · rw [if_pos c3]
          refine (st _ (2 * (n + m) + k + (2 * (n + (m + k)) - 1 - q)) _ ha ?_ ?_).symm
          · unfold seam2; rw [if_neg (by omega), if_pos (by omega)]; omega
          · unfold nameN; rw [if_neg (by omega), if_pos (by omega)]; omega
        · rw [if_neg c3]
          refine (st _ (n + (q - (2 * (n + k) - n))) _ ha ?_ ?_).symm
          · unfold seam2; rw [if_neg (by omega), if_neg (by omega)]
          · unfold nameN; rw [if_neg (by omega), if_neg (by omega)]; omega
/-- The first one behind the second one. -/
def swap2 (P Q i : Nat) : Nat := if i < P then Q + i else i - P
theorem swap_sym {n m k : Nat} {a b : List Int} (h : TwoOf (n : Int) (m : Int) a (k : Int) b) :
    SewSym (2 * (n + m) + 2 * (n + k)) (twoS (2 * (n + m)) (mateN a) (mateN b)) (bothT (sewT n m (2 * (n + m) + 2 * (n + k))) (seam2 n m k)) (twoS (2 * (n + k)) (mateN b) (mateN a)) (bothT (sewT n k (2 * (n + m) + 2 * (n + k))) (seam2 n k m)) (swap2 (2 * (n + m)) (2 * (n + k))) (swap2 (2 * (n + k)) (2 * (n + m))) := by
  obtain ⟨la, lb, ha, hb, h1, h2, h3, h4, h5⟩ := two_lens h
  have ma := ha.mates_of
  have mb := hb.mates_of
  rw [la] at ma
  rw [lb] at mb
  refine ⟨fun q hq => by unfold swap2; split <;> omega, fun q hq => by unfold swap2; split <;> omega, fun q hq => ?_, fun q hq => ?_, fun q hq => ?_, fun q hq => ?_⟩
  · unfold swap2
    by_cases c : q < 2 * (n + m)
    · rw [if_pos c, if_neg (by omega)]; omega
    · rw [if_neg c, if_pos (by omega)]; omega
  · unfold swap2
    by_cases c : q < 2 * (n + k)
    · rw [if_pos c, if_neg (by omega)]; omega
    · rw [if_neg c, if_pos (by omega)]; omega
  · unfold swap2 twoS
    by_cases c : q < 2 * (n + m)
    · have := ma.lt q c
      rw [if_pos c, if_neg (by omega), if_pos c, if_pos this, Nat.add_sub_cancel_left]
    · have := mb.lt (q - 2 * (n + m)) (by omega)
      rw [if_neg c, if_pos (by omega), if_neg c, if_neg (by omega), Nat.add_sub_cancel_left]
  · have e2 : ∀ m k x, 2 * n + m ≤ 2 * (n + m) + 2 * (n + k) → ∀ N, N = 2 * (n + m) + 2 * (n + k) → x < N → bothT (sewT n m N) (seam2 n m k) x = if m ≤ x ∧ x < m + n then N - 1 - (x - m) else if N - n ≤ x then m + (N - 1 - x) else seam2 n m k x := fun m k x hm N hN hx => by
      by_cases c1 : m ≤ x ∧ x < m + n
      · have h : sewT n m N x = N - 1 - (x - m) := by unfold sewT; rw [if_pos c1]
        unfold bothT
        rw [h, if_neg (by omega), if_pos c1]
      · by_cases c2 : N - n ≤ x
        · have h : sewT n m N x = m + (N - 1 - x) := by unfold sewT; rw [if_neg c1, if_pos ⟨c2, hx⟩]
          unfold bothT
          rw [h, if_neg (by omega), if_neg c1, if_pos c2]
        · have h : sewT n m N x = x := by unfold sewT; rw [if_neg c1, if_neg (by omega)]
          unfold bothT
          rw [if_pos h, if_neg c1, if_neg c2]
    rw [e2 m k q (by omega) _ rfl hq, e2 k m (swap2 (2 * (n + m)) (2 * (n + k)) q) (by omega) (2 * (n + m) + 2 * (n + k)) (by omega) (by unfold swap2; split <;> omega)]
    unfold swap2 seam2
    by_cases c1 : m ≤ q ∧ q < m + n
    · rw [if_pos c1, if_pos (show q < 2 * (n + m) by omega), if_neg (by omega), if_neg (by omega), if_pos (by omega), if_neg (by omega)]; omega
    · rw [if_neg c1]
      by_cases c2 : 2 * (n + m) + 2 * (n + k) - n ≤ q
      · rw [if_pos c2, if_neg (show ¬ q < 2 * (n + m) by omega), if_neg (by omega), if_neg (by omega), if_neg (by omega), if_pos (by omega), if_pos (by omega)]; omega
      · rw [if_neg c2]
        by_cases c3 : 2 * (n + m) + k ≤ q ∧ q < 2 * (n + m) + k + n
        · rw [if_pos c3, if_neg (show ¬ q < 2 * (n + m) by omega), if_pos (by omega), if_pos (by omega)]; omega
        · rw [if_neg c3]
          by_cases c4 : 2 * (n + m) - n ≤ q ∧ q < 2 * (n + m)
          · rw [if_pos c4, if_pos c4.2, if_neg (by omega), if_pos (by omega), if_neg (by omega)]; omega
          · rw [if_neg c4]
            by_cases c5 : q < 2 * (n + m)
            · simp only [if_pos c5]
              rw [if_neg (by omega), if_neg (by omega), if_neg (by omega), if_neg (by omega)]
            · simp only [if_neg c5]
              rw [if_neg (by omega), if_neg (by omega), if_neg (by omega), if_neg (by omega)]
/-- Joined in both orders, and closed. -/
theorem close_both {n m k : Nat} {a b : List Int} (h : TwoOf (n : Int) (m : Int) a (k : Int) b) (h' : TwoOf (n : Int) (k : Int) b (m : Int) a) :
    roundsTo (2 * (n + (m + k))) (mateN (joinedL n m a b)) (sewT n (m + k) (2 * (n + (m + k)))) (2 * (n + (m + k))) + joinedR n m a b = roundsTo (2 * (n + (k + m))) (mateN (joinedL n k b a)) (sewT n (k + m) (2 * (n + (k + m)))) (2 * (n + (k + m))) + joinedR n k b a := by
  obtain ⟨la, lb, ha, hb, h1, h2, h3, h4, h5⟩ := two_lens h
  have S := two_staged h
  have S' := two_staged h'
  have e1 : joinedR n m a b = roundsTo (2 * (n + m) + 2 * (n + k)) (twoS (2 * (n + m)) (mateN a) (mateN b)) (sewT n m (2 * (n + m) + 2 * (n + k))) (2 * (n + m) + 2 * (n + k)) := by unfold joinedR twoA sewA; rw [la, lb]
  have e2 : joinedR n k b a = roundsTo (2 * (n + k) + 2 * (n + m)) (twoS (2 * (n + k)) (mateN b) (mateN a)) (sewT n k (2 * (n + k) + 2 * (n + m))) (2 * (n + k) + 2 * (n + m)) := by unfold joinedR twoA sewA; rw [la, lb]
  have r1 := S.rounds
  have r2 := S'.rounds
  have hb1 := S.both
  have hb2 := S'.both
  rw [Nat.add_comm (2 * (n + k)) (2 * (n + m))] at r2 hb2 e2
  have hs := (swap_sym h).rounds hb1 hb2
  rw [close_staged h, close_staged h', e1, e2, Nat.add_comm (2 * (n + k)) (2 * (n + m))]
  omega
end Go.Proofs.Ytonhnmpgikmlpaa
