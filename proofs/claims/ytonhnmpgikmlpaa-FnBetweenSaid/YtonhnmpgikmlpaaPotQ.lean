/- Paths that cross: each path has two sides, told at the corners of cells; another path changes sides just where it crosses. Rounds are crossed an even number of times. No program is named. -/
import Derived.Test.YtonhnmpgikmlpaaLenQ
namespace Go.Proofs.Ytonhnmpgikmlpaa

/-- Exclusive or of the first ones. -/
def xr (f : Nat → Bool) : Nat → Bool
  | 0 => false
  | k + 1 => xr f k ^^ f k
theorem xr_parity (f : Nat → Bool) : ∀ k, xr f k = decide ((List.range k).countP f % 2 = 1)
  | 0 => by simp [xr]
  | k + 1 => by
    rw [xr, xr_parity f k, List.range_succ, List.countP_append, List.countP_cons, List.countP_nil]
    generalize (List.range k).countP f = c
    cases f k
    · simp
    · rcases Nat.mod_two_eq_zero_or_one c with h | h
      · simp [h]; omega
      · simp [h]; omega
theorem xr_congr {f g : Nat → Bool} : ∀ k, (∀ j, j < k → f j = g j) → xr f k = xr g k
  | 0, _ => rfl
  | k + 1, h => by rw [xr, xr, xr_congr k (fun j hj => h j (by omega)), h k (by omega)]
/-- Ways that go on together, there and back. -/
structure WSet (n m : Nat) (t : Int → Int → UInt8) (S : Wy → Bool) : Prop where
  rv : ∀ x, x.d < 4 → inG n m x → S (rev t x) = S x
  nx : ∀ x, x.d < 4 → inG n m x → inG n m (nxt t x) → S (nxt t x) = S x
section
variable {n m : Nat} {t : Int → Int → UInt8} {S : Wy → Bool}
/-- Is the edge above, or to the left, gone through? -/
def heB (n : Nat) (S : Wy → Bool) (i k : Nat) : Bool := if i < n then S ⟨i, k, 2⟩ else S ⟨(n : Int) - 1, k, 0⟩
def veB (m : Nat) (S : Wy → Bool) (i k : Nat) : Bool := if k < m then S ⟨i, k, 1⟩ else S ⟨i, (m : Int) - 1, 3⟩
/-- The side on which a corner lies. -/
def colB (n m : Nat) (S : Wy → Bool) (i k : Nat) : Bool := xr (heB n S 0) k ^^ xr (fun j => veB m S j k) i
theorem WSet.up (W : WSet n m t S) {i k : Nat} (hi : i < n) (hk : k < m) : heB n S (i + 1) k = S ⟨i, k, 0⟩ := by
  unfold heB
  by_cases h : i + 1 < n
  · rw [if_pos h]
    have hin : inG n m ⟨i, k, 0⟩ := ⟨by show (0 : Int) ≤ (i : Int); omega, by show (i : Int) < (n : Int); omega, by show (0 : Int) ≤ (k : Int); omega, by show (k : Int) < (m : Int); omega⟩
    have e1 := W.rv ⟨i, k, 0⟩ (Nat.zero_lt_succ 3) hin
    have e3 : nxt t (rev t ⟨i, k, 0⟩) = ⟨((i + 1 : Nat) : Int), k, 2⟩ := by
      rw [nxt_rev (Nat.zero_lt_succ 3)]
      refine Wy.eq ?_ ?_ rfl <;> simp [stepI, stepK, opp]
    have e2 := W.nx (rev t ⟨i, k, 0⟩) (rev_d _) (rev_in.2 hin) (by rw [e3]; exact ⟨by show (0 : Int) ≤ ((i + 1 : Nat) : Int); omega, by show ((i + 1 : Nat) : Int) < (n : Int); omega, by show (0 : Int) ≤ (k : Int); omega, by show (k : Int) < (m : Int); omega⟩)
    rw [e3] at e2
    rw [e2, e1]
  · rw [if_neg h, show (n : Int) - 1 = (i : Int) by omega]
theorem WSet.left (W : WSet n m t S) {i k : Nat} (hi : i < n) (hk : k < m) : veB m S i (k + 1) = S ⟨i, k, 3⟩ := by
  unfold veB
  by_cases h : k + 1 < m
  · rw [if_pos h]
    have hin : inG n m ⟨i, k, 3⟩ := ⟨by show (0 : Int) ≤ (i : Int); omega, by show (i : Int) < (n : Int); omega, by show (0 : Int) ≤ (k : Int); omega, by show (k : Int) < (m : Int); omega⟩
    have h3 : (⟨i, k, 3⟩ : Wy).d < 4 := Nat.lt_succ_self 3
    have e1 := W.rv ⟨i, k, 3⟩ h3 hin
    have e3 : nxt t (rev t ⟨i, k, 3⟩) = ⟨i, ((k + 1 : Nat) : Int), 1⟩ := by
      rw [nxt_rev h3]
      refine Wy.eq ?_ ?_ rfl <;> simp [stepI, stepK, opp]
    have e2 := W.nx (rev t ⟨i, k, 3⟩) (rev_d _) (rev_in.2 hin) (by rw [e3]; exact ⟨by show (0 : Int) ≤ (i : Int); omega, by show (i : Int) < (n : Int); omega, by show (0 : Int) ≤ ((k + 1 : Nat) : Int); omega, by show ((k + 1 : Nat) : Int) < (m : Int); omega⟩)
    rw [e3] at e2
    rw [e2, e1]
  · rw [if_neg h, show (m : Int) - 1 = (k : Int) by omega]
theorem he_top {i k : Nat} (hi : i < n) : heB n S i k = S ⟨i, k, 2⟩ := if_pos hi
theorem ve_left {i k : Nat} (hk : k < m) : veB m S i k = S ⟨i, k, 1⟩ := if_pos hk
/-- A cell's four sides: an even number is gone through. -/
theorem WSet.even (W : WSet n m t S) {i k : Nat} (hi : i < n) (hk : k < m) : (S ⟨i, k, 2⟩ ^^ S ⟨i, k, 3⟩) = (S ⟨i, k, 1⟩ ^^ S ⟨i, k, 0⟩) := by
  have hin : ∀ d, inG n m ⟨i, k, d⟩ := fun d => ⟨by show (0 : Int) ≤ (i : Int); omega, by show (i : Int) < (n : Int); omega, by show (0 : Int) ≤ (k : Int); omega, by show (k : Int) < (m : Int); omega⟩
  have hr : ∀ d, d < 4 → S ⟨i, k, opp (bend (t i k) d)⟩ = S ⟨i, k, d⟩ := fun d hd => W.rv ⟨i, k, d⟩ hd (hin d)
  have r0 := hr 0 (by decide)
  have r1 := hr 1 (by decide)
  have r2 := hr 2 (by decide)
  by_cases h1 : t i k = 114
  · rw [h1] at r0 r1
    simp [bend_r, opp] at r0 r1
    rw [r0, r1]
  · by_cases h2 : t i k = 102
    · rw [h2] at r0 r2
      simp [bend_f, opp] at r0 r2
      rw [r0, r2]
      simp
    · rw [bend_e h1 h2] at r0 r1
      simp [opp] at r0 r1
      rw [r0, r1, Bool.xor_comm]
theorem col_down (i k : Nat) : colB n m S (i + 1) k = (colB n m S i k ^^ veB m S i k) := by
  unfold colB
  rw [xr, Bool.xor_assoc]
theorem WSet.right (W : WSet n m t S) {k : Nat} (hk : k < m) : ∀ i, i ≤ n → colB n m S i (k + 1) = (colB n m S i k ^^ heB n S i k)
  | 0, _ => by
    unfold colB
    rw [xr, xr, xr, Bool.xor_false, Bool.xor_false]
  | i + 1, hi => by
    have ih := W.right hk i (by omega)
    rw [col_down, col_down, ih, W.left (by omega) hk, W.up (by omega) hk, he_top (by omega), ve_left hk]
    have e := W.even (i := i) (k := k) (by omega) hk
    generalize colB n m S i k = c
    generalize S ⟨i, k, 0⟩ = s0 at *
    generalize S ⟨i, k, 1⟩ = s1 at *
    generalize S ⟨i, k, 2⟩ = s2 at *
    generalize S ⟨i, k, 3⟩ = s3 at *
    revert e
    cases c <;> cases s0 <;> cases s1 <;> cases s2 <;> cases s3 <;> decide
/-- The side of the edge by which a way comes in. -/
def sideB (n m : Nat) (S : Wy → Bool) (x : Wy) : Bool := colB n m S (if x.d = 0 then x.i + 1 else x.i).toNat (if x.d = 3 then x.k + 1 else x.k).toNat
/-- The way crosses others in an empty cell. -/
def crB (t : Int → Int → UInt8) (S : Wy → Bool) (x : Wy) : Bool := t x.i x.k == 46 && S ⟨x.i, x.k, (x.d + 1) % 4⟩
theorem WSet.step (W : WSet n m t S) (ht : ∀ i k : Int, 0 ≤ i → i < n → 0 ≤ k → k < m → t i k = 46 ∨ t i k = 114 ∨ t i k = 102) {x : Wy} (hd : x.d < 4) (hx : inG n m x) (hS : S x = false) : sideB n m S (nxt t x) = (sideB n m S x ^^ crB t S x) := by
  obtain ⟨xi, xk, d⟩ := x
  obtain ⟨h1, h2, h3, h4⟩ := hx
  simp only at h1 h2 h3 h4 hd
  obtain ⟨i, rfl⟩ := Int.eq_ofNat_of_zero_le h1
  obtain ⟨k, rfl⟩ := Int.eq_ofNat_of_zero_le h3
  have hi : i < n := by omega
  have hk : k < m := by omega
  have hin : ∀ d, inG n m ⟨i, k, d⟩ := fun d => ⟨h1, h2, h3, h4⟩
  have hr : ∀ d, d < 4 → S ⟨i, k, opp (bend (t i k) d)⟩ = S ⟨i, k, d⟩ := fun d hd => W.rv ⟨i, k, d⟩ hd (hin d)
  have k1 : colB n m S (i + 1) k = (colB n m S i k ^^ S ⟨i, k, 1⟩) := by rw [col_down, ve_left hk]
  have k2 : colB n m S i (k + 1) = (colB n m S i k ^^ S ⟨i, k, 2⟩) := by rw [W.right hk i (by omega), he_top hi]
  have a1 : ((i : Int)).toNat = i := Int.toNat_natCast i
  have a2 : ((i : Int) + 1).toNat = i + 1 := by omega
  have a3 : ((k : Int)).toNat = k := Int.toNat_natCast k
  have a4 : ((k : Int) + 1).toNat = k + 1 := by omega
  have n0 : ∀ d : Nat, sideB n m S ⟨(i : Int) - 1, k, 0⟩ = colB n m S i k := fun _ => by
    show colB n m S ((i : Int) - 1 + 1).toNat ((k : Int)).toNat = _
    rw [show (i : Int) - 1 + 1 = (i : Int) by omega, a1, a3]
  have n1 : sideB n m S ⟨(i : Int), (k : Int) + 1, 1⟩ = (colB n m S i k ^^ S ⟨i, k, 2⟩) := by
    show colB n m S ((i : Int)).toNat ((k : Int) + 1).toNat = _
    rw [a1, a4, k2]
  have n2 : sideB n m S ⟨(i : Int) + 1, (k : Int), 2⟩ = (colB n m S i k ^^ S ⟨i, k, 1⟩) := by
    show colB n m S ((i : Int) + 1).toNat ((k : Int)).toNat = _
    rw [a2, a3, k1]
  have n3 : sideB n m S ⟨(i : Int), (k : Int) - 1, 3⟩ = colB n m S i k := by
    show colB n m S ((i : Int)).toNat ((k : Int) - 1 + 1).toNat = _
    rw [show (k : Int) - 1 + 1 = (k : Int) by omega, a1, a3]
  have m0 : sideB n m S ⟨(i : Int), (k : Int), 0⟩ = (colB n m S i k ^^ S ⟨i, k, 1⟩) := by
    show colB n m S ((i : Int) + 1).toNat ((k : Int)).toNat = _
    rw [a2, a3, k1]
  have m1 : sideB n m S ⟨(i : Int), (k : Int), 1⟩ = colB n m S i k := by
    show colB n m S ((i : Int)).toNat ((k : Int)).toNat = _
    rw [a1, a3]
  have m2 : sideB n m S ⟨(i : Int), (k : Int), 2⟩ = colB n m S i k := by
    show colB n m S ((i : Int)).toNat ((k : Int)).toNat = _
    rw [a1, a3]
  have m3 : sideB n m S ⟨(i : Int), (k : Int), 3⟩ = (colB n m S i k ^^ S ⟨i, k, 2⟩) := by
    show colB n m S ((i : Int)).toNat ((k : Int) + 1).toNat = _
    rw [a1, a4, k2]
  have hn : ∀ d, nxt t ⟨(i : Int), (k : Int), d⟩ = ⟨stepI i (bend (t i k) d), stepK k (bend (t i k) d), bend (t i k) d⟩ := fun _ => rfl
  have hc : ∀ d, crB t S ⟨(i : Int), (k : Int), d⟩ = (t i k == 46 && S ⟨i, k, (d + 1) % 4⟩) := fun _ => rfl
  rw [hn, hc]
  have n0 := n0 0
  rcases ht i k h1 h2 h3 h4 with hb | hb | hb
  · have e1 : S ⟨i, k, 2⟩ = S ⟨i, k, 0⟩ := by have := hr 0 (by decide); rw [hb] at this; exact this
    have e2 : S ⟨i, k, 3⟩ = S ⟨i, k, 1⟩ := by have := hr 1 (by decide); rw [hb] at this; exact this
    rw [hb]
    rcases four hd with rfl | rfl | rfl | rfl
    · show sideB n m S ⟨(i : Int) - 1, k, 0⟩ = (_ ^^ (true && S ⟨i, k, 1⟩)); rw [n0, m0]; clear n0 n1 n2 n3 m0 m1 m2 m3 k1 k2 hr hn hc; revert hS e1 e2; generalize S ⟨(i : Int), (k : Int), 0⟩ = s0; generalize S ⟨(i : Int), (k : Int), 1⟩ = s1; generalize S ⟨(i : Int), (k : Int), 2⟩ = s2; generalize S ⟨(i : Int), (k : Int), 3⟩ = s3; generalize colB n m S i k = c; revert c s0 s1 s2 s3; decide
    · show sideB n m S ⟨(i : Int), (k : Int) + 1, 1⟩ = (_ ^^ (true && S ⟨i, k, 2⟩)); rw [n1, m1]; clear n0 n1 n2 n3 m0 m1 m2 m3 k1 k2 hr hn hc; revert hS e1 e2; generalize S ⟨(i : Int), (k : Int), 0⟩ = s0; generalize S ⟨(i : Int), (k : Int), 1⟩ = s1; generalize S ⟨(i : Int), (k : Int), 2⟩ = s2; generalize S ⟨(i : Int), (k : Int), 3⟩ = s3; generalize colB n m S i k = c; revert c s0 s1 s2 s3; decide
    · show sideB n m S ⟨(i : Int) + 1, k, 2⟩ = (_ ^^ (true && S ⟨i, k, 3⟩)); rw [n2, m2]; clear n0 n1 n2 n3 m0 m1 m2 m3 k1 k2 hr hn hc; revert hS e1 e2; generalize S ⟨(i : Int), (k : Int), 0⟩ = s0; generalize S ⟨(i : Int), (k : Int), 1⟩ = s1; generalize S ⟨(i : Int), (k : Int), 2⟩ = s2; generalize S ⟨(i : Int), (k : Int), 3⟩ = s3; generalize colB n m S i k = c; revert c s0 s1 s2 s3; decide
    · show sideB n m S ⟨(i : Int), (k : Int) - 1, 3⟩ = (_ ^^ (true && S ⟨i, k, 0⟩)); rw [n3, m3]; clear n0 n1 n2 n3 m0 m1 m2 m3 k1 k2 hr hn hc; revert hS e1 e2; generalize S ⟨(i : Int), (k : Int), 0⟩ = s0; generalize S ⟨(i : Int), (k : Int), 1⟩ = s1; generalize S ⟨(i : Int), (k : Int), 2⟩ = s2; generalize S ⟨(i : Int), (k : Int), 3⟩ = s3; generalize colB n m S i k = c; revert c s0 s1 s2 s3; decide
  · have e1 : S ⟨i, k, 3⟩ = S ⟨i, k, 0⟩ := by have := hr 0 (by decide); rw [hb] at this; exact this
    have e2 : S ⟨i, k, 2⟩ = S ⟨i, k, 1⟩ := by have := hr 1 (by decide); rw [hb] at this; exact this
    rw [hb]
    rcases four hd with rfl | rfl | rfl | rfl
    · show sideB n m S ⟨(i : Int), (k : Int) + 1, 1⟩ = (_ ^^ (false && S ⟨i, k, 1⟩)); rw [n1, m0]; clear n0 n1 n2 n3 m0 m1 m2 m3 k1 k2 hr hn hc; revert hS e1 e2; generalize S ⟨(i : Int), (k : Int), 0⟩ = s0; generalize S ⟨(i : Int), (k : Int), 1⟩ = s1; generalize S ⟨(i : Int), (k : Int), 2⟩ = s2; generalize S ⟨(i : Int), (k : Int), 3⟩ = s3; generalize colB n m S i k = c; revert c s0 s1 s2 s3; decide
    · show sideB n m S ⟨(i : Int) - 1, k, 0⟩ = (_ ^^ (false && S ⟨i, k, 2⟩)); rw [n0, m1]; clear n0 n1 n2 n3 m0 m1 m2 m3 k1 k2 hr hn hc; revert hS e1 e2; generalize S ⟨(i : Int), (k : Int), 0⟩ = s0; generalize S ⟨(i : Int), (k : Int), 1⟩ = s1; generalize S ⟨(i : Int), (k : Int), 2⟩ = s2; generalize S ⟨(i : Int), (k : Int), 3⟩ = s3; generalize colB n m S i k = c; revert c s0 s1 s2 s3; decide
    · show sideB n m S ⟨(i : Int), (k : Int) - 1, 3⟩ = (_ ^^ (false && S ⟨i, k, 3⟩)); rw [n3, m2]; clear n0 n1 n2 n3 m0 m1 m2 m3 k1 k2 hr hn hc; revert hS e1 e2; generalize S ⟨(i : Int), (k : Int), 0⟩ = s0; generalize S ⟨(i : Int), (k : Int), 1⟩ = s1; generalize S ⟨(i : Int), (k : Int), 2⟩ = s2; generalize S ⟨(i : Int), (k : Int), 3⟩ = s3; generalize colB n m S i k = c; revert c s0 s1 s2 s3; decide
    · show sideB n m S ⟨(i : Int) + 1, k, 2⟩ = (_ ^^ (false && S ⟨i, k, 0⟩)); rw [n2, m3]; clear n0 n1 n2 n3 m0 m1 m2 m3 k1 k2 hr hn hc; revert hS e1 e2; generalize S ⟨(i : Int), (k : Int), 0⟩ = s0; generalize S ⟨(i : Int), (k : Int), 1⟩ = s1; generalize S ⟨(i : Int), (k : Int), 2⟩ = s2; generalize S ⟨(i : Int), (k : Int), 3⟩ = s3; generalize colB n m S i k = c; revert c s0 s1 s2 s3; decide
  · have e1 : S ⟨i, k, 1⟩ = S ⟨i, k, 0⟩ := by have := hr 0 (by decide); rw [hb] at this; exact this
    have e2 : S ⟨i, k, 3⟩ = S ⟨i, k, 2⟩ := by have := hr 2 (by decide); rw [hb] at this; exact this
    rw [hb]
    rcases four hd with rfl | rfl | rfl | rfl
    · show sideB n m S ⟨(i : Int), (k : Int) - 1, 3⟩ = (_ ^^ (false && S ⟨i, k, 1⟩)); rw [n3, m0]; clear n0 n1 n2 n3 m0 m1 m2 m3 k1 k2 hr hn hc; revert hS e1 e2; generalize S ⟨(i : Int), (k : Int), 0⟩ = s0; generalize S ⟨(i : Int), (k : Int), 1⟩ = s1; generalize S ⟨(i : Int), (k : Int), 2⟩ = s2; generalize S ⟨(i : Int), (k : Int), 3⟩ = s3; generalize colB n m S i k = c; revert c s0 s1 s2 s3; decide
    · show sideB n m S ⟨(i : Int) + 1, k, 2⟩ = (_ ^^ (false && S ⟨i, k, 2⟩)); rw [n2, m1]; clear n0 n1 n2 n3 m0 m1 m2 m3 k1 k2 hr hn hc; revert hS e1 e2; generalize S ⟨(i : Int), (k : Int), 0⟩ = s0; generalize S ⟨(i : Int), (k : Int), 1⟩ = s1; generalize S ⟨(i : Int), (k : Int), 2⟩ = s2; generalize S ⟨(i : Int), (k : Int), 3⟩ = s3; generalize colB n m S i k = c; revert c s0 s1 s2 s3; decide
    · show sideB n m S ⟨(i : Int), (k : Int) + 1, 1⟩ = (_ ^^ (false && S ⟨i, k, 3⟩)); rw [n1, m2]; clear n0 n1 n2 n3 m0 m1 m2 m3 k1 k2 hr hn hc; revert hS e1 e2; generalize S ⟨(i : Int), (k : Int), 0⟩ = s0; generalize S ⟨(i : Int), (k : Int), 1⟩ = s1; generalize S ⟨(i : Int), (k : Int), 2⟩ = s2; generalize S ⟨(i : Int), (k : Int), 3⟩ = s3; generalize colB n m S i k = c; revert c s0 s1 s2 s3; decide
    · show sideB n m S ⟨(i : Int) - 1, k, 0⟩ = (_ ^^ (false && S ⟨i, k, 0⟩)); rw [n0, m3]; clear n0 n1 n2 n3 m0 m1 m2 m3 k1 k2 hr hn hc; revert hS e1 e2; generalize S ⟨(i : Int), (k : Int), 0⟩ = s0; generalize S ⟨(i : Int), (k : Int), 1⟩ = s1; generalize S ⟨(i : Int), (k : Int), 2⟩ = s2; generalize S ⟨(i : Int), (k : Int), 3⟩ = s3; generalize colB n m S i k = c; revert c s0 s1 s2 s3; decide
theorem WSet.path (W : WSet n m t S) (ht : ∀ i k : Int, 0 ≤ i → i < n → 0 ≤ k → k < m → t i k = 46 ∨ t i k = 114 ∨ t i k = 102) {x : Wy} (hd : x.d < 4) : ∀ L, (∀ j, j < L → inG n m (iter t x j) ∧ S (iter t x j) = false) → sideB n m S (iter t x L) = (sideB n m S x ^^ xr (fun j => crB t S (iter t x j)) L)
  | 0, _ => by rw [xr, Bool.xor_false]; rfl
  | L + 1, h => by
    have ih := W.path ht hd L fun j hj => h j (by omega)
    show sideB n m S (nxt t (iter t x L)) = _
    rw [W.step ht (iter_d hd L) (h L (by omega)).1 (h L (by omega)).2, ih, xr, Bool.xor_assoc]
/-- A round is crossed by others an even number of times. -/
theorem WSet.round (W : WSet n m t S) (ht : ∀ i k : Int, 0 ≤ i → i < n → 0 ≤ k → k < m → t i k = 46 ∨ t i k = 114 ∨ t i k = 102) {x : Wy} (hd : x.d < 4) (hon : onR n m t x = true) (hS : ∀ j, S (iter t x j) = false) : (List.range (rlen n m t x)).countP (fun j => crB t S (iter t x j)) % 2 = 0 := by
  have h := W.path ht hd (rlen n m t x) fun j _ => ⟨onR_all hd hon j, hS j⟩
  rw [(rlen_facts hd hon).2.2.1, xr_parity] at h
  generalize (List.range (rlen n m t x)).countP (fun j => crB t S (iter t x j)) = c at *
  rcases Nat.mod_two_eq_zero_or_one c with e | e
  · exact e
  · rw [decide_eq_true e] at h
    cases sideB n m S x <;> simp at h
/-- The side of a port. -/
theorem side_exit {p : Nat} (hn : 1 ≤ n) (hm : 1 ≤ m) (hp : p < 2 * (n + m)) : sideB n m S (bway n m t p (blen n m t p)) = sideB n m S (entr n m (bend_ n m t p)) := by
  obtain ⟨f1, f2, f3⟩ := bend_facts (t := t) hn hm hp
  have hpos := blen_pos (t := t) hn hm hp
  obtain ⟨L, hL⟩ : ∃ L, blen n m t p = L + 1 := ⟨blen n m t p - 1, by omega⟩
  have hin := blen_in (n := n) (m := m) (t := t) (p := p) (j := L) (by omega)
  have hout := blen_out (n := n) (m := m) (t := t) hp
  have hd := bway_d (n := n) (m := m) (t := t) p (L + 1)
  rw [hL] at f1 f3 hout ⊢
  have hnx : bway n m t p (L + 1) = nxt t (bway n m t p L) := rfl
  have hb := bend_lt (t (bway n m t p L).i (bway n m t p L).k) (bway_d (n := n) (m := m) (t := t) p L)
  rw [hnx] at f1 hout hd ⊢
  generalize bend_ n m t p = q at *
  generalize bway n m t p L = x at *
  obtain ⟨xi, xk, d⟩ := x
  obtain ⟨h1, h2, h3, h4⟩ := hin
  unfold nxt at *
  simp only at *
  generalize bend (t xi xk) d = e at *
  unfold sideB
  congr 1
  · unfold entr
    rcases four hb with rfl | rfl | rfl | rfl <;> simp [stepI, stepK, inG, leav] at hout f1 ⊢ <;> (repeat' split) <;> simp_all <;> omega
  · unfold entr
    rcases four hb with rfl | rfl | rfl | rfl <;> simp [stepI, stepK, inG, leav] at hout f1 ⊢ <;> (repeat' split) <;> simp_all <;> omega
end
end Go.Proofs.Ytonhnmpgikmlpaa
