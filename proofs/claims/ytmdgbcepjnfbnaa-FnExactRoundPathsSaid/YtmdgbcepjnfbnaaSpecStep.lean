/- The specification's single steps of a beam, each by its contract. -/
import Derived.Test.YtmdgbcepjnfbnaaBeamN
import Derived.Test.YtmdgbcepjnfbnaaKit1
namespace Go.Proofs.Ytmdgbcepjnfbnaa
open Go.RowKit

theorem l2Ports_any (n m : Nat) (w : World) (hn : n ≤ 5) (hm : m ≤ 5) :
    Calls Try.prog 129 #[.int .i64 n, .int .i64 m] w fun e w' => e = .returned (.int .i64 (2 * ((n : Int) + (m : Int)))) ∧ w = w' := by
  go_enter Try.func129, Try.ntmps129
  go_wp2
  go_ret
  exact ⟨rfl, rfl⟩

/-- A way as three results. -/
def wayT (x : Wy) : Value := .tuple #[.int .i64 x.i, .int .i64 x.k, .int .i64 ((x.d : Nat) : Int)]

set_option maxRecDepth 100000 in
set_option maxHeartbeats 1000000 in
theorem l2Enter_any (n m p : Nat) (w : World) (hn : n ≤ 5) (hm : m ≤ 5) (hp : p < 2 * (n + m)) :
    Calls Try.prog 148 #[.int .i64 n, .int .i64 m, .int .i64 p] w fun e w' => e = .returned (wayT (entr n m p)) ∧ w = w' := by
  have HP := hid (fun w => l2Ports_any n m w hn hm)
  unfold entr
  by_cases c1 : p < m
  · rw [if_pos c1]
    have c1' : (p : Int) < (m : Int) := by omega
    clear c1
    go_enter Try.func148, Try.ntmps148
    go_wp2
    go_ret3
    exact ⟨rfl, rfl⟩
  rw [if_neg c1]
  have c1' : ¬ (p : Int) < (m : Int) := by omega
  by_cases c2 : p < m + n
  · rw [if_pos c2]
    have c2' : (p : Int) < (m : Int) + (n : Int) := by omega
    clear c1 c2
    go_enter Try.func148, Try.ntmps148
    go_wp2
    go_ret3
    exact ⟨rfl, rfl⟩
  rw [if_neg c2]
  have c2' : ¬ (p : Int) < (m : Int) + (n : Int) := by omega
  by_cases c3 : p < 2 * m + n
  · rw [if_pos c3]
    have c3' : (p : Int) < 2 * (m : Int) + (n : Int) := by omega
    clear c1 c2 c3
    go_enter Try.func148, Try.ntmps148
    go_wp2
    go_ret3
    exact ⟨rfl, rfl⟩
  rw [if_neg c3]
  have c3' : ¬ (p : Int) < 2 * (m : Int) + (n : Int) := by omega
  clear c1 c2 c3
  go_enter Try.func148, Try.ntmps148
  go_wp2_with fail
  refine (HP.out _).mono ?_
  rintro e w' ⟨rfl, rfl⟩
  go_wp2
  go_ret3
  exact ⟨rfl, rfl⟩

set_option maxRecDepth 100000 in
set_option maxHeartbeats 1000000 in
theorem l2Bend_any (b : UInt8) (d : Nat) (hd : d < 4) (w : World) :
    Calls Try.prog 117 #[.int .u8 b.toNat, .int .i64 d] w fun e w' => e = .returned (.int .i64 ((bend b d : Nat) : Int)) ∧ w = w' := by
  by_cases h1 : b = 114
  · subst h1
    rcases four hd with rfl | rfl | rfl | rfl
    · have hx : bits .xor .i64 0 1 = 1 := by decide
      change Calls Try.prog 117 #[.int .u8 114, .int .i64 0] w fun e w' => e = .returned (.int .i64 1) ∧ w = w'
      go_enter Try.func117, Try.ntmps117
      go_wp2
      go_ret
      exact ⟨by first | rfl | (rw [hx]), rfl⟩
    · have hx : bits .xor .i64 1 1 = 0 := by decide
      change Calls Try.prog 117 #[.int .u8 114, .int .i64 1] w fun e w' => e = .returned (.int .i64 0) ∧ w = w'
      go_enter Try.func117, Try.ntmps117
      go_wp2
      go_ret
      exact ⟨by first | rfl | (rw [hx]), rfl⟩
    · have hx : bits .xor .i64 2 1 = 3 := by decide
      change Calls Try.prog 117 #[.int .u8 114, .int .i64 2] w fun e w' => e = .returned (.int .i64 3) ∧ w = w'
      go_enter Try.func117, Try.ntmps117
      go_wp2
      go_ret
      exact ⟨by first | rfl | (rw [hx]), rfl⟩
    · have hx : bits .xor .i64 3 1 = 2 := by decide
      change Calls Try.prog 117 #[.int .u8 114, .int .i64 3] w fun e w' => e = .returned (.int .i64 2) ∧ w = w'
      go_enter Try.func117, Try.ntmps117
      go_wp2
      go_ret
      exact ⟨by first | rfl | (rw [hx]), rfl⟩
  by_cases h2 : b = 102
  · subst h2
    rcases four hd with rfl | rfl | rfl | rfl
    · change Calls Try.prog 117 #[.int .u8 102, .int .i64 0] w fun e w' => e = .returned (.int .i64 3) ∧ w = w'
      go_enter Try.func117, Try.ntmps117
      go_wp2
      go_ret
      exact ⟨rfl, rfl⟩
    · change Calls Try.prog 117 #[.int .u8 102, .int .i64 1] w fun e w' => e = .returned (.int .i64 2) ∧ w = w'
      go_enter Try.func117, Try.ntmps117
      go_wp2
      go_ret
      exact ⟨rfl, rfl⟩
    · change Calls Try.prog 117 #[.int .u8 102, .int .i64 2] w fun e w' => e = .returned (.int .i64 1) ∧ w = w'
      go_enter Try.func117, Try.ntmps117
      go_wp2
      go_ret
      exact ⟨rfl, rfl⟩
    · change Calls Try.prog 117 #[.int .u8 102, .int .i64 3] w fun e w' => e = .returned (.int .i64 0) ∧ w = w'
      go_enter Try.func117, Try.ntmps117
      go_wp2
      go_ret
      exact ⟨rfl, rfl⟩
  rw [bend_e h1 h2]
  have e1 : ((b.toNat : Int) == 114) = false := by
    rw [beq_eq_false_iff_ne]; intro e; exact h1 (UInt8.toNat_inj.1 (by show b.toNat = 114; omega))
  have e2 : ((b.toNat : Int) == 102) = false := by
    rw [beq_eq_false_iff_ne]; intro e; exact h2 (UInt8.toNat_inj.1 (by show b.toNat = 102; omega))
  clear h1 h2
  generalize (b.toNat : Int) = x at e1 e2
  go_enter Try.func117, Try.ntmps117
  go_wp2
  go_ret
  exact ⟨rfl, rfl⟩

set_option maxRecDepth 100000 in
set_option maxHeartbeats 1000000 in
theorem l2Step_any (i k : Int) (d : Nat) (hd : d < 4) (hi : -100 ≤ i ∧ i ≤ 100) (hk : -100 ≤ k ∧ k ≤ 100) (w : World) :
    Calls Try.prog 118 #[.int .i64 i, .int .i64 k, .int .i64 d] w fun e w' => e = .returned (.tuple #[.int .i64 (stepI i d), .int .i64 (stepK k d)]) ∧ w = w' := by
  obtain ⟨i1, i2⟩ := hi
  obtain ⟨k1, k2⟩ := hk
  rcases four hd with rfl | rfl | rfl | rfl
  · change Calls Try.prog 118 #[.int .i64 i, .int .i64 k, .int .i64 0] w fun e w' => e = .returned (.tuple #[.int .i64 (i - 1), .int .i64 (k)]) ∧ w = w'
    go_enter Try.func118, Try.ntmps118
    go_wp2
    go_ret2
    exact ⟨rfl, rfl⟩
  · change Calls Try.prog 118 #[.int .i64 i, .int .i64 k, .int .i64 1] w fun e w' => e = .returned (.tuple #[.int .i64 (i), .int .i64 (k + 1)]) ∧ w = w'
    go_enter Try.func118, Try.ntmps118
    go_wp2
    go_ret2
    exact ⟨rfl, rfl⟩
  · change Calls Try.prog 118 #[.int .i64 i, .int .i64 k, .int .i64 2] w fun e w' => e = .returned (.tuple #[.int .i64 (i + 1), .int .i64 (k)]) ∧ w = w'
    go_enter Try.func118, Try.ntmps118
    go_wp2
    go_ret2
    exact ⟨rfl, rfl⟩
  · change Calls Try.prog 118 #[.int .i64 i, .int .i64 k, .int .i64 3] w fun e w' => e = .returned (.tuple #[.int .i64 (i), .int .i64 (k - 1)]) ∧ w = w'
    go_enter Try.func118, Try.ntmps118
    go_wp2
    go_ret2
    exact ⟨rfl, rfl⟩

set_option maxRecDepth 100000 in
set_option maxHeartbeats 1000000 in
theorem l2Leave_in (n m : Nat) (x : Wy) (hx : inG n m x) (w : World) :
    Calls Try.prog 119 #[.int .i64 n, .int .i64 m, .int .i64 x.i, .int .i64 x.k] w fun e w' => e = .returned (.int .i64 (-1)) ∧ w = w' := by
  obtain ⟨h1, h2, h3, h4⟩ := hx
  generalize x.i = i at *
  generalize x.k = k at *
  have g1 : ¬ i < 0 := by omega
  have g2 : ¬ (m : Int) ≤ k := by omega
  have g3 : ¬ (n : Int) ≤ i := by omega
  have g4 : ¬ k < 0 := by omega
  clear h1 h2 h3 h4
  go_enter Try.func119, Try.ntmps119
  go_wp2
  go_ret
  exact ⟨rfl, rfl⟩

set_option maxRecDepth 100000 in
set_option maxHeartbeats 1000000 in
theorem l2Leave_out (n m : Nat) (t : Int → Int → UInt8) (y : Wy) (hd : y.d < 4) (hi : inG n m y) (ho : ¬ inG n m (nxt t y)) (hn : n ≤ 5) (hm : m ≤ 5) (w : World) :
    Calls Try.prog 119 #[.int .i64 n, .int .i64 m, .int .i64 (nxt t y).i, .int .i64 (nxt t y).k] w fun e w' => e = .returned (.int .i64 (leav n m (nxt t y))) ∧ w = w' := by
  have HP := hid (fun w => l2Ports_any n m w hn hm)
  obtain ⟨h1, h2, h3, h4⟩ := hi
  have hb := bend_lt (t y.i y.k) hd
  unfold nxt at *
  generalize bend (t y.i y.k) y.d = e at *
  unfold inG at ho
  generalize y.i = i at *
  generalize y.k = k at *
  rcases four hb with rfl | rfl | rfl | rfl
  · simp only [stepI, stepK] at ho ⊢
    simp at ho
    simp only [leav]
    simp
    obtain rfl : i = 0 := by omega
    clear ho
    go_enter Try.func119, Try.ntmps119
    go_wp2
    go_ret
    exact ⟨rfl, rfl⟩
  · simp only [stepI, stepK] at ho ⊢
    simp at ho
    simp only [leav]
    simp
    obtain rfl : k = (m : Int) - 1 := by omega
    have e1 : (m : Int) - 1 + 1 = (m : Int) := by omega
    rw [e1]
    have g1 : ¬ i < 0 := by omega
    clear ho e1 h3 h4
    go_enter Try.func119, Try.ntmps119
    go_wp2
    go_ret
    exact ⟨rfl, rfl⟩
  · simp only [stepI, stepK] at ho ⊢
    simp at ho
    simp only [leav]
    simp
    obtain rfl : i = (n : Int) - 1 := by omega
    have e1 : (n : Int) - 1 + 1 = (n : Int) := by omega
    rw [e1]
    have g1 : ¬ (n : Int) < 0 := by omega
    have g2 : ¬ (m : Int) ≤ k := by omega
    clear ho e1 h1 h2
    go_enter Try.func119, Try.ntmps119
    go_wp2
    go_ret
    exact ⟨rfl, rfl⟩
  · simp only [stepI, stepK] at ho ⊢
    simp at ho
    simp only [leav]
    simp
    obtain rfl : k = 0 := by omega
    have g1 : ¬ i < 0 := by omega
    have g3 : ¬ (n : Int) ≤ i := by omega
    have g2 : ¬ (m : Int) ≤ 0 - 1 := by omega
    clear ho h3 h4
    go_enter Try.func119, Try.ntmps119
    go_wp2_with fail
    refine (HP.out _).mono ?_
    rintro e w' ⟨rfl, rfl⟩
    go_wp2
    go_ret
    exact ⟨rfl, rfl⟩

end Go.Proofs.Ytmdgbcepjnfbnaa
