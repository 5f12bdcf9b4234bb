/- Joined pairings seen from behind; rounds that come; closed pairings: in plain words. -/
import Derived.Test.YtonhnmpgikmlpaaJoinPI
import Derived.Test.YtonhnmpgikmlpaaSewQ
namespace Go.Proofs.Ytonhnmpgikmlpaa

theorem two_lens {n m k : Nat} {a b : List Int} (h : TwoOf (n : Int) (m : Int) a (k : Int) b) : a.length = 2 * (n + m) ∧ b.length = 2 * (n + k) ∧ IsPair a ∧ IsPair b ∧ 1 ≤ n ∧ 1 ≤ m ∧ 1 ≤ k ∧ n ≤ 5 ∧ m + k ≤ 5 := by
  obtain ⟨⟨⟨h1, h2⟩, ⟨h3, h4⟩, h5, h6⟩, ⟨_, ⟨h7, h8⟩, h9, h10⟩, h11⟩ := h
  exact ⟨by omega, by omega, h5, h9, by omega, by omega, by omega, by omega, by omega⟩
theorem two_flip {n m k : Nat} {a b : List Int} (h : TwoOf (n : Int) (m : Int) a (k : Int) b) : TwoOf (n : Int) (k : Int) (flipL b k) (m : Int) (flipL a m) := by
  obtain ⟨la, lb, ha, hb, h1, h2, h3, h4, h5⟩ := two_lens h
  exact ⟨⟨⟨by omega, by omega⟩, ⟨by omega, by omega⟩, flipL_pair hb (by omega) h3, by rw [flipL_length]; omega⟩, ⟨⟨by omega, by omega⟩, ⟨by omega, by omega⟩, flipL_pair ha (by omega) h2, by rw [flipL_length]; omega⟩, by omega⟩
/-- The joined pairing, seen from behind. -/
theorem joinedL_flip {n m k : Nat} {a b : List Int} (h : TwoOf (n : Int) (m : Int) a (k : Int) b) : joinedL n k (flipL b k) (flipL a m) = flipL (joinedL n m a b) (m + k) := by
  obtain ⟨la, lb, ha, hb, h1, h2, h3, h4, h5⟩ := two_lens h
  have hJ := joinedL_pair h
  have S := flip2_sym (n := n) h2 h3 ha hb la lb
  have hsw := twoA_sewn (n := n) (m := m) ha hb (by omega)
  unfold twoA sewA at hsw
  rw [la, lb] at hsw
  have hL : joinP n (flipL b k) (flipL a m) = 2 * (n + (m + k)) := by unfold joinP; rw [flipL_length, flipL_length]; omega
  have hL2 : joinP n a b = 2 * (n + (m + k)) := by unfold joinP; omega
  have hN := flipN_names (p := 2 * (n + (m + k))) (m := m + k) (by omega) (by omega)
  unfold flipL
  rw [hJ.2]
  refine (listS_all (by rw [joinedL_length]; unfold joinP; rw [listS_length, listS_length]; omega) fun j hj => ?_)
  have hj' := hN.flt j hj
  have hfl : joinedL n k (listS b.length (renS (flipN b.length k) (flipN b.length k) (mateN b))) (listS a.length (renS (flipN a.length m) (flipN a.length m) (mateN a))) = joinedL n k (flipL b k) (flipL a m) := rfl
  rw [hfl]
  unfold joinedL
  rw [hL, hL2, listS_at hj]
  unfold renS
  rw [listS_mate hj']
  congr 2
  unfold joinS
  rw [flipL_length, flipL_length, la, lb, Nat.add_comm (2 * (n + k)) (2 * (n + m))]
  have hab : joinP n a b = 2 * (n + (m + k)) := hL2
  have hok := around_ok (n := n) (m := m) (a := a) (b := b) (by omega) (by omega) (j := flipN (2 * (n + (m + k))) (m + k) j) (by rw [hL2]; exact hj')
  unfold sewA at hok
  rw [la, lb] at hok
  obtain ⟨x, hx⟩ : ∃ x, aroundN n m (2 * (n + m)) (2 * (n + k) - n) (flipN (2 * (n + (m + k))) (m + k) j) = x := ⟨_, rfl⟩
  rw [hx] at hok ⊢
  have hxl := (sewT_loose (n := n) (m := m) (N := 2 * (n + m) + 2 * (n + k)) (by omega) hok.1).1 hok.2
  have hn1 := flip2_name (n := n) h2 h3 (x := x) (by omega)
  have hnx : nameN n m (2 * (n + m)) (2 * (n + k) - n) x = flipN (2 * (n + (m + k))) (m + k) j := by rw [← hx]; exact name_around (by omega) (by omega)
  rw [hnx, hN.fg j hj] at hn1
  have hφ : x < 2 * (n + m) + 2 * (n + k) := hok.1
  have hfx : aroundN n k (2 * (n + k)) (2 * (n + m) - n) j = flip2 (2 * (n + m)) (2 * (n + k)) m k x := by
    rw [← hn1]
    refine around_name ?_
    have hlo : sewT n k (2 * (n + m) + 2 * (n + k)) (flip2 (2 * (n + m)) (2 * (n + k)) m k x) = flip2 (2 * (n + m)) (2 * (n + k)) m k x := by rw [S.ht x hφ, hok.2]
    have := (sewT_loose (by omega) (S.flt x hφ)).1 hlo
    omega
  rw [hfx]
  have hpe := S.pend hsw hφ
  unfold twoA sewA
  rw [flipL_length, flipL_length, la, lb, Nat.add_comm (2 * (n + k)) (2 * (n + m)), hpe]
  have hpl := (sewT_loose (n := n) (m := m) (N := 2 * (n + m) + 2 * (n + k)) (by omega) (pend_lt hsw hφ)).1 (loose_end hsw hφ hok.2)
  exact flip2_name h2 h3 (by omega)
/-- As many rounds come, seen from behind. -/
theorem joinedR_flip {n m k : Nat} {a b : List Int} (h : TwoOf (n : Int) (m : Int) a (k : Int) b) : joinedR n k (flipL b k) (flipL a m) = joinedR n m a b := by
  obtain ⟨la, lb, ha, hb, h1, h2, h3, h4, h5⟩ := two_lens h
  have S := flip2_sym (n := n) h2 h3 ha hb la lb
  have hsw := twoA_sewn (n := n) (m := m) ha hb (by omega)
  have hsw' := twoA_sewn (n := n) (m := k) (flipL_pair hb (by omega) h3) (flipL_pair ha (by omega) h2) (by rw [flipL_length, flipL_length]; omega)
  unfold joinedR
  unfold twoA sewA at *
  rw [flipL_length, flipL_length] at *
  rw [la, lb] at *
  rw [Nat.add_comm (2 * (n + k)) (2 * (n + m))] at *
  exact S.rounds hsw hsw'
/-- Two rows of the seam for each round that comes. -/
theorem joinedR_two {n m k : Nat} {a b : List Int} (h : TwoOf (n : Int) (m : Int) a (k : Int) b) : 2 * joinedR n m a b ≤ n := by
  obtain ⟨la, lb, ha, hb, h1, h2, h3, h4, h5⟩ := two_lens h
  have hsw := twoA_sewn (n := n) (m := m) ha hb (by omega)
  exact seam_two hsw (by omega) (by omega) fun i hi => (ha.mates hi).1
end Go.Proofs.Ytonhnmpgikmlpaa
