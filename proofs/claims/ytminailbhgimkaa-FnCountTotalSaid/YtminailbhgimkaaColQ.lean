/- A grid of one column has no rounds. No program is named. -/
import Derived.Test.YtminailbhgimkaaBunB
namespace Go.Proofs.Ytminailbhgimkaa

/-- Light in one column that is still in the grid goes up or down, and the same way. -/
theorem col_straight {n : Nat} {t : Int → Int → UInt8} {x : Wy} {N : Nat} (hd : x.d < 4) (h : ∀ j, j ≤ N → inG n 1 (iter t x j)) : ∀ j, 1 ≤ j → j ≤ N →
    ((iter t x 1).d = 0 ∨ (iter t x 1).d = 2) ∧ (iter t x j).d = (iter t x 1).d ∧ (iter t x j).i = (iter t x 1).i + (if (iter t x 1).d = 0 then -((j : Int) - 1) else ((j : Int) - 1)) := by
  have hv : ∀ j, j + 1 ≤ N → (iter t x (j + 1)).d = 0 ∨ (iter t x (j + 1)).d = 2 := fun j hj => by
    have h0 := h j (by omega)
    have h1 := h (j + 1) hj
    have hdj := iter_d (t := t) hd j
    have e : iter t x (j + 1) = nxt t (iter t x j) := rfl
    rw [e] at h1 ⊢
    obtain ⟨_, _, k1, k2⟩ := h0
    obtain ⟨_, _, k3, k4⟩ := h1
    have hb := bend_lt (t (iter t x j).i (iter t x j).k) hdj
    unfold nxt at k3 k4 ⊢
    simp only at k3 k4 ⊢
    rcases four hb with e | e | e | e
    · exact .inl e
    · rw [e] at k4
      simp only [stepK] at k4
      simp at k4
      omega
    · exact .inr e
    · rw [e] at k3
      simp only [stepK] at k3
      simp at k3
      omega
  intro j hj1 hj
  induction j with
  | zero => omega
  | succ j ih =>
    rcases Nat.eq_zero_or_pos j with rfl | hpos
    · refine ⟨hv 0 hj, rfl, ?_⟩
      split <;> simp
    · obtain ⟨h1, h2, h3⟩ := ih hpos (by omega)
      have hn := hv j hj
      have e : iter t x (j + 1) = nxt t (iter t x j) := rfl
      rw [e] at hn ⊢
      unfold nxt at hn ⊢
      simp only at hn ⊢
      have hsame : bend (t (iter t x j).i (iter t x j).k) (iter t x j).d = (iter t x j).d := by
        rw [h2] at hn ⊢
        by_cases hr : t (iter t x j).i (iter t x j).k = 114
        · rw [hr] at hn
          rcases h1 with e1 | e1 <;> rw [e1] at hn <;> simp [bend_r] at hn
        · by_cases hf : t (iter t x j).i (iter t x j).k = 102
          · rw [hf] at hn
            rcases h1 with e1 | e1 <;> rw [e1] at hn <;> simp [bend_f] at hn
          · exact bend_e hr hf
      rw [hsame]
      refine ⟨h1, h2, ?_⟩
      rw [h2, h3]
      rcases h1 with e1 | e1 <;> rw [e1] <;> simp [stepI] <;> omega
/-- A grid of one column has no rounds. -/
theorem col_onR {n : Nat} {t : Int → Int → UInt8} {x : Wy} (hn : 1 ≤ n) (hd : x.d < 4) : onR n 1 t x = false := by
  rcases hr : onR n 1 t x with _ | _
  · rfl
  · exfalso
    have h := onR_iff.1 hr
    have hs := col_straight hd h (n + 1) (by omega) (by omega)
    obtain ⟨a1, a2, _, _⟩ := h 1 (by omega)
    obtain ⟨b1, b2, _, _⟩ := h (n + 1) (by omega)
    obtain ⟨h1, _, h3⟩ := hs
    rw [h3] at b1 b2
    rcases h1 with e | e <;> rw [e] at b1 b2 <;> simp at b1 b2 <;> omega
end Go.Proofs.Ytminailbhgimkaa
