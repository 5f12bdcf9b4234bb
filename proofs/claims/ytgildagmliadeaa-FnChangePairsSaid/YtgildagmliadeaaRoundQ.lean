/- Rounds are long and apart: four cells at least, no cell's way twice, two rounds take four cells; grids of one row or one column have none. No program is named. -/
import Derived.Test.YtgildagmliadeaaSymQ
namespace Go.Proofs.Ytgildagmliadeaa

section
variable {n m : Nat} {t : Int → Int → UInt8}
theorem no_turn {x : Wy} (hd : x.d < 4) (a j : Nat) : iter t x a ≠ rev t (iter t x (a + j)) := fun h => by
  have h1 := iter_rev (t := t) hd (a + (j - j / 2)) (j / 2)
  rw [show a + (j - j / 2) + j / 2 = a + j by omega, ← h, ← iter_add] at h1
  have hz := iter_d (t := t) hd (a + j / 2)
  by_cases h2 : j % 2 = 0
  · rw [show a + (j - j / 2) = a + j / 2 by omega] at h1
    exact rev_ne hz h1.symm
  · rw [show a + (j - j / 2) = a + j / 2 + 1 by omega] at h1
    have h3 := congrArg (rev t) h1
    rw [show iter t x (a + j / 2 + 1) = nxt t (iter t x (a + j / 2)) from rfl, rev_rev (nxt_d hz)] at h3
    exact rev_ne_nxt hz h3
theorem no_turn' {x : Wy} (hd : x.d < 4) (a b : Nat) : iter t x a ≠ rev t (iter t x b) := fun h => by
  rcases Nat.le_total a b with hab | hab
  · obtain ⟨j, rfl⟩ := Nat.exists_eq_add_of_le hab
    exact no_turn hd a j h
  · obtain ⟨j, rfl⟩ := Nat.exists_eq_add_of_le hab
    have h2 := congrArg (rev t) h
    rw [rev_rev (iter_d hd b)] at h2
    exact no_turn hd b j h2.symm
theorem nxt_par (x : Wy) (hd : x.d < 4) : ((nxt t x).i + (nxt t x).k) % 2 = (x.i + x.k + 1) % 2 := by
  have hb := bend_lt (t x.i x.k) hd
  unfold nxt
  simp only
  generalize bend (t x.i x.k) x.d = b at *
  rcases four hb with rfl | rfl | rfl | rfl <;> simp [stepI, stepK] <;> omega
theorem iter_par {x : Wy} (hd : x.d < 4) : ∀ j : Nat, ((iter t x j).i + (iter t x j).k) % 2 = (x.i + x.k + (j : Int)) % 2
  | 0 => by simp [iter]
  | j + 1 => by
    have h1 := nxt_par (t := t) (iter t x j) (iter_d hd j)
    have h2 := iter_par hd j
    show ((nxt t (iter t x j)).i + (nxt t (iter t x j)).k) % 2 = _
    omega
theorem two_not {x : Wy} (hd : x.d < 4) : iter t x 2 ≠ x := fun h => by
  have hb := bend_lt (t x.i x.k) hd
  have h2 := bend_ne (t (nxt t x).i (nxt t x).k) (nxt_d (t := t) hd)
  have hb2 := bend_lt (t (nxt t x).i (nxt t x).k) (nxt_d (t := t) hd)
  have h3 : stepI (nxt t x).i (bend (t (nxt t x).i (nxt t x).k) (nxt t x).d) = x.i := congrArg Wy.i h
  have h4 : stepK (nxt t x).k (bend (t (nxt t x).i (nxt t x).k) (nxt t x).d) = x.k := congrArg Wy.k h
  generalize bend (t (nxt t x).i (nxt t x).k) (nxt t x).d = e at *
  have h5 : (nxt t x).i = stepI x.i (nxt t x).d := rfl
  have h6 : (nxt t x).k = stepK x.k (nxt t x).d := rfl
  rw [h5] at h3
  rw [h6] at h4
  have hd2 := nxt_d (t := t) hd
  generalize (nxt t x).d = d at *
  rcases four hd2 with rfl | rfl | rfl | rfl <;> rcases four hb2 with rfl | rfl | rfl | rfl <;> simp [stepI, stepK, opp] at h2 h3 h4 <;> omega
theorem rlen_four {x : Wy} (hd : x.d < 4) (h : onR n m t x = true) : 4 ≤ rlen n m t x ∧ rlen n m t x % 2 = 0 := by
  obtain ⟨h1, _, h2, _⟩ := rlen_facts hd h
  have h3 := iter_par (t := t) hd (rlen n m t x)
  rw [h2] at h3
  have h4 : rlen n m t x ≠ 2 := fun e => two_not hd (by rw [e] at h2; exact h2)
  exact ⟨by omega, by omega⟩
theorem leads_eight : 8 * (leads n m t).length ≤ 4 * (n * m) := by
  have hget : ∀ a, a < 8 * (leads n m t).length → (leads n m t).getD (a / 8) 0 ∈ leads n m t := fun a ha => by
    have h8 : a / 8 < (leads n m t).length := by omega
    rw [List.getD_eq_getElem?_getD, List.getElem?_eq_getElem h8]
    exact List.getElem_mem h8
  have hnd : (leads n m t).Nodup := List.nodup_range.filter _
  have hon : ∀ a, a < 8 * (leads n m t).length → leadB n m t ((leads n m t).getD (a / 8) 0) = true ∧ onR n m t (wayN m ((leads n m t).getD (a / 8) 0)) = true := fun a ha => ⟨(leads_lt (hget a ha)).2, (lead_iff.1 (leads_lt (hget a ha)).2).1⟩
  have key := inj_le (fun a b => wayN m b = (if a % 2 = 0 then iter t (wayN m ((leads n m t).getD (a / 8) 0)) (a % 8 / 2) else rev t (iter t (wayN m ((leads n m t).getD (a / 8) 0)) (a % 8 / 2)))) (List.range (8 * (leads n m t).length)) (List.range (4 * (n * m))) List.nodup_range (fun a ha => ?_) (fun a a' b ha ha' h1 h2 => ?_)
  · rw [List.length_range, List.length_range] at key
    exact key
  · have ha := List.mem_range.1 ha
    obtain ⟨hl, ho⟩ := hon a ha
    have hi := onR_all (wayN_d (m := m) _) ho (a % 8 / 2)
    have hd := iter_d (t := t) (wayN_d (m := m) ((leads n m t).getD (a / 8) 0)) (a % 8 / 2)
    have key : ∀ y : Wy, inG n m y → y.d < 4 → ∃ b ∈ List.range (4 * (n * m)), wayN m b = y := fun y hy hyd => ⟨wcode m y, List.mem_range.2 (by have h3 := cellN_lt hy; have h4 := wcode_cell (m := m) y; omega), wayN_code hy hyd⟩
    split
    · exact key _ hi hd
    · exact key _ (rev_in.2 hi) (rev_d _)
  · have ha := List.mem_range.1 ha
    have ha' := List.mem_range.1 ha'
    obtain ⟨hl, ho⟩ := hon a ha
    obtain ⟨hl', ho'⟩ := hon a' ha'
    have hd := wayN_d (m := m) ((leads n m t).getD (a / 8) 0)
    have r1 : ringW t (wayN m ((leads n m t).getD (a / 8) 0)) (wayN m b) := by
      rw [h1]
      split
      · exact ⟨_, .inl rfl⟩
      · exact ⟨_, .inr rfl⟩
    have r2 : ringW t (wayN m ((leads n m t).getD (a' / 8) 0)) (wayN m b) := by
      rw [h2]
      split
      · exact ⟨_, .inl rfl⟩
      · exact ⟨_, .inr rfl⟩
    have r3 := ringW_trans hd ho r1 (ringW_symm (wayN_d _) ho' r2)
    have k3 := (lead_iff.1 hl).2 _ r3
    have k4 := (lead_iff.1 hl').2 _ (ringW_symm hd ho r3)
    rw [wcode_way] at k3 k4
    have el : (leads n m t).getD (a / 8) 0 = (leads n m t).getD (a' / 8) 0 := by omega
    have e8 : a / 8 = a' / 8 := by
      have i1 : a / 8 < (leads n m t).length := by omega
      have i2 : a' / 8 < (leads n m t).length := by omega
      rw [List.getD_eq_getElem?_getD, List.getD_eq_getElem?_getD, List.getElem?_eq_getElem i1, List.getElem?_eq_getElem i2] at el
      exact (List.getElem_inj hnd).1 el
    rw [← el] at h2
    rw [h1] at h2
    have h4 := (rlen_four hd ho).1
    have hne : ∀ p q, p < 4 → q < 4 → iter t (wayN m ((leads n m t).getD (a / 8) 0)) p = iter t (wayN m ((leads n m t).getD (a / 8) 0)) q → p = q := fun p q hp hq e => by
      rcases Nat.lt_trichotomy p q with h | h | h
      · exact absurd e (ring_ne hd ho h (by omega))
      · exact h
      · exact absurd e.symm (ring_ne hd ho h (by omega))
    have hs : a % 8 / 2 = a' % 8 / 2 ∧ a % 2 = a' % 2 := by
      by_cases s1 : a % 2 = 0 <;> by_cases s2 : a' % 2 = 0
      · rw [if_pos s1, if_pos s2] at h2
        exact ⟨hne _ _ (by omega) (by omega) h2, by omega⟩
      · rw [if_pos s1, if_neg s2] at h2
        exact absurd h2 (no_turn' hd _ _)
      · rw [if_neg s1, if_pos s2] at h2
        exact absurd h2.symm (no_turn' hd _ _)
      · rw [if_neg s1, if_neg s2] at h2
        have h5 := congrArg (rev t) h2
        rw [rev_rev (iter_d hd _), rev_rev (iter_d hd _)] at h5
        exact ⟨hne _ _ (by omega) (by omega) h5, by omega⟩
    omega
end
end Go.Proofs.Ytgildagmliadeaa
