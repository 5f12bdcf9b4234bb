/- Plain words on the cells of a round: each cell lies beside the next one; the round's length is among the lengths of all rounds. -/
import Derived.Test.YtmdgbcepjnfbnaaRoundC
import Derived.Test.YtmdgbcepjnfbnaaBunB
import Derived.Test.YtmdgbcepjnfbnaaSort
namespace Go.Proofs.Ytmdgbcepjnfbnaa

section
variable {n m : Nat} {t : Int → Int → UInt8}
theorem rlen_le {x : Wy} (hd : x.d < 4) (h : onR n m t x = true) {P : Nat} (h1 : 1 ≤ P) (hp : iter t x P = x) : rlen n m t x ≤ P :=
  Nat.le_of_not_lt fun hl => (rlen_facts hd h).2.2.2 P h1 hl hp
theorem rlen_iter {x : Wy} (hd : x.d < 4) (h : onR n m t x = true) (j : Nat) : rlen n m t (iter t x j) = rlen n m t x := by
  have f1 := rlen_facts hd h
  have hd2 := iter_d (t := t) hd j
  have h2 := onR_iter hd h j
  have f2 := rlen_facts hd2 h2
  refine Nat.le_antisymm (rlen_le hd2 h2 f1.1 ?_) (rlen_le hd h f2.1 ?_)
  · rw [← iter_add, Nat.add_comm]
    have := iter_per f1.2.2.1 1 j
    rw [Nat.one_mul] at this
    exact this
  · refine iter_inj (t := t) (iter_d hd _) hd j ?_
    have := f2.2.2.1
    rw [← iter_add] at this
    rw [← iter_add, Nat.add_comm]
    exact this
theorem rlen_rev_le {z : Wy} (hd : z.d < 4) (h : onR n m t z = true) : rlen n m t (rev t z) ≤ rlen n m t z := by
  have f1 := rlen_facts hd h
  refine rlen_le (rev_d _) (onR_rev hd h) f1.1 ?_
  have := iter_rev (t := t) hd 0 (rlen n m t z)
  rw [Nat.zero_add, f1.2.2.1] at this
  exact this
theorem rlen_rev {z : Wy} (hd : z.d < 4) (h : onR n m t z = true) : rlen n m t (rev t z) = rlen n m t z := by
  refine Nat.le_antisymm (rlen_rev_le hd h) ?_
  have := rlen_rev_le (rev_d (t := t) z) (onR_rev hd h)
  rwa [rev_rev hd] at this
/-- Ways of one round have one length. -/
theorem rlen_ring {x y : Wy} (hd : x.d < 4) (h : onR n m t x = true) (hr : ringW t x y) : rlen n m t y = rlen n m t x := by
  obtain ⟨j, rfl | rfl⟩ := hr
  · exact rlen_iter hd h j
  · rw [rlen_rev (iter_d hd j) (onR_iter hd h j), rlen_iter hd h j]
/-- The length of a round is among the lengths of all. -/
theorem goL_mem {x : Wy} (hd : x.d < 4) (h : onR n m t x = true) : ((goL n m t x : Nat) : Int) ∈ sortI (lensTo n m t (4 * (n * m))) := by
  rw [(sortI_perm _).mem_iff]
  obtain ⟨l, hl, hll⟩ := lead_one hd h
  obtain ⟨h1, h2⟩ := (hll l).2 rfl
  have hon := (lead_iff.1 h1).1
  unfold lensTo
  refine List.mem_map.2 ⟨l, ?_, ?_⟩
  · unfold leadsTo
    exact List.mem_filter.2 ⟨List.mem_range.2 hl, h1⟩
  · unfold goL
    rw [if_pos h, rlen_ring (wayN_d l) hon h2]
/-- The next way's cell lies beside. -/
theorem nxt_beside (x : Wy) (hd : x.d < 4) : (x.i = (nxt t x).i ∧ (x.k - (nxt t x).k = 1 ∨ (nxt t x).k - x.k = 1)) ∨ (x.k = (nxt t x).k ∧ (x.i - (nxt t x).i = 1 ∨ (nxt t x).i - x.i = 1)) := by
  unfold nxt
  simp only
  have hb := bend_lt (t x.i x.k) hd
  generalize bend (t x.i x.k) x.d = e at hb
  unfold stepI stepK
  rcases four hb with rfl | rfl | rfl | rfl <;> simp <;> omega
/-- Two numbers of cells that lie beside each other. -/
def Beside (m a b : Nat) : Prop := (a / m = b / m ∧ (a % m + 1 = b % m ∨ b % m + 1 = a % m)) ∨ (a % m = b % m ∧ (a / m + 1 = b / m ∨ b / m + 1 = a / m))
theorem cellN_parts {x : Wy} (hx : inG n m x) : ((cellN m x / m : Nat) : Int) = x.i ∧ ((cellN m x % m : Nat) : Int) = x.k := by
  obtain ⟨h1, _, h3, h4⟩ := hx
  have hk : x.k.toNat < m := by omega
  have hm : 0 < m := by omega
  unfold cellN
  rw [Nat.add_comm, Nat.add_mul_div_right _ _ hm, Nat.add_mul_mod_self_right, Nat.div_eq_of_lt hk, Nat.mod_eq_of_lt hk]
  omega
theorem cell_beside {x : Wy} (hd : x.d < 4) (hx : inG n m x) (hy : inG n m (nxt t x)) : Beside m (cellN m x) (cellN m (nxt t x)) := by
  have h1 := cellN_parts hx
  have h2 := cellN_parts hy
  have h3 := nxt_beside (t := t) x hd
  unfold Beside
  omega
/-- The cells of a round: each one and the next one. -/
theorem ring_beside {x : Wy} (hd : x.d < 4) (h : onR n m t x = true) {j : Nat} (hj : j < goL n m t x) :
    ∃ a b : Nat, a ≤ n * m ∧ b ≤ n * m ∧ (cellsI m (iter t x) (goL n m t x))[j]? = some (a : Int) ∧ (cellsI m (iter t x) (goL n m t x))[(j + 1) % goL n m t x]? = some (b : Int) ∧ Beside m a b := by
  have hL : goL n m t x = rlen n m t x := by unfold goL; rw [if_pos h]
  rw [hL] at hj ⊢
  have f1 := rlen_facts hd h
  generalize rlen n m t x = L at *
  have hat : ∀ k, k < L → (cellsI m (iter t x) L)[k]? = some ((cellN m (iter t x k) : Nat) : Int) := fun k hk => by simp [cellsI, hk]
  have hin := fun k => onR_all hd h k
  have hnx : iter t x ((j + 1) % L) = nxt t (iter t x j) := by
    rw [← iter_mod f1.2.2.1]
    rfl
  refine ⟨_, _, Nat.le_of_lt (cellN_lt (hin j)), Nat.le_of_lt (cellN_lt (hin ((j + 1) % L))), hat j hj, hat _ (Nat.mod_lt _ (by omega)), ?_⟩
  rw [hnx]
  exact cell_beside (iter_d hd j) (hin j) (by rw [← hnx]; exact hin _)
end
end Go.Proofs.Ytmdgbcepjnfbnaa
