/- The length of a round, whichever of its ways one takes. No program is named. -/
import Derived.Test.YtminailbhgimkaaBunB
namespace Go.Proofs.Ytminailbhgimkaa

section
variable {n m : Nat} {t : Int → Int → UInt8}
theorem rlen_le {x : Wy} (hd : x.d < 4) (h : onR n m t x = true) {P : Nat} (h1 : 1 ≤ P) (hp : iter t x P = x) : rlen n m t x ≤ P :=
  Nat.le_of_not_lt fun hl => (rlen_facts hd h).2.2.2 P h1 hl hp
theorem rlen_iter {x : Wy} (hd : x.d < 4) (h : onR n m t x = true) (j : Nat) : rlen n m t (iter t x j) = rlen n m t x := by
  have f1 := rlen_facts hd h
  have hd2 := iter_d (t := t) hd j
  have h2 := onR_iter hd h j
  have f2 := rlen_facts hd2 h2
  refine Nat.le_antisymm (rlen_le hd2 h2 f1.1 ?_) (rlen_le hd h f2.1 ?_)
  · rw [← iter_add, Nat.add_comm]
    have := iter_per f1.2.2.1 1 j
    rw [Nat.one_mul] at this
    exact this
  · refine iter_inj (t := t) (iter_d hd _) hd j ?_
    have := f2.2.2.1
    rw [← iter_add] at this
    rw [← iter_add, Nat.add_comm]
    exact this
theorem rlen_rev_le {z : Wy} (hd : z.d < 4) (h : onR n m t z = true) : rlen n m t (rev t z) ≤ rlen n m t z := by
  have f1 := rlen_facts hd h
  refine rlen_le (rev_d _) (onR_rev hd h) f1.1 ?_
  have := iter_rev (t := t) hd 0 (rlen n m t z)
  rw [Nat.zero_add, f1.2.2.1] at this
  exact this
theorem rlen_rev {z : Wy} (hd : z.d < 4) (h : onR n m t z = true) : rlen n m t (rev t z) = rlen n m t z := by
  refine Nat.le_antisymm (rlen_rev_le hd h) ?_
  have := rlen_rev_le (rev_d (t := t) z) (onR_rev hd h)
  rwa [rev_rev hd] at this
/-- Ways of one round have one length. -/
theorem rlen_ring {x y : Wy} (hd : x.d < 4) (h : onR n m t x = true) (hr : ringW t x y) : rlen n m t y = rlen n m t x := by
  obtain ⟨j, rfl | rfl⟩ := hr
  · exact rlen_iter hd h j
  · rw [rlen_rev (iter_d hd j) (onR_iter hd h j), rlen_iter hd h j]
end
end Go.Proofs.Ytminailbhgimkaa
