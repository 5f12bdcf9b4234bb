/- crossings of the program, by its contract; CrossTotal, CrossBeams, CrossRounds. -/
import Derived.Test.YtgildagmliadeaaBunQ
import Derived.Test.YtgildagmliadeaaBunR
import Derived.Test.YtgildagmliadeaaContains
import Derived.Test.YtgildagmliadeaaBunA
import Derived.Test.YtgildagmliadeaaBunJ
namespace Go.Proofs.Ytgildagmliadeaa
open Go.RowKit Go.Shelf
attribute [local go_sem] Oper.semAt_some

/-- Two different paths cross at the cell, so many of them being rounds as the list tells. -/
def crossC (n m : Nat) (t : Int → Int → UInt8) (lst : List Int) (c : Nat) : Bool := emptyC m t c && (!selfB n m t (placeN m c).i (placeN m c).k && decide (((atN n m t c : Nat) : Int) ∈ lst))
def crossR (lst : List Int) (n m : Nat) (t : Int → Int → UInt8) : Int × Bool := ((((List.range (n * m)).countP (crossC n m t lst) : Nat) : Int), true)
def crsW {K : Nat} (g : Nat → Bool) (pre : List (Fin K)) : Nat := pre.countP fun x => g x.val
theorem crsW_snoc {K : Nat} (g : Nat → Bool) (pre : List (Fin K)) (x : Fin K) : crsW g (pre ++ [x]) = crsW g pre + (if g x.val = true then 1 else 0) := by
  simp [crsW, List.countP_append, List.countP_cons]
theorem crsW_le {K : Nat} (g : Nat → Bool) (pre : List (Fin K)) : crsW g pre ≤ pre.length := List.countP_le_length
theorem crsW_all (K : Nat) (g : Nat → Bool) : crsW g (List.finRange K) = (List.range K).countP g := by
  unfold crsW
  have e := upto_val (N := K) (k := K) (Nat.le_refl _)
  rw [upto_all] at e
  rw [← e, List.countP_map]
  rfl
theorem lett_place' {m c : Nat} (ls : List UInt8) : lett m ls ((c / m : Nat) : Int) ((c % m : Nat) : Int) = ls.getD c 0 := by
  unfold lett
  rw [show ((c / m : Nat) : Int) * (m : Int) + ((c % m : Nat) : Int) = ((c : Nat) : Int) by
    rw [← Int.natCast_mul, ← Int.natCast_add, Nat.mul_comm, Nat.div_add_mod], Int.toNat_natCast]
theorem empty_at (m c : Nat) (ls : List UInt8) : emptyC m (lett m ls) c = (((ls.getD c 0).toNat : Int) == 46) := by
  unfold emptyC
  rw [lett_place']
  generalize ls.getD c 0 = b
  rw [Bool.eq_iff_iff, beq_iff_eq, beq_iff_eq]
  constructor
  · rintro rfl; rfl
  · intro e
    have : b.toNat = 46 := by omega
    exact UInt8.toNat_inj.1 this

end Go.Proofs.Ytgildagmliadeaa
