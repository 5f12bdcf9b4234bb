/- How often rounds go through a cell; RoundTwice of the specification and of the program. -/
import Derived.Test.YtmdgbcepjnfbnaaBunF
import Derived.Test.YtmdgbcepjnfbnaaBunH
import Derived.Test.YtmdgbcepjnfbnaaBunC
import Derived.Test.YtmdgbcepjnfbnaaBunD
namespace Go.Proofs.Ytmdgbcepjnfbnaa
open Go.RowKit Go.Shelf

def twiceR (n m : Nat) (t : Int → Int → UInt8) : Int × Bool := ((((List.range (n * m)).countP fun c => atN n m t c == 2 : Nat) : Int), true)

/-- How many of these cells only rounds go through. -/
def twos {K : Nat} (n m : Nat) (t : Int → Int → UInt8) (pre : List (Fin K)) : Nat := pre.countP fun x => atN n m t x.val == 2
theorem twos_snoc {K : Nat} (n m : Nat) (t : Int → Int → UInt8) (pre : List (Fin K)) (x : Fin K) : twos n m t (pre ++ [x]) = twos n m t pre + (if (atN n m t x.val == 2) = true then 1 else 0) := by
  simp [twos, List.countP_append, List.countP_cons]
theorem twos_le {K : Nat} (n m : Nat) (t : Int → Int → UInt8) (pre : List (Fin K)) : twos n m t pre ≤ pre.length := List.countP_le_length
theorem twos_all (K n m : Nat) (t : Int → Int → UInt8) : twos n m t (List.finRange K) = (List.range K).countP fun c => atN n m t c == 2 := by
  unfold twos
  have e := upto_val (N := K) (k := K) (Nat.le_refl _)
  rw [upto_all] at e
  rw [← e, List.countP_map]
  rfl

attribute [local go_sem] Oper.semAt_some
end Go.Proofs.Ytmdgbcepjnfbnaa
