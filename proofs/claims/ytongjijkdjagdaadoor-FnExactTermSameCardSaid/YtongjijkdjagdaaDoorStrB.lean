/- Strings as lists of letters; a letter's text, by the program. -/
import Derived.Test.YtongjijkdjagdaaDoorBunA
import Derived.Lib.Strings
import Derived.Laws.EntriesVeiled
namespace Go.Proofs.YtongjijkdjagdaaDoor
open Go.RowKit

/-- A string of letters. -/
def strB (l : List UInt8) : ByteArray := ⟨l.toArray⟩
theorem strB_app (a b : List UInt8) : strB a ++ strB b = strB (a ++ b) := by
  apply ByteArray.ext
  simp [strB]
theorem strB_toList (l : List UInt8) : (strB l).toList = l := by
  have h := Lib.toList_data (strB l)
  rw [h]
  simp [strB]
theorem strB_eq (a b : List UInt8) (r : Bool) (h : (a == b) = r) : ((strB a).toList == b) = r := by rw [strB_toList]; exact h
theorem strB_size (l : List UInt8) : (strB l).size = l.length := by simp [strB, ByteArray.size]
theorem add_str {o : Oper} {a : Act} {w : World} (x y : Operand) (ho : o.op = .binOp .add 9 x y 9) (k l : List UInt8) (hx : a.eval x = .string (strB k)) (hy : a.eval y = .string (strB l)) (hk : k.length + l.length ≤ 10000) :
    (execOp a.eval o).run Tryd.prog w = .ok (.value (.string (strB (k ++ l)))) w := by
  have hsz : ¬ (9223372036854775807 < (strB k).size + (strB l).size) := by rw [strB_size, strB_size]; omega
  unfold execOp
  simp only [ho, hx, hy]
  go_simp
  rw [strB_app]
end Go.Proofs.YtongjijkdjagdaaDoor
