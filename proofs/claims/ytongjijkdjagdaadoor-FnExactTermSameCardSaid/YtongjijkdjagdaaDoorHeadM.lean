/- What the head of a translation says, out of its list of signs; a row's closed facts put together. No program is named. -/
import Derived.JoinedOf
import Derived.KernelRfl
namespace Go.Proofs.YtongjijkdjagdaaDoor
open Go
variable {P : Program}

theorem strip_cut (r : List (List Char)) : stripLifts liftWords ("cut".toList :: r) = ([], "cut".toList :: r) := by
  simp [stripLifts, liftWords]
theorem make_of {l : List Char} {r : List (List Char)} (h : P.initOrder = String.ofList l) (hw : behindMainWord (wordsSigns l) = "cut".toList :: r) : P.make = some .cut := by
  unfold Program.make
  rw [h, String.toList_ofList, hw]
  simp
theorem lifts_of {l : List Char} {r : List (List Char)} (h : P.initOrder = String.ofList l) (hw : behindMainWord (wordsSigns l) = "cut".toList :: r) : P.liftsFinal = false := by
  unfold Program.liftsFinal Program.headLifts
  rw [h, String.toList_ofList, hw, strip_cut]
  simp
theorem enter_of {l : List Char} {r : List (List Char)} (h : P.initOrder = String.ofList l) (hw : behindMainWord (wordsSigns l) = "cut".toList :: r) (h1 : P.laysLater = false) (h2 : P.bearsReflect = false) (h3 : P.doorFits [] = true) : P.mayEnter = true := by
  unfold Program.mayEnter
  rw [h, String.toList_ofList, hw]
  simp only [strip_cut, h1, h2, h3]
  simp
/-- A Bool and-chain of four, the middle ones known. -/
theorem and8 {a m l k b p v z : Bool} (ha : a = true) (hm : m = true) (hl : l = true) (hk : k = true) (hb : b = true) (hp : p = true) (hv : v = true) (hz : z = true) :
    (((((((a && m) && l) && k) && b) && p) && v) && z) = true := by
  rw [ha, hm, hl, hk, hb, hp, hv, hz]; rfl

end Go.Proofs.YtongjijkdjagdaaDoor
