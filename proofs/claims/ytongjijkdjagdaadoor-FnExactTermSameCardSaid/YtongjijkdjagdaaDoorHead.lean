/- The head of this seat's translation as a list of signs, and the closed facts that ask it. -/
import Derived.Test.YtongjijkdjagdaaDoorRows
import Derived.Test.YtongjijkdjagdaaDoorHeadM
namespace Go.Proofs.YtongjijkdjagdaaDoor
open Go

/-- The signs of the head, as numbers. -/
def headNums : List Nat := [104, 97, 114, 110, 101, 115, 115, 32, 57, 98, 57, 99, 101, 98, 99, 48, 48, 98, 102, 101, 48, 48, 101, 51, 55, 56, 52, 102, 99, 50, 50, 50, 99, 51, 55, 50, 98, 50, 97, 54,
  52, 49, 50, 57, 52, 55, 50, 53, 101, 52, 57, 48, 100, 49, 52, 102, 98, 97, 52, 97, 102, 55, 57, 56, 49, 99, 98, 48, 57, 55, 52, 102, 32, 99, 117, 116, 32, 97, 116, 32,
  108, 111, 111, 112, 46, 101, 120, 97, 109, 112, 108, 101, 47, 109, 105, 114, 114, 111, 114, 103, 114, 105, 100, 115, 47, 108, 97, 119, 115, 46, 70, 110, 69, 120, 97, 99, 116, 84, 101, 114,
  109, 83, 97, 109, 101, 32, 108, 111, 111, 112, 46, 101, 120, 97, 109, 112, 108, 101, 47, 109, 105, 114, 114, 111, 114, 103, 114, 105, 100, 115, 47, 108, 97, 119, 115, 46, 70, 110, 69, 120,
  97, 99, 116, 80, 114, 111, 111, 102, 82, 111, 117, 110, 100, 32, 108, 111, 111, 112, 46, 101, 120, 97, 109, 112, 108, 101, 47, 109, 105, 114, 114, 111, 114, 103, 114, 105, 100, 115, 47, 108,
  97, 119, 115, 46, 70, 110, 69, 120, 97, 99, 116, 80, 114, 111, 111, 102, 82, 111, 117, 110, 100, 73, 115, 32, 108, 111, 111, 112, 46, 101, 120, 97, 109, 112, 108, 101, 47, 109, 105, 114,
  114, 111, 114, 103, 114, 105, 100, 115, 47, 108, 97, 119, 115, 46, 70, 110, 69, 120, 97, 99, 116, 80, 114, 111, 111, 102, 78, 111, 110, 101, 32, 108, 111, 111, 112, 46, 101, 120, 97, 109,
  112, 108, 101, 47, 109, 105, 114, 114, 111, 114, 103, 114, 105, 100, 115, 47, 108, 97, 119, 115, 46, 70, 110, 69, 120, 97, 99, 116, 80, 114, 111, 111, 102, 78, 111, 110, 101, 73, 115]
theorem head_is : Tryd.prog.initOrder = String.ofList (headNums.map Char.ofNat) := by kernel_rfl
theorem head_beh : behindMainWord (wordsSigns (headNums.map Char.ofNat)) = "cut".toList :: (wordsSigns (headNums.map Char.ofNat)).drop 3 := by kernel_rfl
theorem head_later : Tryd.prog.laysLater = false := by kernel_rfl
theorem head_refl : Tryd.prog.bearsReflect = false := by kernel_rfl
theorem head_door : Tryd.prog.doorFits [] = true := by kernel_rfl
theorem head_enter : Tryd.prog.mayEnter = true := enter_of head_is head_beh head_later head_refl head_door
theorem head_lifts : (false == Tryd.prog.liftsFinal) = true := by rw [lifts_of head_is head_beh]; rfl
theorem head_make : (Tryd.prog.make == some Make.cut) = true := by rw [make_of head_is head_beh]; rfl

end Go.Proofs.YtongjijkdjagdaaDoor
