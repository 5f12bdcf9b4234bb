/- The head of this seat's translation as a list of signs, and the closed facts that ask it. -/
import Derived.Test.YtongjijkdjagdaaRows
import Derived.Test.YtongjijkdjagdaaHeadM
namespace Go.Proofs.Ytongjijkdjagdaa
open Go

/-- The signs of the head, as numbers. -/
def headNums : List Nat := [104, 97, 114, 110, 101, 115, 115, 32, 57, 51, 101, 53, 56, 100, 57, 98, 100, 99, 48, 55, 55, 49, 100, 52, 100, 100, 48, 100, 99, 100, 98, 50, 101, 52, 102, 102, 53, 48, 51, 54,
  100, 50, 56, 99, 98, 53, 54, 101, 53, 52, 55, 100, 101, 57, 101, 97, 57, 100, 101, 102, 101, 99, 97, 50, 50, 97, 57, 57, 101, 57, 102, 102, 32, 99, 117, 116, 32, 97, 116, 32,
  108, 111, 111, 112, 46, 101, 120, 97, 109, 112, 108, 101, 47, 109, 105, 114, 114, 111, 114, 103, 114, 105, 100, 115, 47, 108, 97, 119, 115, 46, 70, 110, 69, 120, 97, 99, 116, 84, 101, 114,
  109, 79, 102, 32, 108, 111, 111, 112, 46, 101, 120, 97, 109, 112, 108, 101, 47, 109, 105, 114, 114, 111, 114, 103, 114, 105, 100, 115, 47, 108, 97, 119, 115, 46, 70, 110, 69, 120, 97, 99,
  116, 80, 114, 111, 111, 102, 66, 101, 97, 109, 32, 108, 111, 111, 112, 46, 101, 120, 97, 109, 112, 108, 101, 47, 109, 105, 114, 114, 111, 114, 103, 114, 105, 100, 115, 47, 108, 97, 119, 115,
  46, 70, 110, 69, 120, 97, 99, 116, 80, 114, 111, 111, 102, 66, 101, 97, 109, 73, 115]
theorem head_is : Try.prog.initOrder = String.ofList (headNums.map Char.ofNat) := by kernel_rfl
theorem head_beh : behindMainWord (wordsSigns (headNums.map Char.ofNat)) = "cut".toList :: (wordsSigns (headNums.map Char.ofNat)).drop 3 := by kernel_rfl
theorem head_later : Try.prog.laysLater = false := by kernel_rfl
theorem head_refl : Try.prog.bearsReflect = false := by kernel_rfl
theorem head_door : Try.prog.doorFits [] = true := by kernel_rfl
theorem head_enter : Try.prog.mayEnter = true := enter_of head_is head_beh head_later head_refl head_door
theorem head_lifts : (false == Try.prog.liftsFinal) = true := by rw [lifts_of head_is head_beh]; rfl
theorem head_make : (Try.prog.make == some Make.cut) = true := by rw [make_of head_is head_beh]; rfl

end Go.Proofs.Ytongjijkdjagdaa
