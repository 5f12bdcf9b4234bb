/- The head of this seat's translation as a list of signs, and the closed facts that ask it. -/
import Derived.Test.YtpimkhjcphimaaaDoorRows
import Derived.Test.YtpimkhjcphimaaaDoorHeadM
namespace Go.Proofs.YtpimkhjcphimaaaDoor
open Go

/-- The signs of the head, as numbers. -/
def headNums : List Nat := [104, 97, 114, 110, 101, 115, 115, 32, 55, 51, 97, 98, 102, 102, 55, 54, 51, 52, 100, 49, 54, 97, 100, 101, 50, 52, 98, 57, 97, 97, 102, 49, 55, 101, 53, 57, 51, 100, 56, 52,
  55, 54, 56, 52, 54, 51, 97, 101, 48, 98, 52, 49, 99, 55, 101, 53, 48, 57, 55, 100, 51, 56, 49, 50, 55, 101, 49, 57, 102, 48, 54, 50, 32, 99, 117, 116, 32, 97, 116, 32,
  108, 111, 111, 112, 46, 101, 120, 97, 109, 112, 108, 101, 47, 109, 105, 114, 114, 111, 114, 103, 114, 105, 100, 115, 47, 108, 97, 119, 115, 46, 70, 110, 69, 120, 97, 99, 116, 84, 101, 114,
  109, 73, 110, 32, 108, 111, 111, 112, 46, 101, 120, 97, 109, 112, 108, 101, 47, 109, 105, 114, 114, 111, 114, 103, 114, 105, 100, 115, 47, 108, 97, 119, 115, 46, 70, 110, 69, 120, 97, 99,
  116, 84, 101, 114, 109, 71, 114, 105, 100, 32, 108, 111, 111, 112, 46, 101, 120, 97, 109, 112, 108, 101, 47, 109, 105, 114, 114, 111, 114, 103, 114, 105, 100, 115, 47, 108, 97, 119, 115, 46,
  70, 110, 69, 120, 97, 99, 116, 84, 101, 114, 109, 83, 105, 122, 101, 32, 108, 111, 111, 112, 46, 101, 120, 97, 109, 112, 108, 101, 47, 109, 105, 114, 114, 111, 114, 103, 114, 105, 100, 115,
  47, 108, 97, 119, 115, 46, 70, 110, 69, 120, 97, 99, 116, 84, 101, 114, 109, 84, 105, 100, 121, 32, 108, 111, 111, 112, 46, 101, 120, 97, 109, 112, 108, 101, 47, 109, 105, 114, 114, 111,
  114, 103, 114, 105, 100, 115, 47, 108, 97, 119, 115, 46, 70, 110, 69, 120, 97, 99, 116, 84, 101, 114, 109, 83, 97, 109, 101]
theorem head_is : Tryd.prog.initOrder = String.ofList (headNums.map Char.ofNat) := by kernel_rfl
theorem head_beh : behindMainWord (wordsSigns (headNums.map Char.ofNat)) = "cut".toList :: (wordsSigns (headNums.map Char.ofNat)).drop 3 := by kernel_rfl
theorem head_later : Tryd.prog.laysLater = false := by kernel_rfl
theorem head_refl : Tryd.prog.bearsReflect = false := by kernel_rfl
theorem head_door : Tryd.prog.doorFits [] = true := by kernel_rfl
theorem head_enter : Tryd.prog.mayEnter = true := enter_of head_is head_beh head_later head_refl head_door
theorem head_lifts : (false == Tryd.prog.liftsFinal) = true := by rw [lifts_of head_is head_beh]; rfl
theorem head_make : (Tryd.prog.make == some Make.cut) = true := by rw [make_of head_is head_beh]; rfl

end Go.Proofs.YtpimkhjcphimaaaDoor
