/- The head of this seat's translation as a list of signs, and the closed facts that ask it. -/
import Derived.Test.YtkaiadgldppbiaaRows
import Derived.Test.YtkaiadgldppbiaaHeadM
namespace Go.Proofs.Ytkaiadgldppbiaa
open Go

/-- The signs of the head, as numbers. -/
def headNums : List Nat := [104, 97, 114, 110, 101, 115, 115, 32, 55, 54, 54, 53, 100, 57, 101, 48, 55, 49, 50, 97, 100, 57, 101, 101, 97, 50, 48, 57, 57, 55, 49, 55, 98, 52, 51, 48, 57, 53, 52, 57,
  52, 48, 49, 48, 100, 57, 50, 52, 101, 99, 99, 57, 57, 97, 48, 50, 57, 100, 51, 98, 101, 52, 99, 101, 100, 52, 98, 48, 52, 98, 55, 49, 32, 99, 117, 116, 32, 97, 116, 32,
  108, 111, 111, 112, 46, 101, 120, 97, 109, 112, 108, 101, 47, 109, 105, 114, 114, 111, 114, 103, 114, 105, 100, 115, 47, 108, 97, 119, 115, 46, 70, 110, 82, 111, 117, 110, 100, 115, 32, 108,
  111, 111, 112, 46, 101, 120, 97, 109, 112, 108, 101, 47, 109, 105, 114, 114, 111, 114, 103, 114, 105, 100, 115, 47, 108, 97, 119, 115, 46, 70, 110, 82, 111, 117, 110, 100, 80, 108, 97, 105,
  110, 32, 108, 111, 111, 112, 46, 101, 120, 97, 109, 112, 108, 101, 47, 109, 105, 114, 114, 111, 114, 103, 114, 105, 100, 115, 47, 108, 97, 119, 115, 46, 70, 110, 67, 108, 105, 109, 98]
theorem head_is : Try.prog.initOrder = String.ofList (headNums.map Char.ofNat) := by kernel_rfl
theorem head_beh : behindMainWord (wordsSigns (headNums.map Char.ofNat)) = "cut".toList :: (wordsSigns (headNums.map Char.ofNat)).drop 3 := by kernel_rfl
theorem head_later : Try.prog.laysLater = false := by kernel_rfl
theorem head_refl : Try.prog.bearsReflect = false := by kernel_rfl
theorem head_door : Try.prog.doorFits [] = true := by kernel_rfl
theorem head_enter : Try.prog.mayEnter = true := enter_of head_is head_beh head_later head_refl head_door
theorem head_lifts : (false == Try.prog.liftsFinal) = true := by rw [lifts_of head_is head_beh]; rfl
theorem head_make : (Try.prog.make == some Make.cut) = true := by rw [make_of head_is head_beh]; rfl

end Go.Proofs.Ytkaiadgldppbiaa
