/- The contracts of GridPart, GridPut, GridOf, GridNumber, GridBeside, GridUnder on grids that are given, in one form. -/
import Derived.Test.YtgildagmliadeaaPK
import Derived.Test.YtgildagmliadeaaBunW
import Derived.Test.YtgildagmliadeaaBunO
namespace Go.Proofs.Ytgildagmliadeaa
open Go.RowKit

theorem JoinEnd.tend {In : List ByteArray → List ByteArray → Nat → Nat → Nat → Nat → Prop} {G : List ByteArray → List ByteArray → Nat → Nat → Nat → Nat → List ByteArray} {ss tt : List ByteArray} {w w' : World} {e : Ending} (h : JoinEnd In G ss tt w e w') : TEnd (JoinOut In G ss tt) w e w' := by
  obtain ⟨A', res, ok, rfl, hout, how, hb⟩ := joinEnd_open h
  exact ⟨hb, A', _, res, ok, rfl, hout, how.strs⟩
section
variable {n m c : Nat} {A : Option Addr} {ss res : List ByteArray} {w : World}
end
end Go.Proofs.Ytgildagmliadeaa
