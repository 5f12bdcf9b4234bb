/- The contracts of GridPart, GridPut, GridOf, GridNumber, GridBeside, GridUnder on grids that are given, in one form. -/
import Derived.Test.YtgapdlokljcpbaaPK
import Derived.Test.YtgapdlokljcpbaaBunW
import Derived.Test.YtgapdlokljcpbaaBunO
namespace Go.Proofs.Ytgapdlokljcpbaa
open Go.RowKit

theorem JoinEnd.tend {In : List ByteArray → List ByteArray → Nat → Nat → Nat → Nat → Prop} {G : List ByteArray → List ByteArray → Nat → Nat → Nat → Nat → List ByteArray} {ss tt : List ByteArray} {w w' : World} {e : Ending} (h : JoinEnd In G ss tt w e w') : TEnd (JoinOut In G ss tt) w e w' := by
  obtain ⟨A', res, ok, rfl, hout, how, hb⟩ := joinEnd_open h
  exact ⟨hb, A', _, res, ok, rfl, hout, how.strs⟩
section
variable {n m c : Nat} {A : Option Addr} {ss res : List ByteArray} {w : World}
theorem nGridPut {k : Nat} {b : UInt8} {x : Int} {t : ByteArray} (h : LS w A ss) (hg : PutIn ss x t n m k b) (hr : textsOf n m ((pad (flat ss)).set k b) = res) :
    Calls Try.prog 22 #[.slice A ss.length c, .int .i64 x, .string t] w fun e w' => Below w.heap.size w w' ∧ ∃ A c, e = .returned (.tuple #[.slice A res.length c, .bool true]) ∧ LS w' A res :=
  (implGridPut_any A c ss x t w h (gsmall hg.1).1 (gsmall hg.1).2).mono fun _ _ h => (tend_own h).yes fun ok r ho => by
    subst hr
    exact ho.uniq (ok' := true) (.inl ⟨n, m, k, b, hg, rfl, rfl⟩) |>.imp Eq.symm Eq.symm
theorem nGridOf {k : Nat} {a b x : Int} (hg : OfIn a b x n m k) (hx : x ≤ 9223372036854775807) (hr : ruleG n m (ofF m k) = res) :
    Calls Try.prog 57 #[.int .i64 a, .int .i64 b, .int .i64 x] w fun e w' => Below w.heap.size w w' ∧ ∃ A c, e = .returned (.tuple #[.slice A res.length c, .bool true]) ∧ LS w' A res :=
  (implGridOf_any a b x w hx).mono fun _ _ h => (tend_own h).yes fun ok r ho => by
    subst hr
    exact ho.uniq (ok' := true) (.inl ⟨n, m, k, hg, rfl, rfl⟩) |>.imp Eq.symm Eq.symm
end
end Go.Proofs.Ytgapdlokljcpbaa
