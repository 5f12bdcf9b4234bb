/- The contracts of GridPart, GridPut, GridOf, GridNumber, GridBeside, GridUnder on grids that are given, in one form. -/
import Derived.Test.YtonhnmpgikmlpaaPK
import Derived.Test.YtonhnmpgikmlpaaBunW
import Derived.Test.YtonhnmpgikmlpaaBunO
namespace Go.Proofs.Ytonhnmpgikmlpaa
open Go.RowKit

theorem JoinEnd.tend {In : List ByteArray → List ByteArray → Nat → Nat → Nat → Nat → Prop} {G : List ByteArray → List ByteArray → Nat → Nat → Nat → Nat → List ByteArray} {ss tt : List ByteArray} {w w' : World} {e : Ending} (h : JoinEnd In G ss tt w e w') : TEnd (JoinOut In G ss tt) w e w' := by
  obtain ⟨A', res, ok, rfl, hout, how, hb⟩ := joinEnd_open h
  exact ⟨hb, A', _, res, ok, rfl, hout, how.strs⟩
section
variable {n m c : Nat} {A : Option Addr} {ss res : List ByteArray} {w : World}
theorem nGridPart {a n1 l m1 : Nat} {t lo le ri : Int} (h : LS w A ss) (hg : PartIn ss t lo le ri n m a n1 l m1) (hr : ruleG n1 m1 (partF m a l (flat ss)) = res) :
    Calls Try.prog 55 #[.slice A ss.length c, .int .i64 t, .int .i64 lo, .int .i64 le, .int .i64 ri] w fun e w' => Below w.heap.size w w' ∧ ∃ A c, e = .returned (.tuple #[.slice A res.length c, .bool true]) ∧ LS w' A res :=
  (implGridPart_any A c ss t lo le ri w h (gsmall hg.1).1 (gsmall hg.1).2).mono fun _ _ h => (tend_own h).yes fun ok r ho => by
    subst hr
    exact ho.uniq (ok' := true) (.inl ⟨n, m, a, n1, l, m1, hg, rfl, rfl⟩) |>.imp Eq.symm Eq.symm
theorem nGridBeside {n' m' : Nat} {A' : Option Addr} {c' : Nat} {tt : List ByteArray} (h : LS w A ss) (h' : LS w A' tt) (hg : BesideIn ss tt n m n' m') (hr : besideG ss tt n m n' m' = res) :
    Calls Try.prog 51 #[.slice A ss.length c, .slice A' tt.length c'] w fun e w' => Below w.heap.size w w' ∧ ∃ A c, e = .returned (.tuple #[.slice A res.length c, .bool true]) ∧ LS w' A res :=
  (implGridBeside_any A A' c c' ss tt w h h' (gsmall hg.1).1 (gsmall hg.1).2 (gsmall hg.2.1).1 (gsmall hg.2.1).2).mono fun _ _ h => (JoinEnd.tend h).yes fun ok r ho => by
    subst hr
    exact BesideOut.uniq ho (ok' := true) (.inl ⟨n, m, n', m', hg, rfl, rfl⟩) |>.imp Eq.symm Eq.symm
end
end Go.Proofs.Ytonhnmpgikmlpaa
