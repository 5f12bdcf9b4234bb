/- Guarded operations of a quiet region that are left out, many at once. No program is named. -/
import Derived.Test.YtgildagmliadeaaBunG
namespace Go.Proofs.Ytgildagmliadeaa
open Go Go.RowKit

section
variable {P : Program} {ops : Array Oper} {C : World → Prop} {Q : Act → Prop}
/-- Operations left out one behind the other: what is left of the list, and the frame. -/
def skipRun (ops : Array Oper) : Nat → List Oper → Act → Option (List Oper × Act)
  | 0, l, a => some (l, a)
  | _ + 1, [], _ => none
  | k + 1, o :: l, a => if Region.wanted o (yielded ops a.tmps) then none else skipRun ops k l (a.put o.dst undef)
theorem wpQuiet_skips (k : Nat) (l : List Oper) (a : Act) {l' : List Oper} {a' : Act} (hs : skipRun ops k l a = some (l', a')) (h : wpQuiet P ops C Q l' a') : wpQuiet P ops C Q l a := by
  induction k generalizing l a with
  | zero =>
    simp only [skipRun, Option.some.injEq, Prod.mk.injEq] at hs
    obtain ⟨rfl, rfl⟩ := hs
    exact h
  | succ k ih =>
    cases l with
    | nil => simp [skipRun] at hs
    | cons o l =>
      unfold skipRun at hs
      split at hs
      · cases hs
      · rename_i hw
        exact wpQuiet_skipW (by simpa using hw) (ih l _ hs)
theorem wpQuiet_skipsD (k : Nat) {l : List Oper} {a : Act} (hs : skipRun ops k l a = some (l.drop k, a)) (h : wpQuiet P ops C Q (l.drop k) a) : wpQuiet P ops C Q l a := wpQuiet_skips k l a hs h
/-- An operation that yields a value, and k behind it that are left out for it, the frame as it was but for the value: in one step, for a goal that begins with operations that are left out must not be looked into (whnf walks on through all of them). -/
theorem wpQuiet_value_skips (k : Nat) {o : Oper} {rest : List Oper} {a : Act} (hgd : o.guard = none) (v : Value) (hv : ∀ w, C w → (execOp a.eval o).run P w = .ok (.value v) w) (hs : skipRun ops k rest (a.put o.dst v) = some (rest.drop k, a.put o.dst v))
    (h : wpQuiet P ops C Q (rest.drop k) (a.put o.dst v)) : wpQuiet P ops C Q (o :: rest) a :=
  wpQuiet_value hgd v hv (wpQuiet_skips k rest _ hs h)
/-- The same where slots are emptied by what is left out: the frame behind it is told. -/
theorem wpQuiet_value_skipsF (k : Nat) (a' : Act) {o : Oper} {rest : List Oper} {a : Act} (hgd : o.guard = none) (v : Value) (hv : ∀ w, C w → (execOp a.eval o).run P w = .ok (.value v) w) (hs : skipRun ops k rest (a.put o.dst v) = some (rest.drop k, a'))
    (h : wpQuiet P ops C Q (rest.drop k) a') : wpQuiet P ops C Q (o :: rest) a :=
  wpQuiet_value hgd v hv (wpQuiet_skips k rest _ hs h)
end

end Go.Proofs.Ytgildagmliadeaa
