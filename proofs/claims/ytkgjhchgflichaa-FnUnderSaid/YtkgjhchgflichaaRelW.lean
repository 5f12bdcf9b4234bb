/- Guarded operations for the law of relations (XAnyInv): wanted or left out. No program is named. -/
import Derived.Test.YtkgjhchgflichaaBunA
namespace Go.Proofs.Ytkgjhchgflichaa
open Go Go.RowKit

section
variable {P : Program} {ops : Array Oper} {Q : Exit → Act → World → Prop}
theorem wpOp_skip {i : Nat} {o : Oper} (hi : ops[i]? = some o) {a : Act} (hw : Region.wanted o (yielded ops a.tmps) = false) {w : World} {R : Value → World → Prop} (h : R undef w) : wpOp P ops Q i (RelQ ops i R a w) a w := by
  unfold wpOp
  simp only [hi]
  rw [if_neg (by rw [hw]; decide)]
  exact ⟨undef, by rw [hi]; rfl, h, Below.refl _ _⟩
theorem wpOp_valW {i : Nat} {o : Oper} (hi : ops[i]? = some o) {a : Act} (hw : Region.wanted o (yielded ops a.tmps) = true) {u : Value} {w : World} {R : Value → World → Prop}
    (hr : (execOp a.eval o).run P w = .ok (.value u) w) (h : R u w) : wpOp P ops Q i (RelQ ops i R a w) a w := by
  unfold wpOp
  simp only [hi]
  rw [if_pos hw]
  refine .inl ?_
  unfold Oper.wp
  rw [hr]
  simp only [Oper.upon]
  exact ⟨u, by rw [hi]; rfl, h, Below.refl _ _⟩
theorem wpOp_callW {i : Nat} {o : Oper} (hi : ops[i]? = some o) {a : Act} (hw : Region.wanted o (yielded ops a.tmps) = true) {f : FuncId} {args : Array Value} {w : World} {R : Value → World → Prop}
    (hr : (execOp a.eval o).run P w = .ok (.enter f args) w) (hc : Calls P f args w fun e w' => ∃ v, e = .returned v ∧ R v w' ∧ Below w.heap.size w w') : wpOp P ops Q i (RelQ ops i R a w) a w := by
  unfold wpOp
  simp only [hi]
  rw [if_pos hw]
  refine .inl ?_
  unfold Oper.wp
  rw [hr]
  simp only [Oper.upon]
  refine hc.mono fun e w' he => ?_
  obtain ⟨v, rfl, h1, h2⟩ := he
  exact ⟨v, by rw [hi]; rfl, h1, h2⟩
end

end Go.Proofs.Ytkgjhchgflichaa
