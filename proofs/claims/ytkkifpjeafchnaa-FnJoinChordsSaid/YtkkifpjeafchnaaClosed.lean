/- closed, JoinClose of the program, by their contracts. -/
import Derived.Test.YtkkifpjeafchnaaSewC
import Derived.Test.YtkkifpjeafchnaaUnit
import Derived.Great.BuildSlice
namespace Go.Proofs.Ytkkifpjeafchnaa
open Go.RowKit Go.Shelf

theorem GrowI.ints' {w : World} {base : Nat} {A : Option Addr} {n c : Nat} {l : List Int} (h : GrowI w base (.slice A n c) l) : n = l.length ∧ Ints w w.heap.size A l := by
  obtain ⟨A', c', e, h2⟩ := h.ints
  cases e
  exact ⟨rfl, h2⟩
theorem GrowI.head' {w : World} {base : Nat} {v : Value} {l : List Int} (h : GrowI w base v l) (h0 : 0 < l.length) : ∃ g c cs, v = .slice (some ⟨g, 0, none⟩) l.length c ∧ w.heap[g]? = some (.cells cs 3 (0, 0)) ∧ l.length ≤ cs.size ∧ base ≤ g := by
  rcases h.2 with ⟨_, h1⟩ | ⟨g, cap, cur, rfl, hb, hg, h1, _, h3, _⟩
  · omega
  · exact ⟨g, cap, cur, rfl, hg, by omega, hb⟩
theorem run_slice_joined1 {l : List Int} (h : l.length = 20) (n m r : Nat) (w : World) : (Instr.buildSlice 195 1 #[(0, .agg (pairC (joinL l n m r)))]).run Try.prog w = .ok (.slice (some ⟨w.heap.size, 0, none⟩) 1 1) (w.alloc (.cells (pairC (joinL l n m r)) 80)) := by
  obtain ⟨i0, hi⟩ : ∃ i, Try.prog.info? 80 = some i := info_of_underlying Try.underlying80
  have hz : i0.zero = some (.agg zeroJ) := by
    have e : (Try.prog.info? 80).bind (·.zero) = some (.agg zeroJ) := by kernel_rfl
    rw [hi] at e
    exact e
  have hs : i0.size = 23 := by
    have e := Try.size_joined
    rw [hi] at e
    exact Option.some.inj e
  refine run_buildSlice w 195 80 1 _ _ i0 _ Try.underlying195 hi hz (by rw [hs]; decide) (by rw [hs]; decide) ?_
  rw [hs]
  obtain ⟨a0, a1, a2, a3, a4, a5, a6, a7, a8, a9, b0, b1, b2, b3, b4, b5, b6, b7, b8, b9, rfl⟩ := lits20 h
  kernel_rfl
theorem exec_slice1 {o : Oper} {a : Act} {w : World} (x : Operand) (ho : o.op = Op.buildSlice 195 1 #[(0, x)]) (l : List Int) (n m r : Nat) (hl : l.length = 20) (hx : a.eval x = .agg (pairC (joinL l n m r))) :
    (execOp a.eval o).run Try.prog w = .ok (.value (.slice (some ⟨w.heap.size, 0, none⟩) 1 1)) (w.alloc (.cells (pairC (joinL l n m r)) 80)) := by
  unfold execOp
  simp only [ho]
  have : (#[(0, x)] : Array (Nat × Operand)).map (fun p => (p.1, a.eval p.2)) = #[(0, .agg (pairC (joinL l n m r)))] := by simp [hx]
  rw [this]
  simp only [Sem.run_bind, run_slice_joined1 hl n m r w, Result.andThen_ok, Sem.run_pure]
/-- What the operations hand back that tell both ends of a row to be sewn. -/
def sewRel (sv : Array Value) (m k z : Nat) (cs : Array Value) (i : Nat) (v : Value) (_ : World) : Prop :=
  match i with
  | 0 => v = .agg sv
  | 1 => v = .agg cs
  | 2 => v = .int .i64 (k : Int)
  | 3 => v = .int .i64 ((m + k : Nat) : Int)
  | 4 => v = .agg cs
  | 5 => v = .int .i64 (k : Int)
  | 6 => v = .int .i64 (z : Int)
  | _ => True

/-- What JoinClose comes to. -/
def closeV (n m : Nat) (l : List Int) : Int := ((roundsTo l.length (mateN l) (sewT n m l.length) l.length : Nat) : Int)

end Go.Proofs.Ytkkifpjeafchnaa
