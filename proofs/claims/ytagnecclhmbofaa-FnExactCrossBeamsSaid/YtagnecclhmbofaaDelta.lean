/- How many paths more come by a change; a grid and one of its cells. -/
import Derived.Test.YtagnecclhmbofaaChange
import Derived.Test.YtagnecclhmbofaaRoundA
namespace Go.Proofs.Ytagnecclhmbofaa
open Go.RowKit Go.Shelf

theorem pathsR_le {n m : Nat} {t : Int → Int → UInt8} (hn : n ≤ 5) (hm : m ≤ 5) : 0 ≤ (pathsR n m t).1 ∧ (pathsR n m t).1 ≤ 110 := by
  have h25 : n * m ≤ 5 * 5 := Nat.mul_le_mul hn hm
  have := leadsTo_le (n := n) (m := m) (t := t) (4 * (n * m))
  rw [leadsTo_all] at this
  unfold pathsR
  simp only
  omega

section
variable {P : Program} {w : World}
theorem results_cells_tmp {fn : Func} {p q u : Tmp} {ty ty' : TypeId} (h : fn.results = #[.cell p ty, .cell q ty', .tmp u]) (tmps : Array Value) (P : Program) (w : World) :
    (results fn tmps).run P w =
      ((asAddr (tmps.getD p undef)).run P w).andThen fun a w₁ => ((loadVar ty a).run P w₁).andThen fun v w₂ =>
      ((asAddr (tmps.getD q undef)).run P w₂).andThen fun a' w₃ => ((loadVar ty' a').run P w₃).andThen fun v' w₄ => .ok (.tuple #[v, v', tmps.getD u undef]) w₄ := by
  simp only [results, h]
  simp [Sem.run_bind, Result.andThen]
theorem results_rows_tmp {fn : Func} {p q u : Tmp} {ty ty' : TypeId} (h : fn.results = #[.cell p ty, .cell q ty', .tmp u]) (tmps : Array Value) (g g' : Nat) (t t' : TypeId) (cs cs' : Array Value) (fr fr' : Nat × Nat) (d d' : TypeDesc)
    (hp : tmps.getD p undef = .pointer (some ⟨g, 0, none⟩)) (hq : tmps.getD q undef = .pointer (some ⟨g', 0, none⟩)) (hg : w.heap[g]? = some (.cells cs t fr)) (hg' : w.heap[g']? = some (.cells cs' t' fr'))
    (hu : P.underlying ty = some d) (hd : (match d with | .struct _ | .array _ _ => true | _ => false) = true) (hi : (P.info? ty).map (·.size) = some cs.size)
    (hu' : P.underlying ty' = some d') (hd' : (match d' with | .struct _ | .array _ _ => true | _ => false) = true) (hi' : (P.info? ty').map (·.size) = some cs'.size) :
    (results fn tmps).run P w = .ok (.tuple #[.agg cs, .agg cs', tmps.getD u undef]) w := by
  rw [results_cells_tmp h, hp, hq]
  simp [asAddr, run_loadVar_row w g t ty cs fr d hg hu hd hi, run_loadVar_row w g' t' ty' cs' fr' d' hg' hu' hd' hi', Result.andThen]
end

theorem zero2_one : (#[.int .i64 0, .int .i64 0] : Array Value).all (·.oneCell') = true := by
  rw [Array.all_eq_true_iff_forall_mem]
  intro u hu
  simp at hu
  rcases hu with rfl | rfl <;> rfl
/-- What the operations of placeIn's last statement hand back. -/
def placeRel (gc : Array Value) (m c : Nat) (i : Nat) (v : Value) (_ : World) : Prop :=
  match i with
  | 0 => v = .agg gc
  | 1 => v = .agg gc
  | 2 => v = .int .i64 (c : Int)
  | 3 => v = .agg #[.int .i64 ((c / m : Nat) : Int), .int .i64 ((c % m : Nat) : Int)]
  | _ => True
/-- What placeIn comes to: the grid and the place of a cell. -/
def PlaceEnd (ss : List ByteArray) (cell : Int) (w : World) (e : Ending) (w' : World) : Prop :=
  Below w.heap.size w w' ∧ ((∃ n m c, CellIn ss cell n m c ∧ e = .returned (.tuple #[.agg (gcells n m (pad (flat ss))), .agg #[.int .i64 ((c / m : Nat) : Int), .int .i64 ((c % m : Nat) : Int)], .bool true])) ∨
    ((∀ n m c, ¬ CellIn ss cell n m c) ∧ e = .returned (.tuple #[.agg zeroG, .agg #[.int .i64 0, .int .i64 0], .bool false])))

end Go.Proofs.Ytagnecclhmbofaa
