/- Terms tidied by the specification (l11Tidy), by its contract. -/
import Derived.Test.YtongjijkdjagdaaDoorTermS
import Derived.Test.YtongjijkdjagdaaDoorBunC
namespace Go.Proofs.YtongjijkdjagdaaDoor
open Go.RowKit

def TidIs (u : Tm) (w : World) (e : Ending) (w' : World) : Prop := e = .returned (.string (strB u.text)) ∧ Below w.heap.size w w'
theorem tidS_len : ∀ (t : Tm) (k : Nat) (f o : Bool), (t.tidS k f o).text.length ≤ t.text.length
  | .lone _, _, _, _ => by simp [Tm.tidS, Tm.text]
  | .sig s t, k, f, o => by
    have h := fun k f o => tidS_len t k f o
    simp only [Tm.tidS, Tm.text, List.length_cons]
    split
    · split
      · exact Nat.le_succ_of_le (h _ _ _)
      · exact Nat.le_succ_of_le (h _ _ _)
    · split
      · exact Nat.le_succ_of_le (h _ _ _)
      · exact Nat.le_succ_of_le (h _ _ _)
  | .cpl a s b, k, f, o => by
    have h1 := tidS_len a k f o
    have h2 := tidS_len b k f o
    simp only [Tm.tidS]
    split <;> simp [Tm.text] <;> omega
/-- A struct of four cells in a row. -/
theorem four_cells {w : World} {g off : Nat} {cs : Array Value} {ty : TypeId} {s : UInt8} {d : Nat × Nat} {sl : Value} (h : w.heap[g]? = some (.cells cs ty (0, 0))) (hc : ∀ j v, (tmC s d sl)[j]? = some v → cs[off + j]? = some v) :
    w.cell? ⟨g, off, none⟩ = some (.int .u8 s.toNat) ∧ w.cell? ⟨g, off + 1, none⟩ = some (.int .i64 (d.1 : Int)) ∧ w.cell? ⟨g, off + 2, none⟩ = some (.int .i64 (d.2 : Int)) ∧ w.cell? ⟨g, off + 3, none⟩ = some sl := by
  refine ⟨?_, ?_, ?_, ?_⟩
  · rw [cell_of_row _ _ _ _ _ _ h]; exact hc 0 _ rfl
  · rw [cell_of_row _ _ _ _ _ _ h]; exact hc 1 _ rfl
  · rw [cell_of_row _ _ _ _ _ _ h]; exact hc 2 _ rfl
  · rw [cell_of_row _ _ _ _ _ _ h]; exact hc 3 _ rfl

section
variable {ops : Array Oper} {rest : List Oper} {o : Oper} {a : Act} {w w' : World} {Q : Exit → Act → World → Prop}
theorem wpList_execT {P : Program} (hgd : o.guard = none) {v : Value} (hr : (execOp a.eval o).run P w = .ok (.value v) w') (h : wpList P ops Q rest (a.put o.dst v) w') : wpList P ops Q (o :: rest) a w := by
  refine wpList_plain hgd fun K hK => ?_
  unfold Oper.wp
  rw [hr]
  exact hK _ _ h
end
set_option maxRecDepth 100000 in
theorem one_text (W : World) (b : UInt8) (n : Nat) (hn : n = W.heap.size) : (convert 93 9 (.slice (some ⟨n, 0, none⟩) 1 1)).run Tryd.prog (W.alloc (.cells #[.int .u8 (b.toNat : Int)] 5)) = .ok (.string (strB [b])) (W.alloc (.cells #[.int .u8 (b.toNat : Int)] 5)) := by
  subst hn
  have h := run_convert_bytes_arg (P := Tryd.prog) (W.alloc (.cells #[.int .u8 (b.toNat : Int)] 5)) 93 5 Tryd.underlying93 Tryd.underlying5 W.heap.size 0 1 1 [(b.toNat : Int)] (by simp) (fun i hi => by
    obtain rfl : i = 0 := by simp at hi; omega
    rw [cell_of_row _ _ _ _ _ _ (heap_new0 W _)]
    rfl) 9 Tryd.underlying9
  rw [h]
  congr 2
  simp [strOfNums, strB]
def cplS (k : Nat) (s : UInt8) (f : Bool) (A B : Tm) : Tm := if (midN k s (f && s == 124)).2 = true then .cpl B (midN k s (f && s == 124)).1 A else .cpl A (midN k s (f && s == 124)).1 B
end Go.Proofs.YtongjijkdjagdaaDoor
