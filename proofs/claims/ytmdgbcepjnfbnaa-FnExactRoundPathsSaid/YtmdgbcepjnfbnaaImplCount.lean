/- GridCount, GridFull, GridNumber of the program, by their contracts. -/
import Derived.Test.YtmdgbcepjnfbnaaSpecCount
import Derived.Test.YtmdgbcepjnfbnaaRead
namespace Go.Proofs.Ytmdgbcepjnfbnaa
open Go.RowKit
section
variable {P : Program} {ops : Array Oper} {rest : List Oper} {o : Oper} {a : Act} {w : World} {Q : Exit → Act → World → Prop}
/-- A whole struct out of its block, where the guard lets it be loaded. -/
theorem wpList_load_row_g (hw : Region.wanted o (yielded ops a.tmps) = true) (ty : TypeId) (x : Operand) (ho : o.op = .load ty x)
    (g : Nat) (hx : a.eval x = .pointer (some ⟨g, 0, none⟩)) (t : TypeId) (cs : Array Value) (fr : Nat × Nat) (d : TypeDesc) (hg : w.heap[g]? = some (.cells cs t fr))
    (hu : P.underlying ty = some d) (hd : (match d with | .struct _ | .array _ _ => true | _ => false) = true) (hi : (P.info? ty).map (·.size) = some cs.size)
    (h : wpList P ops Q rest (a.put o.dst (.agg cs)) w) : wpList P ops Q (o :: rest) a w := by
  unfold wpList
  rw [if_pos hw]
  exact .inl (wp_load_row ty x ho g hx t cs fr d hg hu hd hi h)
end

/-- What GridCount comes to. -/
def CountEnd (ss : List ByteArray) (e : Ending) : Prop :=
  (∃ n m, IsGrid n m ss ∧ e = .returned (.tuple #[.int .i64 ((cntOf 114 (flat ss) + cntOf 102 (flat ss) : Nat) : Int), .bool true])) ∨ (NoGrid ss ∧ e = .returned (.tuple #[.int .i64 0, .bool false]))
def FullEnd (ss : List ByteArray) (e : Ending) : Prop :=
  (∃ n m, IsGrid n m ss ∧ e = .returned (.bool (cntOf 46 (flat ss) == 0))) ∨ (NoGrid ss ∧ e = .returned (.bool false))
def NumberEnd (ss : List ByteArray) (e : Ending) : Prop :=
  (∃ n m, IsGrid n m ss ∧ ((n * m ≤ 20 ∧ e = .returned (.tuple #[.int .i64 ((numOf (flat ss) : Nat) : Int), .bool true])) ∨ (20 < n * m ∧ e = .returned (.tuple #[.int .i64 0, .bool false])))) ∨ (NoGrid ss ∧ e = .returned (.tuple #[.int .i64 0, .bool false]))

theorem IsGrid.letters {n m : Nat} {ss : List ByteArray} (h : IsGrid n m ss) : ∀ i, i < n * m → isLet ((pad (flat ss)).getD i 0) = true := fun i hi => by
  have hl : i < (flat ss).length := by rw [h.flen]; exact hi
  have e : (pad (flat ss)).getD i 0 = (flat ss)[i] := by
    simp [pad, List.getElem?_append_left hl, List.getElem?_eq_getElem hl]
  rw [e]
  exact h.lets _ (List.getElem_mem hl)

end Go.Proofs.Ytmdgbcepjnfbnaa
