/- Joined pairings of the program as lists of 23 integers: made, taken apart, read; rightEnd, lowerEnd, leftEnd, pair, readJoined, by their contracts. -/
import Derived.Test.YtkkifpjeafchnaaTurnQ
import Derived.Test.YtkkifpjeafchnaaBunG
import Derived.Test.YtkkifpjeafchnaaRelT
namespace Go.Proofs.Ytkkifpjeafchnaa
open Go.RowKit Go.Shelf

/-- The integers of a joined pairing: the pairing's, rows, columns, rounds. -/
def joinL (l : List Int) (n m r : Nat) : List Int := l ++ [(n : Int), (m : Int), (r : Int)]
theorem joinL_length {l : List Int} (h : l.length = 20) (n m r : Nat) : (joinL l n m r).length = 23 := by simp [joinL, h]
theorem joinL_pre {l : List Int} {n m r : Nat} {j : Nat} {v : Value} (h : (pairC l)[j]? = some v) : (pairC (joinL l n m r))[j]? = some v := by
  have hlt := (Array.getElem?_eq_some_iff.1 h).1
  rw [pairC_size] at hlt
  have e : l[j]? = some l[j] := List.getElem?_eq_getElem hlt
  rw [pairC_at e] at h
  rw [← h]
  refine pairC_at ?_
  unfold joinL
  rw [List.getElem?_append_left hlt, e]
theorem joinL_rows {l : List Int} (h : l.length = 20) (n m r : Nat) : (pairC (joinL l n m r))[20]? = some (.int .i64 (n : Int)) := pairC_at (by unfold joinL; rw [List.getElem?_append_right (by omega), h]; rfl)
theorem joinL_columns {l : List Int} (h : l.length = 20) (n m r : Nat) : (pairC (joinL l n m r))[21]? = some (.int .i64 (m : Int)) := pairC_at (by unfold joinL; rw [List.getElem?_append_right (by omega), h]; rfl)
theorem joinL_rounds {l : List Int} (h : l.length = 20) (n m r : Nat) : (pairC (joinL l n m r))[22]? = some (.int .i64 (r : Int)) := pairC_at (by unfold joinL; rw [List.getElem?_append_right (by omega), h]; rfl)
theorem joinL_set {l : List Int} {n m r k : Nat} (x : Int) (h : k < l.length) : (joinL l n m r).set k x = joinL (l.set k x) n m r := by
  unfold joinL
  rw [List.set_append_left _ _ h]
theorem joinL_rset {l : List Int} (h : l.length = 20) (n m r r' : Nat) : (joinL l n m r).set 22 (r' : Int) = joinL l n m r' := by
  unfold joinL
  rw [List.set_append_right _ _ (by omega), h]
  rfl
/-- The cells of no joined pairing. -/
abbrev zeroJ : Array Value := #[.int .i64 0, .int .i64 0, .int .i64 0, .int .i64 0, .int .i64 0, .int .i64 0, .int .i64 0, .int .i64 0, .int .i64 0, .int .i64 0, .int .i64 0, .int .i64 0, .int .i64 0, .int .i64 0, .int .i64 0, .int .i64 0, .int .i64 0, .int .i64 0, .int .i64 0, .int .i64 0, .int .i64 0, .int .i64 0, .int .i64 0]
theorem zeroJ_eq : zeroJ = pairC (List.replicate 23 0) := rfl
theorem zeroJ_one : zeroJ.all (·.oneCell') = true := pairC_one (List.replicate 23 0)
theorem Try.size_joined : (Try.prog.info? 80).map (·.size) = some 23 := by kernel_rfl
theorem size_joinL {l : List Int} (h : l.length = 20) (n m r : Nat) : (Try.prog.info? 80).map (·.size) = some (pairC (joinL l n m r)).size := by rw [pairC_size, joinL_length h]; exact Try.size_joined
theorem zero_joinL {l : List Int} (h : l.length = 20) (n m r : Nat) : zeroJ.size = (pairC (joinL l n m r)).size := by rw [pairC_size, joinL_length h]; rfl
theorem lits20 {l : List Int} (h : l.length = 20) : ∃ a0 a1 a2 a3 a4 a5 a6 a7 a8 a9 b0 b1 b2 b3 b4 b5 b6 b7 b8 b9 : Int, l = [a0, a1, a2, a3, a4, a5, a6, a7, a8, a9, b0, b1, b2, b3, b4, b5, b6, b7, b8, b9] := by
  match l, h with
  | [a0, a1, a2, a3, a4, a5, a6, a7, a8, a9, b0, b1, b2, b3, b4, b5, b6, b7, b8, b9], _ => exact ⟨_, _, _, _, _, _, _, _, _, _, _, _, _, _, _, _, _, _, _, _, rfl⟩
theorem run_build_joined3 {l : List Int} (h : l.length = 20) (n m : Nat) (w : World) : (Instr.build 80 #[(0, .agg (pairC l)), (1, .int .i64 (n : Int)), (2, .int .i64 (m : Int))]).run Try.prog w = .ok (.agg (pairC (joinL l n m 0))) w := by
  obtain ⟨a0, a1, a2, a3, a4, a5, a6, a7, a8, a9, b0, b1, b2, b3, b4, b5, b6, b7, b8, b9, rfl⟩ := lits20 h
  kernel_rfl
theorem run_build_joined4 {l : List Int} (h : l.length = 20) (n m r : Nat) (w : World) : (Instr.build 80 #[(0, .agg (pairC l)), (1, .int .i64 (n : Int)), (2, .int .i64 (m : Int)), (3, .int .i64 (r : Int))]).run Try.prog w = .ok (.agg (pairC (joinL l n m r))) w := by
  obtain ⟨a0, a1, a2, a3, a4, a5, a6, a7, a8, a9, b0, b1, b2, b3, b4, b5, b6, b7, b8, b9, rfl⟩ := lits20 h
  kernel_rfl
theorem run_field_joined {l : List Int} (h : l.length = 20) (n m r : Nat) (w : World) : (Instr.field 80 (.agg (pairC (joinL l n m r))) 0).run Try.prog w = .ok (.agg (pairC l)) w := by
  obtain ⟨a0, a1, a2, a3, a4, a5, a6, a7, a8, a9, b0, b1, b2, b3, b4, b5, b6, b7, b8, b9, rfl⟩ := lits20 h
  kernel_rfl

section
variable {ops : Array Oper} {rest : List Oper} {o : Oper} {a : Act} {w w' : World} {Q : Exit → Act → World → Prop}
theorem wpList_exec {P : Program} (hgd : o.guard = none) {v : Value} (hr : (execOp a.eval o).run P w = .ok (.value v) w') (h : wpList P ops Q rest (a.put o.dst v) w') : wpList P ops Q (o :: rest) a w := by
  refine wpList_plain hgd fun K hK => ?_
  unfold Oper.wp
  rw [hr]
  exact hK _ _ h
theorem exec_build3 (x y z : Operand) (ho : o.op = Op.build 80 #[(0, x), (1, y), (2, z)]) (l : List Int) (n m : Nat) (hl : l.length = 20) (hx : a.eval x = .agg (pairC l)) (hy : a.eval y = .int .i64 (n : Int)) (hz : a.eval z = .int .i64 (m : Int)) :
    (execOp a.eval o).run Try.prog w = .ok (.value (.agg (pairC (joinL l n m 0)))) w := by
  unfold execOp
  simp only [ho]
  have : (#[(0, x), (1, y), (2, z)] : Array (Nat × Operand)).map (fun p => (p.1, a.eval p.2)) = #[(0, .agg (pairC l)), (1, .int .i64 (n : Int)), (2, .int .i64 (m : Int))] := by simp [hx, hy, hz]
  rw [this]
  simp only [Sem.run_bind, run_build_joined3 hl n m w, Result.andThen_ok, Sem.run_pure]
theorem exec_build4 (x y z u : Operand) (ho : o.op = Op.build 80 #[(0, x), (1, y), (2, z), (3, u)]) (l : List Int) (n m r : Nat) (hl : l.length = 20) (hx : a.eval x = .agg (pairC l)) (hy : a.eval y = .int .i64 (n : Int)) (hz : a.eval z = .int .i64 (m : Int)) (hu : a.eval u = .int .i64 (r : Int)) :
    (execOp a.eval o).run Try.prog w = .ok (.value (.agg (pairC (joinL l n m r)))) w := by
  unfold execOp
  simp only [ho]
  have : (#[(0, x), (1, y), (2, z), (3, u)] : Array (Nat × Operand)).map (fun p => (p.1, a.eval p.2)) = #[(0, .agg (pairC l)), (1, .int .i64 (n : Int)), (2, .int .i64 (m : Int)), (3, .int .i64 (r : Int))] := by simp [hx, hy, hz, hu]
  rw [this]
  simp only [Sem.run_bind, run_build_joined4 hl n m r w, Result.andThen_ok, Sem.run_pure]
theorem exec_field0 (x : Operand) (ho : o.op = Op.field 80 x 0) (l : List Int) (n m r : Nat) (hl : l.length = 20) (hx : a.eval x = .agg (pairC (joinL l n m r))) :
    (execOp a.eval o).run Try.prog w = .ok (.value (.agg (pairC l))) w := by
  unfold execOp
  simp only [ho, hx]
  simp only [Sem.run_bind, run_field_joined hl n m r w, Result.andThen_ok, Sem.run_pure]
theorem exec_load_head {P : Program} (ty : TypeId) (x : Operand) (ho : o.op = .load ty x)
    (g : Nat) (hx : a.eval x = .pointer (some ⟨g, 0, none⟩)) (t : TypeId) (all : Array Value) (fr : Nat × Nat) (cs : Array Value) (d : TypeDesc) (hg : w.heap[g]? = some (.cells all t fr)) (hpre : ∀ (j : Nat) (v : Value), cs[j]? = some v → all[j]? = some v)
    (hu : P.underlying ty = some d) (hd : d.isRow = true) (hi : (P.info? ty).map (·.size) = some cs.size) : (execOp a.eval o).run P w = .ok (.value (.agg cs)) w := by
  have hr : w.rangeAt g 0 cs.toList := fun j v hv => by
    rw [cell_of_row _ _ _ _ _ _ hg, Nat.zero_add]
    exact hpre j v (by simpa using hv)
  have := run_loadVar_mid (P := P) w g 0 ty cs.toList d hr hu hd (by simpa using hi)
  unfold execOp
  simp only [ho, hx, Instr.loadAt, Instr.sureAddr, Sem.run_bind, Sem.run_pure, Result.andThen_ok, this]
end

theorem size_pairL {l : List Int} (h : l.length = 20) : (Try.prog.info? 60).map (·.size) = some (pairC l).size := by rw [pairC_size, h]; exact Try.size_pair

set_option maxRecDepth 100000 in
set_option maxHeartbeats 1000000 in
theorem rightEnd_any (l : List Int) (n m r k : Nat) (w : World) (hl : l.length = 20) (hm : m ≤ 5) (hk : k ≤ 5) :
    Calls Try.prog 132 #[.agg (pairC (joinL l n m r)), .int .i64 (k : Int)] w fun e w' => e = .returned (.int .i64 ((m + k : Nat) : Int)) ∧ Below w.heap.size w w' := by
  have H1 := joinL_columns hl n m r
  generalize pairC (joinL l n m r) = cs at *
  have H0 := hid (heap_new0 w (.cells cs 80))
  have HB := hid ((Below.refl w.heap.size w).alloc (Nat.le_refl _) (.cells cs 80))
  have hc : (w.alloc (.cells cs 80)).cell? ⟨w.heap.size, 21, none⟩ = some (.int .i64 (m : Int)) := by rw [cell_of_row _ _ _ _ _ _ H0.out]; exact H1
  have hmi : (m : Int) ≤ 5 := by omega
  have hki : (k : Int) ≤ 5 := by omega
  clear H1 hl
  go_enter Try.func132, Try.ntmps132
  go_wp2_with fail
  go_ret
  exact ⟨rfl, HB.out⟩

set_option maxRecDepth 100000 in
set_option maxHeartbeats 1000000 in
theorem leftEnd_any (l : List Int) (n m r k : Nat) (w : World) (hl : l.length = 20) (hn : n ≤ 5) (hm : m ≤ 5) (hk : k < n) :
    Calls Try.prog 133 #[.agg (pairC (joinL l n m r)), .int .i64 (k : Int)] w fun e w' => e = .returned (.int .i64 ((2 * n + 2 * m - 1 - k : Nat) : Int)) ∧ Below w.heap.size w w' := by
  have H1 := joinL_columns hl n m r
  have H2 := joinL_rows hl n m r
  generalize pairC (joinL l n m r) = cs at *
  have H0 := hid (heap_new0 w (.cells cs 80))
  have HB := hid ((Below.refl w.heap.size w).alloc (Nat.le_refl _) (.cells cs 80))
  have hc : (w.alloc (.cells cs 80)).cell? ⟨w.heap.size, 21, none⟩ = some (.int .i64 (m : Int)) := by rw [cell_of_row _ _ _ _ _ _ H0.out]; exact H1
  have hc2 : (w.alloc (.cells cs 80)).cell? ⟨w.heap.size, 20, none⟩ = some (.int .i64 (n : Int)) := by rw [cell_of_row _ _ _ _ _ _ H0.out]; exact H2
  have hmi : (m : Int) ≤ 5 := by omega
  have hni : (n : Int) ≤ 5 := by omega
  have hki : (k : Int) < (n : Int) := by omega
  have hm1 : 1 ≤ (n : Int) := by omega
  have HE := hid (show 2 * (n : Int) + 2 * (m : Int) - 1 - (k : Int) = ((2 * n + 2 * m - 1 - k : Nat) : Int) by omega)
  clear H1 H2 hl
  go_enter Try.func133, Try.ntmps133
  go_wp2_with fail
  go_ret
  exact ⟨by rw [← HE.out]; rfl, HB.out⟩

/-- Block b alone has turned: two of its cells. -/
def PairedAt (w w' : World) (b : Nat) (cs : Array Value) (t : TypeId) (i j : Nat) : Prop :=
  w'.heap[b]? = some (.cells ((cs.setIfInBounds i (.int .i64 (j : Int))).setIfInBounds j (.int .i64 (i : Int))) t (0, 0)) ∧ But b w w'
theorem setIf_comm {cs : Array Value} {i j : Nat} (h : i ≠ j) (u v : Value) : (cs.setIfInBounds i u).setIfInBounds j v = (cs.setIfInBounds j v).setIfInBounds i u := by
  refine Array.ext_getElem? fun k => ?_
  simp only [Array.getElem?_setIfInBounds, Array.size_setIfInBounds]
  by_cases h1 : j = k
  · subst h1
    rw [if_pos rfl, if_pos rfl, if_neg h]
  · rw [if_neg h1, if_neg h1]

set_option maxRecDepth 100000 in
set_option maxHeartbeats 4000000 in
theorem pair_any (b i j : Nat) (cs : Array Value) (t : TypeId) (w : World) (hb : w.heap[b]? = some (.cells cs t (0, 0))) (hs : 20 ≤ cs.size) (hi : i < 20) (hj : j < 20) (hij : i ≠ j) :
    Calls Try.prog 137 #[.pointer (some ⟨b, 0, none⟩), .int .i64 (i : Int), .int .i64 (j : Int)] w fun e w' => e = .returned (.tuple #[]) ∧ PairedAt w w' b cs t i j := by
  have HB := hid hb
  obtain ⟨u, hu⟩ : ∃ u, cs[i]? = some u := ⟨_, Array.getElem?_eq_getElem (by omega)⟩
  obtain ⟨u', hu'⟩ : ∃ u, cs[j]? = some u := ⟨_, Array.getElem?_eq_getElem (by omega)⟩
  have hc : w.cell? ⟨b, i, none⟩ = some u := by rw [cell_of_row _ _ _ _ _ _ hb]; exact hu
  have hc' : w.cell? ⟨b, j, none⟩ = some u' := by rw [cell_of_row _ _ _ _ _ _ hb]; exact hu'
  have hf : w.frozen? ⟨b, i, none⟩ = false := frozen_of_row _ _ _ _ _ hb
  have hf' : w.frozen? ⟨b, j, none⟩ = false := frozen_of_row _ _ _ _ _ hb
  have HIJ := hid hij
  have hii : (i : Int) < 20 := by omega
  have hji : (j : Int) < 20 := by omega
  clear hb hu hu'
  go_enter Try.func137, Try.ntmps137
  go_wp2_with fail
  go_region
  go_wp2_with fail
  go_end0
  exact ⟨rfl, heap_setCell_same _ _ _ _ _ _ (heap_setCell_same _ _ _ _ _ _ HB.out), ((But.setCell _ _ _).trans (But.setCell _ _ _)).trans (But.of_below (Below.refl _ _).drew)⟩
end Go.Proofs.Ytkkifpjeafchnaa
