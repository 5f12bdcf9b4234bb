/- The beam of a port, as its two ports; two beams compared; a region that draws its order and holds guarded operations. -/
import Derived.Test.YtmfoajghlodkdaaTimes
import Derived.Test.YtmfoajghlodkdaaPort
namespace Go.Proofs.Ytmfoajghlodkdaa
open Go.RowKit Go.Shelf

section
variable {P : Program} {ops : Array Oper} {C : World → Prop} {Q : Act → Prop} {a : Act} {o : Oper} {rest : List Oper}
theorem wpQuiet_skipW (hw : Region.wanted o (yielded ops a.tmps) = false) (h : wpQuiet P ops C Q rest (a.put o.dst undef)) : wpQuiet P ops C Q (o :: rest) a := by
  unfold wpQuiet
  rw [hw]
  exact h
theorem wpQuiet_load_rowW (hw : Region.wanted o (yielded ops a.tmps) = true) (ty : TypeId) (x : Operand) (ho : o.op = .load ty x)
    (g : Nat) (hx : a.eval x = .pointer (some ⟨g, 0, none⟩)) (t : TypeId) (cs : Array Value) (fr : Nat × Nat) (d : TypeDesc) (hg : ∀ w, C w → w.heap[g]? = some (.cells cs t fr))
    (hu : P.underlying ty = some d) (hd : (match d with | .struct _ | .array _ _ => true | _ => false) = true) (hi : (P.info? ty).map (·.size) = some cs.size)
    (h : wpQuiet P ops C Q rest (a.put o.dst (.agg cs))) : wpQuiet P ops C Q (o :: rest) a := by
  unfold wpQuiet
  rw [if_pos hw]
  refine ⟨.agg cs, fun w hC => ?_, h⟩
  unfold Oper.quietAt execOp
  simp only [ho, hx, Instr.loadAt, Instr.sureAddr, Sem.run_bind, Sem.run_pure, Result.andThen_ok, run_loadVar_row w g t ty cs fr d (hg w hC) hu hd hi]
  exact ⟨rfl, rfl⟩
theorem wpQuiet_valueW (hw : Region.wanted o (yielded ops a.tmps) = true) (v : Value) (hv : ∀ w, C w → (execOp a.eval o).run P w = .ok (.value v) w) (h : wpQuiet P ops C Q rest (a.put o.dst v)) : wpQuiet P ops C Q (o :: rest) a := by
  unfold wpQuiet
  rw [if_pos hw]
  refine ⟨v, fun w hC => ?_, h⟩
  unfold Oper.quietAt
  rw [hv w hC]
  exact ⟨rfl, rfl⟩
theorem wpQuiet_callW (hw : Region.wanted o (yielded ops a.tmps) = true) (f : FuncId) (args : Array Value) (v : Value) (hv : ∀ w, C w → (execOp a.eval o).run P w = .ok (.enter f args) w) (hc : ∀ w, C w → Calls P f args w fun e w' => e = .returned v ∧ C w')
    (h : wpQuiet P ops C Q rest (a.put o.dst v)) : wpQuiet P ops C Q (o :: rest) a := by
  unfold wpQuiet
  rw [if_pos hw]
  refine ⟨v, fun w hC => ?_, h⟩
  unfold Oper.quietAt
  rw [hv w hC]
  exact ⟨rfl, hc w hC⟩
end

theorem Try.size_beam : (Try.prog.info? 105).map (·.size) = some 2 := by kernel_rfl
def beamC (p b : Nat) : Array Value := #[.int .i64 (if (p : Int) < (b : Int) then (p : Int) else (b : Int)), .int .i64 (if (p : Int) < (b : Int) then (b : Int) else (p : Int))]

set_option maxRecDepth 100000 in
set_option maxHeartbeats 2000000 in
theorem beam_any (n m p : Nat) (ls : List UInt8) (w : World) (hl : ls.length = 25) (hn1 : 1 ≤ n) (hn : n ≤ 5) (hm1 : 1 ≤ m) (hm : m ≤ 5) (hp : p < 2 * (n + m)) :
    Calls Try.prog 131 #[.agg (gcells n m ls), .int .i64 p] w fun e w' => e = .returned (.agg (beamC p (bend_ n m (lett m ls) p))) ∧ Below w.heap.size w w' := by
  have HP := hid (fun w' => partner_any n m p ls w' hl hn1 hn hm1 hm hp)
  have HG := hid (show (Try.prog.info? 56).map (·.size) = some (gcells n m ls).size by rw [gcells_size hl]; exact Try.size_grid)
  have H0 := hid (fun o => heap_new1 w (.cells (gcells n m ls) 56) o)
  generalize gcells n m ls = cs at *
  generalize bend_ n m (lett m ls) p = bp at *
  clear hl hn1 hn hm1 hm hp
  go_enter Try.func131, Try.ntmps131
  go_wp2_with (refine wpList_load_row rfl 56 _ rfl w.heap.size rfl 56 cs (0, 0) _ (H0.out _) Try.underlying56 rfl HG.out ?_)
  refine (HP.out _).mono ?_
  rintro e w1 ⟨rfl, hb⟩
  have HB := hid (show Below w.heap.size w w1 from (((Below.refl _ w).alloc (Nat.le_refl _) _).alloc (by simp) _).trans (hb.mono (by simp; omega)))
  have HR := hid (show w1.heap[w.heap.size + 1]? = some (.cells #[.int .i64 0, .int .i64 0] 105 (0, 0)) from (hb.block _ (by simp)).trans (by simpa using heap_new0 (w.alloc (.cells cs 56)) (.cells #[.int .i64 0, .int .i64 0] 105)))
  clear hb
  have fin : ∀ x y : Int, (#[.int .i64 x, .int .i64 y] : Array Value) = beamC p bp → ∀ tmps : Array Value, tmps.getD 4 undef = .pointer (some ⟨w.heap.size + 1, 0, none⟩) →
      bodyPost Try.prog Try.f131 (fun e w' => e = .returned (.agg (beamC p bp)) ∧ Below w.heap.size w w') .ret { tmps := tmps, defers := [] } ((w1.setCell ⟨w.heap.size + 1, 0, none⟩ (.int .i64 x)).setCell ⟨w.heap.size + 1, 1, none⟩ (.int .i64 y)) := fun x y hxy tmps ht => by
    have r1 := heap_setCell_same _ _ 1 _ _ (.int .i64 y) (heap_setCell_same _ _ 0 _ _ (.int .i64 x) HR.out)
    refine bodyPost_ret (results_cell_row Try.results131 _ _ (w.heap.size + 1) 105 #[.int .i64 x, .int .i64 y] (0, 0) _ ht r1 Try.underlying105 rfl Try.size_beam) rfl ?_
    exact ⟨by rw [hxy], (HB.out.setCell (by show w.heap.size ≤ w.heap.size + 1; omega) _).setCell (by show w.heap.size ≤ w.heap.size + 1; omega) _⟩
  have k0 : w1.cell? ⟨w.heap.size + 1, 0, none⟩ = some (.int .i64 0) := by rw [cell_of_row _ _ _ _ _ _ HR.out]; rfl
  have k1 : w1.cell? ⟨w.heap.size + 1, 1, none⟩ = some (.int .i64 0) := by rw [cell_of_row _ _ _ _ _ _ HR.out]; rfl
  have f0 : w1.frozen? ⟨w.heap.size + 1, 0, none⟩ = false := frozen_of_row _ _ _ _ _ HR.out
  have f1 : w1.frozen? ⟨w.heap.size + 1, 1, none⟩ = false := frozen_of_row _ _ _ _ _ HR.out
  by_cases hlt : (p : Int) < (bp : Int)
  · have hE := hid (show (#[.int .i64 (p : Int), .int .i64 (bp : Int)] : Array Value) = beamC p bp by unfold beamC; rw [if_pos hlt, if_pos hlt])
    go_wp2_with fail
    refine fin _ _ hE.out _ ?_; rfl
  · have hE := hid (show (#[.int .i64 (bp : Int), .int .i64 (p : Int)] : Array Value) = beamC p bp by unfold beamC; rw [if_neg hlt, if_neg hlt])
    have hle : (bp : Int) ≤ (p : Int) := by omega
    by_cases hl2 : (bp : Int) < (p : Int)
    · go_wp2_with fail
      refine fin _ _ hE.out _ ?_; rfl
    · obtain rfl : bp = p := by omega
      go_wp2_with fail
      refine fin _ _ hE.out _ ?_; rfl

/-- Two beams are the same just if they have an end in common. -/
def loC (p b : Nat) : Int := if (p : Int) < (b : Int) then (p : Int) else (b : Int)
def hiC (p b : Nat) : Int := if (p : Int) < (b : Int) then (b : Int) else (p : Int)
theorem beamC_eq (p b : Nat) : beamC p b = #[.int .i64 (loC p b), .int .i64 (hiC p b)] := rfl
theorem beam_same {p q P Q : Nat} (h : p = q → P = Q) (h1 : P = q → Q = p) : decide (loC p P = loC q Q ∧ hiC p P = hiC q Q) = decide (p = q ∨ P = q) := by
  rw [decide_eq_decide]
  unfold loC hiC
  constructor
  · rintro ⟨a, b⟩
    split at a <;> split at a <;> simp_all <;> omega
  · rintro (e | e)
    · have := h e
      subst e
      subst this
      exact ⟨rfl, rfl⟩
    · have := h1 e
      subst e
      subst this
      constructor <;> split <;> split <;> omega

theorem run_eq_beam (ac : Act) (x y : Operand) (a b c d : Int) (w : World) (hx : ac.eval x = .agg #[.int .i64 a, .int .i64 b]) (hy : ac.eval y = .agg #[.int .i64 c, .int .i64 d]) (o : Oper) (ho : o.op = Op.binOp .eql 105 x y 105) :
    (execOp ac.eval o).run Try.prog w = .ok (.value (.bool (decide (a = c ∧ b = d)))) w := by
  unfold execOp
  simp only [ho, hx, hy]
  go_simp
  by_cases h1 : a = c <;> by_cases h2 : b = d <;> simp [h1, h2]
end Go.Proofs.Ytmfoajghlodkdaa
