/- The struct grid as one block of 27 cells: the method with, by its contract; a whole struct read in a region that draws its order. -/
import Derived.Test.YtmdgbcepjnfbnaaLetter
import Derived.StillTailTactics
import Derived.Laws.ResultCell
import Derived.Deep.WholeRow
namespace Go.Proofs.Ytmdgbcepjnfbnaa
open Go.RowKit

/-- The cells of the zero grid. -/
abbrev zeroG : Array Value := #[.int .i64 0, .int .i64 0, .int .u8 0, .int .u8 0, .int .u8 0, .int .u8 0, .int .u8 0, .int .u8 0, .int .u8 0, .int .u8 0, .int .u8 0, .int .u8 0, .int .u8 0, .int .u8 0, .int .u8 0, .int .u8 0, .int .u8 0, .int .u8 0, .int .u8 0, .int .u8 0, .int .u8 0, .int .u8 0, .int .u8 0, .int .u8 0, .int .u8 0, .int .u8 0, .int .u8 0]
theorem Try.size_grid : (Try.prog.info? 57).map (·.size) = some 27 := by kernel_rfl

theorem one_set {cs : Array Value} (h : cs.all (·.oneCell') = true) (i : Nat) (v : Value) (hv : v.oneCell' = true) : (cs.setIfInBounds i v).all (·.oneCell') = true := by
  rw [Array.all_eq_true_iff_forall_mem] at h ⊢
  intro x hx
  obtain ⟨k, hk, rfl⟩ := Array.mem_iff_getElem.1 hx
  rw [Array.getElem_setIfInBounds]
  · split
    · exact hv
    · exact h _ (Array.getElem_mem _)
  · simpa using hk

set_option maxHeartbeats 400000 in
/-- The number of the cell at a place. -/
theorem cell_cells (cs : Array Value) (r c m : Int) (p : Nat) (w : World) (h1 : cs[1]? = some (.int .i64 m)) (hp : p < 25) (he : r * m + c = p) (hr : 0 ≤ r ∧ r < 5) (hm : 0 ≤ m ∧ m ≤ 5) :
    Calls Try.prog 73 #[.agg cs, .agg #[.int .i64 r, .int .i64 c]] w fun e w' => e = .returned (.int .i64 (p : Int)) ∧ Below w.heap.size w w' := by
  have hmul : 0 ≤ r * m ∧ r * m ≤ 25 := by
    constructor
    · exact Int.mul_nonneg hr.1 hm.1
    · have : r * m ≤ 5 * 5 := Int.mul_le_mul (by omega) (by omega) hm.1 (by omega)
      omega
  have hc1 : -25 ≤ c := by omega
  have hc2 : c < 25 := by omega
  have HE := hid he
  clear he
  go_enter Try.func73, Try.ntmps73
  go_wp2
  go_ret
  exact ⟨by rw [← HE.out]; rfl, ((Below.refl _ w).alloc (Nat.le_refl _) _).alloc (by simp) _⟩

set_option maxRecDepth 100000 in
set_option maxHeartbeats 400000 in
theorem with_cells (cs : Array Value) (r c l m : Int) (p : Nat) (u : Value) (w : World) (hs : cs.size = 27) (h1 : cs[1]? = some (.int .i64 m)) (hp : p < 25) (he : r * m + c = p) (hr : 0 ≤ r ∧ r < 5) (hm : 0 ≤ m ∧ m ≤ 5) (ho : cs[2 + p]? = some u) (hone : cs.all (·.oneCell') = true) :
    Calls Try.prog 106 #[.agg cs, .agg #[.int .i64 r, .int .i64 c], .int .u8 l] w fun e w' => e = .returned (.agg (cs.setIfInBounds (2 + p) (.int .u8 l))) ∧ Below w.heap.size w w' := by
  have HC := hid (fun w' => cell_cells cs r c m p w' h1 hp he hr hm)
  have HS := hid hs
  clear hs he h1
  have hpi : (p : Int) < 25 := by omega
  have hp0 : 0 ≤ (p : Int) := by omega
  go_enter Try.func106, Try.ntmps106
  have hsz : (Try.prog.info? 57).map (·.size) = some (cs.setIfInBounds (2 + p) (.int .u8 l)).size := by rw [Try.size_grid]; simp [HS.out]
  have hone' : (cs.setIfInBounds (2 + p) (.int .u8 l)).all (·.oneCell') = true := one_set hone _ _ rfl
  have hsz' : zeroG.size = (cs.setIfInBounds (2 + p) (.int .u8 l)).size := by simp [HS.out]
  have H1 := hid hsz
  have H2 := hid hone'
  have H3 := hid hsz'
  clear hsz hone' hsz' hone
  have H0 := hid (show (Try.prog.info? 57).map (·.size) = some cs.size by rw [Try.size_grid, HS.out])
  go_wp2_with (refine wpList_load_row rfl 57 _ rfl w.heap.size rfl 57 cs (0, 0) _ (heap_new2 w _ _ _) Try.underlying57 rfl H0.out ?_)
  refine (HC.out _).mono ?_
  rintro e w1 ⟨rfl, hbel⟩
  have hg0 : w1.heap[w.heap.size]? = some (.cells cs 57 (0, 0)) := (hbel.block _ (by simp; omega)).trans (heap_new2 w _ _ _)
  have hg2 : w1.heap[w.heap.size + 1 + 1]? = some (.cells zeroG 57 (0, 0)) := (hbel.block _ (by simp)).trans (by simpa using heap_new0 ((w.alloc _).alloc _) _)
  have hcell : w1.cell? ⟨w.heap.size, 2 + p, none⟩ = some u := by rw [cell_of_row _ _ _ _ _ _ hg0]; exact ho
  have hfr : w1.frozen? ⟨w.heap.size, 2 + p, none⟩ = false := frozen_of_row _ _ _ _ _ hg0
  have B0 : Below w.heap.size w w1 := ((((Below.refl _ w).alloc (Nat.le_refl _) _).alloc (by simp) _).alloc (by simp; omega) _).trans (hbel.mono (by simp; omega))
  have G0 := hid hg0
  have G2 := hid hg2
  have GB := hid B0
  clear hbel hg0 hg2 B0
  have K0 := hid (heap_setCell_same _ _ (2 + p) _ _ (.int .u8 l) G0.out)
  have K2 := hid (show (w1.setCell ⟨w.heap.size, 2 + p, none⟩ (.int .u8 l)).heap[w.heap.size + 1 + 1]? = some (.cells zeroG 57 (0, 0)) by rw [Below.heap_setCell _ _ _ _ (by simp; omega)]; exact G2.out)
  go_wp2_with (first
    | refine wpList_load_row rfl 57 _ rfl w.heap.size rfl 57 (cs.setIfInBounds (2 + p) (.int .u8 l)) (0, 0) _ K0.out Try.underlying57 rfl H1.out ?_
    | refine wpList_store_row rfl 57 _ _ rfl (w.heap.size + 1 + 1) (cs.setIfInBounds (2 + p) (.int .u8 l)) rfl rfl 57 zeroG K2.out H1.out H3.out H2.out ?_)
  refine bodyPost_ret (results_cell_row Try.results106 _ _ (w.heap.size + 1 + 1) 57 _ (0, 0) _ (by rfl) (setRow_heap _ _ _ _ _ _ K2.out) Try.underlying57 rfl H1.out) rfl ⟨rfl, ?_⟩
  exact below_setRow' (GB.out.setCell (p := ⟨w.heap.size, 2 + p, none⟩) (Nat.le_refl _) _) (by omega) _

/-- with, said of a grid. -/
theorem with_any (n m : Nat) (ls : List UInt8) (r c : Int) (p : Nat) (b : UInt8) (w : World) (hl : ls.length = 25) (hp : p < 25) (he : r * m + c = p) (hr : 0 ≤ r ∧ r < 5) (hm : m ≤ 5) :
    Calls Try.prog 106 #[.agg (gcells n m ls), .agg #[.int .i64 r, .int .i64 c], .int .u8 b.toNat] w fun e w' => e = .returned (.agg (gcells n m (ls.set p b))) ∧ Below w.heap.size w w' := by
  rw [← gcells_set]
  exact with_cells (gcells n m ls) r c b.toNat m p (.int .u8 (ls[p]'(by omega)).toNat) w (gcells_size hl) (gcells_1 n m ls) hp he hr ⟨by omega, by omega⟩ (gcells_at (List.getElem?_eq_getElem (by omega))) (gcells_one n m ls)

set_option maxRecDepth 100000 in
set_option maxHeartbeats 400000 in
/-- at, said of a grid. -/
theorem at_any (n m : Nat) (ls : List UInt8) (r c : Int) (p : Nat) (b : UInt8) (w : World) (hl : ls.length = 25) (hp : p < 25) (he : r * m + c = p) (hr : 0 ≤ r ∧ r < 5) (hm : m ≤ 5) (hb : ls[p]? = some b) :
    Calls Try.prog 125 #[.agg (gcells n m ls), .agg #[.int .i64 r, .int .i64 c]] w fun e w' => e = .returned (.int .u8 b.toNat) ∧ Below w.heap.size w w' := by
  have HC := hid (fun w' => cell_cells (gcells n m ls) r c m p w' (gcells_1 n m ls) hp he hr ⟨by omega, by omega⟩)
  have h2 := gcells_at (n := n) (m := m) hb
  have hsz := gcells_size (n := n) (m := m) hl
  have hpi : (p : Int) < 25 := by omega
  have hp0 : 0 ≤ (p : Int) := by omega
  generalize gcells n m ls = cs at h2 hsz HC
  have H0 := hid (show (Try.prog.info? 57).map (·.size) = some cs.size by rw [Try.size_grid, hsz])
  obtain ⟨bv, hbv⟩ : ∃ bv : Int, (b.toNat : Int) = bv := ⟨_, rfl⟩
  rw [hbv] at h2 ⊢
  clear hbv hb hl hsz he
  have H2 := hid h2
  clear h2
  go_enter Try.func125, Try.ntmps125
  go_wp2_with (refine wpList_load_row rfl 57 _ rfl w.heap.size rfl 57 cs (0, 0) _ (heap_new1 w _ _) Try.underlying57 rfl H0.out ?_)
  refine (HC.out _).mono ?_
  rintro e w1 ⟨rfl, hbel⟩
  have hg0 : w1.heap[w.heap.size]? = some (.cells cs 57 (0, 0)) := (hbel.block _ (by simp; omega)).trans (heap_new1 w _ _)
  have hcell : w1.cell? ⟨w.heap.size, 2 + p, none⟩ = some (.int .u8 bv) := by rw [cell_of_row _ _ _ _ _ _ hg0]; exact H2.out
  have B0 := hid (show Below w.heap.size w w1 from (((Below.refl _ w).alloc (Nat.le_refl _) _).alloc (by simp) _).trans (hbel.mono (by simp; omega)))
  clear hbel hg0
  go_wp2
  go_ret
  exact ⟨rfl, B0.out⟩

section
variable {P : Program} {ops : Array Oper} {w : World}
/-- A whole struct out of its block, as a step of a region that draws its order and only reads. -/
theorem wpStill_load_row {Q : Act → Prop} {a : Act} {o : Oper} {rest : List Oper} (hgd : o.guard = none) (ty : TypeId) (x : Operand) (ho : o.op = .load ty x)
    (g : Nat) (hx : a.eval x = .pointer (some ⟨g, 0, none⟩)) (t : TypeId) (cs : Array Value) (fr : Nat × Nat) (d : TypeDesc) (hg : w.heap[g]? = some (.cells cs t fr))
    (hu : P.underlying ty = some d) (hd : (match d with | .struct _ | .array _ _ => true | _ => false) = true) (hi : (P.info? ty).map (·.size) = some cs.size)
    (h : wpStill P ops w Q rest (a.put o.dst (.agg cs))) : wpStill P ops w Q (o :: rest) a := by
  unfold wpStill
  have hw : Region.wanted o (yielded ops a.tmps) = true := by simp [Region.wanted, hgd]
  rw [if_pos hw]
  unfold Oper.still execOp
  simp only [ho, hx, Instr.loadAt, Instr.sureAddr, Sem.run_bind, Sem.run_pure, Result.andThen_ok, run_loadVar_row w g t ty cs fr d hg hu hd hi]
  rw [Oper.stillUpon_value]
  exact h
theorem results_row_tmp {fn : Func} {p u : Tmp} {ty : TypeId} (h : fn.results = #[.cell p ty, .tmp u]) (tmps : Array Value) (g : Nat) (t : TypeId) (cs : Array Value) (fr : Nat × Nat) (d : TypeDesc)
    (hp : tmps.getD p undef = .pointer (some ⟨g, 0, none⟩)) (hg : w.heap[g]? = some (.cells cs t fr))
    (hu : P.underlying ty = some d) (hd : (match d with | .struct _ | .array _ _ => true | _ => false) = true) (hi : (P.info? ty).map (·.size) = some cs.size) :
    (results fn tmps).run P w = .ok (.tuple #[.agg cs, tmps.getD u undef]) w := by
  rw [results_cell_tmp h, hp]
  simp [asAddr, run_loadVar_row w g t ty cs fr d hg hu hd hi, Result.andThen]
end

end Go.Proofs.Ytmdgbcepjnfbnaa
