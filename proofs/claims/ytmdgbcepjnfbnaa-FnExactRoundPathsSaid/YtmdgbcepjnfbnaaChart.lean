/- The chart of a grid: its struct, and number, step, opposite, by their contracts. -/
import Derived.Test.YtmdgbcepjnfbnaaOnward
import Derived.Test.YtmdgbcepjnfbnaaRoundN
import Derived.Test.YtmdgbcepjnfbnaaQuietW
import Derived.Deep.MidRow
namespace Go.Proofs.Ytmdgbcepjnfbnaa
open Go.RowKit

theorem Try.size_chart : (Try.prog.info? 71).map (·.size) = some 28 := by kernel_rfl
theorem Try.size_step : (Try.prog.info? 83).map (·.size) = some 5 := by kernel_rfl

section
variable {P : Program} {ops : Array Oper} {C : World → Prop} {Q : Act → Prop} {a : Act} {o : Oper} {rest : List Oper}
/-- A struct out of the middle of a block, in every world of the class. -/
theorem wpQuiet_load_mid (hw : Region.wanted o (yielded ops a.tmps) = true) (ty : TypeId) (x : Operand) (ho : o.op = .load ty x)
    (b off : Nat) (hx : a.eval x = .pointer (some ⟨b, off, none⟩)) (cs : Array Value) (d : TypeDesc) (hc : ∀ w, C w → w.rangeAt b off cs.toList)
    (hu : P.underlying ty = some d) (hd : d.isRow = true) (hi : (P.info? ty).map (·.size) = some cs.size)
    (h : wpQuiet P ops C Q rest (a.put o.dst (.agg cs))) : wpQuiet P ops C Q (o :: rest) a := by
  refine wpQuiet_valueW hw (.agg cs) (fun w hw' => ?_) h
  unfold execOp
  have := run_loadVar_mid (P := P) w b off ty cs.toList d (hc w hw') hu hd (by simpa using hi)
  simp only [ho, hx, Instr.loadAt, Instr.sureAddr, Sem.run_bind, Sem.run_pure, Result.andThen_ok, this]
end
theorem rangeAt_row {w : World} {b off : Nat} {all : Array Value} {t : TypeId} {fr : Nat × Nat} (hg : w.heap[b]? = some (.cells all t fr)) {cs : Array Value} (h : ∀ j v, cs[j]? = some v → all[off + j]? = some v) : w.rangeAt b off cs.toList := fun j v hv => by
  rw [cell_of_row _ _ _ _ _ _ hg]; exact h j v (by simpa using hv)

/-- The cells of a chart: the grid's, and the steps. -/
def chartC (cs : Array Value) (g N : Nat) : Array Value := cs.push (.slice (some ⟨g, 0, none⟩) N N)
theorem chartC_pre (cs : Array Value) (g N j : Nat) (v : Value) (h : cs[j]? = some v) : (chartC cs g N)[0 + j]? = some v := by
  unfold chartC
  rw [Nat.zero_add, Array.getElem?_push, if_neg (by have := (Array.getElem?_eq_some_iff.1 h).1; omega)]
  exact h
theorem chartC_steps {cs : Array Value} (h : cs.size = 27) (g N : Nat) : (chartC cs g N)[27]? = some (.slice (some ⟨g, 0, none⟩) N N) := by
  unfold chartC
  rw [Array.getElem?_push, if_pos h.symm]
theorem chartC_size {cs : Array Value} (h : cs.size = 27) (g N : Nat) : (chartC cs g N).size = 28 := by simp [chartC, h]
theorem chartC_one {cs : Array Value} (h : cs.all (·.oneCell') = true) (g N : Nat) : (chartC cs g N).all (·.oneCell') = true := by
  rw [Array.all_eq_true_iff_forall_mem] at h ⊢
  intro x hx
  unfold chartC at hx
  rcases Array.mem_push.1 hx with h1 | h1
  · exact h x h1
  · subst h1; rfl

set_option maxRecDepth 100000 in
set_option maxHeartbeats 1000000 in
theorem opposite_any (d : Nat) (hd : d < 4) (w : World) :
    Calls Try.prog 135 #[.int .i64 d] w fun e w' => e = .returned (.int .i64 ((opp d : Nat) : Int)) ∧ w = w' := by
  rcases four hd with rfl | rfl | rfl | rfl
  · change Calls Try.prog 135 #[.int .i64 0] w fun e w' => e = .returned (.int .i64 2) ∧ w = w'
    go_enter Try.func135, Try.ntmps135
    go_wp2
    go_ret
    exact ⟨rfl, rfl⟩
  · change Calls Try.prog 135 #[.int .i64 1] w fun e w' => e = .returned (.int .i64 3) ∧ w = w'
    go_enter Try.func135, Try.ntmps135
    go_wp2
    go_ret
    exact ⟨rfl, rfl⟩
  · change Calls Try.prog 135 #[.int .i64 2] w fun e w' => e = .returned (.int .i64 0) ∧ w = w'
    go_enter Try.func135, Try.ntmps135
    go_wp2
    go_ret
    exact ⟨rfl, rfl⟩
  · change Calls Try.prog 135 #[.int .i64 3] w fun e w' => e = .returned (.int .i64 1) ∧ w = w'
    go_enter Try.func135, Try.ntmps135
    go_wp2
    go_ret
    exact ⟨rfl, rfl⟩

set_option maxRecDepth 100000 in
set_option maxHeartbeats 1000000 in
theorem number_way (n m g N : Nat) (ls : List UInt8) (x : Wy) (w : World) (hl : ls.length = 25) (hn : n ≤ 5) (hm : m ≤ 5) (hx : inG n m x) (hd : x.d < 4) :
    Calls Try.prog 116 #[.agg (chartC (gcells n m ls) g N), wayV x] w fun e w' => e = .returned (.int .i64 ((wcode m x : Nat) : Int)) ∧ Below w.heap.size w w' := by
  have h1 := cellN_int hx
  have h2 := cellN_lt hx
  have h3 : n * m ≤ 5 * 5 := Nat.mul_le_mul hn hm
  have hwc := wcode_cell (m := m) x
  obtain ⟨x1, x2, x3, x4⟩ := hx
  have HCE := hid (fun w' => cell_cells (gcells n m ls) x.i x.k m (cellN m x) w' (gcells_1 n m ls) (by omega) h1 ⟨x1, by omega⟩ ⟨by omega, by omega⟩)
  have HG := hid (show (Try.prog.info? 57).map (·.size) = some (gcells n m ls).size by rw [gcells_size hl]; exact Try.size_grid)
  rw [wayV_eq]
  unfold wayC
  generalize wcode m x = q at hwc ⊢
  generalize cellN m x = p at *
  generalize x.i = i at *
  generalize x.k = k at *
  obtain ⟨dv, hdv⟩ : ∃ dv, x.d = dv := ⟨_, rfl⟩
  rw [hdv] at hwc hd ⊢
  have HQ := hid (show (p : Int) * 4 + (dv : Int) = (q : Int) by omega)
  have hw1 : IntKind.i64.wrap ((p : Int) * 4) = (p : Int) * 4 := IntWalk.i64_in _ (by omega)
  have hw2 : IntKind.i64.wrap ((p : Int) * 4 + (dv : Int)) = (p : Int) * 4 + (dv : Int) := IntWalk.i64_in _ (by omega)
  generalize gcells n m ls = cs at *
  clear h1 h2 h3 hwc x1 x2 x3 x4 hl hdv
  go_enter Try.func116, Try.ntmps116
  go_wp2
  have F0 := heap_new1 w (.cells (chartC cs g N) 71) (.cells #[.int .i64 i, .int .i64 k, .int .i64 dv] 79)
  have F1 := heap_new0 (w.alloc (.cells (chartC cs g N) 71)) (.cells #[.int .i64 i, .int .i64 k, .int .i64 dv] 79)
  have FB : Below w.heap.size w ((w.alloc (.cells (chartC cs g N) 71)).alloc (.cells #[.int .i64 i, .int .i64 k, .int .i64 dv] 79)) := ((Below.refl _ w).alloc (Nat.le_refl _) _).alloc (by simp) _
  simp only [World.size_alloc] at F1
  generalize World.alloc (World.alloc w _) _ = W at F0 F1 FB ⊢
  have G0 := hid (show ∀ w', Cls W w' → w'.heap[w.heap.size]? = some (.cells (chartC cs g N) 71 (0, 0)) from fun w' hw => (hw.block _ (lt_of_block F0)).trans F0)
  have G1 := hid (show ∀ w', Cls W w' → w'.heap[w.heap.size + 1]? = some (.cells #[.int .i64 i, .int .i64 k, .int .i64 dv] 79 (0, 0)) from fun w' hw => (hw.block _ (lt_of_block F1)).trans F1)
  have GB := hid FB
  have C2 := hid (show ∀ w', Cls W w' → w'.cell? ⟨w.heap.size + 1, 2, none⟩ = some (.int .i64 dv) from fun w' hw => by rw [cell_of_row _ _ _ _ _ _ (G1.out w' hw)]; rfl)
  clear F0 F1 FB
  refine wp_region_quiet (C := Cls W) (by kernel_rfl) (by kernel_rfl) (Below.refl _ W).drew ?_
  quiet_step ((intro _; rfl))
  refine wpQuiet_load_mid rfl 57 _ rfl w.heap.size 0 rfl cs _ (fun w' hw => rangeAt_row (G0.out w' hw) (chartC_pre cs g N)) Try.underlying57 rfl HG.out ?_
  quiet_step ((intro _; rfl))
  refine wpQuiet_load_mid rfl 75 _ rfl (w.heap.size + 1) 0 rfl #[.int .i64 i, .int .i64 k] _ (fun w' hw => rangeAt_row (G1.out w' hw) (fun j v hv => by
    match j, hv with
    | 0, hv => simpa using hv
    | 1, hv => simpa using hv
    | j + 2, hv => simp at hv)) Try.underlying75 rfl Try.size_place ?_
  refine wpQuiet_call rfl 73 #[.agg cs, .agg #[.int .i64 i, .int .i64 k]] (.int .i64 (p : Int)) (fun w _ => by go_simp) (fun w' hw => (HCE.out w').mono fun e w'' ⟨he, hb'⟩ => ⟨he, hw.trans (hb'.mono hw.size)⟩) ?_
  quiet_step ((intro _; rfl))
  quiet_step ((intro _; rfl))
  refine wpQuiet_value rfl (.int .i64 (dv : Int)) (fun w' hw => by have hc := C2.out w' hw; go_simp) ?_
  quiet_step ((intro _; rfl))
  quiet_step ((intro _; rfl))
  refine wpQuiet_nil ?_
  intro w2 hw2
  go_wp2_with fail
  go_ret
  exact ⟨by rw [← HQ.out]; rfl, GB.out.trans (hw2.mono GB.out.size)⟩

set_option maxRecDepth 100000 in
set_option maxHeartbeats 1000000 in
theorem step_way (n m g N : Nat) (ls : List UInt8) (x : Wy) (w : World) (hl : ls.length = 25) (hn : n ≤ 5) (hm : m ≤ 5) (hx : inG n m x) (hd : x.d < 4) (hN : 4 * (n * m) = N) :
    Calls Try.prog 70 #[.agg (chartC (gcells n m ls) g N), wayV x] w fun e w' => e = .returned (.pointer (some ⟨g, 5 * wcode m x, none⟩)) ∧ Below w.heap.size w w' := by
  have hlt := wcode_lt hx hd
  rw [hN] at hlt
  have HNB := hid (fun w' => number_way n m g N ls x w' hl hn hm hx hd)
  have hz := gcells_size (n := n) (m := m) hl
  have HS := hid (show (Try.prog.info? 71).map (·.size) = some (chartC (gcells n m ls) g N).size by rw [chartC_size hz]; exact Try.size_chart)
  have HC := hid (chartC_steps hz g N)
  generalize hwv : wayV x = wv at *
  rw [wayV_eq] at hwv
  subst hwv
  have hwz : (wayC x).size = 3 := rfl
  generalize wayC x = ws at *
  generalize wcode m x = q at *
  generalize chartC (gcells n m ls) g N = cs at *
  have hqi : (q : Int) < (N : Int) := by omega
  have hq0 : 0 ≤ (q : Int) := by omega
  clear hx hd hl hn hm hz hN
  go_enter Try.func70, Try.ntmps70
  go_wp2
  have F0 := heap_new1 w (.cells cs 71) (.cells ws 79)
  have F1 := heap_new0 (w.alloc (.cells cs 71)) (.cells ws 79)
  have FB : Below w.heap.size w ((w.alloc (.cells cs 71)).alloc (.cells ws 79)) := ((Below.refl _ w).alloc (Nat.le_refl _) _).alloc (by simp) _
  simp only [World.size_alloc] at F1
  generalize World.alloc (World.alloc w _) _ = W at F0 F1 FB ⊢
  have G0 := hid (show ∀ w', Cls W w' → w'.heap[w.heap.size]? = some (.cells cs 71 (0, 0)) from fun w' hw => (hw.block _ (lt_of_block F0)).trans F0)
  have G1 := hid (show ∀ w', Cls W w' → w'.heap[w.heap.size + 1]? = some (.cells ws 79 (0, 0)) from fun w' hw => (hw.block _ (lt_of_block F1)).trans F1)
  have GB := hid FB
  have C2 := hid (show ∀ w', Cls W w' → w'.cell? ⟨w.heap.size, 27, none⟩ = some (.slice (some ⟨g, 0, none⟩) N N) from fun w' hw => by rw [cell_of_row _ _ _ _ _ _ (G0.out w' hw)]; exact HC.out)
  have HWZ := hid (show (Try.prog.info? 79).map (·.size) = some ws.size by rw [hwz]; exact Try.size_way)
  clear F0 F1 FB hwz
  refine wp_region_quiet (C := Cls W) (by kernel_rfl) (by kernel_rfl) (Below.refl _ W).drew ?_
  quiet_step ((intro _; rfl))
  refine wpQuiet_value rfl (.slice (some ⟨g, 0, none⟩) N N) (fun w' hw => by have hc := C2.out w' hw; go_simp) ?_
  refine wpQuiet_load_row rfl 71 _ rfl w.heap.size rfl 71 cs (0, 0) _ G0.out Try.underlying71 rfl HS.out ?_
  refine wpQuiet_load_row rfl 79 _ rfl (w.heap.size + 1) rfl 79 ws (0, 0) _ G1.out Try.underlying79 rfl HWZ.out ?_
  refine wpQuiet_call rfl 116 #[.agg cs, .agg ws] (.int .i64 (q : Int)) (fun w _ => by go_simp) (fun w' hw => (HNB.out w').mono fun e w'' ⟨he, hb'⟩ => ⟨he, hw.trans (hb'.mono hw.size)⟩) ?_
  quiet_step ((intro _; rfl))
  quiet_step ((intro _; rfl))
  refine wpQuiet_nil ?_
  intro w2 hw2
  go_wp2_with fail
  go_ret
  exact ⟨by simp [Nat.mul_comm], GB.out.trans (hw2.mono GB.out.size)⟩

end Go.Proofs.Ytmdgbcepjnfbnaa
