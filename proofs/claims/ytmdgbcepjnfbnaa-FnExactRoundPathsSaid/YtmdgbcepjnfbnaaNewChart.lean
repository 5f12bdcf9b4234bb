/- newChart, by its contract. -/
import Derived.Test.YtmdgbcepjnfbnaaLink
import Derived.Test.YtmdgbcepjnfbnaaAnyInv
import Derived.Test.YtmdgbcepjnfbnaaMirrors
namespace Go.Proofs.Ytmdgbcepjnfbnaa
open Go.RowKit
attribute [local go_sem] Oper.semAt_some

theorem lits27c {cs : Array Value} (h : cs.size = 27) : ∃ c0 c1 c2 c3 c4 c5 c6 c7 c8 c9 c10 c11 c12 c13 c14 c15 c16 c17 c18 c19 c20 c21 c22 c23 c24 c25 c26 : Value, cs = #[c0, c1, c2, c3, c4, c5, c6, c7, c8, c9, c10, c11, c12, c13, c14, c15, c16, c17, c18, c19, c20, c21, c22, c23, c24, c25, c26] := by
  refine ⟨cs[0], cs[1], cs[2], cs[3], cs[4], cs[5], cs[6], cs[7], cs[8], cs[9], cs[10], cs[11], cs[12], cs[13], cs[14], cs[15], cs[16], cs[17], cs[18], cs[19], cs[20], cs[21], cs[22], cs[23], cs[24], cs[25], cs[26], ?_⟩
  refine Array.ext (by simp [h]) (fun i h1 h2 => ?_)
  rw [h] at h1
  have : i = 0 ∨ i = 1 ∨ i = 2 ∨ i = 3 ∨ i = 4 ∨ i = 5 ∨ i = 6 ∨ i = 7 ∨ i = 8 ∨ i = 9 ∨ i = 10 ∨ i = 11 ∨ i = 12 ∨ i = 13 ∨ i = 14 ∨ i = 15 ∨ i = 16 ∨ i = 17 ∨ i = 18 ∨ i = 19 ∨ i = 20 ∨ i = 21 ∨ i = 22 ∨ i = 23 ∨ i = 24 ∨ i = 25 ∨ i = 26 := by omega
  rcases this with rfl | rfl | rfl | rfl | rfl | rfl | rfl | rfl | rfl | rfl | rfl | rfl | rfl | rfl | rfl | rfl | rfl | rfl | rfl | rfl | rfl | rfl | rfl | rfl | rfl | rfl | rfl <;> rfl
/-- The cells of the zero chart, of the zero step. -/
abbrev zeroK : Array Value := #[.int .i64 0, .int .i64 0, .int .u8 0, .int .u8 0, .int .u8 0, .int .u8 0, .int .u8 0, .int .u8 0, .int .u8 0, .int .u8 0, .int .u8 0, .int .u8 0, .int .u8 0, .int .u8 0, .int .u8 0, .int .u8 0, .int .u8 0, .int .u8 0, .int .u8 0, .int .u8 0, .int .u8 0, .int .u8 0, .int .u8 0, .int .u8 0, .int .u8 0, .int .u8 0, .int .u8 0, .slice none 0 0]
abbrev zeroS : Array Value := #[.int .i64 0, .int .i64 0, .int .i64 0, .pointer none, .pointer none]
theorem Try.info_step : (Try.prog.info? 83).map (fun i => (i.zero, i.size, i.bytes)) = some (some (.agg zeroS), 5, 40) := by kernel_rfl
theorem run_build_chart {cs : Array Value} (h : cs.size = 27) (g N : Nat) (w : World) : (Instr.build 71 #[(0, .agg cs), (1, .slice (some ⟨g, 0, none⟩) N N)]).run Try.prog w = .ok (.agg (chartC cs g N)) w := by
  obtain ⟨c0, c1, c2, c3, c4, c5, c6, c7, c8, c9, c10, c11, c12, c13, c14, c15, c16, c17, c18, c19, c20, c21, c22, c23, c24, c25, c26, rfl⟩ := lits27c h
  kernel_rfl
theorem exec_load_row {P : Program} {o : Oper} {a : Act} {w : World} (ty : TypeId) (x : Operand) (ho : o.op = .load ty x)
    (g : Nat) (hx : a.eval x = .pointer (some ⟨g, 0, none⟩)) (t : TypeId) (cs : Array Value) (fr : Nat × Nat) (d : TypeDesc) (hg : w.heap[g]? = some (.cells cs t fr))
    (hu : P.underlying ty = some d) (hd : (match d with | .struct _ | .array _ _ => true | _ => false) = true) (hi : (P.info? ty).map (·.size) = some cs.size) : (execOp a.eval o).run P w = .ok (.value (.agg cs)) w := by
  unfold execOp
  simp only [ho, hx, Instr.loadAt, Instr.sureAddr, Sem.run_bind, Sem.run_pure, Result.andThen_ok, run_loadVar_row w g t ty cs fr d hg hu hd hi]

theorem exec_build_chart {o : Oper} {a : Act} {w : World} {gc : Array Value} {g N : Nat} (x y : Operand) (ho : o.op = Op.build 71 #[(0, x), (1, y)])
    (hrun : (Instr.build 71 #[(0, .agg gc), (1, .slice (some ⟨g, 0, none⟩) N N)]).run Try.prog w = .ok (.agg (chartC gc g N)) w) (hx : a.eval x = .agg gc) (hy : a.eval y = .slice (some ⟨g, 0, none⟩) N N) :
    (execOp a.eval o).run Try.prog w = .ok (.value (.agg (chartC gc g N))) w := by
  unfold execOp
  simp only [ho]
  have : (#[(0, x), (1, y)] : Array (Nat × Operand)).map (fun p => (p.1, a.eval p.2)) = #[(0, .agg gc), (1, .slice (some ⟨g, 0, none⟩) N N)] := by simp [hx, hy]
  rw [this]
  simp only [Sem.run_bind, hrun, Result.andThen_ok, Sem.run_pure]

/-- What stands while the chart is put together, in whatever order. -/
def NCInv (gc : Array Value) (w : World) (N nm : Nat) (listed : Array Bool) (a : Act) (W : World) : Prop :=
  ∃ (l0 l1 l2 l3 l4 l5 l6 l7 : Bool) (u3 u6 u7 u8 u9 u10 u11 : Value) (g b3 : Nat),
    listed = #[l0, l1, l2, l3, l4, l5, l6, l7] ∧
    a = { tmps := #[.agg gc, .pointer (some ⟨w.heap.size, 0, none⟩), .pointer (some ⟨w.heap.size + 1, 0, none⟩), u3, undef, undef, u6, u7, u8, u9, u10, u11, undef, undef, undef, undef, undef, undef, undef, undef, undef, undef, undef, undef, undef, undef], defers := [] } ∧
    W.heap[w.heap.size]? = some (.cells gc 57 (0, 0)) ∧ W.heap[w.heap.size + 1]? = some (.cells zeroK 71 (0, 0)) ∧ Below w.heap.size w W ∧ w.heap.size + 2 ≤ W.heap.size ∧
    (l0 = true → u6 = .agg gc) ∧ (l1 = true → u7 = .agg gc) ∧ (l2 = true → u8 = .int .i64 (nm : Int)) ∧ (l3 = true → u9 = .int .i64 (N : Int)) ∧
    (l4 = true → u10 = .slice (some ⟨g, 0, none⟩) N N ∧ w.heap.size + 2 ≤ g ∧ W.heap[g]? = some (.cells (madeCells zeroS (N * 5)) 83 (0, 0))) ∧
    (l5 = true → l4 = true ∧ u11 = .agg (chartC gc g N)) ∧
    (l6 = true → u3 = .pointer (some ⟨b3, 0, none⟩) ∧ w.heap.size + 2 ≤ b3 ∧ ∃ cs : Array Value, W.heap[b3]? = some (.cells cs 71 (0, 0)) ∧ cs.size = 28 ∧ (l7 = true → cs = chartC gc g N)) ∧ (l7 = true → l6 = true ∧ l5 = true)

theorem made_steps {w : World} {g n m N : Nat} {t : Int → Int → UInt8} (h : w.heap[g]? = some (.cells (madeCells zeroS (N * 5)) 83 (0, 0))) (M : Nat → Prop) (hM : ∀ c, ¬ M c) : StepsM w g n m t M N := by
  refine ⟨_, h, by rw [size_madeCells, Nat.mul_comm], fun c _ hm => absurd hm (hM c), fun c hc _ => ?_⟩
  have h1 : 5 * c + 3 < N * 5 := by omega
  have h2 : (5 * c + 3) % 5 = 3 := by omega
  simp [madeCells, h1, h2]

theorem ownFrom_steps {β : Type} (B g n m : Nat) (t : Int → Int → UInt8) (M : β → Nat → Prop) (N : Nat) : OwnFrom B (fun s W => StepsM W g n m t (M s) N) := fun s W W' row hs hg hr => hs.keep (hg.block g hs.lt (fun e => by
  obtain ⟨_, o', ho', hc⟩ := hr g e.symm
  obtain ⟨cs, h, _⟩ := hs
  rw [h] at ho'
  cases ho'
  cases hc))
theorem but_grownN {g : Nat} {w w' : World} (h : But g w w') : w.grownBy w' (some g) := ⟨h.os, h.tape, h.output, h.size, fun k hk hne => h.block k hk (fun e => hne (by rw [e]))⟩
/-- So many headings of a cell have been linked. -/
def LinkRel (g n m : Nat) (t : Int → Int → UInt8) (M : Nat → Prop) (x N : Nat) (w : World) (i : Value) (wr : World) : Prop :=
  ∃ h : Nat, h ≤ 4 ∧ i = .int .i64 h ∧ StepsM wr g n m t (fun c => M c ∨ (c / 4 = x ∧ c % 4 < h)) N ∧ But g w wr

set_option maxRecDepth 100000 in
set_option maxHeartbeats 8000000 in
theorem newChart_any (n m N nm : Nat) (ls : List UInt8) (w : World) (hl : ls.length = 25) (hn : n ≤ 5) (hm1 : 1 ≤ m) (hm : m ≤ 5) (hnm : n * m = nm) (hN : 4 * nm = N) :
    Calls Try.prog 69 #[.agg (gcells n m ls)] w fun e w' => ∃ g, w.heap.size ≤ g ∧ e = .returned (.agg (chartC (gcells n m ls) g N)) ∧ StepsM w' g n m (lett m ls) (fun _ => True) N ∧ Below w.heap.size w w' := by
  refine (callsIn_wide (n := 3)).1 ?_
  have hz := gcells_size (n := n) (m := m) hl
  have hnm25 : nm ≤ 25 := by rw [← hnm]; exact Nat.mul_le_mul hn hm
  have HZ := hid hz
  have HG := hid (show (Try.prog.info? 57).map (·.size) = some (gcells n m ls).size by rw [hz]; exact Try.size_grid)
  have HCS := hid (fun g => show (Try.prog.info? 71).map (·.size) = some (chartC (gcells n m ls) g N).size by rw [chartC_size hz]; exact Try.size_chart)
  have HCO := hid (fun g => chartC_one (gcells_one n m ls) g N)
  have HSZ := hid (fun w' => size_any n m ls w' hn hm)
  rw [hnm] at HSZ
  have hw1 : IntKind.i64.wrap ((nm : Int) * 4) = (N : Int) := by rw [show (nm : Int) * 4 = (N : Int) by omega]; exact IntWalk.i64_in _ (by omega)
  obtain ⟨si, hsi, hs0, hs1, hs2⟩ := info_parts Try.info_step
  have HMK := hid (fun (W : World) => run_make (P := Try.prog) W 69 83 si (.agg zeroS) Try.underlying69 hsi hs0 .i64 .i64 (N : Int) (N : Int) (by omega) (by omega) (by rw [hs2]; omega) (by omega))
  rw [hs1] at HMK
  have hNt : ((N : Nat) : Int).toNat = N := Int.toNat_natCast N
  rw [hNt] at HMK
  have HW1 := hid hw1
  refine callsIn_of_wp_marks Try.func69 rfl trivial ?_ rfl
  simp only [Try.ntmps69, List.size_toArray, List.length_cons, List.length_nil, Nat.reduceAdd, Nat.reduceSub, Array.replicate_succ, Array.replicate_zero, List.push_toArray, List.append_toArray, List.nil_append, List.cons_append]
  clear hsi hs0 hs1 hs2 hNt hw1 hz
  obtain ⟨gc, hgc⟩ : ∃ gc, gcells n m ls = gc := ⟨_, rfl⟩
  rw [hgc] at HZ HG HCS HCO HSZ ⊢
  have HGC := hid hgc
  clear hgc
  gi_wp2
  refine wpIn_region_inv (by kernel_rfl) (by kernel_rfl) (NCInv gc w N nm) ?h0 (fun listed a W h => by obtain ⟨l0, l1, l2, l3, l4, l5, l6, l7, u3, u6, u7, u8, u9, u10, u11, g, b3, rfl, _⟩ := h; rfl) ?hstep ?hdone
  case h0 =>
    refine ⟨false, false, false, false, false, false, false, false, undef, undef, undef, undef, undef, undef, undef, 0, 0, rfl, rfl, heap_new1 w _ _, ?_, (((Below.refl _ w).alloc (Nat.le_refl _) _).alloc (by simp) _).drew, by simp, by simp, by simp, by simp, by simp, by simp, by simp, by simp, by simp⟩
    have := heap_new0 (w.alloc (.cells gc 57)) (.cells zeroK 71)
    rw [World.size_alloc] at this
    exact this
  case hstep =>
    rintro listed a W i ⟨l0, l1, l2, l3, l4, l5, l6, l7, u3, u6, u7, u8, u9, u10, u11, g, b3, rfl, rfl, k0, k1, kb, ks, h0, h1, h2, h3, h4, h5, h6, h7⟩ hi
    obtain ⟨hun, o, ho, hall⟩ := mem_ready.1 hi
    have hi8 : i < 8 := (Array.getElem?_eq_some_iff.1 ho).1
    match i, hun, ho, hall, hi8 with
    | 0, hun, ho, hall, _ =>
      refine wpOpIn_val (Open.wide _) rfl rfl (fun c e => by cases e) (exec_load_row 57 _ rfl w.heap.size rfl 57 gc (0, 0) _ k0 Try.underlying57 rfl HG.out) ?_
      exact ⟨true, l1, l2, l3, l4, l5, l6, l7, u3, _, u7, u8, u9, u10, u11, g, b3, rfl, rfl, k0, k1, kb, ks, fun _ => rfl, h1, h2, h3, h4, h5, h6, h7⟩
    | 1, hun, ho, hall, _ =>
      refine wpOpIn_val (Open.wide _) rfl rfl (fun c e => by cases e) (exec_load_row 57 _ rfl w.heap.size rfl 57 gc (0, 0) _ k0 Try.underlying57 rfl HG.out) ?_
      exact ⟨l0, true, l2, l3, l4, l5, l6, l7, u3, u6, _, u8, u9, u10, u11, g, b3, rfl, rfl, k0, k1, kb, ks, h0, fun _ => rfl, h2, h3, h4, h5, h6, h7⟩
    | 2, hun, ho, hall, _ =>
      cases ho
      obtain rfl : l1 = true := hall { on := 1, ground := .data } (by simp) rfl
      obtain rfl := h1 rfl
      refine wpOpIn_call (Open.wide _) rfl rfl (fun c e => by cases e) (f := 114) (args := #[.agg gc]) (by go_simp) (HSZ.out W) ?_
      intro W' hb
      refine ⟨l0, true, true, l3, l4, l5, l6, l7, u3, u6, _, _, u9, u10, u11, g, b3, rfl, rfl, (hb.block _ (lt_of_block k0)).trans k0, (hb.block _ (lt_of_block k1)).trans k1, kb.trans (hb.mono kb.size), Nat.le_trans ks hb.size, h0, h1, fun _ => rfl, h3, fun e => ?_, h5, fun e => ?_, h7⟩
      · obtain ⟨e1, e2, e3⟩ := h4 e
        exact ⟨e1, e2, (hb.block _ (lt_of_block e3)).trans e3⟩
      · obtain ⟨e1, e2, cs, e3, e4⟩ := h6 e
        exact ⟨e1, e2, cs, (hb.block _ (lt_of_block e3)).trans e3, e4⟩
    | 3, hun, ho, hall, _ =>
      cases ho
      obtain rfl : l2 = true := hall { on := 2, ground := .data } (by simp) rfl
      obtain rfl := h2 rfl
      have hw := HW1.out
      refine wpOpIn_val (Open.wide _) rfl rfl (fun c e => by cases e) (u := .int .i64 (N : Int)) (w' := W) (by go_simp) ?_
      exact ⟨l0, l1, true, true, l4, l5, l6, l7, u3, u6, u7, _, _, u10, u11, g, b3, rfl, rfl, k0, k1, kb, ks, h0, h1, h2, fun _ => rfl, h4, h5, h6, h7⟩
    | 4, hun, ho, hall, _ =>
      cases ho
      obtain rfl : l3 = true := hall { on := 3, ground := .data } (by simp) rfl
      obtain rfl : l4 = false := hun
      obtain rfl := h3 rfl
      obtain rfl : l5 = false := by
        cases l5 with
        | false => rfl
        | true => exact absurd (h5 rfl).1 (by simp)
      obtain rfl : l7 = false := by
        cases l7 with
        | false => rfl
        | true => exact absurd (h7 rfl).2 (by simp)
      have hmk := HMK.out W
      refine wpOpIn_val (Open.wide _) rfl rfl (fun c e => by cases e) (u := .slice (some ⟨W.heap.size, 0, none⟩) N N) (w' := W.alloc (.cells (madeCells zeroS (N * 5)) 83)) (by go_simp) ?_
      refine ⟨l0, l1, l2, true, true, false, l6, false, u3, u6, u7, u8, _, _, u11, W.heap.size, b3, rfl, rfl, (Below.heap_alloc _ _ _ (lt_of_block k0)).trans k0, (Below.heap_alloc _ _ _ (lt_of_block k1)).trans k1, kb.alloc kb.size _, by simp; omega, h0, h1, h2, h3, fun _ => ⟨rfl, ks, heap_new0 W _⟩, (fun e => by cases e), fun e => ?_, (fun e => by cases e)⟩
      obtain ⟨e1, e2, cs, e3, e4, _⟩ := h6 e
      exact ⟨e1, e2, cs, (Below.heap_alloc _ _ _ (lt_of_block e3)).trans e3, e4, fun e => by cases e⟩
    | 5, hun, ho, hall, _ =>
      cases ho
      obtain rfl : l0 = true := hall { on := 0, ground := .data } (by simp) rfl
      obtain rfl : l4 = true := hall { on := 4, ground := .data } (by simp) rfl
      obtain rfl := h0 rfl
      obtain ⟨rfl, hg1, hg2⟩ := h4 rfl
      have hbl := run_build_chart HZ.out g N W
      obtain rfl : l5 = false := hun
      obtain rfl : l7 = false := by
        cases l7 with
        | false => rfl
        | true => exact absurd (h7 rfl).2 (by simp)
      refine wpOpIn_val (Open.wide _) rfl rfl (fun c e => by cases e) (u := .agg (chartC gc g N)) (w' := W) ?_ ?_
      · exact exec_build_chart _ _ rfl hbl rfl rfl
      · exact ⟨true, l1, l2, l3, true, true, l6, false, u3, _, u7, u8, u9, _, _, g, b3, rfl, rfl, k0, k1, kb, ks, h0, h1, h2, h3, fun _ => ⟨rfl, hg1, hg2⟩, fun _ => ⟨rfl, rfl⟩, h6, fun e => by cases e⟩
    | 6, hun, ho, hall, _ =>
      obtain rfl : l6 = false := hun
      obtain rfl : l7 = false := by
        cases l7 with
        | false => rfl
        | true => exact absurd (h7 rfl).1 (by simp)
      refine wpOpIn_val (Open.wide _) rfl rfl (fun c e => by cases e) (u := .pointer (some ⟨W.heap.size, 0, none⟩)) (w' := W.alloc (.cells zeroK 71)) (by go_simp) ?_
      refine ⟨l0, l1, l2, l3, l4, l5, true, false, _, u6, u7, u8, u9, u10, u11, g, W.heap.size, rfl, rfl, (Below.heap_alloc _ _ _ (lt_of_block k0)).trans k0, (Below.heap_alloc _ _ _ (lt_of_block k1)).trans k1, kb.alloc kb.size _, by simp; omega, h0, h1, h2, h3, fun e => ?_, h5, fun _ => ⟨rfl, ks, zeroK, heap_new0 W _, rfl, (fun e => by cases e)⟩, fun e => by cases e⟩
      obtain ⟨e1, e2, e3⟩ := h4 e
      exact ⟨e1, e2, (Below.heap_alloc _ _ _ (lt_of_block e3)).trans e3⟩
    | 7, hun, ho, hall, _ =>
      cases ho
      obtain rfl : l6 = true := hall { on := 6, ground := .data } (by simp) rfl
      obtain rfl : l5 = true := hall { on := 5, ground := .data } (by simp) rfl
      obtain ⟨rfl, hb1, cs, hb2, hb3, _⟩ := h6 rfl
      obtain ⟨rfl, rfl⟩ := h5 rfl
      obtain ⟨rfl, hg1, hg2⟩ := h4 rfl
      have hne : g ≠ b3 := by
        rintro rfl
        rw [hb2] at hg2
        simp at hg2
      refine wpOpIn_skip (Open.wide _) rfl rfl (fun c e => by cases e) (w' := W.setRow b3 (chartC gc g N)) ?_ ?_
      · unfold execOp
        have := run_storeVar_row (P := Try.prog) W b3 71 71 cs (chartC gc g N) hb2 (HCS.out g) (by rw [hb3, chartC_size HZ.out]) (HCO.out g)
        simp [Act.eval, Instr.storeAt, Instr.sureAddr, this, Result.andThen]
      · refine ⟨l0, l1, l2, l3, true, true, true, true, _, u6, u7, u8, u9, _, _, g, b3, rfl, rfl, (setRow_other _ _ _ _ (by omega)).trans k0, (setRow_other _ _ _ _ (by omega)).trans k1, below_setRow' kb (by omega) _, by simpa using ks, h0, h1, h2, h3, fun _ => ⟨rfl, hg1, (setRow_other _ _ _ _ hne).trans hg2⟩, fun _ => ⟨rfl, rfl⟩, fun _ => ⟨rfl, hb1, _, setRow_heap _ _ _ _ _ _ hb2, chartC_size HZ.out g N, fun _ => rfl⟩, fun _ => ⟨rfl, rfl⟩⟩
  case hdone =>
    rintro listed a W ⟨l0, l1, l2, l3, l4, l5, l6, l7, u3, u6, u7, u8, u9, u10, u11, g, b3, rfl, rfl, k0, k1, kb, ks, h0, h1, h2, h3, h4, h5, h6, h7⟩ hall
    obtain rfl : l7 = true := hall 7 (by simp)
    obtain ⟨rfl, rfl⟩ := h7 rfl
    obtain ⟨rfl, rfl⟩ := h5 rfl
    obtain ⟨rfl, hg1, hg2⟩ := h4 rfl
    obtain ⟨rfl, hb1, cs, hb2, _, hb4⟩ := h6 rfl
    obtain rfl := hb4 rfl
    have L0 := hid k0
    have L1 := hid k1
    have L2 := hid hb2
    have L3 := hid (made_steps (n := n) (m := m) (t := lett m ls) hg2 (fun c => ∃ y ∈ ([] : List (Fin nm)), y.val = c / 4) (fun c hc => by obtain ⟨y, hy, _⟩ := hc; cases hy))
    have LB := hid kb
    have LG := hid hg1
    have L3B := hid hb1
    have LS := hid ks
    have LNE := hid (show b3 ≠ g from by
      rintro rfl
      rw [hb2] at hg2
      simp at hg2)
    have HLK := hid (fun c M w' (hc : c < N) hs => link_any n m g N c ls w' hl hn hm (by rw [hnm]; exact hN) hc (M := M) hs)
    have HCST := hid (fun Bg w' h => cells_stops 2 Bg n m nm hnm.symm ls hl hn hm1 hm w' h)
    rw [HGC.out] at HLK HCST
    generalize hlet : lett m ls = t at *
    have HLET := hid hlet
    clear hlet k0 k1 hb2 hb4 hg2 kb hg1 hb1 ks h0 h1 h2 h3 h4 h5 h6 h7 hall
    gi_wp2_with (refine wpListIn_load_row (Open.wide _) rfl 57 _ rfl w.heap.size rfl 57 gc (0, 0) _ L0.out Try.underlying57 rfl HG.out ?_)
    refine ⟨trivial, callsIn_wide.2 ((cells_any gc W).mono ?_)⟩
    rintro e w1 ⟨rfl, hw1⟩
    have K1 := hid (show w1.heap[w.heap.size + 1]? = some (.cells zeroK 71 (0, 0)) by rw [hw1]; exact (Below.heap_alloc _ _ _ (lt_of_block L1.out)).trans L1.out)
    have K2 := hid (show w1.heap[b3]? = some (.cells (chartC gc g N) 71 (0, 0)) by rw [hw1]; exact (Below.heap_alloc _ _ _ (lt_of_block L2.out)).trans L2.out)
    have K3 := hid (show w1.heap[W.heap.size]? = some (.cells gc 57 (0, 0)) by rw [hw1]; exact heap_new0 W _)
    have K4 := hid (show StepsM w1 g n m t (fun c => ∃ y ∈ ([] : List (Fin nm)), y.val = c / 4) N by rw [hw1]; exact L3.out.below ((Below.refl _ _).alloc (Nat.le_refl _) _))
    have KB := hid (show Below w.heap.size w w1 by rw [hw1]; exact LB.out.alloc LB.out.size _)
    have KS := hid (show w1.heap.size = W.heap.size + 1 by rw [hw1, World.size_alloc])
    have KG := hid (show g < W.heap.size from L3.out.lt)
    clear hw1
    gi_wp2
    refine wpIn_rangeFunc_ownH rfl (by omega) (gf := 132) (lb := #[.pointer (some ⟨W.heap.size, 0, none⟩)]) rfl trivial (enters_of Try.func132 (by kernel_rfl) rfl)
      (HCST.out W.heap.size w1 K3.out) KeepsAt.trans (keepsAt_b (lt_of_block K3.out)) (Below.refl _ _) (fun _ => rfl)
      (fun pre X => ((X.heap[w.heap.size + 1]? = some (.cells zeroK 71 (0, 0)) ∧ X.heap[b3]? = some (.cells (chartC gc g N) 71 (0, 0))) ∧ StepsM X g n m t (fun c => ∃ y ∈ pre, y.val = c / 4) N) ∧ Below w.heap.size w1 X)
      (fun _ _ _ => False)
      (OwnFrom.and (OwnFrom.and (OwnFrom.and (ownFrom_heap _ _ (fun _ => _) (fun _ => rfl)) (ownFrom_heap _ _ (fun _ => _) (fun _ => rfl))) (ownFrom_steps _ g n m t (fun (pre : List (Fin nm)) c => ∃ y ∈ pre, y.val = c / 4) N)) (ownFrom_below KB.out.size KB.out.size))
      (fun _ _ _ _ _ hs _ _ => hs)
      ⟨⟨⟨K1.out, K2.out⟩, K4.out⟩, Below.refl _ _⟩
      (fun x a' X => ∃ Bx, W.heap.size + 1 ≤ Bx ∧ X.heap[Bx]? = some (.cells #[.int .i64 ((x.val / m : Nat) : Int), .int .i64 ((x.val % m : Nat) : Int)] 75 (0, 0)) ∧ ∃ u0 u1 u2 u5 u6 u7 u8 u9 u10 u11 u12 u13 u14 u15 u16 u17 u18 u19 u20 u21 u22 u23 u24 u25 : Value,
        a' = { tmps := #[u0, u1, u2, .pointer (some ⟨b3, 0, none⟩), .pointer (some ⟨Bx, 0, none⟩), u5, u6, u7, u8, u9, u10, u11, u12, u13, u14, u15, u16, u17, u18, u19, u20, u21, u22, u23, u24, u25], defers := [] })
      (fun x a' _ X Y row hs hg hr => by
        obtain ⟨Bx, h1, h2, h3⟩ := hs
        exact ⟨Bx, h1, ownFrom_heap _ Bx (fun (_ : Unit) => Obj.cells #[.int .i64 ((x.val / m : Nat) : Int), .int .i64 ((x.val % m : Nat) : Int)] 75 (0, 0)) (fun _ => rfl) () X Y row h2 hg hr, h3⟩)
      ?assign ?body ?done ?stop
    case assign =>
      rintro l pre x X K ⟨⟨⟨i0, i1⟩, i2⟩, i3⟩ hK
      have J0 := hid i0
      have J1 := hid i1
      have J2 := hid i2
      have J3 := hid i3
      have JK := hid hK
      clear i0 i1 i2 i3 hK
      unfold encs
      obtain ⟨qv, hqv⟩ : ∃ qv : Int, ((x.val / m : Nat) : Int) = qv := ⟨_, rfl⟩
      obtain ⟨rv, hrv⟩ : ∃ rv : Int, ((x.val % m : Nat) : Int) = rv := ⟨_, rfl⟩
      rw [hqv, hrv] at JK ⊢
      have hsz : W.heap.size + 1 ≤ X.heap.size := by rw [← KS.out]; exact J3.out.size
      gi_wp2
      exact JK.out _ _ ((KeepsOthers.alloc _ _).from _) ⟨by simp, Below.heap_alloc _ _ _ (by omega)⟩
        ⟨⟨⟨(Below.heap_alloc _ _ _ (lt_of_block J0.out)).trans J0.out, (Below.heap_alloc _ _ _ (lt_of_block J1.out)).trans J1.out⟩, J2.out.below ((Below.refl _ _).alloc (Nat.le_refl _) _)⟩, J3.out.alloc (by have := LB.out.size; omega) _⟩
        ⟨X.heap.size, hsz, heap_new0 X _, _, _, _, _, _, _, _, _, _, _, _, _, _, _, _, _, _, _, _, _, _, _, _, _, rfl⟩
    case body =>
      rintro l pre x a' X hlw ⟨r, hr⟩ ⟨⟨⟨i0, i1⟩, i2⟩, i3⟩ ⟨Bx, hBx, hX, u0, u1, u2, u5, u6, u7, u8, u9, u10, u11, u12, u13, u14, u15, u16, u17, u18, u19, u20, u21, u22, u23, u24, u25, rfl⟩ hlt
      have hxk := x.isLt
      have HWY := hid (fun d (hd : d < 4) => wayN_cell (m := m) (c := x.val) hd)
      obtain ⟨xv, hxv⟩ : ∃ xv, x.val = xv := ⟨_, rfl⟩
      have HXV := hid hxv
      rw [hxv] at hX hxk HWY
      obtain ⟨qv, hqv⟩ : ∃ qv : Int, ((xv / m : Nat) : Int) = qv := ⟨_, rfl⟩
      obtain ⟨rv, hrv⟩ : ∃ rv : Int, ((xv % m : Nat) : Int) = rv := ⟨_, rfl⟩
      rw [hqv, hrv] at hX HWY
      have J0 := hid i0
      have J1 := hid i1
      have J2 := hid i2
      have J3 := hid i3
      have JX := hid hX
      have HX4 := hid (show 4 * xv + 3 < N by omega)
      have JSZ := hid (show W.heap.size + 1 ≤ X.heap.size by rw [← KS.out]; exact i3.size)
      clear i0 i1 i2 i3 hX hqv hrv hxv hr hlt hxk
      gi_wp2
      gi_loopw [16] (LinkRel g n m t (fun c => ∃ y ∈ pre, y.val = c / 4) xv N X) (fun i _ => 4 - (intOf i).toNat)
      case atStart => exact ⟨0, by omega, rfl, J2.out.congr fun c _ => ⟨.inl, fun h => h.resolve_right (fun h => by omega)⟩, But.refl _ _⟩
      case round =>
        obtain ⟨h, hh, rfl, hst, hbut⟩ := hrel
        have HST := hid hst
        have HBT := hid hbut
        clear hst hbut
        by_cases h4 : h < 4
        · have R3 := hid ((HBT.out.block _ (lt_of_block J1.out) LNE.out).trans J1.out)
          have RX := hid ((HBT.out.block _ (lt_of_block JX.out) (by have := KG.out; omega)).trans JX.out)
          have hlk := hid (HLK.out (4 * xv + h) _ wr (by have := HX4.out; omega) HST.out)
          rw [HWY.out h h4] at hlk
          unfold wayV at hlk
          have hhi : (h : Int) < 4 := by omega
          gi_wp2_with (first
            | refine wpListIn_load_row (Open.round _ l) rfl 71 _ rfl b3 rfl 71 (chartC gc g N) (0, 0) _ R3.out Try.underlying71 rfl (HCS.out g) ?_
            | refine wpListIn_load_row (Open.round _ l) rfl 75 _ rfl Bx rfl 75 #[.int .i64 qv, .int .i64 rv] (0, 0) _ RX.out Try.underlying75 rfl Try.size_place ?_)
          refine ⟨trivial, CallsIn.inRound l (callsIn_wide.2 (hlk.out.mono ?_))⟩
          rintro e w3 ⟨rfl, hb3, hs3⟩
          have HB3 := hid (HBT.out.trans hb3)
          have HS3 := hid hs3
          clear hb3 hs3
          gi_wp2
          go_roundw
          case rel =>
            refine ⟨h + 1, by omega, by go_num, HS3.out.congr fun c _ => ?_, HB3.out⟩
            constructor
            · rintro ((h1 | ⟨h1, h2⟩) | h1)
              · exact .inl h1
              · exact .inr ⟨h1, by omega⟩
              · exact .inr ⟨by omega, by omega⟩
            · rintro (h1 | ⟨h1, h2⟩)
              · exact .inl (.inl h1)
              · rcases Nat.lt_or_ge (c % 4) h with h3 | h3
                · exact .inl (.inr ⟨h1, h3⟩)
                · exact .inr (by omega)
          case measure => simp [intOf]; omega
        · obtain rfl : h = 4 := by omega
          gi_wp2
          refine ⟨KeepsFrom.of_grownBy (but_grownN HBT.out) (fun j e => by cases e; rw [KS.out]; have := KG.out; omega), ⟨HBT.out.size, HBT.out.block _ (by have := JSZ.out; omega) (by have := KG.out; omega)⟩, ⟨⟨?_, ?_⟩, ?_⟩, ?_⟩
          · exact (HBT.out.block _ (lt_of_block J0.out) (by have := LG.out; omega)).trans J0.out
          · exact (HBT.out.block _ (lt_of_block J1.out) LNE.out).trans J1.out
          · refine HST.out.congr fun c _ => ?_
            constructor
            · rintro (⟨y, hy, h1⟩ | ⟨h1, _⟩)
              · exact ⟨y, by simp [hy], h1⟩
              · exact ⟨x, by simp, by rw [HXV.out]; exact h1.symm⟩
            · rintro ⟨y, hy, h1⟩
              simp only [List.mem_append, List.mem_singleton] at hy
              rcases hy with hy | rfl
              · exact .inl ⟨y, hy, h1⟩
              · exact .inr ⟨by rw [← HXV.out]; exact h1.symm, Nat.mod_lt _ (by decide)⟩
          · exact J3.out.trans (HBT.out.below (by have := LG.out; omega) (by have := J3.out.size; have := KB.out.size; omega))
    case done =>
      rintro D xs X hD rfl ⟨⟨⟨i0, i1⟩, i2⟩, i3⟩ hK
      have J0 := hid i0
      have J1 := hid i1
      have J2 := hid i2
      have J3 := hid i3
      have JK := hid hK
      clear i0 i1 i2 i3 hK
      gi_wp2_with (first
        | refine wpListIn_load_row (Open.wide _) rfl 71 _ rfl b3 rfl 71 (chartC gc g N) (0, 0) _ J1.out Try.underlying71 rfl (HCS.out g) ?_
        | refine wpListIn_store_row (Open.wide _) rfl 71 _ _ rfl (w.heap.size + 1) (chartC gc g N) rfl rfl 71 zeroK J0.out (HCS.out g) (by rw [chartC_size HZ.out]; rfl) (HCO.out g) ?_)
      have hne : w.heap.size + 1 ≠ D := by have := LS.out; rw [KS.out] at hD; omega
      have hgD : g ≠ D := by have := KG.out; rw [KS.out] at hD; omega
      have hK' : (X.setRow (w.heap.size + 1) (chartC gc g N)).heap[D]? = some (.deferred (some [])) := by
        rw [setRow_other _ _ _ _ (fun e => hne e.symm)]; exact JK.out
      refine ⟨by simp, .inl ⟨_, _, rfl, run_takeDeferred hK', ?_⟩⟩
      refine ⟨_, results_cell_row Try.results69 _ _ (w.heap.size + 1) 71 _ (0, 0) _ (by rfl) ((World.putObj_heap_other hne).trans (setRow_heap _ _ _ _ _ _ J0.out)) Try.underlying71 rfl (HCS.out g), ?_⟩
      refine ⟨g, by have := LG.out; omega, rfl, ?_, ?_⟩
      · rw [HLET.out]
        refine (J2.out.congr (M' := fun _ => True) fun c hc => ⟨fun _ => trivial, fun _ => ?_⟩).keep ((World.putObj_heap_other hgD).trans (setRow_other X _ g _ (by have := LG.out; omega)))
        exact ⟨⟨c / 4, by omega⟩, List.mem_finRange _, rfl⟩
      · exact (KB.out.trans (below_setRow' J3.out (by omega) _)).trans (belowK_b (w := w) (Nat.le_refl _) _ D _ _ (by have := LB.out.size; rw [KS.out] at hD; omega) hK' rfl rfl)
    case stop =>
      rintro D c pre X _ _ h _
      exact h.elim

end Go.Proofs.Ytmdgbcepjnfbnaa
