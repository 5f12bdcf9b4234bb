/- A trace: made, asked, its length. -/
import Derived.Test.YtpbppkidglmacaaMapOps
namespace Go.Proofs.Ytpbppkidglmacaa
open Go.RowKit Go.Shelf Go.Maps
attribute [local go_sem] Oper.semAt_some

theorem grown_belowB {a b c : World} {r : Option Nat} (h : a.grownBy b r) (k : Below a.heap.size b c) : a.grownBy c r :=
  ⟨k.os.trans h.os, k.tape.trans h.tape, k.output.trans h.output, Nat.le_trans h.size k.size, fun i hi hr => (k.block i hi).trans (h.block i hi hr)⟩
theorem lits27 {cs : Array Value} (h : cs.size = 27) : ∃ c0 c1 c2 c3 c4 c5 c6 c7 c8 c9 c10 c11 c12 c13 c14 c15 c16 c17 c18 c19 c20 c21 c22 c23 c24 c25 c26 : Value, cs = #[c0, c1, c2, c3, c4, c5, c6, c7, c8, c9, c10, c11, c12, c13, c14, c15, c16, c17, c18, c19, c20, c21, c22, c23, c24, c25, c26] := by
  refine ⟨cs[0], cs[1], cs[2], cs[3], cs[4], cs[5], cs[6], cs[7], cs[8], cs[9], cs[10], cs[11], cs[12], cs[13], cs[14], cs[15], cs[16], cs[17], cs[18], cs[19], cs[20], cs[21], cs[22], cs[23], cs[24], cs[25], cs[26], ?_⟩
  refine Array.ext (by simp [h]) (fun i h1 h2 => ?_)
  rw [h] at h1
  have : i = 0 ∨ i = 1 ∨ i = 2 ∨ i = 3 ∨ i = 4 ∨ i = 5 ∨ i = 6 ∨ i = 7 ∨ i = 8 ∨ i = 9 ∨ i = 10 ∨ i = 11 ∨ i = 12 ∨ i = 13 ∨ i = 14 ∨ i = 15 ∨ i = 16 ∨ i = 17 ∨ i = 18 ∨ i = 19 ∨ i = 20 ∨ i = 21 ∨ i = 22 ∨ i = 23 ∨ i = 24 ∨ i = 25 ∨ i = 26 := by omega
  rcases this with rfl | rfl | rfl | rfl | rfl | rfl | rfl | rfl | rfl | rfl | rfl | rfl | rfl | rfl | rfl | rfl | rfl | rfl | rfl | rfl | rfl | rfl | rfl | rfl | rfl | rfl | rfl <;> rfl
abbrev zeroT : Array Value := #[.int .i64 0, .int .i64 0, .int .u8 0, .int .u8 0, .int .u8 0, .int .u8 0, .int .u8 0, .int .u8 0, .int .u8 0, .int .u8 0, .int .u8 0, .int .u8 0, .int .u8 0, .int .u8 0, .int .u8 0, .int .u8 0, .int .u8 0, .int .u8 0, .int .u8 0, .int .u8 0, .int .u8 0, .int .u8 0, .int .u8 0, .int .u8 0, .int .u8 0, .int .u8 0, .int .u8 0, .map none]
theorem run_build_trace {cs : Array Value} (h : cs.size = 27) (b : Nat) (w : World) : (Instr.build 62 #[(0, .agg cs), (1, .map (some b))]).run Try.prog w = .ok (.agg (tcells cs b)) w := by
  obtain ⟨c0, c1, c2, c3, c4, c5, c6, c7, c8, c9, c10, c11, c12, c13, c14, c15, c16, c17, c18, c19, c20, c21, c22, c23, c24, c25, c26, rfl⟩ := lits27 h
  kernel_rfl

theorem wpListIn_build_trace {F : Fence} {n : Nat} {ops : Array Oper} {rest : List Oper} {o : Oper} {a : Act} {w : World} {Q : Exit → Act → World → Prop} (hO : Open F Try.prog) (hg : o.guard = none) (x m : Operand) (ho : o.op = Op.build 62 #[(0, x), (1, m)])
    (cs : Array Value) (hc : cs.size = 27) (b : Nat) (hx : a.eval x = .agg cs) (hm : a.eval m = .map (some b)) (hK : wpListIn F n Try.prog ops Q rest (a.put o.dst (.agg (tcells cs b))) w) : wpListIn F n Try.prog ops Q (o :: rest) a w := by
  have hrun := run_build_trace hc b w
  unfold wpListIn
  have hw : Region.wanted o (yielded ops a.tmps) = true := by simp [Region.wanted, hg]
  rw [if_pos hw]
  refine ⟨fun f _ => hO.fn f, ?_⟩
  rw [Oper.semAt_eq _ _ _ (fun c e => by rw [ho] at e; cases e)]
  have he : (execOp a.eval o).run Try.prog w = .ok (.value (.agg (tcells cs b))) w := by
    unfold execOp
    simp only [ho]
    have : (#[(0, x), (1, m)] : Array (Nat × Operand)).map (fun p => (p.1, a.eval p.2)) = #[(0, .agg cs), (1, .map (some b))] := by simp [hx, hm]
    rw [this]
    simp only [Sem.run_bind, hrun, Result.andThen_ok, Sem.run_pure]
  rw [he, Oper.uponIn_value]
  exact hK

theorem tcells_one {cs : Array Value} (h : cs.all (·.oneCell') = true) (b : Nat) : (tcells cs b).all (·.oneCell') = true := by
  unfold tcells
  rw [Array.all_push, h]
  rfl

set_option maxRecDepth 100000 in
set_option maxHeartbeats 2000000 in
theorem newTrace_any (cs : Array Value) (hc : cs.size = 27) (h1 : cs.all (·.oneCell') = true) (w : World) :
    Calls Try.prog 56 #[.agg cs] w fun e w' => e = .returned (.agg (tcells cs (w.heap.size + 2))) ∧ MapOf w' (w.heap.size + 2) [] ∧ Below w.heap.size w w' := by
  have hmm := @run_makeMap Try.prog
  have HS := hid (show (Try.prog.info? 44).map (·.size) = some cs.size by rw [hc]; exact Try.size_grid)
  have HC := hid hc
  have H1 := hid h1
  have HN := hid (show ∀ c o, (((w.alloc c).alloc (.cells zeroT 62)).alloc o).heap[w.heap.size + 1]? = some (.cells zeroT 62 (0, 0)) from fun c o => by
    have := heap_new1 (w.alloc c) (.cells zeroT 62) o
    simpa using this)
  have HL := hid (fun o => heap_new1 w (.cells cs 44) o)
  clear hc h1
  refine (callsIn_wide (n := 3)).1 ?_
  refine callsIn_of_wp Try.func56 rfl trivial ?_ rfl
  simp only [Try.ntmps56, List.size_toArray, List.length_cons, List.length_nil, Nat.reduceAdd, Nat.reduceSub, Array.replicate_succ, Array.replicate_zero, List.push_toArray, List.append_toArray, List.nil_append, List.cons_append]
  gi_wp2_with (first
      | (refine wpListIn_load_row (Open.wide _) rfl 44 _ rfl w.heap.size rfl 44 cs (0, 0) _ (HL.out _) Try.underlying44 rfl HS.out ?_)
      | (refine wpListIn_build_trace (Open.wide _) rfl _ _ rfl cs HC.out (w.heap.size + 1 + 1) rfl rfl ?_)
      | (refine wpListIn_store_row (Open.wide _) rfl 62 _ _ rfl (w.heap.size + 1) (tcells cs (w.heap.size + 1 + 1)) rfl rfl 62 zeroT (HN.out _ _) (by rw [tcells_size HC.out]; exact Try.size_trace) (by rw [tcells_size HC.out]; rfl) (tcells_one H1.out _) ?_))
  refine bodyPost_ret (results_cell_row Try.results56 _ _ (w.heap.size + 1) 62 (tcells cs (w.heap.size + 1 + 1)) (0, 0) _ (by rfl) (setRow_heap _ _ _ _ _ _ (HN.out _ _)) Try.underlying62 rfl (by rw [tcells_size HC.out]; exact Try.size_trace)) rfl ?_
  refine ⟨rfl, ?_, ?_⟩
  · have h0 := MapOf.made ((w.alloc (.cells cs 44)).alloc (.cells zeroT 62))
    rw [World.size_alloc, World.size_alloc] at h0
    exact h0.kept (setRow_other _ _ _ _ (by omega))
  · exact below_setRow' ((((Below.refl _ w).alloc (Nat.le_refl _) _).alloc (by simp) _).alloc (by simp; omega) _) (by omega) _

set_option maxRecDepth 100000 in
set_option maxHeartbeats 2000000 in
theorem length_any (cs : Array Value) (hc : cs.size = 27) (b : Nat) (xs : List Wy) (w : World) (hm : MapOf w b xs) (hx : ∀ x ∈ xs, okW x) (hd : xs.Nodup) :
    Calls Try.prog 58 #[.agg (tcells cs b)] w fun e w' => e = .returned (.int .i64 ((xs.length : Nat) : Int)) ∧ Below w.heap.size w w' := by
  have HM := hid (hm.alloc (.cells (tcells cs b) 62))
  have HX := hid hx
  have HD := hid hd
  have hcell : (w.alloc (.cells (tcells cs b) 62)).cell? ⟨w.heap.size, 27, none⟩ = some (.map (some b)) := by
    rw [cell_of_row _ _ _ _ _ _ (heap_new0 w _)]; exact tcells_map hc b
  have HC := hid hcell
  clear hm hx hd hc hcell
  generalize tcells cs b = ts at *
  refine (callsIn_wide (n := 3)).1 ?_
  refine callsIn_of_wp Try.func58 rfl trivial ?_ rfl
  simp only [Try.ntmps58, List.size_toArray, List.length_cons, List.length_nil, Nat.reduceAdd, Nat.reduceSub, Array.replicate_succ, Array.replicate_zero, List.push_toArray, List.append_toArray, List.nil_append, List.cons_append]
  have hcell := HC.out
  gi_wp2_with (refine wpListIn_len_way rfl _ rfl rfl HM.out HX.out HD.out ?_)
  refine bodyPost_ret (results_tmp rfl _ _ _) rfl ?_
  exact ⟨rfl, (Below.refl _ w).alloc (Nat.le_refl _) _⟩

set_option maxRecDepth 100000 in
set_option maxHeartbeats 2000000 in
theorem ask_any (n m q L b : Nat) (ls : List UInt8) (xs : List Wy) (w : World) (hL : L = blen n m (lett m ls) q) (hl : ls.length = 25) (hn : n ≤ 5) (hm5 : m ≤ 5) (hq : q < 2 * (n + m)) (hm : MapOf w b xs) :
    Calls Try.prog 57 #[.agg (tcells (gcells n m ls) b), .int .i64 q] w fun e w' => (∃ v, e = .returned v) ∧ MapOf w' b ((List.finRange L).map fun x => bway n m (lett m ls) q x.val) ∧ w.grownBy w' (some b) := by
  have HM := hid (hm.alloc (.cells (tcells (gcells n m ls) b) 62))
  have HB := hid (hm.lt)
  have HG := hid (show (Try.prog.info? 44).map (·.size) = some (gcells n m ls).size by rw [gcells_size hl]; exact Try.size_grid)
  have HP := hid (tcells_pre (gcells n m ls) b)
  have HC := hid (show (w.alloc (.cells (tcells (gcells n m ls) b) 62)).cell? ⟨w.heap.size, 27, none⟩ = some (.map (some b)) by
    rw [cell_of_row _ _ _ _ _ _ (heap_new0 w _)]; exact tcells_map (gcells_size hl) b)
  have HWS := hid (fun (Bg Bp : Nat) (w' : World) h1 h2 => ways_stops 2 Bg Bp n m q L ls hL hl hn hm5 hq w' h1 h2)
  have HOK := hid (show ∀ j, j < L → okW (bway n m (lett m ls) q j) from fun j hj => by
    have hin := blen_in (n := n) (m := m) (t := lett m ls) (p := q) (j := j) (by rw [← hL]; exact hj)
    have hd := bway_d (n := n) (m := m) (t := lett m ls) q j
    unfold inG at hin
    unfold okW
    omega)
  have HL100 := hid (show L ≤ 100 by
    have h1 := blen_lt (t := lett m ls) hq
    have h2 : n * m ≤ 25 := Nat.mul_le_mul hn hm5
    omega)
  clear hm hL hl hn hm5 hq
  generalize bway n m (lett m ls) q = bw at *
  generalize gcells n m ls = cs at *
  generalize hts : tcells cs b = ts at *
  clear hts
  refine (callsIn_wide (n := 3)).1 ?_
  refine callsIn_of_wp_marks Try.func57 rfl trivial ?_ rfl
  simp only [Try.ntmps57, List.size_toArray, List.length_cons, List.length_nil, Nat.reduceAdd, Nat.reduceSub, Array.replicate_succ, Array.replicate_zero, List.push_toArray, List.append_toArray, List.nil_append, List.cons_append]
  have hcell := HC.out
  gi_wp2_with (refine wpListIn_clear_way rfl _ rfl rfl HM.out ?_)
  intro w1 hm1 hg1
  have HM1 := hid hm1
  have HT1 := hid (show w1.heap[w.heap.size]? = some (.cells ts 62 (0, 0)) from (hg1.block _ (by simp) (by have := HB.out; intro e; cases e; omega)).trans (heap_new0 w _))
  have HG1 := hid (show w.grownBy w1 (some b) from grown_trans (World.grownBy_alloc w _ _) hg1)
  have HS1 := hid (show w.heap.size < w1.heap.size from lt_of_block HT1.out)
  clear hm1 hg1 hcell
  gi_wp2_with (refine wpListIn_load_head (Open.wide _) rfl 44 _ rfl w.heap.size rfl 62 ts (0, 0) cs _ HT1.out HP.out Try.underlying44 rfl HG.out ?_)
  refine ⟨trivial, callsIn_wide.2 ((ways_any cs q _).mono ?_)⟩
  rintro e w2 ⟨rfl, hw2⟩
  have KX := hid (show w2.heap[w1.heap.size]? = some (.cells cs 44 (0, 0)) by rw [hw2]; exact heap_new1 w1 _ _)
  have KP := hid (show Boxed w2 (w1.heap.size + 1) 3 (.int .i64 q) by
    unfold Boxed
    rw [hw2]; simpa using heap_new0 (w1.alloc (.cells cs 44)) (.cells #[.int .i64 q] 3))
  have KS := hid (show w2.heap.size = w1.heap.size + 2 by rw [hw2]; simp)
  have KB := hid (show Below w1.heap.size w1 w2 by rw [hw2]; exact ((Below.refl _ w1).alloc (Nat.le_refl _) _).alloc (by simp) _)
  have KT := hid (show w2.heap[w.heap.size]? = some (.cells ts 62 (0, 0)) from (KB.out.block _ HS1.out).trans HT1.out)
  have KM := hid (show MapOf w2 b ([] : List Wy) from HM1.out.kept (KB.out.block _ HM1.out.lt))
  have KG := hid (show w.grownBy w2 (some b) from grown_trans HG1.out (grown_below _ KB.out))
  clear hw2
  gi_wp2
  refine wpIn_rangeFunc_ownH rfl (by omega) (gf := 88) (lb := #[.pointer (some ⟨w1.heap.size, 0, none⟩), .pointer (some ⟨w1.heap.size + 1, 0, none⟩)]) rfl trivial (enters_of Try.func88 (by kernel_rfl) rfl)
      (HWS.out w1.heap.size (w1.heap.size + 1) w2 KX.out KP.out) KeepsW.trans (keepsW_b (lt_of_block KX.out)) (Below.refl _ _) (fun _ => rfl)
      (fun pre W => (W.heap[w.heap.size]? = some (.cells ts 62 (0, 0)) ∧ MapOf W b (pre.map fun x => bw x.val)) ∧ w2.grownBy W (some b))
      (fun _ _ _ => False)
      (OwnFrom.and (OwnFrom.and (ownFrom_heap _ _ (fun _ => _) (fun _ => rfl)) (own_map b _ (fun pre : List (Fin L) => pre.map fun x => bw x.val) KM.out.lt)) (own_grown w2 (some b) _ (Nat.le_refl _)))
      (fun _ _ _ _ _ hs _ _ => hs)
      ⟨⟨KT.out, KM.out⟩, grown_refl _ _⟩
      (fun x a' W => ∃ Bx, w2.heap.size ≤ Bx ∧ W.heap[Bx]? = some (.cells (wayC (bw x.val)) 58 (0, 0)) ∧ ∃ u0 u1 u3 u5 u6 u7 u8 u9 u10 u11 u12 u13 u14 : Value,
        a' = { tmps := #[u0, u1, .pointer (some ⟨w.heap.size, 0, none⟩), u3, .pointer (some ⟨Bx, 0, none⟩), u5, u6, u7, u8, u9, u10, u11, u12, u13, u14], defers := [] })
      (fun x a' _ X Y row hs hg hr => by
        obtain ⟨Bx, h1, h2, h3⟩ := hs
        exact ⟨Bx, h1, ownFrom_heap _ Bx (fun (_ : Unit) => Obj.cells (wayC (bw x.val)) 58 (0, 0)) (fun _ => rfl) () X Y row h2 hg hr, h3⟩)
      ?assign ?body ?done ?stop
  case assign =>
    rintro l pre x W K ⟨⟨i0, i1⟩, i2⟩ hK
    have J0 := hid i0
    have J1 := hid i1
    have J2 := hid i2
    have JK := hid hK
    clear i0 i1 i2 hK
    obtain ⟨y, hy⟩ : ∃ y, bw x.val = y := ⟨_, rfl⟩
    unfold encW
    rw [hy] at JK ⊢
    clear hy
    obtain ⟨iv, kv, dv⟩ := y
    simp only [wayV, wayC] at JK ⊢
    gi_wp2
    have hsz : w2.heap.size ≤ W.heap.size := J2.out.size
    exact JK.out _ _ ((KeepsOthers.alloc _ _).from _) (KeepsW.below ((Below.refl _ W).alloc (Nat.le_refl _) _) (by have := KS.out; omega))
      ⟨⟨(Below.heap_alloc _ _ _ (lt_of_block J0.out)).trans J0.out, J1.out.alloc _⟩, grown_trans J2.out (World.grownBy_alloc W _ _)⟩
      ⟨W.heap.size, hsz, heap_new0 W _, _, _, _, _, _, _, _, _, _, _, _, _, _, rfl⟩
  case body =>
    rintro l pre x a' W hlw ⟨r, hr⟩ ⟨⟨i0, i1⟩, i2⟩ ⟨Bx, hBx, hX, u0, u1, u3, u5, u6, u7, u8, u9, u10, u11, u12, u13, u14, rfl⟩ hlt
    have hok := HOK.out x.val x.isLt
    have hsn : (pre ++ [x]).map (fun x => bw x.val) = pre.map (fun x => bw x.val) ++ [bw x.val] := by simp
    have hln : (pre.map (fun x => bw x.val)).length < maxLen := by
      have h9 : 1000 ≤ maxLen := by decide
      have := HL100.out
      rw [List.length_map]; omega
    obtain ⟨y, hy⟩ : ∃ y, bw x.val = y := ⟨_, rfl⟩
    rw [hy] at hX hok hsn
    clear hy
    obtain ⟨iv, kv, dv⟩ := y
    have c0 : W.cell? ⟨Bx, 0, none⟩ = some (.int .i64 iv) := by rw [cell_of_row _ _ _ _ _ _ hX]; rfl
    have c1 : W.cell? ⟨Bx, 1, none⟩ = some (.int .i64 kv) := by rw [cell_of_row _ _ _ _ _ _ hX]; rfl
    have c2 : W.cell? ⟨Bx, 2, none⟩ = some (.int .i64 ((dv : Nat) : Int)) := by rw [cell_of_row _ _ _ _ _ _ hX]; rfl
    have c3 : W.cell? ⟨w.heap.size, 27, none⟩ = some (.map (some b)) := by
      rw [cell_of_row _ _ _ _ _ _ i0, ← cell_of_row _ _ _ _ _ _ (heap_new0 w (.cells ts 62))]; exact HC.out
    have I0 := hid i0
    have I1 := hid i1
    have I2 := hid i2
    have HOKx := hid hok
    have HLN := hid hln
    have HSN := hid hsn
    clear i0 i1 i2 hok hln hsn hX hr hlw hlt
    gi_wp2_with (refine wpListIn_store_way rfl _ _ _ rfl ⟨iv, kv, dv⟩ HOKx.out HLN.out rfl I1.out rfl rfl ?_)
    intro W1 hmW hgW
    have HMW := hid hmW
    have HGW := hid hgW
    clear hmW hgW c0 c1 c2 c3
    gi_wp2
    refine ⟨keeps_map KM.out.lt HGW.out, keepsW_map I1.out (by have := HM1.out.lt; omega) (by have := I2.out.size; have := KS.out; omega) HGW.out, ⟨?_, ?_⟩, grown_trans I2.out HGW.out⟩
    · exact (HGW.out.block _ (lt_of_block I0.out) (by have := HB.out; intro e; cases e; omega)).trans I0.out
    · rw [HSN.out]; exact HMW.out
  case done =>
    rintro D xs' W hD rfl ⟨⟨i0, i1⟩, i2⟩ hK
    have J1 := hid i1
    have J2 := hid i2
    have JK := hid hK
    clear i0 i1 i2 hK
    gi_wp2
    refine ⟨by simp, .inl ⟨_, _, rfl, run_takeDeferred JK.out, ?_⟩⟩
    refine ⟨_, results_none rfl _ _ _, ⟨_, rfl⟩, ?_, ?_⟩
    · exact J1.out.kept (World.putObj_heap_other (by have := KM.out.lt; omega))
    · exact grown_trans KG.out (grown_belowB J2.out (belowK_b (w := w2) (Nat.le_refl _) _ D _ _ hD JK.out rfl rfl))
  case stop =>
    rintro D c pre W _ _ h _
    exact h.elim
end Go.Proofs.Ytpbppkidglmacaa
