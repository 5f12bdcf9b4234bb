/- The term of a grid, by the program; TermOf of the program. -/
import Derived.Test.YtongjijkdjagdaaTermOV
import Derived.Test.YtongjijkdjagdaaBunC
import Derived.Test.YtongjijkdjagdaaBunA
namespace Go.Proofs.Ytongjijkdjagdaa
open Go.RowKit

def TermIsO (t : Tm) (w : World) (e : Ending) (w' : World) : Prop := e = .returned (.iface t.tyO t.payO) ∧ Below w.heap.size w w'
theorem conv_46O (w : World) : (convert 5 64 (.int .u8 (46 : UInt8).toNat)).run Try.prog w = .ok (.string (strB [46])) w := by kernel_rfl
theorem conv_114O (w : World) : (convert 5 64 (.int .u8 (114 : UInt8).toNat)).run Try.prog w = .ok (.string (strB [114])) w := by kernel_rfl
theorem conv_102O (w : World) : (convert 5 64 (.int .u8 (102 : UInt8).toNat)).run Try.prog w = .ok (.string (strB [102])) w := by kernel_rfl
theorem conv_letO (c : UInt8) (hc : isLet c = true) (w : World) : (convert 5 64 (.int .u8 c.toNat)).run Try.prog w = .ok (.string (strB [c])) w := by
  have : c = 46 ∨ c = 114 ∨ c = 102 := by
    unfold isLet at hc
    simpa only [Bool.or_eq_true, beq_iff_eq, or_assoc] using hc
  rcases this with rfl | rfl | rfl
  · exact conv_46O w
  · exact conv_114O w
  · exact conv_102O w
set_option maxRecDepth 100000 in
set_option maxHeartbeats 4000000 in
theorem term_cell (c : UInt8) (w : World) (h : IsGrid 1 1 [⟨[c].toArray⟩]) : Calls Try.prog 18 #[.agg (gcells 1 1 (pad (flat [⟨[c].toArray⟩])))] w (TermIsO (.lone c) w) := by
  have hc : isLet c = true := (h.2.2.2.2.2 ⟨[c].toArray⟩ (List.mem_singleton.2 rfl)).2 c (by simp)
  have hcv := conv_letO c hc
  have HN := hid (heap_new0 w (.cells (gcells 1 1 (pad (flat [⟨[c].toArray⟩]))) 37))
  have HB := hid ((Below.refl w.heap.size w).alloc (Nat.le_refl _) (.cells (gcells 1 1 (pad (flat [⟨[c].toArray⟩]))) 37))
  have HC0 := hid (gcells_0 1 1 (pad (flat [⟨[c].toArray⟩])))
  have HC1 := hid (gcells_1 1 1 (pad (flat [⟨[c].toArray⟩])))
  have HC2 := hid (show (gcells 1 1 (pad (flat [⟨[c].toArray⟩])))[2]? = some (.int .u8 c.toNat) from gcells_at (p := 0) (by simp [flat, pad]))
  clear h hc
  generalize gcells 1 1 (pad (flat [⟨[c].toArray⟩])) = cs at *
  unfold TermIsO
  go_enter Try.func18, Try.ntmps18
  go_wp2_with fail
  generalize World.alloc w _ = Y at HN HB ⊢
  have h0 : Y.cell? ⟨w.heap.size, 0, none⟩ = some (.int .i64 ((1 : Nat) : Int)) := by rw [cell_of_row _ _ _ _ _ _ HN.out]; exact HC0.out
  have h1 : Y.cell? ⟨w.heap.size, 1, none⟩ = some (.int .i64 ((1 : Nat) : Int)) := by rw [cell_of_row _ _ _ _ _ _ HN.out]; exact HC1.out
  have h2 : Y.cell? ⟨w.heap.size, 2, none⟩ = some (.int .u8 c.toNat) := by rw [cell_of_row _ _ _ _ _ _ HN.out]; exact HC2.out
  go_quiet (fail)
  go_wp2_with fail
  go_ret
  exact ⟨rfl, below_drewN' HB.out _⟩
/-- What the operations hand back that write the term of rows. -/
def rowsRel (cs cs1 cs2 : Array Value) (n m : Int) (t1 t2 : Tm) (i : Nat) (v : Value) (_ : World) : Prop :=
  match i with
  | 0 => v = .agg cs
  | 1 => v = .int .i64 (m - 1)
  | 2 => v = .agg cs1
  | 3 => v = .iface t1.tyO t1.payO
  | 4 => v = .agg cs
  | 5 => v = .int .i64 (n - 1)
  | 6 => v = .int .i64 (m - 1)
  | 7 => v = .agg cs2
  | 8 => v = .iface t2.tyO t2.payO
  | 9 => v = .agg #[.iface t1.tyO t1.payO, .string ⟨#[45]⟩, .iface t2.tyO t2.payO]
  | 10 => v = .iface 63 (.agg #[.iface t1.tyO t1.payO, .string ⟨#[45]⟩, .iface t2.tyO t2.payO])
  | 11 => v = .iface 63 (.agg #[.iface t1.tyO t1.payO, .string ⟨#[45]⟩, .iface t2.tyO t2.payO])
  | _ => True
set_option maxRecDepth 100000 in
set_option maxHeartbeats 4000000 in
theorem term_rows (cs cs1 cs2 : Array Value) (n m : Nat) (t1 t2 : Tm) (w : World) (hn : 2 ≤ n) (hn5 : n ≤ 5) (hm5 : m ≤ 5) (hC0 : cs[0]? = some (.int .i64 (n : Int))) (hC1 : cs[1]? = some (.int .i64 (m : Int))) (hsz : cs.size = 27)
    (hp1 : ∀ W, Calls Try.prog 33 #[.agg cs, .int .i64 0, .int .i64 0, .int .i64 0, .int .i64 ((m : Int) - 1)] W fun e w' => e = .returned (.agg cs1) ∧ Below W.heap.size W w')
    (hp2 : ∀ W, Calls Try.prog 33 #[.agg cs, .int .i64 1, .int .i64 ((n : Int) - 1), .int .i64 0, .int .i64 ((m : Int) - 1)] W fun e w' => e = .returned (.agg cs2) ∧ Below W.heap.size W w')
    (ih1 : ∀ W, Calls Try.prog 18 #[.agg cs1] W (TermIsO t1 W)) (ih2 : ∀ W, Calls Try.prog 18 #[.agg cs2] W (TermIsO t2 W)) :
    Calls Try.prog 18 #[.agg cs] w (TermIsO (.cpl t1 45 t2) w) := by
  have HN := hid (heap_new0 w (.cells cs 37))
  have HB := hid ((Below.refl w.heap.size w).alloc (Nat.le_refl _) (.cells cs 37))
  have HSZ := hid (show (Try.prog.info? 37).map (·.size) = some cs.size by rw [hsz]; exact Try.size_grid)
  have HC0 := hid hC0
  have HC1 := hid hC1
  have HP1 := hid hp1
  have HP2 := hid hp2
  have IH1 := hid ih1
  have IH2 := hid ih2
  clear hC0 hC1 hsz hp1 hp2 ih1 ih2
  unfold TermIsO at *
  have hn5 : (n : Int) ≤ 5 := by omega
  have hm5 : (m : Int) ≤ 5 := by omega
  have hm0 : 0 ≤ (m : Int) := by omega
  have hn0 : 0 ≤ (n : Int) := by omega
  go_enter Try.func18, Try.ntmps18
  go_wp2_with fail
  generalize World.alloc w _ = Y at HN HB ⊢
  have h0 : Y.cell? ⟨w.heap.size, 0, none⟩ = some (.int .i64 (n : Int)) := by rw [cell_of_row _ _ _ _ _ _ HN.out]; exact HC0.out
  have h1 : Y.cell? ⟨w.heap.size, 1, none⟩ = some (.int .i64 (m : Int)) := by rw [cell_of_row _ _ _ _ _ _ HN.out]; exact HC1.out
  go_quiet (fail)
  have ht : 0 < (n : Int) - 1 := by omega

  go_wp2_with fail
  obtain ⟨WQ, hWQ⟩ : ∃ WQ, Y.drewN nq = WQ := ⟨_, rfl⟩
  have QN := hid (show WQ.heap[w.heap.size]? = some (.cells cs 37 (0, 0)) by rw [← hWQ]; exact HN.out)
  have QB := hid (show Below w.heap.size w WQ by rw [← hWQ]; exact below_drewN' HB.out _)
  rw [hWQ]
  clear hWQ h0 h1
  refine wp_region_rel (by kernel_rfl) (by kernel_rfl) 12 (by kernel_rfl) (fun us => { tmps := #[.agg cs, .pointer (some ⟨w.heap.size, 0, none⟩), us 11, .int .i64 ((n : Int) - 1), .int .i64 ((m : Int) - 1), .pointer (some ⟨w.heap.size, 0, none⟩), .int .i64 (n : Int), .int .i64 ((n : Int) - 1), .pointer (some ⟨w.heap.size, 1, none⟩), .int .i64 (m : Int), .int .i64 ((m : Int) - 1), .bool (decide (1 < (n : Int))), .int .i64 ((n : Int) - 1), .bool (decide (1 < (n : Int))), us 0, us 1, us 2, us 3, us 4, us 5, us 6, us 7, us 8, us 9, us 10, undef, undef, undef, undef, undef, undef, undef, undef, undef, undef, undef, undef, undef, undef, undef, undef, undef], defers := [] }) (fun i => if i = 11 then .nilIface else undef) rfl (rowsRel cs cs1 cs2 n m t1 t2) (fun i v W W' h _ => h) (fun i us v hi => ?_) (fun i us W hi hb hd => ?_) (fun us W hb hr => ?_)
  · match i, hi with
    | 0, _ => rfl
    | 1, _ => rfl
    | 2, _ => rfl
    | 3, _ => rfl
    | 4, _ => rfl
    | 5, _ => rfl
    | 6, _ => rfl
    | 7, _ => rfl
    | 8, _ => rfl
    | 9, _ => rfl
    | 10, _ => rfl
    | 11, _ => rfl
  · have L0 := hid ((hb.block _ (lt_of_block QN.out)).trans QN.out)
    match i, hi with
    | 0, _ => exact wpOp_val (u := .agg cs) rfl rfl (exec_load_row 37 _ rfl w.heap.size rfl 37 cs (0, 0) _ L0.out Try.underlying37 rfl HSZ.out) rfl
    | 1, _ => exact wpOp_val rfl rfl (by go_simp) rfl
    | 2, _ =>
      have h0 : us 0 = _ := hd _ rfl { on := 0, ground := .data } (by simp) rfl
      have h1 : us 1 = _ := hd _ rfl { on := 1, ground := .data } (by simp) rfl
      rw [h0, h1]
      exact wpOp_call rfl rfl (by go_simp) ((HP1.out W).mono fun e w'' ⟨he, hb'⟩ => ⟨_, he, rfl, hb'⟩)
    | 3, _ =>
      have h2 : us 2 = _ := hd _ rfl { on := 2, ground := .data } (by simp) rfl
      rw [h2]
      exact wpOp_call rfl rfl (by go_simp) ((IH1.out W).mono fun e w'' ⟨he, hb'⟩ => ⟨_, he, rfl, hb'⟩)
    | 4, _ => exact wpOp_val (u := .agg cs) rfl rfl (exec_load_row 37 _ rfl w.heap.size rfl 37 cs (0, 0) _ L0.out Try.underlying37 rfl HSZ.out) rfl
    | 5, _ => exact wpOp_val rfl rfl (by go_simp) rfl
    | 6, _ => exact wpOp_val rfl rfl (by go_simp) rfl
    | 7, _ =>
      have h4 : us 4 = _ := hd _ rfl { on := 4, ground := .data } (by simp) rfl
      have h5 : us 5 = _ := hd _ rfl { on := 5, ground := .data } (by simp) rfl
      have h6 : us 6 = _ := hd _ rfl { on := 6, ground := .data } (by simp) rfl
      rw [h4, h5, h6]
      exact wpOp_call rfl rfl (by go_simp) ((HP2.out W).mono fun e w'' ⟨he, hb'⟩ => ⟨_, he, rfl, hb'⟩)
    | 8, _ =>
      have h7 : us 7 = _ := hd _ rfl { on := 7, ground := .data } (by simp) rfl
      rw [h7]
      exact wpOp_call rfl rfl (by go_simp) ((IH2.out W).mono fun e w'' ⟨he, hb'⟩ => ⟨_, he, rfl, hb'⟩)
    | 9, _ =>
      have h3 : us 3 = _ := hd _ rfl { on := 3, ground := .data } (by simp) rfl
      have h8 : us 8 = _ := hd _ rfl { on := 8, ground := .data } (by simp) rfl
      rw [h3, h8]
      exact wpOp_val rfl rfl (by go_simp) rfl
    | 10, _ =>
      have h9 : us 9 = _ := hd _ rfl { on := 9, ground := .data } (by simp) rfl
      rw [h9]
      exact wpOp_val rfl rfl (by go_simp) rfl
    | 11, _ =>
      have h10 : us 10 = _ := hd _ rfl { on := 10, ground := .data } (by simp) rfl
      rw [h10]
      exact wpOp_val rfl rfl (by go_simp) rfl
  · have h9 : us 11 = _ := hr 11 (by omega)
    rw [h9]
    have HB2 := hid (QB.out.trans (hb.mono QB.out.size))
    clear hb hr h9
    go_wp2_with fail
    go_ret
    exact ⟨rfl, HB2.out⟩
/-- What the operations hand back that write the term of a row. -/
def rowRel (cs cs1 cs2 : Array Value) (_ m : Int) (t1 t2 : Tm) (i : Nat) (v : Value) (_ : World) : Prop :=
  match i with
  | 0 => v = .agg cs
  | 1 => v = .agg cs1
  | 2 => v = .iface t1.tyO t1.payO
  | 3 => v = .agg cs
  | 4 => v = .int .i64 (m - 1)
  | 5 => v = .agg cs2
  | 6 => v = .iface t2.tyO t2.payO
  | 7 => v = .agg #[.iface t1.tyO t1.payO, .string ⟨#[124]⟩, .iface t2.tyO t2.payO]
  | 8 => v = .iface 63 (.agg #[.iface t1.tyO t1.payO, .string ⟨#[124]⟩, .iface t2.tyO t2.payO])
  | 9 => v = .iface 63 (.agg #[.iface t1.tyO t1.payO, .string ⟨#[124]⟩, .iface t2.tyO t2.payO])
  | _ => True
set_option maxRecDepth 100000 in
set_option maxHeartbeats 4000000 in
theorem term_row (cs cs1 cs2 : Array Value) (n m : Nat) (t1 t2 : Tm) (w : World) (hn : n = 1) (hm : 2 ≤ m) (hm5 : m ≤ 5) (hC0 : cs[0]? = some (.int .i64 (n : Int))) (hC1 : cs[1]? = some (.int .i64 (m : Int))) (hsz : cs.size = 27)
    (hp1 : ∀ W, Calls Try.prog 33 #[.agg cs, .int .i64 0, .int .i64 0, .int .i64 0, .int .i64 0] W fun e w' => e = .returned (.agg cs1) ∧ Below W.heap.size W w')
    (hp2 : ∀ W, Calls Try.prog 33 #[.agg cs, .int .i64 0, .int .i64 0, .int .i64 1, .int .i64 ((m : Int) - 1)] W fun e w' => e = .returned (.agg cs2) ∧ Below W.heap.size W w')
    (ih1 : ∀ W, Calls Try.prog 18 #[.agg cs1] W (TermIsO t1 W)) (ih2 : ∀ W, Calls Try.prog 18 #[.agg cs2] W (TermIsO t2 W)) :
    Calls Try.prog 18 #[.agg cs] w (TermIsO (.cpl t1 124 t2) w) := by
  have HN := hid (heap_new0 w (.cells cs 37))
  have HB := hid ((Below.refl w.heap.size w).alloc (Nat.le_refl _) (.cells cs 37))
  have HSZ := hid (show (Try.prog.info? 37).map (·.size) = some cs.size by rw [hsz]; exact Try.size_grid)
  have HC0 := hid hC0
  have HC1 := hid hC1
  have HP1 := hid hp1
  have HP2 := hid hp2
  have IH1 := hid ih1
  have IH2 := hid ih2
  clear hC0 hC1 hsz hp1 hp2 ih1 ih2
  unfold TermIsO at *
  have hn5 : (n : Int) ≤ 5 := by omega
  have hm5 : (m : Int) ≤ 5 := by omega
  have hm0 : 0 ≤ (m : Int) := by omega
  have hn0 : 0 ≤ (n : Int) := by omega
  go_enter Try.func18, Try.ntmps18
  go_wp2_with fail
  generalize World.alloc w _ = Y at HN HB ⊢
  have h0 : Y.cell? ⟨w.heap.size, 0, none⟩ = some (.int .i64 (n : Int)) := by rw [cell_of_row _ _ _ _ _ _ HN.out]; exact HC0.out
  have h1 : Y.cell? ⟨w.heap.size, 1, none⟩ = some (.int .i64 (m : Int)) := by rw [cell_of_row _ _ _ _ _ _ HN.out]; exact HC1.out
  go_quiet (fail)
  have ht : ¬ 0 < (n : Int) - 1 := by omega
  have ht2 : 0 < (m : Int) - 1 := by omega
  go_wp2_with fail
  obtain ⟨WQ, hWQ⟩ : ∃ WQ, Y.drewN nq = WQ := ⟨_, rfl⟩
  have QN := hid (show WQ.heap[w.heap.size]? = some (.cells cs 37 (0, 0)) by rw [← hWQ]; exact HN.out)
  have QB := hid (show Below w.heap.size w WQ by rw [← hWQ]; exact below_drewN' HB.out _)
  rw [hWQ]
  clear hWQ h0 h1
  refine wp_region_rel (by kernel_rfl) (by kernel_rfl) 10 (by kernel_rfl) (fun us => { tmps := #[.agg cs, .pointer (some ⟨w.heap.size, 0, none⟩), us 9, .int .i64 0, .int .i64 ((m : Int) - 1), .pointer (some ⟨w.heap.size, 0, none⟩), .int .i64 1, .int .i64 0, .pointer (some ⟨w.heap.size, 1, none⟩), .int .i64 (m : Int), .int .i64 ((m : Int) - 1), .bool false, .int .i64 0, .bool false, undef, undef, undef, undef, undef, undef, undef, undef, undef, undef, undef, .bool true, .int .i64 ((m : Int) - 1), .bool true, us 0, us 1, us 2, us 3, us 4, us 5, us 6, us 7, us 8, undef, undef, undef, undef, undef], defers := [] }) (fun i => if i = 9 then .nilIface else undef) rfl (rowRel cs cs1 cs2 n m t1 t2) (fun i v W W' h _ => h) (fun i us v hi => ?_) (fun i us W hi hb hd => ?_) (fun us W hb hr => ?_)
  · match i, hi with
    | 0, _ => rfl
    | 1, _ => rfl
    | 2, _ => rfl
    | 3, _ => rfl
    | 4, _ => rfl
    | 5, _ => rfl
    | 6, _ => rfl
    | 7, _ => rfl
    | 8, _ => rfl
    | 9, _ => rfl
  · have L0 := hid ((hb.block _ (lt_of_block QN.out)).trans QN.out)
    match i, hi with
    | 0, _ => exact wpOp_val (u := .agg cs) rfl rfl (exec_load_row 37 _ rfl w.heap.size rfl 37 cs (0, 0) _ L0.out Try.underlying37 rfl HSZ.out) rfl
    | 1, _ =>
      have h0 : us 0 = _ := hd _ rfl { on := 0, ground := .data } (by simp) rfl
      rw [h0]
      exact wpOp_call rfl rfl (by go_simp) ((HP1.out W).mono fun e w'' ⟨he, hb'⟩ => ⟨_, he, rfl, hb'⟩)
    | 2, _ =>
      have h1 : us 1 = _ := hd _ rfl { on := 1, ground := .data } (by simp) rfl
      rw [h1]
      exact wpOp_call rfl rfl (by go_simp) ((IH1.out W).mono fun e w'' ⟨he, hb'⟩ => ⟨_, he, rfl, hb'⟩)
    | 3, _ => exact wpOp_val (u := .agg cs) rfl rfl (exec_load_row 37 _ rfl w.heap.size rfl 37 cs (0, 0) _ L0.out Try.underlying37 rfl HSZ.out) rfl
    | 4, _ => exact wpOp_val rfl rfl (by go_simp) rfl
    | 5, _ =>
      have h3 : us 3 = _ := hd _ rfl { on := 3, ground := .data } (by simp) rfl
      have h4 : us 4 = _ := hd _ rfl { on := 4, ground := .data } (by simp) rfl
      rw [h3, h4]
      exact wpOp_call rfl rfl (by go_simp) ((HP2.out W).mono fun e w'' ⟨he, hb'⟩ => ⟨_, he, rfl, hb'⟩)
    | 6, _ =>
      have h5 : us 5 = _ := hd _ rfl { on := 5, ground := .data } (by simp) rfl
      rw [h5]
      exact wpOp_call rfl rfl (by go_simp) ((IH2.out W).mono fun e w'' ⟨he, hb'⟩ => ⟨_, he, rfl, hb'⟩)
    | 7, _ =>
      have h2 : us 2 = _ := hd _ rfl { on := 2, ground := .data } (by simp) rfl
      have h6 : us 6 = _ := hd _ rfl { on := 6, ground := .data } (by simp) rfl
      rw [h2, h6]
      exact wpOp_val rfl rfl (by go_simp) rfl
    | 8, _ =>
      have h7 : us 7 = _ := hd _ rfl { on := 7, ground := .data } (by simp) rfl
      rw [h7]
      exact wpOp_val rfl rfl (by go_simp) rfl
    | 9, _ =>
      have h8 : us 8 = _ := hd _ rfl { on := 8, ground := .data } (by simp) rfl
      rw [h8]
      exact wpOp_val rfl rfl (by go_simp) rfl
  · have h9 : us 9 = _ := hr 9 (by omega)
    rw [h9]
    have HB2 := hid (QB.out.trans (hb.mono QB.out.size))
    clear hb hr h9
    go_wp2_with fail
    go_ret
    exact ⟨rfl, HB2.out⟩
theorem one_row (r : ByteArray) : (⟨r.data.toList.toArray⟩ : ByteArray) = r := by
  apply ByteArray.ext
  simp
/-- The term of a grid of one row, by the program. -/
theorem row_any : ∀ (l : List UInt8) (m : Nat) (w : World), IsGrid 1 m [⟨l.toArray⟩] → Calls Try.prog 18 #[.agg (gcells 1 m (pad (flat [⟨l.toArray⟩])))] w (TermIsO (rowTm l) w)
  | [], m, w, h => by
    have h1 := row_len h
    have h2 := h.2.2.2.1
    simp at h1
    omega
  | [c], m, w, h => by
    have h1 : 1 = m := row_len h
    subst h1
    exact term_cell c w h
  | c :: d :: l, m, w, h => by
    have h1 : l.length + 1 + 1 = m := row_len h
    have hm : 2 ≤ m := by omega
    have hm5 := h.2.2.2.2.1
    have hP := h.plen
    refine term_row _ (gcells 1 1 (pad (flat [⟨[c].toArray⟩]))) (gcells 1 (m - 1) (pad (flat [⟨(d :: l).toArray⟩]))) 1 m _ _ w rfl hm hm5 (gcells_0 _ _ _) (gcells_1 _ _ _) h.csize (fun W => ?_) (fun W => ?_) (fun W => term_cell c W (cells_first h)) (fun W => row_any (d :: l) (m - 1) W (cells_rest h hm))
    · have := part_any 1 m 1 1 0 0 _ W hP (by omega) hm5 (by omega) (by omega) (by omega) (by omega)
      rw [part_cell] at this
      exact this
    · have := part_any 1 m 1 (m - 1) 0 1 _ W hP (by omega) hm5 (by omega) (by omega) (by omega) (by omega)
      rw [part_cells h hm, show ((1 + (m - 1) : Nat) : Int) - 1 = (m : Int) - 1 by omega] at this
      exact this
theorem gterm_any : ∀ (ss : List ByteArray) (n m : Nat) (w : World), IsGrid n m ss → Calls Try.prog 18 #[.agg (gcells n m (pad (flat ss)))] w (TermIsO (gridTm ss) w)
  | [], n, m, w, h => by
    have h1 := h.1
    have h2 := h.2.1
    simp at h1
    omega
  | [r], n, m, w, h => by
    have h1 : 1 = n := h.1
    subst h1
    have := row_any r.data.toList m w (by rw [one_row]; exact h)
    rw [one_row] at this
    exact this
  | r :: s :: l, n, m, w, h => by
    have h1 : l.length + 1 + 1 = n := h.1
    have hn : 2 ≤ n := by omega
    have hn5 := h.2.2.1
    have hm1 := h.2.2.2.1
    have hm5 := h.2.2.2.2.1
    have hP := h.plen
    have h3 := row_any r.data.toList m
    rw [one_row] at h3
    refine term_rows _ (gcells 1 m (pad (flat [r]))) (gcells (n - 1) m (pad (flat (s :: l)))) n m _ _ w hn hn5 hm5 (gcells_0 _ _ _) (gcells_1 _ _ _) h.csize (fun W => ?_) (fun W => ?_) (fun W => h3 W (rows_first h)) (fun W => gterm_any (s :: l) (n - 1) m W (rows_rest h hn))
    · have := part_any n m 1 m 0 0 _ W hP hn5 hm5 (by omega) hm1 (by omega) (by omega)
      rw [part_first h, show ((0 + m : Nat) : Int) - 1 = (m : Int) - 1 by omega] at this
      exact this
    · have := part_any n m (n - 1) m 1 0 _ W hP hn5 hm5 (by omega) hm1 (by omega) (by omega)
      rw [part_rest h hn, show ((0 + m : Nat) : Int) - 1 = (m : Int) - 1 by omega, show ((1 + (n - 1) : Nat) : Int) - 1 = (n : Int) - 1 by omega] at this
      exact this
/-- What TermOf answers. -/
def TermOfOut (ss : List ByteArray) (t : List UInt8) (ok : Bool) : Prop := (∃ n m, IsGrid n m ss ∧ (gridTm ss).text.length ≤ 60 ∧ t = (gridTm ss).text ∧ ok = true) ∨ ((∀ n m, IsGrid n m ss → 60 < (gridTm ss).text.length) ∧ t = [] ∧ ok = false)
theorem TermOfOut.uniq {ss : List ByteArray} {t t' : List UInt8} {ok ok' : Bool} (h : TermOfOut ss t ok) (h' : TermOfOut ss t' ok') : t' = t ∧ ok' = ok := by
  rcases h with ⟨n, m, h1, h2, h3, h4⟩ | ⟨h1, h2, h3⟩ <;> rcases h' with ⟨n', m', k1, k2, k3, k4⟩ | ⟨k1, k2, k3⟩
  · exact ⟨k3.trans h3.symm, k4.trans h4.symm⟩
  · have := k1 n m h1; omega
  · have := h1 n' m' k1; omega
  · exact ⟨k2.trans h2.symm, k3.trans h3.symm⟩
set_option maxRecDepth 100000 in
set_option maxHeartbeats 2000000 in
theorem implTermOf_any (A : Option Addr) (c : Nat) (ss : List ByteArray) (w : World) (h : Strs w w.heap.size A ss) (hn : ss.length ≤ 1048576) (hs : ∀ s ∈ ss, s.size ≤ 1048576) :
    Calls Try.prog 9 #[.slice A ss.length c] w fun e w' => Below w.heap.size w w' ∧ ∃ t ok, e = .returned (.tuple #[.string (strB t), .bool ok]) ∧ TermOfOut ss t ok := by
  have HR := hid (readGrid_any A c ss w h hn hs)
  clear h hs
  go_enter Try.func9, Try.ntmps9
  go_wp2_with fail
  refine HR.out.mono ?_
  rintro e w1 ⟨hbel, ⟨n, m, hg, rfl⟩ | ⟨hno, rfl⟩⟩
  · have HB := hid hbel
    have HGr := hid hg
    have HS := hid (show (Try.prog.info? 37).map (·.size) = some (gcells n m (pad (flat ss))).size by rw [hg.csize]; exact Try.size_grid)
    have HZ := hid (show zeroG.size = (gcells n m (pad (flat ss))).size by rw [hg.csize]; rfl)
    have HL := hid (setRow_heap (w1.alloc (.cells zeroG 37)) w1.heap.size zeroG (gcells n m (pad (flat ss))) 37 (0, 0) (heap_new0 w1 _))
    have HW := hid (HB.out.trans (below_setRow' ((Below.refl _ w1).alloc HB.out.size (.cells zeroG 37)) HB.out.size (gcells n m (pad (flat ss)))))
    have HM := hid (gterm_any ss n m ((w1.alloc (.cells zeroG 37)).setRow w1.heap.size (gcells n m (pad (flat ss)))) hg)
    have ht := (gridTm_wf hg).2.1
    have h97 := hg.termLen
    have HT := hid (fun W => (gridTm ss).text_anyO W ht (by omega))
    have hm := (gridTm ss).meth_textO ht
    have hc := (gridTm ss).call_textO ht
    have hsz : ((strB (gridTm ss).text).size : Int) = ((gridTm ss).text.length : Int) := by rw [strB_size]
    obtain ⟨k, hk⟩ : ∃ k, (gridTm ss).text.length = k := ⟨_, rfl⟩
    have HK := hid hk
    rw [hk] at hsz h97
    clear hbel hg ht hk
    go_wp2_with (first
      | refine wpList_store_row rfl 37 _ _ rfl w1.heap.size (gcells n m (pad (flat ss))) rfl rfl 37 zeroG (heap_new0 w1 _) HS.out HZ.out (gcells_one _ _ _) ?_
      | refine wpList_load_row rfl 37 _ rfl w1.heap.size rfl 37 (gcells n m (pad (flat ss))) (0, 0) _ HL.out Try.underlying37 rfl HS.out ?_)
    refine HM.out.mono ?_
    rintro e w2 ⟨rfl, hb2⟩
    have HB2 := hid (HW.out.trans (hb2.mono HW.out.size))
    clear hb2
    go_wp2_with fail
    refine (HT.out _).mono ?_
    rintro e w3 ⟨rfl, hb3⟩
    have HB3 := hid (HB2.out.trans (hb3.mono HB2.out.size))
    clear hb3
    by_cases h60 : k ≤ 60
    · have hki : (k : Int) ≤ 60 := by omega
      go_wp2_with fail
      refine bodyPost_ret (results_tmp2 rfl _ _ _) rfl ?_
      exact ⟨HB3.out, (gridTm ss).text, true, rfl, .inl ⟨n, m, HGr.out, by rw [HK.out]; exact h60, rfl, rfl⟩⟩
    · have hki : 60 < (k : Int) := by omega
      go_wp2_with fail
      refine bodyPost_ret (results_tmp2 rfl _ _ _) rfl ?_
      exact ⟨HB3.out, [], false, rfl, .inr ⟨fun _ _ _ => by rw [HK.out]; omega, rfl, rfl⟩⟩
  · have HB := hid hbel
    have HGr := hid hno
    clear hbel hno
    go_wp2_with (refine wpList_store_row rfl 37 _ _ rfl w1.heap.size zeroG rfl rfl 37 zeroG (heap_new0 w1 _) Try.size_grid rfl (gcells_one 0 0 (pad [])) ?_)
    refine bodyPost_ret (results_tmp2 rfl _ _ _) rfl ?_
    exact ⟨HB.out.trans (below_setRow' ((Below.refl _ w1).alloc HB.out.size _) HB.out.size _), [], false, rfl, .inr ⟨fun n m hg => absurd hg (HGr.out n m), rfl, rfl⟩⟩
end Go.Proofs.Ytongjijkdjagdaa
