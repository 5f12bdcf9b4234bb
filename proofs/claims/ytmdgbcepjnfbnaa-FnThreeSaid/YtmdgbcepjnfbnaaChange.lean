/- A change of a cell: its number and a closure over boxed values; what the closure makes; the exchange of a mirror; how many paths more come. -/
import Derived.Test.YtmdgbcepjnfbnaaBunH
import Derived.Test.YtmdgbcepjnfbnaaBunA
namespace Go.Proofs.Ytmdgbcepjnfbnaa
open Go.RowKit Go.Shelf

theorem Try.size_change : (Try.prog.info? 95).map (·.size) = some 2 := by kernel_rfl
/-- The closure of a change over three blocks. -/
def madeV (g0 g1 g2 : Nat) : Value := .func (.func 126) #[] #[.pointer (some ⟨g0, 0, none⟩), .pointer (some ⟨g1, 0, none⟩), .pointer (some ⟨g2, 0, none⟩)]
/-- The cells of a change. -/
def changeC (c : Int) (g0 g1 g2 : Nat) : Array Value := #[.int .i64 c, madeV g0 g1 g2]
theorem changeC_one (c : Int) (g0 g1 g2 : Nat) : (changeC c g0 g1 g2).all (·.oneCell') = true := by
  rw [Array.all_eq_true_iff_forall_mem]
  intro u hu
  simp [changeC] at hu
  rcases hu with rfl | rfl <;> rfl
/-- The three blocks hold a grid, a place and a letter. -/
def MadeAt (W : World) (n m : Nat) (ls : List UInt8) (x : Wy) (b : UInt8) (g0 g1 g2 : Nat) : Prop :=
  W.heap[g0]? = some (.cells (gcells n m ls) 57 (0, 0)) ∧ W.heap[g1]? = some (.cells #[.int .i64 x.i, .int .i64 x.k] 75 (0, 0)) ∧ W.heap[g2]? = some (.cells #[.int .u8 (b.toNat : Int)] 5 (0, 0))
/-- A change as a value. -/
def ChangeV (W : World) (n m : Nat) (ls : List UInt8) (x : Wy) (b : UInt8) (v : Value) : Prop :=
  ∃ g0 g1 g2, v = .agg (changeC ((cellN m x : Nat) : Int) g0 g1 g2) ∧ MadeAt W n m ls x b g0 g1 g2
theorem MadeAt.below {W W' : World} {n m : Nat} {ls : List UInt8} {x : Wy} {b : UInt8} {g0 g1 g2 : Nat} (h : MadeAt W n m ls x b g0 g1 g2) (hb : Below W.heap.size W W') : MadeAt W' n m ls x b g0 g1 g2 :=
  ⟨(hb.block _ (lt_of_block h.1)).trans h.1, (hb.block _ (lt_of_block h.2.1)).trans h.2.1, (hb.block _ (lt_of_block h.2.2)).trans h.2.2⟩
theorem ChangeV.below {W W' : World} {n m : Nat} {ls : List UInt8} {x : Wy} {b : UInt8} {v : Value} (h : ChangeV W n m ls x b v) (hb : Below W.heap.size W W') : ChangeV W' n m ls x b v := by
  obtain ⟨g0, g1, g2, h1, h2⟩ := h
  exact ⟨g0, g1, g2, h1, h2.below hb⟩

set_option maxRecDepth 100000 in
set_option maxHeartbeats 1000000 in
theorem change_any (n m : Nat) (ls : List UInt8) (x : Wy) (b : UInt8) (w : World) (hl : ls.length = 25) (hn : n ≤ 5) (hm : m ≤ 5) (hx : inG n m x) :
    Calls Try.prog 95 #[.agg (gcells n m ls), .agg #[.int .i64 x.i, .int .i64 x.k], .int .u8 (b.toNat : Int)] w fun e w' => ∃ v, e = .returned v ∧ ChangeV w' n m ls x b v ∧ Below w.heap.size w w' := by
  have h25 : n * m ≤ 25 := Nat.mul_le_mul hn hm
  have HCE := hid (fun w' => cell_cells (gcells n m ls) x.i x.k m (cellN m x) w' (gcells_1 n m _) (Nat.lt_of_lt_of_le (cellN_lt hx) h25) (cellN_int hx) ⟨hx.1, Int.lt_of_lt_of_le hx.2.1 (by omega)⟩ ⟨by omega, by omega⟩)
  have HG := hid (show (Try.prog.info? 57).map (·.size) = some (gcells n m ls).size by rw [gcells_size hl]; exact Try.size_grid)
  unfold ChangeV MadeAt
  generalize gcells n m ls = cs at *
  generalize cellN m x = c at *
  generalize x.i = xi at *
  generalize x.k = xk at *
  generalize ((b.toNat : Nat) : Int) = bv at *
  clear hx hl hn hm h25
  go_enter Try.func95, Try.ntmps95
  go_wp2_with (refine wpList_load_row rfl 57 _ rfl w.heap.size rfl 57 cs (0, 0) _ (heap_new3 w _ _ _ _) Try.underlying57 rfl HG.out ?_)
  have F0 := heap_new3 w (.cells cs 57) (.cells #[.int .i64 xi, .int .i64 xk] 75) (.cells #[.int .u8 bv] 5) (.cells #[.int .i64 0, .nilFunc] 95)
  have F1 := heap_new2 (w.alloc (.cells cs 57)) (.cells #[.int .i64 xi, .int .i64 xk] 75) (.cells #[.int .u8 bv] 5) (.cells #[.int .i64 0, .nilFunc] 95)
  have F2 := heap_new1 ((w.alloc (.cells cs 57)).alloc (.cells #[.int .i64 xi, .int .i64 xk] 75)) (.cells #[.int .u8 bv] 5) (.cells #[.int .i64 0, .nilFunc] 95)
  have F3 := heap_new0 (((w.alloc (.cells cs 57)).alloc (.cells #[.int .i64 xi, .int .i64 xk] 75)).alloc (.cells #[.int .u8 bv] 5)) (.cells #[.int .i64 0, .nilFunc] 95)
  have FB : Below w.heap.size w ((((w.alloc (.cells cs 57)).alloc (.cells #[.int .i64 xi, .int .i64 xk] 75)).alloc (.cells #[.int .u8 bv] 5)).alloc (.cells #[.int .i64 0, .nilFunc] 95)) := ((((Below.refl _ w).alloc (Nat.le_refl _) _).alloc (by simp) _).alloc (by simp; omega) _).alloc (by simp; omega) _
  simp only [World.size_alloc] at F1 F2 F3
  generalize World.alloc (World.alloc (World.alloc (World.alloc w _) _) _) _ = W at F0 F1 F2 F3 FB ⊢
  have G0 := hid F0
  have G1 := hid F1
  have G2 := hid F2
  have G3 := hid F3
  have GB := hid FB
  clear F0 F1 F2 F3 FB
  refine (HCE.out _).mono ?_
  rintro e w1 ⟨rfl, hb⟩
  have K0 := hid ((hb.block _ (lt_of_block G0.out)).trans G0.out)
  have K1 := hid ((hb.block _ (lt_of_block G1.out)).trans G1.out)
  have K2 := hid ((hb.block _ (lt_of_block G2.out)).trans G2.out)
  have K3 := hid ((hb.block _ (lt_of_block G3.out)).trans G3.out)
  have KB := hid (GB.out.trans (hb.mono GB.out.size))
  clear hb
  go_wp2_with (refine wpList_store_row rfl 95 _ _ rfl (w.heap.size + 1 + 1 + 1) (changeC ((c : Nat) : Int) w.heap.size (w.heap.size + 1) (w.heap.size + 1 + 1)) rfl rfl 95 #[.int .i64 0, .nilFunc] K3.out Try.size_change rfl (changeC_one _ _ _ _) ?_)
  have r3 := setRow_heap w1 (w.heap.size + 1 + 1 + 1) #[.int .i64 0, .nilFunc] (changeC ((c : Nat) : Int) w.heap.size (w.heap.size + 1) (w.heap.size + 1 + 1)) 95 (0, 0) K3.out
  refine bodyPost_ret (results_cell_row Try.results95 _ _ (w.heap.size + 1 + 1 + 1) 95 _ (0, 0) _ (by rfl) r3 Try.underlying95 rfl Try.size_change) rfl ?_
  refine ⟨_, rfl, ⟨_, _, _, rfl, ?_, ?_, ?_⟩, below_setRow' KB.out (by omega) _⟩
  · rw [setRow_other _ _ _ _ (by omega)]; exact K0.out
  · rw [setRow_other _ _ _ _ (by omega)]; exact K1.out
  · rw [setRow_other _ _ _ _ (by omega)]; exact K2.out

set_option maxRecDepth 100000 in
set_option maxHeartbeats 1000000 in
/-- What the closure makes: the grid with the letter. -/
theorem made_any (n m : Nat) (ls : List UInt8) (x : Wy) (b : UInt8) (g0 g1 g2 : Nat) (w : World) (hl : ls.length = 25) (hn : n ≤ 5) (hm : m ≤ 5) (hx : inG n m x) (h : MadeAt w n m ls x b g0 g1 g2) :
    Calls Try.prog 126 #[.pointer (some ⟨g0, 0, none⟩), .pointer (some ⟨g1, 0, none⟩), .pointer (some ⟨g2, 0, none⟩)] w fun e w' => e = .returned (.agg (gcells n m (ls.set (cellN m x) b))) ∧ Below w.heap.size w w' := by
  have h25 : n * m ≤ 25 := Nat.mul_le_mul hn hm
  have HW := hid (fun w' => with_any n m ls x.i x.k (cellN m x) b w' hl (Nat.lt_of_lt_of_le (cellN_lt hx) h25) (cellN_int hx) ⟨hx.1, Int.lt_of_lt_of_le hx.2.1 (by omega)⟩ hm)
  have HG := hid (show (Try.prog.info? 57).map (·.size) = some (gcells n m ls).size by rw [gcells_size hl]; exact Try.size_grid)
  have HG2 := hid (show (Try.prog.info? 57).map (·.size) = some (gcells n m (ls.set (cellN m x) b)).size by rw [gcells_size (by simpa using hl)]; exact Try.size_grid)
  have HZ := hid (show zeroG.size = (gcells n m (ls.set (cellN m x) b)).size by rw [gcells_size (by simpa using hl)]; rfl)
  have HO := hid (gcells_one n m (ls.set (cellN m x) b))
  obtain ⟨e0, e1, e2⟩ := h
  have E0 := hid (show (w.alloc (.cells zeroG 57)).heap[g0]? = _ from (Below.heap_alloc _ _ _ (lt_of_block e0)).trans e0)
  have E1 := hid (show (w.alloc (.cells zeroG 57)).heap[g1]? = _ from (Below.heap_alloc _ _ _ (lt_of_block e1)).trans e1)
  have E2 := hid (show (w.alloc (.cells zeroG 57)).heap[g2]? = _ from (Below.heap_alloc _ _ _ (lt_of_block e2)).trans e2)
  have hc0 : (w.alloc (.cells zeroG 57)).cell? ⟨g1, 0, none⟩ = some (.int .i64 x.i) := by rw [cell_of_row _ _ _ _ _ _ E1.out]; rfl
  have hc1 : (w.alloc (.cells zeroG 57)).cell? ⟨g1, 1, none⟩ = some (.int .i64 x.k) := by rw [cell_of_row _ _ _ _ _ _ E1.out]; rfl
  have hc2 : (w.alloc (.cells zeroG 57)).cell? ⟨g2, 0, none⟩ = some (.int .u8 (b.toNat : Int)) := by rw [cell_of_row _ _ _ _ _ _ E2.out]; rfl
  generalize gcells n m ls = cs at *
  generalize gcells n m (ls.set (cellN m x) b) = cs' at *
  generalize ((b.toNat : Nat) : Int) = bv at *
  generalize x.i = xi at *
  generalize x.k = xk at *
  clear hx hl hn hm h25 e0 e1 e2
  go_enter Try.func126, Try.ntmps126
  go_wp2_with (refine wpList_load_row rfl 57 _ rfl g0 rfl 57 cs (0, 0) _ E0.out Try.underlying57 rfl HG.out ?_)
  refine (HW.out _).mono ?_
  rintro e w1 ⟨rfl, hb⟩
  have K := hid (show w1.heap[w.heap.size]? = some (.cells zeroG 57 (0, 0)) from (hb.block _ (by simp)).trans (heap_new0 w _))
  have KB := hid (((Below.refl _ w).alloc (Nat.le_refl _) (.cells zeroG 57)).trans (hb.mono (by simp)))
  clear hb
  go_wp2_with (refine wpList_store_row rfl 57 _ _ rfl w.heap.size cs' rfl rfl 57 zeroG K.out HG2.out HZ.out HO.out ?_)
  refine bodyPost_ret (results_cell_row Try.results126 _ _ w.heap.size 57 _ (0, 0) _ (by rfl) (setRow_heap _ _ _ _ _ _ K.out) Try.underlying57 rfl HG2.out) rfl ?_
  exact ⟨rfl, below_setRow' KB.out (Nat.le_refl _) _⟩

/-- What the operations of the exchange hand back. -/
def exchRel (n m : Nat) (ls : List UInt8) (x : Wy) (b : UInt8) (i : Nat) (v : Value) (W : World) : Prop :=
  match i with
  | 0 => v = .agg (gcells n m ls)
  | 1 => v = .agg #[.int .i64 x.i, .int .i64 x.k]
  | 2 => v = .agg (gcells n m ls)
  | 3 => v = .agg #[.int .i64 x.i, .int .i64 x.k]
  | 4 => v = .int .u8 (b.toNat : Int)
  | 5 => v = .int .u8 ((oth b).toNat : Int)
  | 6 => ChangeV W n m ls x (oth b) v
  | _ => True

set_option maxRecDepth 100000 in
set_option maxHeartbeats 2000000 in
theorem exchange_any (n m : Nat) (ls : List UInt8) (x : Wy) (w : World) (hl : ls.length = 25) (hn : n ≤ 5) (hm : m ≤ 5) (hx : inG n m x) :
    Calls Try.prog 94 #[.agg (gcells n m ls), .agg #[.int .i64 x.i, .int .i64 x.k]] w fun e w' => ∃ v, e = .returned v ∧ ChangeV w' n m ls x (oth (lett m ls x.i x.k)) v ∧ Below w.heap.size w w' := by
  obtain ⟨p, hp, he, hb⟩ := inG_cell hl hn hm hx
  have HG := hid (show (Try.prog.info? 57).map (·.size) = some (gcells n m ls).size by rw [gcells_size hl]; exact Try.size_grid)
  have HAT := hid (show ∀ w', Calls Try.prog 125 #[.agg (gcells n m ls), .agg #[.int .i64 x.i, .int .i64 x.k]] w' fun e w'' => ∃ v, e = .returned v ∧ exchRel n m ls x (lett m ls x.i x.k) 4 v w'' ∧ Below w'.heap.size w' w'' from fun w' => (at_any n m ls x.i x.k p (lett m ls x.i x.k) w' hl hp he ⟨hx.1, Int.lt_of_lt_of_le hx.2.1 (by omega)⟩ hm hb).mono fun e w'' ⟨h1, h2⟩ => ⟨_, h1, rfl, h2⟩)
  have HEX := hid (show ∀ w', Calls Try.prog 107 #[.int .u8 ((lett m ls x.i x.k).toNat : Int)] w' fun e w'' => ∃ v, e = .returned v ∧ exchRel n m ls x (lett m ls x.i x.k) 5 v w'' ∧ Below w'.heap.size w' w'' from fun w' => (exchanged_any (lett m ls x.i x.k) w').mono fun e w'' ⟨h1, h2⟩ => ⟨_, h1, rfl, by subst h2; exact Below.refl _ _⟩)
  have HCH := hid (show ∀ w', Calls Try.prog 95 #[.agg (gcells n m ls), .agg #[.int .i64 x.i, .int .i64 x.k], .int .u8 ((oth (lett m ls x.i x.k)).toNat : Int)] w' fun e w'' => ∃ v, e = .returned v ∧ exchRel n m ls x (lett m ls x.i x.k) 6 v w'' ∧ Below w'.heap.size w' w'' from fun w' => change_any n m ls x (oth (lett m ls x.i x.k)) w' hl hn hm hx)
  generalize lett m ls x.i x.k = b at *
  clear hb he hp hl hn hm hx
  have F0 := heap_new2 w (.cells (gcells n m ls) 57) (.cells #[.int .i64 x.i, .int .i64 x.k] 75) (.cells #[.int .i64 0, .nilFunc] 95)
  have F1 := heap_new1 (w.alloc (.cells (gcells n m ls) 57)) (.cells #[.int .i64 x.i, .int .i64 x.k] 75) (.cells #[.int .i64 0, .nilFunc] 95)
  have F2 := heap_new0 ((w.alloc (.cells (gcells n m ls) 57)).alloc (.cells #[.int .i64 x.i, .int .i64 x.k] 75)) (.cells #[.int .i64 0, .nilFunc] 95)
  have FB : Below w.heap.size w (((w.alloc (.cells (gcells n m ls) 57)).alloc (.cells #[.int .i64 x.i, .int .i64 x.k] 75)).alloc (.cells #[.int .i64 0, .nilFunc] 95)) := (((Below.refl _ w).alloc (Nat.le_refl _) _).alloc (by simp) _).alloc (by simp; omega) _
  simp only [World.size_alloc] at F1 F2
  have G0 := hid F0
  have G1 := hid F1
  have G2 := hid F2
  have GB := hid FB
  clear F0 F1 F2 FB
  go_enter Try.func94, Try.ntmps94
  go_wp2
  generalize World.alloc (World.alloc (World.alloc w _) _) _ = W0 at *
  refine wp_region_rel_tail (by kernel_rfl) 7 (by kernel_rfl) (fun us => { tmps := #[.agg (gcells n m ls), .agg #[.int .i64 x.i, .int .i64 x.k], .pointer (some ⟨w.heap.size, 0, none⟩), .pointer (some ⟨w.heap.size + 1, 0, none⟩), .pointer (some ⟨w.heap.size + 1 + 1, 0, none⟩), us 0, us 1, us 2, us 3, us 4, us 5, us 6], defers := [] }) (fun _ => undef) rfl (exchRel n m ls x b) (fun i v W W' h hb => ?_) (fun i us v hi => ?_) (fun i us W hi hb hd => ?_) (fun us W hb hr => ?_)
  · unfold exchRel at h ⊢
    split at h <;> try exact h
    exact h.below hb
  · match i, hi with
    | 0, _ => rfl
    | 1, _ => rfl
    | 2, _ => rfl
    | 3, _ => rfl
    | 4, _ => rfl
    | 5, _ => rfl
    | 6, _ => rfl
  · have L0 := hid ((hb.block _ (lt_of_block G0.out)).trans G0.out)
    have L1 := hid ((hb.block _ (lt_of_block G1.out)).trans G1.out)
    match i, hi with
    | 0, _ => exact wpOp_val rfl rfl (exec_load_row 57 _ rfl w.heap.size rfl 57 (gcells n m ls) (0, 0) _ L0.out Try.underlying57 rfl HG.out) rfl
    | 1, _ => exact wpOp_val rfl rfl (exec_load_row 75 _ rfl (w.heap.size + 1) rfl 75 #[.int .i64 x.i, .int .i64 x.k] (0, 0) _ L1.out Try.underlying75 rfl Try.size_place) rfl
    | 2, _ => exact wpOp_val rfl rfl (exec_load_row 57 _ rfl w.heap.size rfl 57 (gcells n m ls) (0, 0) _ L0.out Try.underlying57 rfl HG.out) rfl
    | 3, _ => exact wpOp_val rfl rfl (exec_load_row 75 _ rfl (w.heap.size + 1) rfl 75 #[.int .i64 x.i, .int .i64 x.k] (0, 0) _ L1.out Try.underlying75 rfl Try.size_place) rfl
    | 4, _ =>
      have h0 : us 2 = _ := hd _ rfl { on := 2, ground := .data } (by simp) rfl
      have h1 : us 3 = _ := hd _ rfl { on := 3, ground := .data } (by simp) rfl
      rw [h0, h1]
      exact wpOp_call rfl rfl (by go_simp) (HAT.out W)
    | 5, _ =>
      have h0 : us 4 = _ := hd _ rfl { on := 4, ground := .data } (by simp) rfl
      rw [h0]
      exact wpOp_call rfl rfl (by go_simp) (HEX.out W)
    | 6, _ =>
      have h0 : us 0 = _ := hd _ rfl { on := 0, ground := .data } (by simp) rfl
      have h1 : us 1 = _ := hd _ rfl { on := 1, ground := .data } (by simp) rfl
      have h2 : us 5 = _ := hd _ rfl { on := 5, ground := .data } (by simp) rfl
      rw [h0, h1, h2]
      exact wpOp_call rfl rfl (by go_simp) (HCH.out W)
  · obtain ⟨g0, g1, g2, h6, hmade⟩ : ChangeV W n m ls x (oth b) (us 6) := hr 6 (by omega)
    rw [h6]
    have L2 := hid ((hb.block _ (lt_of_block G2.out)).trans G2.out)
    have HB := hid (GB.out.trans (hb.mono GB.out.size))
    have HM := hid hmade
    clear hr hb hmade
    refine wpList_store_row rfl 95 _ _ rfl (w.heap.size + 1 + 1) (changeC ((cellN m x : Nat) : Int) g0 g1 g2) rfl rfl 95 #[.int .i64 0, .nilFunc] L2.out Try.size_change rfl (changeC_one _ _ _ _) ?_
    have r2 := hid (setRow_heap W (w.heap.size + 1 + 1) #[.int .i64 0, .nilFunc] (changeC ((cellN m x : Nat) : Int) g0 g1 g2) 95 (0, 0) L2.out)
    have HB2 := hid (below_setRow' HB.out (show w.heap.size ≤ w.heap.size + 1 + 1 by omega) (changeC ((cellN m x : Nat) : Int) g0 g1 g2))
    have HV := hid (show MadeAt (W.setRow (w.heap.size + 1 + 1) (changeC ((cellN m x : Nat) : Int) g0 g1 g2)) n m ls x (oth b) g0 g1 g2 from by
      have hsz : ∀ {g : Nat} {cs : Array Value} {t : TypeId}, W.heap[g]? = some (.cells cs t (0, 0)) → t ≠ 95 → (W.setRow (w.heap.size + 1 + 1) (changeC ((cellN m x : Nat) : Int) g0 g1 g2)).heap[g]? = some (.cells cs t (0, 0)) := fun {g cs t} h ht => by
        rw [setRow_other _ _ _ _ (fun e => by rw [e, L2.out] at h; cases h; exact ht rfl)]
        exact h
      exact ⟨hsz HM.out.1 (by decide), hsz HM.out.2.1 (by decide), hsz HM.out.2.2 (by decide)⟩)
    go_wp2_with fail
    refine bodyPost_ret (results_cell_row Try.results94 _ _ (w.heap.size + 1 + 1) 95 _ (0, 0) _ (by rfl) r2.out Try.underlying95 rfl Try.size_change) rfl ?_
    exact ⟨_, rfl, ⟨g0, g1, g2, rfl, HV.out⟩, HB2.out⟩

end Go.Proofs.Ytmdgbcepjnfbnaa
