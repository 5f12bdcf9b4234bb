/- How many paths more come by a change; a grid and one of its cells. -/
import Derived.Test.YtmdgbcepjnfbnaaChange
import Derived.Test.YtmdgbcepjnfbnaaRoundA
namespace Go.Proofs.Ytmdgbcepjnfbnaa
open Go.RowKit Go.Shelf

/-- What the operations of the difference hand back. -/
def deltaRel (n m : Nat) (ls ls' : List UInt8) (gb g0 g1 g2 : Nat) (a b : Int) (i : Nat) (v : Value) (_ : World) : Prop :=
  match i with
  | 0 => v = .pointer (some ⟨gb, 1, none⟩)
  | 1 => v = madeV g0 g1 g2
  | 2 => v = .agg (gcells n m ls')
  | 3 => v = .int .i64 a
  | 4 => v = .agg (gcells n m ls)
  | 5 => v = .int .i64 b
  | 6 => v = .int .i64 (a - b)
  | 7 => v = .int .i64 (a - b)
  | _ => True

theorem pathsR_le {n m : Nat} {t : Int → Int → UInt8} (hn : n ≤ 5) (hm : m ≤ 5) : 0 ≤ (pathsR n m t).1 ∧ (pathsR n m t).1 ≤ 110 := by
  have h25 : n * m ≤ 5 * 5 := Nat.mul_le_mul hn hm
  have := leadsTo_le (n := n) (m := m) (t := t) (4 * (n * m))
  rw [leadsTo_all] at this
  unfold pathsR
  simp only
  omega

set_option maxRecDepth 100000 in
set_option maxHeartbeats 2000000 in
theorem delta_any (n m : Nat) (ls : List UInt8) (x : Wy) (b : UInt8) (v : Value) (w : World) (hl : ls.length = 25) (hn : n ≤ 5) (hm1 : 1 ≤ m) (hm : m ≤ 5) (hx : inG n m x) (hv : ChangeV w n m ls x b v) :
    Calls Try.prog 93 #[.agg (gcells n m ls), v] w fun e w' => e = .returned (.int .i64 ((pathsR n m (lett m (ls.set (cellN m x) b))).1 - (pathsR n m (lett m ls)).1)) ∧ Below w.heap.size w w' := by
  obtain ⟨g0, g1, g2, rfl, hmade⟩ := hv
  have hl' : (ls.set (cellN m x) b).length = 25 := by simpa using hl
  obtain ⟨pa, hpa⟩ : ∃ pa, (pathsR n m (lett m (ls.set (cellN m x) b))).1 = pa := ⟨_, rfl⟩
  obtain ⟨pb, hpb⟩ : ∃ pb, (pathsR n m (lett m ls)).1 = pb := ⟨_, rfl⟩
  have ba := pathsR_le (n := n) (m := m) (t := lett m (ls.set (cellN m x) b)) hn hm
  have bb := pathsR_le (n := n) (m := m) (t := lett m ls) hn hm
  rw [hpa] at ba
  rw [hpb] at bb
  rw [hpa, hpb]
  have HG := hid (show (Try.prog.info? 57).map (·.size) = some (gcells n m ls).size by rw [gcells_size hl]; exact Try.size_grid)
  have HMK := hid (show ∀ gb W, MadeAt W n m ls x b g0 g1 g2 → Calls Try.prog 126 #[.pointer (some ⟨g0, 0, none⟩), .pointer (some ⟨g1, 0, none⟩), .pointer (some ⟨g2, 0, none⟩)] W fun e w'' => ∃ v, e = .returned v ∧ deltaRel n m ls (ls.set (cellN m x) b) gb g0 g1 g2 pa pb 2 v w'' ∧ Below W.heap.size W w'' from fun gb W h => (made_any n m ls x b g0 g1 g2 W hl hn hm hx h).mono fun e w'' ⟨h1, h2⟩ => ⟨_, h1, rfl, h2⟩)
  have HP1 := hid (show ∀ gb W, Calls Try.prog 81 #[.agg (gcells n m (ls.set (cellN m x) b))] W fun e w'' => ∃ v, e = .returned v ∧ deltaRel n m ls (ls.set (cellN m x) b) gb g0 g1 g2 pa pb 3 v w'' ∧ Below W.heap.size W w'' from fun gb W => (paths_any n m (ls.set (cellN m x) b) W hl' hn hm1 hm).mono fun e w'' ⟨h1, h2⟩ => ⟨_, h1, by rw [hpa]; rfl, h2⟩)
  have HP2 := hid (show ∀ gb W, Calls Try.prog 81 #[.agg (gcells n m ls)] W fun e w'' => ∃ v, e = .returned v ∧ deltaRel n m ls (ls.set (cellN m x) b) gb g0 g1 g2 pa pb 5 v w'' ∧ Below W.heap.size W w'' from fun gb W => (paths_any n m ls W hl hn hm1 hm).mono fun e w'' ⟨h1, h2⟩ => ⟨_, h1, by rw [hpb]; rfl, h2⟩)
  generalize ls.set (cellN m x) b = ls' at *
  have F0 := heap_new1 w (.cells (gcells n m ls) 57) (.cells (changeC ((cellN m x : Nat) : Int) g0 g1 g2) 95)
  have F1 := heap_new0 (w.alloc (.cells (gcells n m ls) 57)) (.cells (changeC ((cellN m x : Nat) : Int) g0 g1 g2) 95)
  have FB : Below w.heap.size w ((w.alloc (.cells (gcells n m ls) 57)).alloc (.cells (changeC ((cellN m x : Nat) : Int) g0 g1 g2) 95)) := ((Below.refl _ w).alloc (Nat.le_refl _) _).alloc (by simp) _
  simp only [World.size_alloc] at F1
  have hM := hmade.below FB
  have G0 := hid F0
  have G1 := hid F1
  have GB := hid FB
  have GM := hid hM
  clear F0 F1 FB hM hmade hpa hpb hl hl' hn hm1 hm hx
  go_enter Try.func93, Try.ntmps93
  go_wp2
  generalize World.alloc (World.alloc w _) _ = W0 at *
  have ba1 := ba.1
  have ba2 := ba.2
  have bb1 := bb.1
  have bb2 := bb.2
  have hw0 : IntKind.i64.wrap (pa - pb) = pa - pb := IntWalk.i64_in _ (by omega)
  refine wp_region_rel (by kernel_rfl) (by kernel_rfl) 8 rfl (fun us => { tmps := #[.agg (gcells n m ls), .agg (changeC ((cellN m x : Nat) : Int) g0 g1 g2), .pointer (some ⟨w.heap.size, 0, none⟩), .pointer (some ⟨w.heap.size + 1, 0, none⟩), us 7, us 0, us 1, us 2, us 3, us 4, us 5, us 6], defers := [] }) (fun k => if k = 7 then .int .i64 0 else undef) rfl (deltaRel n m ls ls' (w.heap.size + 1) g0 g1 g2 pa pb) (fun i v W W' h hb => ?_) (fun i us v hi => ?_) (fun i us W hi hb hd => ?_) (fun us W hb hr => ?_)
  · unfold deltaRel at h ⊢
    exact h
  · match i, hi with
    | 0, _ => rfl
    | 1, _ => rfl
    | 2, _ => rfl
    | 3, _ => rfl
    | 4, _ => rfl
    | 5, _ => rfl
    | 6, _ => rfl
    | 7, _ => rfl
  · have L0 := hid ((hb.block _ (lt_of_block G0.out)).trans G0.out)
    have L1 := hid ((hb.block _ (lt_of_block G1.out)).trans G1.out)
    match i, hi with
    | 0, _ => exact wpOp_val rfl rfl (by go_simp) rfl
    | 1, _ =>
      have h0 : us 0 = _ := hd _ rfl { on := 0, ground := .data } (by simp) rfl
      rw [h0]
      have hc : W.cell? ⟨w.heap.size + 1, 1, none⟩ = some (madeV g0 g1 g2) := by rw [cell_of_row _ _ _ _ _ _ L1.out]; rfl
      exact wpOp_val rfl rfl (by go_simp) rfl
    | 2, _ =>
      have h0 : us 1 = _ := hd _ rfl { on := 1, ground := .data } (by simp) rfl
      rw [h0]
      unfold madeV
      exact wpOp_call rfl rfl (by go_simp) (HMK.out _ W (GM.out.below hb))
    | 3, _ =>
      have h0 : us 2 = _ := hd _ rfl { on := 2, ground := .data } (by simp) rfl
      rw [h0]
      exact wpOp_call rfl rfl (by go_simp) (HP1.out _ W)
    | 4, _ => exact wpOp_val rfl rfl (exec_load_row 57 _ rfl w.heap.size rfl 57 (gcells n m ls) (0, 0) _ L0.out Try.underlying57 rfl HG.out) rfl
    | 5, _ =>
      have h0 : us 4 = _ := hd _ rfl { on := 4, ground := .data } (by simp) rfl
      rw [h0]
      exact wpOp_call rfl rfl (by go_simp) (HP2.out _ W)
    | 6, _ =>
      have h0 : us 3 = _ := hd _ rfl { on := 3, ground := .data } (by simp) rfl
      have h1 : us 5 = _ := hd _ rfl { on := 5, ground := .data } (by simp) rfl
      rw [h0, h1]
      exact wpOp_val rfl rfl (by go_simp) rfl
    | 7, _ =>
      have h0 : us 6 = _ := hd _ rfl { on := 6, ground := .data } (by simp) rfl
      rw [h0]
      exact wpOp_val rfl rfl (by go_simp) rfl
  · have h0 : us 7 = _ := hr 7 (by omega)
    rw [h0]
    have HB2 := hid (GB.out.trans (hb.mono GB.out.size))
    clear hr hb
    go_wp2_with fail
    go_ret
    exact ⟨rfl, HB2.out⟩

section
variable {P : Program} {w : World}
theorem results_cells_tmp {fn : Func} {p q u : Tmp} {ty ty' : TypeId} (h : fn.results = #[.cell p ty, .cell q ty', .tmp u]) (tmps : Array Value) (P : Program) (w : World) :
    (results fn tmps).run P w =
      ((asAddr (tmps.getD p undef)).run P w).andThen fun a w₁ => ((loadVar ty a).run P w₁).andThen fun v w₂ =>
      ((asAddr (tmps.getD q undef)).run P w₂).andThen fun a' w₃ => ((loadVar ty' a').run P w₃).andThen fun v' w₄ => .ok (.tuple #[v, v', tmps.getD u undef]) w₄ := by
  simp only [results, h]
  simp [Sem.run_bind, Result.andThen]
theorem results_rows_tmp {fn : Func} {p q u : Tmp} {ty ty' : TypeId} (h : fn.results = #[.cell p ty, .cell q ty', .tmp u]) (tmps : Array Value) (g g' : Nat) (t t' : TypeId) (cs cs' : Array Value) (fr fr' : Nat × Nat) (d d' : TypeDesc)
    (hp : tmps.getD p undef = .pointer (some ⟨g, 0, none⟩)) (hq : tmps.getD q undef = .pointer (some ⟨g', 0, none⟩)) (hg : w.heap[g]? = some (.cells cs t fr)) (hg' : w.heap[g']? = some (.cells cs' t' fr'))
    (hu : P.underlying ty = some d) (hd : (match d with | .struct _ | .array _ _ => true | _ => false) = true) (hi : (P.info? ty).map (·.size) = some cs.size)
    (hu' : P.underlying ty' = some d') (hd' : (match d' with | .struct _ | .array _ _ => true | _ => false) = true) (hi' : (P.info? ty').map (·.size) = some cs'.size) :
    (results fn tmps).run P w = .ok (.tuple #[.agg cs, .agg cs', tmps.getD u undef]) w := by
  rw [results_cells_tmp h, hp, hq]
  simp [asAddr, run_loadVar_row w g t ty cs fr d hg hu hd hi, run_loadVar_row w g' t' ty' cs' fr' d' hg' hu' hd' hi', Result.andThen]
end

theorem zero2_one : (#[.int .i64 0, .int .i64 0] : Array Value).all (·.oneCell') = true := by
  rw [Array.all_eq_true_iff_forall_mem]
  intro u hu
  simp at hu
  rcases hu with rfl | rfl <;> rfl
/-- What the operations of placeIn's last statement hand back. -/
def placeRel (gc : Array Value) (m c : Nat) (i : Nat) (v : Value) (_ : World) : Prop :=
  match i with
  | 0 => v = .agg gc
  | 1 => v = .agg gc
  | 2 => v = .int .i64 (c : Int)
  | 3 => v = .agg #[.int .i64 ((c / m : Nat) : Int), .int .i64 ((c % m : Nat) : Int)]
  | _ => True
/-- What placeIn comes to: the grid and the place of a cell. -/
def PlaceEnd (ss : List ByteArray) (cell : Int) (w : World) (e : Ending) (w' : World) : Prop :=
  Below w.heap.size w w' ∧ ((∃ n m c, CellIn ss cell n m c ∧ e = .returned (.tuple #[.agg (gcells n m (pad (flat ss))), .agg #[.int .i64 ((c / m : Nat) : Int), .int .i64 ((c % m : Nat) : Int)], .bool true])) ∨
    ((∀ n m c, ¬ CellIn ss cell n m c) ∧ e = .returned (.tuple #[.agg zeroG, .agg #[.int .i64 0, .int .i64 0], .bool false])))

set_option maxRecDepth 100000 in
set_option maxHeartbeats 2000000 in
theorem placeIn_any (A : Option Addr) (c : Nat) (ss : List ByteArray) (cell : Int) (w : World) (h : Strs w w.heap.size A ss) (hn : ss.length ≤ 1048576) (hs : ∀ s ∈ ss, s.size ≤ 1048576) :
    Calls Try.prog 79 #[.slice A ss.length c, .int .i64 cell] w (PlaceEnd ss cell w) := by
  have HR := hid (fun W (hb : Below w.heap.size w W) => readGrid_any A c ss W ((h.below hb (Nat.le_refl _)).more hb.size) hn hs)
  have HB0 := hid (show Below w.heap.size w ((w.alloc (.cells zeroG 57)).alloc (.cells #[.int .i64 0, .int .i64 0] 75)) from ((Below.refl _ w).alloc (Nat.le_refl _) _).alloc (by simp) _)
  have F0 := hid (heap_new1 w (.cells zeroG 57) (.cells #[.int .i64 0, .int .i64 0] 75))
  have F1 := hid (show ((w.alloc (.cells zeroG 57)).alloc (.cells #[.int .i64 0, .int .i64 0] 75)).heap[w.heap.size + 1]? = some (.cells #[.int .i64 0, .int .i64 0] 75 (0, 0)) by have := heap_new0 (w.alloc (.cells zeroG 57)) (.cells #[.int .i64 0, .int .i64 0] 75); rwa [World.size_alloc] at this)
  have FS := hid (show ((w.alloc (.cells zeroG 57)).alloc (.cells #[.int .i64 0, .int .i64 0] 75)).heap.size = w.heap.size + 2 by simp)
  clear h hs
  go_enter Try.func79, Try.ntmps79
  go_wp2_with fail
  generalize World.alloc (World.alloc w _) _ = W0 at *
  refine (HR.out _ HB0.out).mono ?_
  rintro e w1 ⟨hbel, ⟨n, m, hg, rfl⟩ | ⟨hno, rfl⟩⟩
  · have HB := hid (HB0.out.trans (hbel.mono HB0.out.size))
    have H0 := hid ((hbel.block _ (lt_of_block F0.out)).trans F0.out)
    have H1 := hid ((hbel.block _ (lt_of_block F1.out)).trans F1.out)
    have HSZ := hid (show w.heap.size + 2 ≤ w1.heap.size by have := hbel.size; rw [FS.out] at this; exact this)
    have HGr := hid hg
    have HS := hid (show (Try.prog.info? 57).map (·.size) = some (gcells n m (pad (flat ss))).size by rw [hg.csize]; exact Try.size_grid)
    have HZ := hid (show zeroG.size = (gcells n m (pad (flat ss))).size by rw [hg.csize]; rfl)
    have HL := hid (setRow_heap (w1.alloc (.cells zeroG 57)) w1.heap.size zeroG (gcells n m (pad (flat ss))) 57 (0, 0) (heap_new0 w1 _))
    have HW := hid (HB.out.trans (below_setRow' ((Below.refl _ w1).alloc HB.out.size (.cells zeroG 57)) HB.out.size (gcells n m (pad (flat ss)))))
    have H0' := hid (show ((w1.alloc (.cells zeroG 57)).setRow w1.heap.size (gcells n m (pad (flat ss)))).heap[w.heap.size]? = some (.cells zeroG 57 (0, 0)) by
      rw [setRow_other _ _ _ _ (by have := lt_of_block H0.out; omega)]; exact (Below.heap_alloc _ _ _ (lt_of_block H0.out)).trans H0.out)
    have H1' := hid (show ((w1.alloc (.cells zeroG 57)).setRow w1.heap.size (gcells n m (pad (flat ss)))).heap[w.heap.size + 1]? = some (.cells #[.int .i64 0, .int .i64 0] 75 (0, 0)) by
      rw [setRow_other _ _ _ _ (by have := lt_of_block H1.out; omega)]; exact (Below.heap_alloc _ _ _ (lt_of_block H1.out)).trans H1.out)
    have hn5 := hg.2.2.1
    have hm1 := hg.2.2.2.1
    have hm5 := hg.2.2.2.2.1
    have h25 := hg.le25
    have hpl := hg.plen
    have HHC := hid (fun w' => hasCellA_any n m (pad (flat ss)) cell w' hpl hn5 hm5)
    have HPL := hid (fun c w' (hc : c < n * m) => place_any n m c (pad (flat ss)) w' hm1 hm5 (Nat.lt_of_lt_of_le hc h25))
    have HO := hid (gcells_one n m (pad (flat ss)))
    clear hbel hg hpl hn5 hm1 hm5
    generalize hgc : gcells n m (pad (flat ss)) = gc at *
    have HGC := hid hgc
    clear hgc
    go_wp2_with (first
      | refine wpList_store_row rfl 57 _ _ rfl w1.heap.size gc rfl rfl 57 zeroG (heap_new0 w1 _) HS.out HZ.out HO.out ?_
      | refine wpList_load_row_gA (by rfl) 57 _ rfl w1.heap.size rfl 57 gc (0, 0) _ HL.out Try.underlying57 rfl HS.out ?_)
    generalize (w1.alloc (.cells zeroG 57)).setRow w1.heap.size gc = w2 at *
    refine (HHC.out w2).mono ?_
    rintro e w3 ⟨rfl, hb3⟩
    have HB3 := hid (HW.out.trans (hb3.mono HW.out.size))
    have HL3 := hid ((hb3.block _ (lt_of_block HL.out)).trans HL.out)
    have H03 := hid ((hb3.block _ (lt_of_block H0'.out)).trans H0'.out)
    have H13 := hid ((hb3.block _ (lt_of_block H1'.out)).trans H1'.out)
    clear hb3
    by_cases hin : 0 ≤ cell ∧ cell < ((n * m : Nat) : Int)
    · rw [show decide (0 ≤ cell ∧ cell < ((n * m : Nat) : Int)) = true by simpa using hin]
      obtain ⟨cc, rfl⟩ : ∃ cc : Nat, cell = cc := ⟨cell.toNat, by omega⟩
      have hcc : cc < n * m := by have := hin.2; omega
      have HCC := hid hcc
      have HPC := hid (fun w' => HPL.out cc w' hcc)
      clear hin hcc
      go_wp2_with fail
      refine wp_region_rel_tail (by kernel_rfl) 4 (by kernel_rfl) (fun us => { tmps := #[.slice A ss.length c, .int .i64 (cc : Int), undef, undef, .pointer (some ⟨w.heap.size, 0, none⟩), .pointer (some ⟨w.heap.size + 1, 0, none⟩), .bool false, .pointer (some ⟨w1.heap.size, 0, none⟩), .bool true, .tuple #[.agg gc, .bool true], .slice A ss.length c, .tuple #[.agg gc, .bool true], .agg gc, .bool true, .bool true, .bool false, .bool false, .agg gc, .int .i64 (cc : Int), .bool true, .bool false, .bool false, undef, undef, us 0, us 1, us 2, us 3], defers := [] }) (fun _ => undef) rfl (placeRel gc m cc) (fun i v W W' h hb => ?_) (fun i us v hi => ?_) (fun i us W hi hb hd => ?_) (fun us W hb hr => ?_)
      · unfold placeRel at h ⊢
        exact h
      · match i, hi with
        | 0, _ => rfl
        | 1, _ => rfl
        | 2, _ => rfl
        | 3, _ => rfl
      · have HLW := hid ((hb.block _ (lt_of_block HL3.out)).trans HL3.out)
        match i, hi with
        | 0, _ => exact wpOp_val rfl rfl (exec_load_row 57 _ rfl w1.heap.size rfl 57 gc (0, 0) _ HLW.out Try.underlying57 rfl HS.out) rfl
        | 1, _ => exact wpOp_val rfl rfl (exec_load_row 57 _ rfl w1.heap.size rfl 57 gc (0, 0) _ HLW.out Try.underlying57 rfl HS.out) rfl
        | 2, _ => exact wpOp_val rfl rfl (by go_simp) rfl
        | 3, _ =>
          have h0 : us 1 = _ := hd _ rfl { on := 1, ground := .data } (by simp) rfl
          have h1 : us 2 = _ := hd _ rfl { on := 2, ground := .data } (by simp) rfl
          rw [h0, h1]
          exact wpOp_call rfl rfl (by go_simp) ((HPC.out W).mono fun e w'' ⟨he, hb'⟩ => ⟨_, he, rfl, hb'⟩)
      · have h0 : us 0 = _ := hr 0 (by omega)
        have h1 : us 1 = _ := hr 1 (by omega)
        have h2 : us 2 = _ := hr 2 (by omega)
        have h3 : us 3 = _ := hr 3 (by omega)
        rw [h0, h1, h2, h3]
        have K0 := hid ((hb.block _ (lt_of_block H03.out)).trans H03.out)
        have K1 := hid ((hb.block _ (lt_of_block H13.out)).trans H13.out)
        have KB := hid (HB3.out.trans (hb.mono HB3.out.size))
        clear hr hb h0 h1 h2 h3
        have K1' := hid (show (W.setRow w.heap.size gc).heap[w.heap.size + 1]? = some (.cells #[.int .i64 0, .int .i64 0] 75 (0, 0)) by rw [setRow_other _ _ _ _ (by omega)]; exact K1.out)
        obtain ⟨qv, hqv⟩ : ∃ qv : Int, ((cc / m : Nat) : Int) = qv := ⟨_, rfl⟩
        obtain ⟨rv, hrv⟩ : ∃ rv : Int, ((cc % m : Nat) : Int) = rv := ⟨_, rfl⟩
        rw [hqv, hrv]
        have HQ := hid hqv
        have HRV := hid hrv
        clear hqv hrv
        refine wpList_store_row rfl 57 _ _ rfl w.heap.size gc rfl rfl 57 zeroG K0.out HS.out HZ.out HO.out ?_
        refine wpList_store_row rfl 75 _ _ rfl (w.heap.size + 1) #[.int .i64 qv, .int .i64 rv] rfl rfl 75 #[.int .i64 0, .int .i64 0] K1'.out Try.size_place rfl (by rw [Array.all_eq_true_iff_forall_mem]; intro u hu; simp at hu; rcases hu with rfl | rfl <;> rfl) ?_
        have r0 := hid (show ((W.setRow w.heap.size gc).setRow (w.heap.size + 1) #[.int .i64 qv, .int .i64 rv]).heap[w.heap.size]? = some (.cells gc 57 (0, 0)) by
          rw [setRow_other _ _ _ _ (by omega)]; exact setRow_heap _ _ _ _ _ _ K0.out)
        have r1 := hid (setRow_heap (W.setRow w.heap.size gc) (w.heap.size + 1) #[.int .i64 0, .int .i64 0] #[.int .i64 qv, .int .i64 rv] 75 (0, 0) K1'.out)
        have rB := hid (below_setRow' (below_setRow' KB.out (Nat.le_refl _) gc) (show w.heap.size ≤ w.heap.size + 1 by omega) #[.int .i64 qv, .int .i64 rv])
        go_wp2_with fail
        refine bodyPost_ret (results_rows_tmp Try.results79 _ w.heap.size (w.heap.size + 1) 57 75 gc #[.int .i64 qv, .int .i64 rv] (0, 0) (0, 0) _ _ (by rfl) (by rfl) r0.out r1.out Try.underlying57 rfl HS.out Try.underlying75 rfl Try.size_place) rfl ?_
        exact ⟨rB.out, .inl ⟨n, m, cc, ⟨HGr.out, rfl, HCC.out⟩, by rw [HQ.out, HRV.out, HGC.out]; rfl⟩⟩
    · rw [show decide (0 ≤ cell ∧ cell < ((n * m : Nat) : Int)) = false by simpa using hin]
      have HNo := hid (show ∀ n' m' c', ¬ CellIn ss cell n' m' c' from fun n' m' c' hc => by
        obtain ⟨rfl, rfl⟩ := HGr.out.uniq hc.1
        have h2 := hc.2.2
        have h3 := hc.2.1
        exact hin ⟨by omega, by omega⟩)
      clear hin
      have K1' := hid (show (w3.setRow w.heap.size zeroG).heap[w.heap.size + 1]? = some (.cells #[.int .i64 0, .int .i64 0] 75 (0, 0)) by rw [setRow_other _ _ _ _ (by omega)]; exact H13.out)
      have r0 := hid (show ((w3.setRow w.heap.size zeroG).setRow (w.heap.size + 1) #[.int .i64 0, .int .i64 0]).heap[w.heap.size]? = some (.cells zeroG 57 (0, 0)) by
        rw [setRow_other _ _ _ _ (by omega)]; exact setRow_heap _ _ _ _ _ _ H03.out)
      have r1 := hid (setRow_heap (w3.setRow w.heap.size zeroG) (w.heap.size + 1) #[.int .i64 0, .int .i64 0] #[.int .i64 0, .int .i64 0] 75 (0, 0) K1'.out)
      have rB := hid (below_setRow' (below_setRow' HB3.out (Nat.le_refl _) zeroG) (show w.heap.size ≤ w.heap.size + 1 by omega) #[.int .i64 0, .int .i64 0])
      go_wp2_with (first
        | refine wpList_store_row rfl 57 _ _ rfl w.heap.size zeroG rfl rfl 57 zeroG H03.out Try.size_grid rfl (gcells_one 0 0 (pad [])) ?_
        | refine wpList_store_row rfl 75 _ _ rfl (w.heap.size + 1) #[.int .i64 0, .int .i64 0] rfl rfl 75 #[.int .i64 0, .int .i64 0] K1'.out Try.size_place rfl zero2_one ?_)
      refine bodyPost_ret (results_rows_tmp Try.results79 _ w.heap.size (w.heap.size + 1) 57 75 zeroG #[.int .i64 0, .int .i64 0] (0, 0) (0, 0) _ _ (by rfl) (by rfl) r0.out r1.out Try.underlying57 rfl Try.size_grid Try.underlying75 rfl Try.size_place) rfl ?_
      exact ⟨rB.out, .inr ⟨HNo.out, rfl⟩⟩
  · have HB := hid (HB0.out.trans (hbel.mono HB0.out.size))
    have H0 := hid ((hbel.block _ (lt_of_block F0.out)).trans F0.out)
    have H1 := hid ((hbel.block _ (lt_of_block F1.out)).trans F1.out)
    have HSZ := hid (show w.heap.size + 2 ≤ w1.heap.size by have := hbel.size; rw [FS.out] at this; exact this)
    have HGr := hid hno
    have HNo := hid (show ∀ n' m' c', ¬ CellIn ss cell n' m' c' from fun n' m' c' hc => HGr.out _ _ hc.1)
    have HL := hid (setRow_heap (w1.alloc (.cells zeroG 57)) w1.heap.size zeroG zeroG 57 (0, 0) (heap_new0 w1 _))
    have HW := hid (HB.out.trans (below_setRow' ((Below.refl _ w1).alloc HB.out.size (.cells zeroG 57)) HB.out.size zeroG))
    have H03 := hid (show ((w1.alloc (.cells zeroG 57)).setRow w1.heap.size zeroG).heap[w.heap.size]? = some (.cells zeroG 57 (0, 0)) by
      rw [setRow_other _ _ _ _ (by have := lt_of_block H0.out; omega)]; exact (Below.heap_alloc _ _ _ (lt_of_block H0.out)).trans H0.out)
    have H13 := hid (show ((w1.alloc (.cells zeroG 57)).setRow w1.heap.size zeroG).heap[w.heap.size + 1]? = some (.cells #[.int .i64 0, .int .i64 0] 75 (0, 0)) by
      rw [setRow_other _ _ _ _ (by have := lt_of_block H1.out; omega)]; exact (Below.heap_alloc _ _ _ (lt_of_block H1.out)).trans H1.out)
    clear hbel hno
    have K1' := hid (show (((w1.alloc (.cells zeroG 57)).setRow w1.heap.size zeroG).setRow w.heap.size zeroG).heap[w.heap.size + 1]? = some (.cells #[.int .i64 0, .int .i64 0] 75 (0, 0)) by rw [setRow_other _ _ _ _ (by omega)]; exact H13.out)
    have r0 := hid (show ((((w1.alloc (.cells zeroG 57)).setRow w1.heap.size zeroG).setRow w.heap.size zeroG).setRow (w.heap.size + 1) #[.int .i64 0, .int .i64 0]).heap[w.heap.size]? = some (.cells zeroG 57 (0, 0)) by
      rw [setRow_other _ _ _ _ (by omega)]; exact setRow_heap _ _ _ _ _ _ H03.out)
    have r1 := hid (setRow_heap (((w1.alloc (.cells zeroG 57)).setRow w1.heap.size zeroG).setRow w.heap.size zeroG) (w.heap.size + 1) #[.int .i64 0, .int .i64 0] #[.int .i64 0, .int .i64 0] 75 (0, 0) K1'.out)
    have rB := hid (below_setRow' (below_setRow' HW.out (Nat.le_refl _) zeroG) (show w.heap.size ≤ w.heap.size + 1 by omega) #[.int .i64 0, .int .i64 0])
    go_wp2_with (first
      | refine wpList_store_row rfl 57 _ _ rfl w1.heap.size zeroG rfl rfl 57 zeroG (heap_new0 w1 _) Try.size_grid rfl (gcells_one 0 0 (pad [])) ?_
      | refine wpList_store_row rfl 57 _ _ rfl w.heap.size zeroG rfl rfl 57 zeroG H03.out Try.size_grid rfl (gcells_one 0 0 (pad [])) ?_
      | refine wpList_store_row rfl 75 _ _ rfl (w.heap.size + 1) #[.int .i64 0, .int .i64 0] rfl rfl 75 #[.int .i64 0, .int .i64 0] K1'.out Try.size_place rfl zero2_one ?_)
    refine bodyPost_ret (results_rows_tmp Try.results79 _ w.heap.size (w.heap.size + 1) 57 75 zeroG #[.int .i64 0, .int .i64 0] (0, 0) (0, 0) _ _ (by rfl) (by rfl) r0.out r1.out Try.underlying57 rfl Try.size_grid Try.underlying75 rfl Try.size_place) rfl ?_
    exact ⟨rB.out, .inr ⟨HNo.out, rfl⟩⟩
end Go.Proofs.Ytmdgbcepjnfbnaa
