/- A text read as a term that tells a grid (readTerm), by its contract. -/
import Derived.Test.YtongjijkdjagdaaDoorTermE
import Derived.Test.YtongjijkdjagdaaDoorTermGI
import Derived.Test.YtongjijkdjagdaaDoorLinA
namespace Go.Proofs.YtongjijkdjagdaaDoor
open Go.RowKit

/-- What readTerm hands back: the term, the cells of its grid, whether it tells one. -/
def ReadIs (l : List UInt8) (w : World) (e : Ending) (w' : World) : Prop :=
  Below w.heap.size w w' ∧ ((∃ t, okT l = some t ∧ e = .returned (.tuple #[.iface t.ty t.pay, .agg t.gc, .bool t.fits])) ∨ (okT l = none ∧ e = .returned (.tuple #[.nilIface, .agg zeroG, .bool false])))

section
variable {P : Program} {w : World}
theorem results_tmp_cell_tmp {fn : Func} {p u u' : Tmp} {ty : TypeId} (h : fn.results = #[.tmp u, .cell p ty, .tmp u']) (tmps : Array Value) (P : Program) (w : World) :
    (results fn tmps).run P w =
      ((asAddr (tmps.getD p undef)).run P w).andThen fun a w₁ => ((loadVar ty a).run P w₁).andThen fun v w₂ => .ok (.tuple #[tmps.getD u undef, v, tmps.getD u' undef]) w₂ := by
  simp only [results, h]
  simp [Sem.run_bind, Result.andThen]
theorem results_tmp_row_tmp {fn : Func} {p u u' : Tmp} {ty : TypeId} (h : fn.results = #[.tmp u, .cell p ty, .tmp u']) (tmps : Array Value) (g : Nat) (t : TypeId) (cs : Array Value) (fr : Nat × Nat) (d : TypeDesc)
    (hp : tmps.getD p undef = .pointer (some ⟨g, 0, none⟩)) (hg : w.heap[g]? = some (.cells cs t fr))
    (hu : P.underlying ty = some d) (hd : (match d with | .struct _ | .array _ _ => true | _ => false) = true) (hi : (P.info? ty).map (·.size) = some cs.size) :
    (results fn tmps).run P w = .ok (.tuple #[tmps.getD u undef, .agg cs, tmps.getD u' undef]) w := by
  rw [results_tmp_cell_tmp h, hp]
  simp [asAddr, run_loadVar_row w g t ty cs fr d hg hu hd hi, Result.andThen]
end
/-- What the operations hand back behind which the term is handed back. -/
def rdRel (t : Tm) (gt : Array Value) (fb : Bool) (i : Nat) (v : Value) : Prop :=
  match i with
  | 0 => v = .iface t.ty t.pay
  | 1 => v = .agg gt
  | 2 => v = .bool fb
  | 3 => v = .iface t.ty t.pay
  | 5 => v = .bool fb
  | _ => True
structure RdI (w : World) (g : Nat) (gt : Array Value) (s : Nat → Bool) (W : World) : Prop where
  r : W.heap[w.heap.size]? = some (.cells (if s 4 = true then gt else zeroG) 39 (0, 0))
  l : W.heap[g]? = some (.cells gt 39 (0, 0))
  b : Below w.heap.size w W
theorem RdI.same {w : World} {g : Nat} {gt : Array Value} {s : Nat → Bool} {W : World} (h : RdI w g gt s W) (i : Nat) (hi : i ≠ 4) : RdI w g gt (fun k => if k = i then true else s k) W := by
  refine ⟨?_, h.l, h.b⟩
  rw [h.r]
  have e : (if 4 = i then true else s 4) = s 4 := if_neg (fun e => hi e.symm)
  rw [e]

set_option maxRecDepth 100000 in
set_option maxHeartbeats 4000000 in
theorem readTerm_any (l : List UInt8) (w : World) (hl : l.length ≤ 1048576) (hE : LaidE w) : Calls Tryd.prog 22 #[.string (strB l)] w (ReadIs l w) := by
  have HP := hid (parsed_any l (w.alloc (.cells zeroG 39)) hl)
  have L0 := hid (heap_new0 w (.cells zeroG 39))
  have HB := hid ((Below.refl w.heap.size w).alloc (Nat.le_refl _) (.cells zeroG 39))
  have HE := hid (hE.below ((Below.refl w.heap.size w).alloc (Nat.le_refl _) (.cells zeroG 39)))
  clear hl hE
  go_enter Tryd.func22, Tryd.ntmps22
  go_wp2_with fail
  generalize World.alloc w _ = X at L0 HB HE HP ⊢
  refine HP.out.mono ?_
  rintro e w1 ⟨hb1, ⟨t, h1, rfl⟩ | ⟨h1, j, rfl⟩⟩
  · have I0 := hid ((hb1.block _ (lt_of_block L0.out)).trans L0.out)
    have IB := hid (HB.out.trans (hb1.mono HB.out.size))
    have IE := hid (HE.out.below hb1)
    have H1 := hid h1
    clear hb1 h1 HP L0 HB HE
    go_wp2_with fail
    refine (as_nil _ _).mono ?_
    rintro e w2 ⟨rfl, rfl⟩
    have hwf := (okT_text H1.out).2.1
    have HG := hid (fun W => t.grid_any W hwf)
    have HS := hid (t.gc_size hwf)
    have HZ := hid (t.gc_zero hwf)
    have HO := hid t.gc_one
    have hm := t.meth_grid
    have hc := t.call_grid
    have AB := hid (IB.out.alloc IB.out.size (.cells #[.int .i64 0] 81))
    have A0 := hid ((Below.heap_alloc w1 (.cells #[.int .i64 0] 81) _ (lt_of_block I0.out)).trans I0.out)
    unfold GridIs at HG
    clear hwf
    generalize hgt : t.gc = gt at *
    have HGT := hid hgt
    clear hgt
    obtain ⟨fb, hfb⟩ : ∃ b, t.fits = b := ⟨_, rfl⟩
    rw [hfb] at HG
    have HFB := hid hfb
    clear hfb
    go_wp2_with fail
    generalize World.alloc w1 _ = X1 at AB A0 ⊢
    refine (HG.out _).mono ?_
    rintro e w3 ⟨rfl, hb3⟩
    have C0 := hid ((hb3.block _ (lt_of_block A0.out)).trans A0.out)
    have CB := hid (AB.out.trans (hb3.mono AB.out.size))
    have CL := hid (lt_of_block C0.out)
    clear hb3
    have J0 := hid (show ((w3.alloc (.cells zeroG 39)).setRow w3.heap.size gt).heap[w.heap.size]? = some (.cells zeroG 39 (0, 0)) by
      have := CL.out
      rw [setRow_other _ _ _ _ (by omega), Below.heap_alloc _ _ _ (by omega)]; exact C0.out)
    have J2 := hid (setRow_heap (w3.alloc (.cells zeroG 39)) w3.heap.size zeroG gt 39 (0, 0) (heap_new0 w3 _))
    have JB := hid (below_setRow' (CB.out.alloc CB.out.size (.cells zeroG 39)) CB.out.size gt)
    generalize hY : (w3.alloc (.cells zeroG 39)).setRow w3.heap.size gt = Y at J0 J2 JB
    have HY := hid hY
    clear hY
    go_wp2_with (refine wpList_store_row rfl 39 _ _ rfl w3.heap.size gt rfl rfl 39 zeroG (heap_new0 w3 _) HS.out HZ.out HO.out ?_; rw [HY.out])
    have HNE := hid (show w.heap.size ≠ w3.heap.size by have := CL.out; omega)
    refine wp_region_linA (by kernel_rfl) (by kernel_rfl) 6 (by kernel_rfl) (fun us => { tmps := #[.string (strB l), undef, us 3, .pointer (some ⟨w.heap.size, 0, none⟩), us 5, .iface t.ty t.pay, .nilIface, .pointer (some ⟨w1.heap.size, 0, none⟩), .pointer (some ⟨w3.heap.size, 0, none⟩), .bool fb, .tuple #[.iface t.ty t.pay, .nilIface], .string (strB l), .tuple #[.iface t.ty t.pay, .nilIface], .iface t.ty t.pay, .nilIface, .nilIface, .iface 83 (.pointer (some ⟨w1.heap.size, 0, none⟩)), .bool false, undef, .tuple #[.agg gt, .bool fb], .iface t.ty t.pay, .tuple #[.agg gt, .bool fb], .agg gt, .bool fb, us 0, us 1, us 2], defers := [] }) (fun i => if i = 3 then .nilIface else if i = 5 then .bool false else undef) rfl
      (fun s us W => RdI w w3.heap.size gt s W ∧ ∀ io, io < 6 → s io = true → rdRel t gt fb io (us io)) (fun s hs => ⟨⟨by rw [hs 4 (by omega)]; exact J0.out, J2.out, JB.out.drew⟩, fun io hio h => by rw [hs io hio] at h; cases h⟩) (fun i us v hi => ?_) (fun i s us W hi hsi hd hI => ?_) (fun s us W hs hI => ?_)
    · match i, hi with
      | 0, _ => rfl
      | 1, _ => rfl
      | 2, _ => rfl
      | 3, _ => rfl
      | 4, _ => rfl
      | 5, _ => rfl
    · obtain ⟨hI, hv⟩ := hI
      match i, hi with
      | 0, _ => exact wpOp_runA rfl rfl (by go_simp) ⟨_, rfl, hI.same 0 (by omega), lin_stepA hv rfl⟩
      | 1, _ => exact wpOp_runA rfl rfl (exec_load_row 39 _ rfl w3.heap.size rfl 39 gt (0, 0) _ hI.l Tryd.underlying39 rfl HS.out) ⟨_, rfl, hI.same 1 (by omega), lin_stepA hv rfl⟩
      | 2, _ => exact wpOp_runA rfl rfl (by go_simp) ⟨_, rfl, hI.same 2 (by omega), lin_stepA hv rfl⟩
      | 3, _ =>
        have h0 : us 0 = _ := hv 0 (by omega) (hd _ rfl { on := 0, ground := .data } (by simp) rfl)
        rw [h0]
        exact wpOp_runA rfl rfl (by go_simp) ⟨_, rfl, hI.same 3 (by omega), lin_stepA hv rfl⟩
      | 4, _ =>
        have h1 : us 1 = _ := hv 1 (by omega) (hd _ rfl { on := 1, ground := .data } (by simp) rfl)
        rw [h1]
        have hold : (if s 4 = true then gt else zeroG).size = gt.size := by
          split
          · rfl
          · exact HZ.out
        refine wpOp_skipA rfl rfl (exec_store_row 39 _ _ rfl w.heap.size gt rfl rfl 39 _ hI.r HS.out hold HO.out) ⟨undef, rfl, ⟨setRow_heap _ _ _ _ _ _ hI.r, ?_, below_setRow' hI.b (Nat.le_refl _) _⟩, lin_stepA hv trivial⟩
        rw [setRow_other _ _ _ _ (fun e => HNE.out e.symm)]
        exact hI.l
      | 5, _ =>
        have h2 : us 2 = _ := hv 2 (by omega) (hd _ rfl { on := 2, ground := .data } (by simp) rfl)
        rw [h2]
        exact wpOp_runA rfl rfl (by go_simp) ⟨_, rfl, hI.same 5 (by omega), lin_stepA hv rfl⟩
    · obtain ⟨hI, hv⟩ := hI
      have h3 : us 3 = _ := hv 3 (by omega) (hs 3 (by omega))
      have h5 : us 5 = _ := hv 5 (by omega) (hs 5 (by omega))
      rw [h3, h5]
      have R := hid hI.r
      rw [hs 4 (by omega), if_pos rfl] at R
      have BB := hid hI.b
      clear hI hv hs h3 h5
      go_wp2_with fail
      refine bodyPost_ret (results_tmp_row_tmp Tryd.results22 _ w.heap.size 39 gt (0, 0) _ (by rfl) R.out Tryd.underlying39 rfl HS.out) rfl ?_
      refine ⟨BB.out, .inl ⟨t, H1.out, ?_⟩⟩
      rw [HGT.out, HFB.out]
      rfl
  · have I0 := hid ((hb1.block _ (lt_of_block L0.out)).trans L0.out)
    have IB := hid (HB.out.trans (hb1.mono HB.out.size))
    have IE := hid (HE.out.below hb1)
    have H1 := hid h1
    clear hb1 h1 HP L0 HB HE
    go_wp2_with fail
    have AE := hid (IE.out.below ((Below.refl w1.heap.size w1).alloc (Nat.le_refl _) (.cells #[.int .i64 0] 81)))
    have A0 := hid ((Below.heap_alloc w1 (.cells #[.int .i64 0] 81) _ (lt_of_block I0.out)).trans I0.out)
    have AB := hid (IB.out.alloc IB.out.size (.cells #[.int .i64 0] 81))
    have AL := hid (lt_of_block I0.out)
    refine (as_hit (j : Int) w1.heap.size (.int .i64 0) _ AE.out (by rw [World.cell?_alloc_at _ _ _ _ (by simp)]; rfl) (frozen_of_row _ _ 0 _ _ (heap_new0 w1 _))).mono ?_
    rintro e w2 ⟨rfl, hb2⟩
    have C0 := hid ((hb2.block w.heap.size (lt_of_block A0.out) (by have := AL.out; omega)).trans A0.out)
    have CB := hid (AB.out.trans (hb2.below (B := w.heap.size) (by have := AL.out; omega) (by have := lt_of_block A0.out; omega)))
    clear hb2
    go_wp2_with (refine wpList_store_row rfl 39 _ _ rfl w.heap.size zeroG rfl rfl 39 zeroG C0.out Tryd.size_grid rfl (gcells_one 0 0 (pad [])) ?_)
    refine bodyPost_ret (results_tmp_row_tmp Tryd.results22 _ w.heap.size 39 zeroG (0, 0) _ (by rfl) (setRow_heap _ _ _ _ _ _ C0.out) Tryd.underlying39 rfl Tryd.size_grid) rfl ?_
    exact ⟨below_setRow' CB.out (Nat.le_refl _) _, .inr ⟨H1.out, rfl⟩⟩
end Go.Proofs.YtongjijkdjagdaaDoor
