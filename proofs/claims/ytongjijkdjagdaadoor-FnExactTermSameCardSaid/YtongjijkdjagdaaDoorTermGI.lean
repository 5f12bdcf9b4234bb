/- The grid that a term tells, by the program. -/
import Derived.Test.YtongjijkdjagdaaDoorTermV
import Derived.Test.YtongjijkdjagdaaDoorTermL
import Derived.Test.YtongjijkdjagdaaDoorGBeside
namespace Go.Proofs.YtongjijkdjagdaaDoor
open Go.RowKit

theorem Tm.meth_grid (t : Tm) (k : Nat) (w : World) : (method (k + 1) t.ty t.pay "loop.example/mirrorgrids/impl.grid").run Tryd.prog w = .ok (t.gridFn, t.pay) w := by
  cases t <;> kernel_rfl
theorem Tm.call_grid (t : Tm) (args : Array Value) (w : World) : (callFunc t.gridFn args).run Tryd.prog w = .ok (.enter t.gridFn args) w := by
  cases t <;> kernel_rfl
/-- The cells of the grid of a term, or of none. -/
def Tm.gc (t : Tm) : Array Value := if t.fits = true then gcells t.dim.1 t.dim.2 (pad (flat t.G)) else zeroG
theorem Tm.gc_size {t : Tm} (hw : t.wf = true) : (Tryd.prog.info? 39).map (·.size) = some t.gc.size := by
  unfold Tm.gc
  split
  · rename_i h
    rw [(t.grid hw h).csize]; exact Tryd.size_grid
  · exact Tryd.size_grid
theorem Tm.gc_zero {t : Tm} (hw : t.wf = true) : zeroG.size = t.gc.size := by
  unfold Tm.gc
  split
  · rename_i h
    rw [(t.grid hw h).csize]; rfl
  · rfl
theorem Tm.gc_one (t : Tm) : t.gc.all (·.oneCell') = true := by
  unfold Tm.gc
  split
  · exact gcells_one _ _ _
  · exact gcells_one 0 0 (pad [])
def GridIs (t : Tm) (w : World) (e : Ending) (w' : World) : Prop := e = .returned (.tuple #[.agg t.gc, .bool t.fits]) ∧ Below w.heap.size w w'

set_option maxRecDepth 100000 in
set_option maxHeartbeats 2000000 in
theorem grid_lone (c : UInt8) (w : World) : Calls Tryd.prog 177 #[.string (strB [c])] w (GridIs (.lone c) w) := by
  have HW := hid (fun W => with_any 1 1 (pad []) 0 0 0 c W (by rfl) (by omega) (by omega) ⟨by omega, by omega⟩ (by omega))
  have HE : (Tm.lone c).gc = gcells 1 1 ((pad []).set 0 c) := by
    unfold Tm.gc
    rw [if_pos (by rfl)]
    rfl
  have HS := hid (show (Tryd.prog.info? 39).map (·.size) = some (gcells 1 1 ((pad []).set 0 c)).size by rw [gcells_size (by rfl)]; exact Tryd.size_grid)
  have HZ := hid (show zeroG.size = (gcells 1 1 ((pad []).set 0 c)).size by rw [gcells_size (by rfl)]; rfl)
  have HO := hid (gcells_one 1 1 ((pad []).set 0 c))
  unfold GridIs
  rw [HE]
  have HB := hid ((Below.refl w.heap.size w).alloc (Nat.le_refl _) (.cells zeroG 39))
  have L0 := hid (heap_new0 w (.cells zeroG 39))
  generalize gcells 1 1 ((pad []).set 0 c) = cj at *
  clear HE
  have hs1 : (strB [c]).size = 1 := rfl
  have hb0 : (strB [c])[0] = c := rfl
  go_enter Tryd.func177, Tryd.ntmps177
  go_wp2_with fail
  generalize World.alloc w _ = X at L0 HB ⊢
  refine (HW.out _).mono ?_
  rintro e w2 ⟨rfl, hb2⟩
  have M2 := hid ((hb2.block _ (lt_of_block L0.out)).trans L0.out)
  have MB := hid (HB.out.trans (hb2.mono HB.out.size))
  clear hb2
  go_wp2_with (refine wpList_store_row rfl 39 _ _ rfl w.heap.size cj rfl rfl 39 zeroG M2.out HS.out HZ.out HO.out ?_)
  refine bodyPost_ret (results_row_tmp Tryd.results177 _ w.heap.size 39 cj (0, 0) _ (by rfl) (setRow_heap _ _ _ _ _ _ M2.out) Tryd.underlying39 rfl HS.out) rfl ?_
  exact ⟨rfl, below_setRow' MB.out (Nat.le_refl _) _⟩

theorem sig_gc {s : UInt8} {t : Tm} (h : t.fits = false) : (Tm.sig s t).gc = zeroG := by
  unfold Tm.gc
  rw [if_neg (by show ¬ t.fits = true; rw [h]; decide)]
theorem sig_gc_ok {s : UInt8} {t : Tm} (h : t.fits = true) : (Tm.sig s t).gc = gcells (Tm.sig s t).dim.1 (Tm.sig s t).dim.2 (pad (flat (Tm.sig s t).G)) := by
  unfold Tm.gc
  rw [if_pos (show (Tm.sig s t).fits = true from h)]
theorem gc_ok {t : Tm} (h : t.fits = true) : t.gc = gcells t.dim.1 t.dim.2 (pad (flat t.G)) := by
  unfold Tm.gc
  rw [if_pos h]
def signFn (s : UInt8) : Nat := if s = 62 then 181 else if s = 94 then 182 else 183
theorem sign_any (s : UInt8) (t : Tm) (W : World) (hs : isSig s = true) (hg : GridT t.dim t.G) :
    Calls Tryd.prog (signFn s) #[.agg (gcells t.dim.1 t.dim.2 (pad (flat t.G)))] W fun e w' => e = .returned (.agg (gcells (Tm.sig s t).dim.1 (Tm.sig s t).dim.2 (pad (flat (Tm.sig s t).G)))) ∧ Below W.heap.size W w' := by
  rcases sig_three hs with rfl | rfl | rfl
  · have h := turned_any t.dim.1 t.dim.2 (pad (flat t.G)) W hg.plen hg.2.1 hg.2.2.1 hg.2.2.2.1 hg.2.2.2.2.1
    rw [pad_turn hg] at h
    rw [show (Tm.sig 62 t).dim = (t.dim.2, t.dim.1) from rfl, show (Tm.sig 62 t).G = turnT t.dim t.G from rfl]
    exact h
  · have h := flipped_any t.dim.1 t.dim.2 (pad (flat t.G)) W hg.plen hg.2.1 hg.2.2.1 hg.2.2.2.1 hg.2.2.2.2.1
    rw [pad_flip hg] at h
    rw [show (Tm.sig 94 t).dim = t.dim from rfl, show (Tm.sig 94 t).G = flipT t.dim t.G from rfl]
    exact h
  · have h := other_any t.dim.1 t.dim.2 (pad (flat t.G)) W hg.plen hg.2.1 hg.2.2.1 hg.2.2.2.1 hg.2.2.2.2.1
    rw [pad_other hg] at h
    rw [show (Tm.sig 42 t).dim = t.dim from rfl, show (Tm.sig 42 t).G = otherT t.dim t.G from rfl]
    exact h
set_option maxRecDepth 100000 in
set_option maxHeartbeats 4000000 in
theorem grid_sig (s : UInt8) (t : Tm) (w : World) (hw : (Tm.sig s t).wf = true) (ih : ∀ w, Calls Tryd.prog t.gridFn #[t.pay] w (GridIs t w)) :
    Calls Tryd.prog 179 #[.agg #[.string (strB [s]), .iface t.ty t.pay]] w (GridIs (.sig s t) w) := by
  have hwt : isSig s = true ∧ t.wf = true := by simpa only [Tm.wf, Bool.and_eq_true] using hw
  have IH := hid ih
  have HS := hid (t.gc_size hwt.2)
  have HZ := hid (t.gc_zero hwt.2)
  have HO := hid t.gc_one
  have HS2 := hid ((Tm.sig s t).gc_size hw)
  have HZ2 := hid ((Tm.sig s t).gc_zero hw)
  have HO2 := hid (Tm.sig s t).gc_one
  have hm := t.meth_grid
  have hc := t.call_grid
  have L0 := hid (heap_new1 w (.cells #[.string (strB [s]), .iface t.ty t.pay] 174) (.cells zeroG 39))
  have L1 := hid (heap_new0 (w.alloc (.cells #[.string (strB [s]), .iface t.ty t.pay] 174)) (.cells zeroG 39))
  rw [World.size_alloc] at L1
  have HB := hid (((Below.refl w.heap.size w).alloc (Nat.le_refl _) (.cells #[.string (strB [s]), .iface t.ty t.pay] 174)).alloc (by simp) (.cells zeroG 39))
  unfold GridIs at IH ⊢
  generalize hgs : (Tm.sig s t).gc = gs at *
  generalize hgt : t.gc = gt at *
  have HGS := hid hgs
  have HGT := hid hgt
  clear ih hgs hgt
  have W0 : ∀ w1 : World, (w1.alloc (.cells zeroG 39)).setRow w1.heap.size gt = (w1.alloc (.cells zeroG 39)).setRow w1.heap.size gt := fun _ => rfl
  clear W0
  have HGo := hid (fun (hf : t.fits = true) => t.grid hwt.2 hf)
  have HFn := hid (show ∀ W, t.fits = true → Calls Tryd.prog (signFn s) #[.agg gt] W fun e w' => e = .returned (.agg gs) ∧ Below W.heap.size W w' from fun W hf => by
    have := sign_any s t W hwt.1 (t.grid hwt.2 hf)
    rw [← gc_ok hf, ← sig_gc_ok hf, HGS.out, HGT.out] at this
    exact this)
  have HGZ := hid (show t.fits = false → gs = zeroG from fun h => by rw [← HGS.out]; exact sig_gc h)
  have HFF := hid (show (Tm.sig s t).fits = t.fits from rfl)
  obtain ⟨fb, hfb⟩ : ∃ b, t.fits = b := ⟨_, rfl⟩
  rw [HFF.out]
  rw [hfb] at IH HFn HGZ ⊢
  have hsx := hwt.1
  clear hw hwt HGS HGT HGo HFF hfb
  go_enter Tryd.func179, Tryd.ntmps179
  go_wp2_with fail
  generalize World.alloc (World.alloc w _) _ = X at L0 L1 HB ⊢
  refine (IH.out _).mono ?_
  rintro e w1 ⟨rfl, hb1⟩
  have I0 := hid ((hb1.block _ (lt_of_block L0.out)).trans L0.out)
  have I1 := hid ((hb1.block _ (lt_of_block L1.out)).trans L1.out)
  have IB := hid (HB.out.trans (hb1.mono HB.out.size))
  have IL := hid (lt_of_block I1.out)
  clear hb1 L0 L1 HB
  have J0 := hid (show ((w1.alloc (.cells zeroG 39)).setRow w1.heap.size gt).heap[w.heap.size]? = some (.cells #[.string (strB [s]), .iface t.ty t.pay] 174 (0, 0)) by
    have := IL.out
    rw [setRow_other _ _ _ _ (by omega), Below.heap_alloc _ _ _ (by omega)]; exact I0.out)
  have J1 := hid (show ((w1.alloc (.cells zeroG 39)).setRow w1.heap.size gt).heap[w.heap.size + 1]? = some (.cells zeroG 39 (0, 0)) by
    rw [setRow_other _ _ _ _ (by have := IL.out; omega), Below.heap_alloc _ _ _ IL.out]; exact I1.out)
  have J2 := hid (setRow_heap (w1.alloc (.cells zeroG 39)) w1.heap.size zeroG gt 39 (0, 0) (heap_new0 w1 _))
  have JB := hid (below_setRow' (IB.out.alloc IB.out.size (.cells zeroG 39)) IB.out.size gt)
  generalize hY : (w1.alloc (.cells zeroG 39)).setRow w1.heap.size gt = Y at J0 J1 J2 JB
  have HY := hid hY
  clear hY
  have hk0 : Y.cell? ⟨w.heap.size, 0, none⟩ = some (.string (strB [s])) := by rw [cell_of_row _ _ _ _ _ _ J0.out]; rfl
  cases fb with
  | false =>
    have hgz := HGZ.out rfl
    subst hgz
    clear hk0
    go_wp2_with (first
      | (refine wpList_store_row rfl 39 _ _ rfl w1.heap.size gt rfl rfl 39 zeroG (heap_new0 w1 _) HS.out HZ.out HO.out ?_; rw [HY.out])
      | refine wpList_store_row rfl 39 _ _ rfl (w.heap.size + 1) zeroG rfl rfl 39 zeroG J1.out Tryd.size_grid rfl (gcells_one 0 0 (pad [])) ?_)
    refine bodyPost_ret (results_row_tmp Tryd.results179 _ (w.heap.size + 1) 39 zeroG (0, 0) _ (by rfl) (setRow_heap _ _ _ _ _ _ J1.out) Tryd.underlying39 rfl Tryd.size_grid) rfl ?_
    exact ⟨rfl, below_setRow' JB.out (by omega) _⟩
  | true =>
    have HF := hid (fun W => HFn.out W rfl)
    clear HFn HGZ
    rcases sig_three hsx with rfl | rfl | rfl
    · have e1 := strB_eq [62] [62] true (by decide)
      go_wp2_with (first
        | (refine wpList_store_row rfl 39 _ _ rfl w1.heap.size gt rfl rfl 39 zeroG (heap_new0 w1 _) HS.out HZ.out HO.out ?_; rw [HY.out])
        | refine wpList_load_row rfl 39 _ rfl w1.heap.size rfl 39 gt (0, 0) _ J2.out Tryd.underlying39 rfl HS.out ?_)
      refine (HF.out _).mono ?_
      rintro e w2 ⟨rfl, hb2⟩
      have M2 := hid ((hb2.block _ (lt_of_block J1.out)).trans J1.out)
      have MB := hid (JB.out.trans (hb2.mono JB.out.size))
      clear hb2
      go_wp2_with (refine wpList_store_row rfl 39 _ _ rfl (w.heap.size + 1) gs rfl rfl 39 zeroG M2.out HS2.out HZ2.out HO2.out ?_)
      refine bodyPost_ret (results_row_tmp Tryd.results179 _ (w.heap.size + 1) 39 gs (0, 0) _ (by rfl) (setRow_heap _ _ _ _ _ _ M2.out) Tryd.underlying39 rfl HS2.out) rfl ?_
      exact ⟨rfl, below_setRow' MB.out (by omega) _⟩
    · have e1 := strB_eq [94] [62] false (by decide)
      have e2 := strB_eq [94] [94] true (by decide)
      go_wp2_with (first
        | (refine wpList_store_row rfl 39 _ _ rfl w1.heap.size gt rfl rfl 39 zeroG (heap_new0 w1 _) HS.out HZ.out HO.out ?_; rw [HY.out])
        | refine wpList_load_row rfl 39 _ rfl w1.heap.size rfl 39 gt (0, 0) _ J2.out Tryd.underlying39 rfl HS.out ?_)
      refine (HF.out _).mono ?_
      rintro e w2 ⟨rfl, hb2⟩
      have M2 := hid ((hb2.block _ (lt_of_block J1.out)).trans J1.out)
      have MB := hid (JB.out.trans (hb2.mono JB.out.size))
      clear hb2
      go_wp2_with (refine wpList_store_row rfl 39 _ _ rfl (w.heap.size + 1) gs rfl rfl 39 zeroG M2.out HS2.out HZ2.out HO2.out ?_)
      refine bodyPost_ret (results_row_tmp Tryd.results179 _ (w.heap.size + 1) 39 gs (0, 0) _ (by rfl) (setRow_heap _ _ _ _ _ _ M2.out) Tryd.underlying39 rfl HS2.out) rfl ?_
      exact ⟨rfl, below_setRow' MB.out (by omega) _⟩
    · have e1 := strB_eq [42] [62] false (by decide)
      have e2 := strB_eq [42] [94] false (by decide)
      go_wp2_with (first
        | (refine wpList_store_row rfl 39 _ _ rfl w1.heap.size gt rfl rfl 39 zeroG (heap_new0 w1 _) HS.out HZ.out HO.out ?_; rw [HY.out])
        | refine wpList_load_row rfl 39 _ rfl w1.heap.size rfl 39 gt (0, 0) _ J2.out Tryd.underlying39 rfl HS.out ?_)
      refine (HF.out _).mono ?_
      rintro e w2 ⟨rfl, hb2⟩
      have M2 := hid ((hb2.block _ (lt_of_block J1.out)).trans J1.out)
      have MB := hid (JB.out.trans (hb2.mono JB.out.size))
      clear hb2
      go_wp2_with (refine wpList_store_row rfl 39 _ _ rfl (w.heap.size + 1) gs rfl rfl 39 zeroG M2.out HS2.out HZ2.out HO2.out ?_)
      refine bodyPost_ret (results_row_tmp Tryd.results179 _ (w.heap.size + 1) 39 gs (0, 0) _ (by rfl) (setRow_heap _ _ _ _ _ _ M2.out) Tryd.underlying39 rfl HS2.out) rfl ?_
      exact ⟨rfl, below_setRow' MB.out (by omega) _⟩
def twoFn (s : UInt8) : Nat := if s = 45 then 201 else 202
theorem two_any (s : UInt8) (a b : Tm) (W : World) (ha : GridT a.dim a.G) (hb : GridT b.dim b.G) (hfa : a.fits = true) (hfb : b.fits = true) :
    Calls Tryd.prog (twoFn s) #[.agg (gcells a.dim.1 a.dim.2 (pad (flat a.G))), .agg (gcells b.dim.1 b.dim.2 (pad (flat b.G)))] W (GridIs (.cpl a s b) W) := by
  unfold GridIs
  have hfit : (Tm.cpl a s b).fits = fit2 s a.dim b.dim := by simp [Tm.fits, hfa, hfb]
  have hgc : (Tm.cpl a s b).gc = if fit2 s a.dim b.dim = true then gcells (Tm.cpl a s b).dim.1 (Tm.cpl a s b).dim.2 (pad (flat (Tm.cpl a s b).G)) else zeroG := by unfold Tm.gc; rw [hfit]
  rw [hgc, hfit]
  by_cases hs : s = 45
  · subst hs
    have h := gunder_any a.dim.1 a.dim.2 b.dim.1 b.dim.2 (pad (flat a.G)) (pad (flat b.G)) W ha.plen hb.plen ha.2.1 ha.2.2.1 ha.2.2.2.1 ha.2.2.2.2.1 hb.2.1 hb.2.2.1 hb.2.2.2.1
    refine h.mono fun e w' ⟨he, hbl⟩ => ⟨?_, hbl⟩
    rw [he]
    unfold gtwo fit2
    rw [if_pos rfl]
    by_cases hf : (decide (a.dim.2 = b.dim.2) && decide (a.dim.1 + b.dim.1 ≤ 5)) = true
    · rw [if_pos hf, if_pos hf, hf]
      simp only [Bool.and_eq_true, decide_eq_true_eq] at hf
      have hp := pad_under (n := a.dim.1) (k := b.dim.1) (m := a.dim.2) ha (by rw [hf.1]; exact hb) hf.2
      rw [show joinG a.dim.1 a.dim.2 b.dim.1 b.dim.2 a.dim.2 a.dim.1 0 (pad (flat a.G)) (pad (flat b.G)) = joinG a.dim.1 a.dim.2 b.dim.1 a.dim.2 a.dim.2 a.dim.1 0 (pad (flat a.G)) (pad (flat b.G)) by rw [← hf.1], hp]
      rfl
    · rw [if_neg hf, if_neg hf]
  · have h := gbeside_any a.dim.1 a.dim.2 b.dim.1 b.dim.2 (pad (flat a.G)) (pad (flat b.G)) W ha.plen hb.plen ha.2.2.1 ha.2.2.2.1 ha.2.2.2.2.1 hb.2.2.2.1 hb.2.2.2.2.1
    have hfn : twoFn s = 202 := if_neg hs
    rw [hfn]
    refine h.mono fun e w' ⟨he, hbl⟩ => ⟨?_, hbl⟩
    rw [he]
    unfold gtwo fit2
    rw [if_neg hs]
    by_cases hf : (decide (a.dim.1 = b.dim.1) && decide (a.dim.2 + b.dim.2 ≤ 5)) = true
    · rw [if_pos hf, if_pos hf, hf]
      simp only [Bool.and_eq_true, decide_eq_true_eq] at hf
      have hp := pad_beside (n := a.dim.1) (m := a.dim.2) (k := b.dim.2) ha (by rw [hf.1]; exact hb) hf.2
      have hd : (Tm.cpl a s b).dim = (a.dim.1, a.dim.2 + b.dim.2) := if_neg hs
      have hG : (Tm.cpl a s b).G = besideT a.dim b.dim a.G b.G := if_neg hs
      rw [hd, hG, show joinG a.dim.1 a.dim.2 b.dim.1 b.dim.2 (a.dim.2 + b.dim.2) 0 a.dim.2 (pad (flat a.G)) (pad (flat b.G)) = joinG a.dim.1 a.dim.2 a.dim.1 b.dim.2 (a.dim.2 + b.dim.2) 0 a.dim.2 (pad (flat a.G)) (pad (flat b.G)) by rw [← hf.1], hp]
      rfl
    · rw [if_neg hf, if_neg hf]
theorem cpl_gc {a b : Tm} {s : UInt8} (h : (a.fits && b.fits) = false) : (Tm.cpl a s b).gc = zeroG := by
  unfold Tm.gc
  rw [if_neg (by unfold Tm.fits; rw [h, Bool.false_and]; decide)]

set_option maxRecDepth 100000 in
set_option maxHeartbeats 8000000 in
theorem grid_cpl (a : Tm) (s : UInt8) (b : Tm) (w : World) (hw : (Tm.cpl a s b).wf = true) (iha : ∀ w, Calls Tryd.prog a.gridFn #[a.pay] w (GridIs a w)) (ihb : ∀ w, Calls Tryd.prog b.gridFn #[b.pay] w (GridIs b w)) :
    Calls Tryd.prog 199 #[.agg #[.iface a.ty a.pay, .string (strB [s]), .iface b.ty b.pay]] w (GridIs (.cpl a s b) w) := by
  have hww : (a.wf = true ∧ isMid s = true) ∧ b.wf = true := by simpa only [Tm.wf, Bool.and_eq_true] using hw
  have IHA := hid iha
  have IHB := hid ihb
  have HSa := hid (a.gc_size hww.1.1)
  have HZa := hid (a.gc_zero hww.1.1)
  have HOa := hid a.gc_one
  have HSb := hid (b.gc_size hww.2)
  have HZb := hid (b.gc_zero hww.2)
  have HOb := hid b.gc_one
  have HS2 := hid ((Tm.cpl a s b).gc_size hw)
  have HZ2 := hid ((Tm.cpl a s b).gc_zero hw)
  have HO2 := hid (Tm.cpl a s b).gc_one
  have hma := a.meth_grid
  have hca := a.call_grid
  have hmb := b.meth_grid
  have hcb := b.call_grid
  have L0 := hid (heap_new1 w (.cells #[.iface a.ty a.pay, .string (strB [s]), .iface b.ty b.pay] 204) (.cells zeroG 39))
  have L1 := hid (heap_new0 (w.alloc (.cells #[.iface a.ty a.pay, .string (strB [s]), .iface b.ty b.pay] 204)) (.cells zeroG 39))
  rw [World.size_alloc] at L1
  have HB := hid (((Below.refl w.heap.size w).alloc (Nat.le_refl _) (.cells #[.iface a.ty a.pay, .string (strB [s]), .iface b.ty b.pay] 204)).alloc (by simp) (.cells zeroG 39))
  have HFn := hid (show ∀ W, a.fits = true → b.fits = true → Calls Tryd.prog (twoFn s) #[.agg a.gc, .agg b.gc] W (GridIs (.cpl a s b) W) from fun W h1 h2 => by
    have := two_any s a b W (a.grid hww.1.1 h1) (b.grid hww.2 h2) h1 h2
    rw [← gc_ok h1, ← gc_ok h2] at this
    exact this)
  have HGZ := hid (show (a.fits && b.fits) = false → (Tm.cpl a s b).gc = zeroG from fun h => cpl_gc h)
  have HFZ := hid (show (a.fits && b.fits) = false → (Tm.cpl a s b).fits = false from fun h => by unfold Tm.fits; rw [h]; rfl)
  have hsx := hww.1.2
  unfold GridIs at IHA IHB HFn ⊢
  clear iha ihb hw hww
  generalize (Tm.cpl a s b).gc = gs at *
  generalize (Tm.cpl a s b).fits = fs at *
  generalize a.gc = ga at *
  generalize b.gc = gb at *
  generalize a.fits = fa at *
  generalize b.fits = fb at *
  go_enter Tryd.func199, Tryd.ntmps199
  go_wp2_with fail
  generalize World.alloc (World.alloc w _) _ = X0 at L0 L1 HB ⊢
  refine (IHA.out _).mono ?_
  rintro e w1 ⟨rfl, hb1⟩
  have I0 := hid ((hb1.block _ (lt_of_block L0.out)).trans L0.out)
  have I1 := hid ((hb1.block _ (lt_of_block L1.out)).trans L1.out)
  have IB := hid (HB.out.trans (hb1.mono HB.out.size))
  have IL := hid (lt_of_block I1.out)
  clear hb1 L0 L1 HB
  have J0 := hid (show ((w1.alloc (.cells zeroG 39)).setRow w1.heap.size ga).heap[w.heap.size]? = some (.cells #[.iface a.ty a.pay, .string (strB [s]), .iface b.ty b.pay] 204 (0, 0)) by
    have := IL.out
    rw [setRow_other _ _ _ _ (by omega), Below.heap_alloc _ _ _ (by omega)]; exact I0.out)
  have J1 := hid (show ((w1.alloc (.cells zeroG 39)).setRow w1.heap.size ga).heap[w.heap.size + 1]? = some (.cells zeroG 39 (0, 0)) by
    rw [setRow_other _ _ _ _ (by have := IL.out; omega), Below.heap_alloc _ _ _ IL.out]; exact I1.out)
  have J2 := hid (setRow_heap (w1.alloc (.cells zeroG 39)) w1.heap.size zeroG ga 39 (0, 0) (heap_new0 w1 _))
  have JB := hid (below_setRow' (IB.out.alloc IB.out.size (.cells zeroG 39)) IB.out.size ga)
  generalize hY : (w1.alloc (.cells zeroG 39)).setRow w1.heap.size ga = Y at J0 J1 J2 JB
  have HY := hid hY
  clear hY I0 I1
  have hk2 : Y.cell? ⟨w.heap.size, 2, none⟩ = some (.iface b.ty b.pay) := by rw [cell_of_row _ _ _ _ _ _ J0.out]; rfl
  go_wp2_with (refine wpList_store_row rfl 39 _ _ rfl w1.heap.size ga rfl rfl 39 zeroG (heap_new0 w1 _) HSa.out HZa.out HOa.out ?_; rw [HY.out])
  clear hk2
  refine (IHB.out _).mono ?_
  rintro e w2 ⟨rfl, hb2⟩
  have K0 := hid ((hb2.block _ (lt_of_block J0.out)).trans J0.out)
  have K1 := hid ((hb2.block _ (lt_of_block J1.out)).trans J1.out)
  have K2 := hid ((hb2.block _ (lt_of_block J2.out)).trans J2.out)
  have KB := hid (JB.out.trans (hb2.mono JB.out.size))
  have KL := hid (lt_of_block K2.out)
  clear hb2 J0 J1 J2 JB
  have N0 := hid (show ((w2.alloc (.cells zeroG 39)).setRow w2.heap.size gb).heap[w.heap.size]? = some (.cells #[.iface a.ty a.pay, .string (strB [s]), .iface b.ty b.pay] 204 (0, 0)) by
    have := IL.out
    have := KL.out
    rw [setRow_other _ _ _ _ (by omega), Below.heap_alloc _ _ _ (by omega)]; exact K0.out)
  have N1 := hid (show ((w2.alloc (.cells zeroG 39)).setRow w2.heap.size gb).heap[w.heap.size + 1]? = some (.cells zeroG 39 (0, 0)) by
    have := IL.out
    have := KL.out
    rw [setRow_other _ _ _ _ (by omega), Below.heap_alloc _ _ _ (by omega)]; exact K1.out)
  have N2 := hid (show ((w2.alloc (.cells zeroG 39)).setRow w2.heap.size gb).heap[w1.heap.size]? = some (.cells ga 39 (0, 0)) by
    have := KL.out
    rw [setRow_other _ _ _ _ (by omega), Below.heap_alloc _ _ _ (by omega)]; exact K2.out)
  have N3 := hid (setRow_heap (w2.alloc (.cells zeroG 39)) w2.heap.size zeroG gb 39 (0, 0) (heap_new0 w2 _))
  have NB := hid (below_setRow' (KB.out.alloc KB.out.size (.cells zeroG 39)) KB.out.size gb)
  generalize hX : (w2.alloc (.cells zeroG 39)).setRow w2.heap.size gb = X at N0 N1 N2 N3 NB
  have HX := hid hX
  clear hX K0 K1 K2
  have hk1 : X.cell? ⟨w.heap.size, 1, none⟩ = some (.string (strB [s])) := by rw [cell_of_row _ _ _ _ _ _ N0.out]; rfl
  cases fa with
  | false =>
    obtain rfl := HFZ.out (by simp)
    obtain rfl := HGZ.out (by simp)
    clear HFn HFZ HGZ
    go_wp2_with (first
      | (refine wpList_store_row rfl 39 _ _ rfl w2.heap.size gb rfl rfl 39 zeroG (heap_new0 w2 _) HSb.out HZb.out HOb.out ?_; rw [HX.out])
      | refine wpList_store_row rfl 39 _ _ rfl (w.heap.size + 1) zeroG rfl rfl 39 zeroG N1.out Tryd.size_grid rfl (gcells_one 0 0 (pad [])) ?_)
    refine bodyPost_ret (results_row_tmp Tryd.results199 _ (w.heap.size + 1) 39 zeroG (0, 0) _ (by rfl) (setRow_heap _ _ _ _ _ _ N1.out) Tryd.underlying39 rfl Tryd.size_grid) rfl ?_
    exact ⟨rfl, below_setRow' NB.out (by omega) _⟩
  | true =>
    cases fb with
    | false =>
      obtain rfl := HFZ.out (by simp)
      obtain rfl := HGZ.out (by simp)
      clear HFn HFZ HGZ
      go_wp2_with (first
        | (refine wpList_store_row rfl 39 _ _ rfl w2.heap.size gb rfl rfl 39 zeroG (heap_new0 w2 _) HSb.out HZb.out HOb.out ?_; rw [HX.out])
        | refine wpList_store_row rfl 39 _ _ rfl (w.heap.size + 1) zeroG rfl rfl 39 zeroG N1.out Tryd.size_grid rfl (gcells_one 0 0 (pad [])) ?_)
      refine bodyPost_ret (results_row_tmp Tryd.results199 _ (w.heap.size + 1) 39 zeroG (0, 0) _ (by rfl) (setRow_heap _ _ _ _ _ _ N1.out) Tryd.underlying39 rfl Tryd.size_grid) rfl ?_
      exact ⟨rfl, below_setRow' NB.out (by omega) _⟩
    | true =>
      have HF := hid (fun W => HFn.out W rfl rfl)
      clear HFn HFZ HGZ
      rcases mid_two hsx with rfl | rfl
      · have e1 := strB_eq [124] [45] false (by decide)
        go_wp2_with (first
          | (refine wpList_store_row rfl 39 _ _ rfl w2.heap.size gb rfl rfl 39 zeroG (heap_new0 w2 _) HSb.out HZb.out HOb.out ?_; rw [HX.out])
          | refine wpList_load_row rfl 39 (.tmp 4) rfl w1.heap.size rfl 39 ga (0, 0) _ N2.out Tryd.underlying39 rfl HSa.out ?_
          | refine wpList_load_row rfl 39 (.tmp 6) rfl w2.heap.size rfl 39 gb (0, 0) _ N3.out Tryd.underlying39 rfl HSb.out ?_)
        refine (HF.out _).mono ?_
        rintro e w3 ⟨rfl, hb3⟩
        have M2 := hid ((hb3.block _ (lt_of_block N1.out)).trans N1.out)
        have MB := hid (NB.out.trans (hb3.mono NB.out.size))
        clear hb3
        go_wp2_with (refine wpList_store_row rfl 39 _ _ rfl (w.heap.size + 1) gs rfl rfl 39 zeroG M2.out HS2.out HZ2.out HO2.out ?_)
        refine bodyPost_ret (results_row_tmp Tryd.results199 _ (w.heap.size + 1) 39 gs (0, 0) _ (by rfl) (setRow_heap _ _ _ _ _ _ M2.out) Tryd.underlying39 rfl HS2.out) rfl ?_
        exact ⟨rfl, below_setRow' MB.out (by omega) _⟩
      · have e1 := strB_eq [45] [45] true (by decide)
        go_wp2_with (first
          | (refine wpList_store_row rfl 39 _ _ rfl w2.heap.size gb rfl rfl 39 zeroG (heap_new0 w2 _) HSb.out HZb.out HOb.out ?_; rw [HX.out])
          | refine wpList_load_row rfl 39 (.tmp 4) rfl w1.heap.size rfl 39 ga (0, 0) _ N2.out Tryd.underlying39 rfl HSa.out ?_
          | refine wpList_load_row rfl 39 (.tmp 6) rfl w2.heap.size rfl 39 gb (0, 0) _ N3.out Tryd.underlying39 rfl HSb.out ?_)
        refine (HF.out _).mono ?_
        rintro e w3 ⟨rfl, hb3⟩
        have M2 := hid ((hb3.block _ (lt_of_block N1.out)).trans N1.out)
        have MB := hid (NB.out.trans (hb3.mono NB.out.size))
        clear hb3
        go_wp2_with (refine wpList_store_row rfl 39 _ _ rfl (w.heap.size + 1) gs rfl rfl 39 zeroG M2.out HS2.out HZ2.out HO2.out ?_)
        refine bodyPost_ret (results_row_tmp Tryd.results199 _ (w.heap.size + 1) 39 gs (0, 0) _ (by rfl) (setRow_heap _ _ _ _ _ _ M2.out) Tryd.underlying39 rfl HS2.out) rfl ?_
        exact ⟨rfl, below_setRow' MB.out (by omega) _⟩
/-- The grid of a term, by the program. -/
theorem Tm.grid_any : ∀ (t : Tm) (w : World), t.wf = true → Calls Tryd.prog t.gridFn #[t.pay] w (GridIs t w)
  | .lone c, w, _ => grid_lone c w
  | .sig s t, w, h => grid_sig s t w h fun w => t.grid_any w (by simp only [Tm.wf, Bool.and_eq_true] at h; exact h.2)
  | .cpl a s b, w, h => grid_cpl a s b w h (fun w => a.grid_any w (by simp only [Tm.wf, Bool.and_eq_true] at h; exact h.1.1)) (fun w => b.grid_any w (by simp only [Tm.wf, Bool.and_eq_true] at h; exact h.2))
end Go.Proofs.YtongjijkdjagdaaDoor
