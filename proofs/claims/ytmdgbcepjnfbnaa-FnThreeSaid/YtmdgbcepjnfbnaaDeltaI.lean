/- ChangeDelta and ChangeEmpty of the program, by their contracts. -/
import Derived.Test.YtmdgbcepjnfbnaaMirrorIn
namespace Go.Proofs.Ytmdgbcepjnfbnaa
open Go.RowKit Go.Shelf

/-- What a question on a cell with a mirror comes to, where the answer is an integer and a bool. -/
def MirOut (R : Nat → Nat → List UInt8 → Nat → Int × Bool) (ss : List ByteArray) (cell : Int) (x : Int) (ok : Bool) : Prop :=
  (∃ n m c, MirrorIn ss cell n m c ∧ (x, ok) = R n m (pad (flat ss)) c) ∨ ((∀ n m c, ¬ MirrorIn ss cell n m c) ∧ x = 0 ∧ ok = false)
theorem MirOut.uniq {R : Nat → Nat → List UInt8 → Nat → Int × Bool} {ss : List ByteArray} {cell x x' : Int} {ok ok' : Bool} (h : MirOut R ss cell x ok) (h' : MirOut R ss cell x' ok') : x' = x ∧ ok' = ok := by
  rcases h with ⟨n, m, c, h1, h2⟩ | ⟨h1, rfl, rfl⟩ <;> rcases h' with ⟨n', m', c', h1', h2'⟩ | ⟨h1', rfl, rfl⟩
  · obtain ⟨rfl, rfl, rfl⟩ := h1.1.uniq h1'.1
    have := h2'.trans h2.symm
    cases this
    exact ⟨rfl, rfl⟩
  · exact absurd h1 (h1' _ _ _)
  · exact absurd h1' (h1 _ _ _)
  · exact ⟨rfl, rfl⟩
/-- How many paths more come if a cell becomes a letter. -/
def diffR (n m : Nat) (ls : List UInt8) (c : Nat) (b : UInt8) : Int := (pathsR n m (lett m (ls.set c b))).1 - (pathsR n m (lett m ls)).1
def deltaR (n m : Nat) (ls : List UInt8) (c : Nat) : Int × Bool := (diffR n m ls c (oth (lett m ls ((c / m : Nat) : Int) ((c % m : Nat) : Int))), true)
def emptyR (n m : Nat) (ls : List UInt8) (c : Nat) : Int × Bool := (diffR n m ls c 46, true)

/-- What the operations of the program's last statement hand back. -/
def deltaIRel (n m c : Nat) (ls : List UInt8) (b : UInt8) (dv : Int) (i : Nat) (v : Value) (W : World) : Prop :=
  match i with
  | 0 => v = .agg (gcells n m ls)
  | 1 => v = .agg (gcells n m ls)
  | 2 => v = .agg #[.int .i64 (placeN m c).i, .int .i64 (placeN m c).k]
  | 3 => ChangeV W n m ls (placeN m c) b v
  | 4 => v = .int .i64 dv
  | 5 => v = .int .i64 dv
  | 6 => v = .bool true
  | _ => True

set_option maxRecDepth 100000 in
set_option maxHeartbeats 2000000 in
theorem implChangeDelta_any (A : Option Addr) (c : Nat) (ss : List ByteArray) (cell : Int) (w : World) (h : Strs w w.heap.size A ss) (hn : ss.length ≤ 1048576) (hs : ∀ s ∈ ss, s.size ≤ 1048576) :
    Calls Try.prog 43 #[.slice A ss.length c, .int .i64 cell] w fun e w' => Below w.heap.size w w' ∧ ∃ x ok, e = .returned (.tuple #[.int .i64 x, .bool ok]) ∧ MirOut deltaR ss cell x ok := by
  have HR := hid (mirrorIn_any A c ss cell w h hn hs)
  clear h hs
  go_enter Try.func43, Try.ntmps43
  go_wp2_with fail
  refine HR.out.mono ?_
  rintro e w1 ⟨hbel, hcase⟩
  have HB := hid hbel
  clear hbel
  have HZ1 := hid (show ∀ gc, ((w1.alloc (.cells zeroG 57)).alloc (.cells #[.int .i64 0, .int .i64 0] 75)).heap[w1.heap.size]? = some (.cells zeroG 57 (0, 0)) ∧ (((w1.alloc (.cells zeroG 57)).alloc (.cells #[.int .i64 0, .int .i64 0] 75)).setRow w1.heap.size gc).heap[w1.heap.size + 1]? = some (.cells #[.int .i64 0, .int .i64 0] 75 (0, 0)) from fun gc => by
    have a1 := heap_new0 (w1.alloc (.cells zeroG 57)) (.cells #[.int .i64 0, .int .i64 0] 75)
    rw [World.size_alloc] at a1
    exact ⟨heap_new1 w1 _ _, by rw [setRow_other _ _ _ _ (by omega)]; exact a1⟩)
  have HB2 := hid (fun gc pc => below_setRow' (below_setRow' ((HB.out.alloc HB.out.size (.cells zeroG 57)).alloc (show w.heap.size ≤ (w1.alloc (.cells zeroG 57)).heap.size by have := HB.out.size; simp; omega) (.cells #[.int .i64 0, .int .i64 0] 75)) (show w.heap.size ≤ w1.heap.size from HB.out.size) gc) (show w.heap.size ≤ w1.heap.size + 1 by have := HB.out.size; omega) pc)
  rcases hcase with ⟨n, m, cc, hmi, rfl⟩ | ⟨hno, rfl⟩
  · have hg := hmi.1.1
    have hx := placeN_in hmi.1.2.2
    have HMI := hid hmi
    have HS := hid (show (Try.prog.info? 57).map (·.size) = some (gcells n m (pad (flat ss))).size by rw [hg.csize]; exact Try.size_grid)
    have HZ := hid (show zeroG.size = (gcells n m (pad (flat ss))).size by rw [hg.csize]; rfl)
    have HO := hid (gcells_one n m (pad (flat ss)))
    have HEX := hid (fun W => exchange_any n m (pad (flat ss)) (placeN m cc) W hg.plen hg.2.2.1 hg.2.2.2.2.1 hx)
    have HDE := hid (fun b v W hv => delta_any n m (pad (flat ss)) (placeN m cc) b v W hg.plen hg.2.2.1 hg.2.2.2.1 hg.2.2.2.2.1 hx hv)
    rw [cellN_place] at HDE
    obtain ⟨dv, hdv⟩ : ∃ dv, diffR n m (pad (flat ss)) cc (oth (lett m (pad (flat ss)) (placeN m cc).i (placeN m cc).k)) = dv := ⟨_, rfl⟩
    have HDV := hid hdv
    generalize hob : oth (lett m (pad (flat ss)) (placeN m cc).i (placeN m cc).k) = ob at *
    have HOB := hid hob
    have HDE2 := hid (HDE.out ob)
    unfold diffR at hdv
    rw [hdv] at HDE2
    have HG1 := hid (show ((((w1.alloc (.cells zeroG 57)).alloc (.cells #[.int .i64 0, .int .i64 0] 75)).setRow w1.heap.size (gcells n m (pad (flat ss)))).setRow (w1.heap.size + 1) #[.int .i64 (placeN m cc).i, .int .i64 (placeN m cc).k]).heap[w1.heap.size]? = some (.cells (gcells n m (pad (flat ss))) 57 (0, 0)) by
      rw [setRow_other _ _ _ _ (by omega)]; exact setRow_heap _ _ _ _ _ _ (HZ1.out (gcells n m (pad (flat ss)))).1)
    have HP1 := hid (setRow_heap (((w1.alloc (.cells zeroG 57)).alloc (.cells #[.int .i64 0, .int .i64 0] 75)).setRow w1.heap.size (gcells n m (pad (flat ss)))) (w1.heap.size + 1) #[.int .i64 0, .int .i64 0] #[.int .i64 (placeN m cc).i, .int .i64 (placeN m cc).k] 75 (0, 0) (HZ1.out _).2)
    rw [show ((cc / m : Nat) : Int) = (placeN m cc).i from rfl, show ((cc % m : Nat) : Int) = (placeN m cc).k from rfl]
    clear hmi hg hdv hob
    go_wp2_with (first
      | refine wpList_store_row rfl 57 _ _ rfl w1.heap.size (gcells n m (pad (flat ss))) rfl rfl 57 zeroG (HZ1.out (gcells n m (pad (flat ss)))).1 HS.out HZ.out HO.out ?_
      | refine wpList_store_row rfl 75 _ _ rfl (w1.heap.size + 1) #[.int .i64 (placeN m cc).i, .int .i64 (placeN m cc).k] rfl rfl 75 #[.int .i64 0, .int .i64 0] (HZ1.out (gcells n m (pad (flat ss)))).2 Try.size_place rfl (int2_one _ _) ?_)
    have HBW := hid (HB2.out (gcells n m (pad (flat ss))) #[.int .i64 (placeN m cc).i, .int .i64 (placeN m cc).k])
    generalize (((w1.alloc (.cells zeroG 57)).alloc (.cells #[.int .i64 0, .int .i64 0] 75)).setRow w1.heap.size (gcells n m (pad (flat ss)))).setRow (w1.heap.size + 1) #[.int .i64 (placeN m cc).i, .int .i64 (placeN m cc).k] = W0 at *
    refine wp_region_rel (by kernel_rfl) (by kernel_rfl) 7 rfl (fun us => { tmps := #[.slice A ss.length c, .int .i64 cell, undef, undef, us 5, us 6, .pointer (some ⟨w1.heap.size, 0, none⟩), .pointer (some ⟨w1.heap.size + 1, 0, none⟩), .bool true,
      .tuple #[.agg (gcells n m (pad (flat ss))), .agg #[.int .i64 (placeN m cc).i, .int .i64 (placeN m cc).k], .bool true], .slice A ss.length c, .int .i64 cell, .tuple #[.agg (gcells n m (pad (flat ss))), .agg #[.int .i64 (placeN m cc).i, .int .i64 (placeN m cc).k], .bool true],
      .agg (gcells n m (pad (flat ss))), .agg #[.int .i64 (placeN m cc).i, .int .i64 (placeN m cc).k], .bool true, .bool true, .bool false, us 0, us 1, us 2, us 3, us 4], defers := [] }) (fun k => if k = 5 then .int .i64 0 else if k = 6 then .bool false else undef) rfl (deltaIRel n m cc (pad (flat ss)) ob dv) (fun i v W W' h hb => ?_) (fun i us v hi => ?_) (fun i us W hi hb hd => ?_) (fun us W hb hr => ?_)
    · unfold deltaIRel at h ⊢
      split at h <;> try exact h
      exact h.below hb
    · match i, hi with
      | 0, _ => rfl
      | 1, _ => rfl
      | 2, _ => rfl
      | 3, _ => rfl
      | 4, _ => rfl
      | 5, _ => rfl
      | 6, _ => rfl
    · have L0 := hid ((hb.block _ (lt_of_block HG1.out)).trans HG1.out)
      have L1 := hid ((hb.block _ (lt_of_block HP1.out)).trans HP1.out)
      match i, hi with
      | 0, _ => exact wpOp_val rfl rfl (exec_load_row 57 _ rfl w1.heap.size rfl 57 (gcells n m (pad (flat ss))) (0, 0) _ L0.out Try.underlying57 rfl HS.out) rfl
      | 1, _ => exact wpOp_val rfl rfl (exec_load_row 57 _ rfl w1.heap.size rfl 57 (gcells n m (pad (flat ss))) (0, 0) _ L0.out Try.underlying57 rfl HS.out) rfl
      | 2, _ => exact wpOp_val rfl rfl (exec_load_row 75 _ rfl (w1.heap.size + 1) rfl 75 #[.int .i64 (placeN m cc).i, .int .i64 (placeN m cc).k] (0, 0) _ L1.out Try.underlying75 rfl Try.size_place) rfl
      | 3, _ =>
        have h0 : us 1 = _ := hd _ rfl { on := 1, ground := .data } (by simp) rfl
        have h1 : us 2 = _ := hd _ rfl { on := 2, ground := .data } (by simp) rfl
        rw [h0, h1]
        exact wpOp_call rfl rfl (by go_simp) (HEX.out W)
      | 4, _ =>
        have h0 : us 0 = _ := hd _ rfl { on := 0, ground := .data } (by simp) rfl
        have h1 : ChangeV W n m (pad (flat ss)) (placeN m cc) ob (us 3) := hd _ rfl { on := 3, ground := .data } (by simp) rfl
        have hc := (HDE2.out (us 3) W h1).mono (R' := fun e w'' => ∃ v, e = .returned v ∧ deltaIRel n m cc (pad (flat ss)) ob dv 4 v w'' ∧ Below W.heap.size W w'') fun e w'' ⟨he, hb'⟩ => ⟨_, he, rfl, hb'⟩
        obtain ⟨g0, g1, g2, e3, _⟩ := h1
        rw [e3] at hc
        rw [h0, e3]
        exact wpOp_call rfl rfl (by go_simp) hc
      | 5, _ =>
        have h0 : us 4 = _ := hd _ rfl { on := 4, ground := .data } (by simp) rfl
        rw [h0]
        exact wpOp_val rfl rfl (by go_simp) rfl
      | 6, _ => exact wpOp_val rfl rfl (by go_simp) rfl
    · have h5 : us 5 = _ := hr 5 (by omega)
      have h6 : us 6 = _ := hr 6 (by omega)
      rw [h5, h6]
      have HB4 := hid (HBW.out.trans (hb.mono HBW.out.size))
      clear hr hb
      go_wp2_with fail
      refine bodyPost_ret (results_tmp2 rfl _ _ _) rfl ?_
      exact ⟨HB4.out, _, true, rfl, .inl ⟨n, m, cc, HMI.out, by unfold deltaR; rw [← HDV.out]; rw [← HOB.out]; rfl⟩⟩
  · have HNo := hid hno
    clear hno
    have HBW := hid (HB2.out zeroG #[.int .i64 0, .int .i64 0])
    go_wp2_with (first
      | refine wpList_store_row rfl 57 _ _ rfl w1.heap.size zeroG rfl rfl 57 zeroG (HZ1.out zeroG).1 Try.size_grid rfl (gcells_one 0 0 (pad [])) ?_
      | refine wpList_store_row rfl 75 _ _ rfl (w1.heap.size + 1) #[.int .i64 0, .int .i64 0] rfl rfl 75 #[.int .i64 0, .int .i64 0] (HZ1.out zeroG).2 Try.size_place rfl (int2_one _ _) ?_)
    refine bodyPost_ret (results_tmp2 rfl _ _ _) rfl ?_
    exact ⟨HBW.out, 0, false, rfl, .inr ⟨HNo.out, rfl, rfl⟩⟩

set_option maxRecDepth 100000 in
set_option maxHeartbeats 2000000 in
theorem implChangeEmpty_any (A : Option Addr) (c : Nat) (ss : List ByteArray) (cell : Int) (w : World) (h : Strs w w.heap.size A ss) (hn : ss.length ≤ 1048576) (hs : ∀ s ∈ ss, s.size ≤ 1048576) :
    Calls Try.prog 45 #[.slice A ss.length c, .int .i64 cell] w fun e w' => Below w.heap.size w w' ∧ ∃ x ok, e = .returned (.tuple #[.int .i64 x, .bool ok]) ∧ MirOut emptyR ss cell x ok := by
  have HR := hid (mirrorIn_any A c ss cell w h hn hs)
  clear h hs
  go_enter Try.func45, Try.ntmps45
  go_wp2_with fail
  refine HR.out.mono ?_
  rintro e w1 ⟨hbel, hcase⟩
  have HB := hid hbel
  clear hbel
  have HZ1 := hid (show ∀ gc, ((w1.alloc (.cells zeroG 57)).alloc (.cells #[.int .i64 0, .int .i64 0] 75)).heap[w1.heap.size]? = some (.cells zeroG 57 (0, 0)) ∧ (((w1.alloc (.cells zeroG 57)).alloc (.cells #[.int .i64 0, .int .i64 0] 75)).setRow w1.heap.size gc).heap[w1.heap.size + 1]? = some (.cells #[.int .i64 0, .int .i64 0] 75 (0, 0)) from fun gc => by
    have a1 := heap_new0 (w1.alloc (.cells zeroG 57)) (.cells #[.int .i64 0, .int .i64 0] 75)
    rw [World.size_alloc] at a1
    exact ⟨heap_new1 w1 _ _, by rw [setRow_other _ _ _ _ (by omega)]; exact a1⟩)
  have HB2 := hid (fun gc pc => below_setRow' (below_setRow' ((HB.out.alloc HB.out.size (.cells zeroG 57)).alloc (show w.heap.size ≤ (w1.alloc (.cells zeroG 57)).heap.size by have := HB.out.size; simp; omega) (.cells #[.int .i64 0, .int .i64 0] 75)) (show w.heap.size ≤ w1.heap.size from HB.out.size) gc) (show w.heap.size ≤ w1.heap.size + 1 by have := HB.out.size; omega) pc)
  rcases hcase with ⟨n, m, cc, hmi, rfl⟩ | ⟨hno, rfl⟩
  · have hg := hmi.1.1
    have hx := placeN_in hmi.1.2.2
    have HMI := hid hmi
    have HS := hid (show (Try.prog.info? 57).map (·.size) = some (gcells n m (pad (flat ss))).size by rw [hg.csize]; exact Try.size_grid)
    have HZ := hid (show zeroG.size = (gcells n m (pad (flat ss))).size by rw [hg.csize]; rfl)
    have HO := hid (gcells_one n m (pad (flat ss)))
    have HEX := hid (fun W => change_any n m (pad (flat ss)) (placeN m cc) 46 W hg.plen hg.2.2.1 hg.2.2.2.2.1 hx)
    have HDE := hid (fun b v W hv => delta_any n m (pad (flat ss)) (placeN m cc) b v W hg.plen hg.2.2.1 hg.2.2.2.1 hg.2.2.2.2.1 hx hv)
    rw [cellN_place] at HDE
    obtain ⟨dv, hdv⟩ : ∃ dv, diffR n m (pad (flat ss)) cc ((46 : UInt8)) = dv := ⟨_, rfl⟩
    have HDV := hid hdv
    obtain ⟨ob, hob⟩ : ∃ ob : UInt8, 46 = ob := ⟨_, rfl⟩
    have HOB := hid hob
    rw [hob] at HEX hdv HDV
    have HDE2 := hid (HDE.out ob)
    unfold diffR at hdv
    rw [hdv] at HDE2
    have HG1 := hid (show ((((w1.alloc (.cells zeroG 57)).alloc (.cells #[.int .i64 0, .int .i64 0] 75)).setRow w1.heap.size (gcells n m (pad (flat ss)))).setRow (w1.heap.size + 1) #[.int .i64 (placeN m cc).i, .int .i64 (placeN m cc).k]).heap[w1.heap.size]? = some (.cells (gcells n m (pad (flat ss))) 57 (0, 0)) by
      rw [setRow_other _ _ _ _ (by omega)]; exact setRow_heap _ _ _ _ _ _ (HZ1.out (gcells n m (pad (flat ss)))).1)
    have HP1 := hid (setRow_heap (((w1.alloc (.cells zeroG 57)).alloc (.cells #[.int .i64 0, .int .i64 0] 75)).setRow w1.heap.size (gcells n m (pad (flat ss)))) (w1.heap.size + 1) #[.int .i64 0, .int .i64 0] #[.int .i64 (placeN m cc).i, .int .i64 (placeN m cc).k] 75 (0, 0) (HZ1.out _).2)
    rw [show ((cc / m : Nat) : Int) = (placeN m cc).i from rfl, show ((cc % m : Nat) : Int) = (placeN m cc).k from rfl]
    clear hmi hg hdv hob
    go_wp2_with (first
      | refine wpList_store_row rfl 57 _ _ rfl w1.heap.size (gcells n m (pad (flat ss))) rfl rfl 57 zeroG (HZ1.out (gcells n m (pad (flat ss)))).1 HS.out HZ.out HO.out ?_
      | refine wpList_store_row rfl 75 _ _ rfl (w1.heap.size + 1) #[.int .i64 (placeN m cc).i, .int .i64 (placeN m cc).k] rfl rfl 75 #[.int .i64 0, .int .i64 0] (HZ1.out (gcells n m (pad (flat ss)))).2 Try.size_place rfl (int2_one _ _) ?_)
    have HBW := hid (HB2.out (gcells n m (pad (flat ss))) #[.int .i64 (placeN m cc).i, .int .i64 (placeN m cc).k])
    generalize (((w1.alloc (.cells zeroG 57)).alloc (.cells #[.int .i64 0, .int .i64 0] 75)).setRow w1.heap.size (gcells n m (pad (flat ss)))).setRow (w1.heap.size + 1) #[.int .i64 (placeN m cc).i, .int .i64 (placeN m cc).k] = W0 at *
    refine wp_region_rel (by kernel_rfl) (by kernel_rfl) 7 rfl (fun us => { tmps := #[.slice A ss.length c, .int .i64 cell, undef, undef, us 5, us 6, .pointer (some ⟨w1.heap.size, 0, none⟩), .pointer (some ⟨w1.heap.size + 1, 0, none⟩), .bool true,
      .tuple #[.agg (gcells n m (pad (flat ss))), .agg #[.int .i64 (placeN m cc).i, .int .i64 (placeN m cc).k], .bool true], .slice A ss.length c, .int .i64 cell, .tuple #[.agg (gcells n m (pad (flat ss))), .agg #[.int .i64 (placeN m cc).i, .int .i64 (placeN m cc).k], .bool true],
      .agg (gcells n m (pad (flat ss))), .agg #[.int .i64 (placeN m cc).i, .int .i64 (placeN m cc).k], .bool true, .bool true, .bool false, us 0, us 1, us 2, us 3, us 4], defers := [] }) (fun k => if k = 5 then .int .i64 0 else if k = 6 then .bool false else undef) rfl (deltaIRel n m cc (pad (flat ss)) ob dv) (fun i v W W' h hb => ?_) (fun i us v hi => ?_) (fun i us W hi hb hd => ?_) (fun us W hb hr => ?_)
    · unfold deltaIRel at h ⊢
      split at h <;> try exact h
      exact h.below hb
    · match i, hi with
      | 0, _ => rfl
      | 1, _ => rfl
      | 2, _ => rfl
      | 3, _ => rfl
      | 4, _ => rfl
      | 5, _ => rfl
      | 6, _ => rfl
    · have L0 := hid ((hb.block _ (lt_of_block HG1.out)).trans HG1.out)
      have L1 := hid ((hb.block _ (lt_of_block HP1.out)).trans HP1.out)
      have hoi : ((ob.toNat : Nat) : Int) = 46 := by rw [← HOB.out]; rfl
      rw [hoi] at HEX
      match i, hi with
      | 0, _ => exact wpOp_val rfl rfl (exec_load_row 57 _ rfl w1.heap.size rfl 57 (gcells n m (pad (flat ss))) (0, 0) _ L0.out Try.underlying57 rfl HS.out) rfl
      | 1, _ => exact wpOp_val rfl rfl (exec_load_row 57 _ rfl w1.heap.size rfl 57 (gcells n m (pad (flat ss))) (0, 0) _ L0.out Try.underlying57 rfl HS.out) rfl
      | 2, _ => exact wpOp_val rfl rfl (exec_load_row 75 _ rfl (w1.heap.size + 1) rfl 75 #[.int .i64 (placeN m cc).i, .int .i64 (placeN m cc).k] (0, 0) _ L1.out Try.underlying75 rfl Try.size_place) rfl
      | 3, _ =>
        have h0 : us 1 = _ := hd _ rfl { on := 1, ground := .data } (by simp) rfl
        have h1 : us 2 = _ := hd _ rfl { on := 2, ground := .data } (by simp) rfl
        rw [h0, h1]
        exact wpOp_call rfl rfl (by go_simp) (HEX.out W)
      | 4, _ =>
        have h0 : us 0 = _ := hd _ rfl { on := 0, ground := .data } (by simp) rfl
        have h1 : ChangeV W n m (pad (flat ss)) (placeN m cc) ob (us 3) := hd _ rfl { on := 3, ground := .data } (by simp) rfl
        have hc := (HDE2.out (us 3) W h1).mono (R' := fun e w'' => ∃ v, e = .returned v ∧ deltaIRel n m cc (pad (flat ss)) ob dv 4 v w'' ∧ Below W.heap.size W w'') fun e w'' ⟨he, hb'⟩ => ⟨_, he, rfl, hb'⟩
        obtain ⟨g0, g1, g2, e3, _⟩ := h1
        rw [e3] at hc
        rw [h0, e3]
        exact wpOp_call rfl rfl (by go_simp) hc
      | 5, _ =>
        have h0 : us 4 = _ := hd _ rfl { on := 4, ground := .data } (by simp) rfl
        rw [h0]
        exact wpOp_val rfl rfl (by go_simp) rfl
      | 6, _ => exact wpOp_val rfl rfl (by go_simp) rfl
    · have h5 : us 5 = _ := hr 5 (by omega)
      have h6 : us 6 = _ := hr 6 (by omega)
      rw [h5, h6]
      have HB4 := hid (HBW.out.trans (hb.mono HBW.out.size))
      clear hr hb
      go_wp2_with fail
      refine bodyPost_ret (results_tmp2 rfl _ _ _) rfl ?_
      exact ⟨HB4.out, _, true, rfl, .inl ⟨n, m, cc, HMI.out, by unfold emptyR; rw [← HDV.out]; rw [← HOB.out]⟩⟩
  · have HNo := hid hno
    clear hno
    have HBW := hid (HB2.out zeroG #[.int .i64 0, .int .i64 0])
    go_wp2_with (first
      | refine wpList_store_row rfl 57 _ _ rfl w1.heap.size zeroG rfl rfl 57 zeroG (HZ1.out zeroG).1 Try.size_grid rfl (gcells_one 0 0 (pad [])) ?_
      | refine wpList_store_row rfl 75 _ _ rfl (w1.heap.size + 1) #[.int .i64 0, .int .i64 0] rfl rfl 75 #[.int .i64 0, .int .i64 0] (HZ1.out zeroG).2 Try.size_place rfl (int2_one _ _) ?_)
    refine bodyPost_ret (results_tmp2 rfl _ _ _) rfl ?_
    exact ⟨HBW.out, 0, false, rfl, .inr ⟨HNo.out, rfl, rfl⟩⟩

end Go.Proofs.Ytmdgbcepjnfbnaa
