/- BeamTwice and CrossSelf of the program, by their contracts. -/
import Derived.Test.YtagnecclhmbofaaTwiceS
import Derived.Test.YtagnecclhmbofaaCrossM
namespace Go.Proofs.Ytagnecclhmbofaa
open Go.RowKit Go.Shelf

theorem twP_length (n m : Nat) (t : Int → Int → UInt8) (q : Nat) : (twP n m t q).length = (List.range (n * m)).countP fun c => (bcells n m t q).count c == 2 := by
  unfold twP
  rw [List.length_map, List.countP_eq_length_filter]
theorem twP_in {n m : Nat} {t : Int → Int → UInt8} {q : Nat} : ∀ p ∈ twP n m t q, 0 ≤ p.1 ∧ p.1 < n ∧ 0 ≤ p.2 ∧ p.2 < m := fun p hp => by
  unfold twP at hp
  obtain ⟨c, hc, rfl⟩ := List.mem_map.1 hp
  have hlt := List.mem_range.1 (List.mem_filter.1 hc).1
  have hm : 0 < m := by
    rcases Nat.eq_zero_or_pos m with h0 | h0
    · subst h0; simp at hlt
    · exact h0
  have h2 : c / m < n := by rw [Nat.div_lt_iff_lt_mul hm]; exact hlt
  have h3 : c % m < m := Nat.mod_lt _ hm
  exact ⟨Int.natCast_nonneg _, Int.ofNat_lt.2 h2, Int.natCast_nonneg _, Int.ofNat_lt.2 h3⟩
def selfR (n m : Nat) (t : Int → Int → UInt8) (q : Nat) : Int × Bool := (((selfN n m t q : Nat) : Int), true)

set_option maxRecDepth 100000 in
set_option maxHeartbeats 2000000 in
theorem implBeamTwice_any (A : Option Addr) (c : Nat) (ss : List ByteArray) (p : Int) (w : World) (h : Strs w w.heap.size A ss) (hn : ss.length ≤ 1048576) (hs : ∀ s ∈ ss, s.size ≤ 1048576) :
    Calls Try.prog 16 #[.slice A ss.length c, .int .i64 p] w fun e w' => Below w.heap.size w w' ∧ ∃ x ok, e = .returned (.tuple #[.int .i64 x, .bool ok]) ∧ BeamOut twiceR ss p x ok := by
  have HR := hid (gridWithPort_any A c ss p w h hn hs)
  clear h hs
  go_enter Try.func16, Try.ntmps16
  go_wp2_with fail
  refine HR.out.mono ?_
  rintro e w1 ⟨hbel, ⟨n, m, q, hq, rfl⟩ | ⟨hno, rfl⟩⟩
  · have HB := hid hbel
    have hg := hq.1
    obtain rfl := hq.2.1
    have HQ := hid hq
    have hn5 := hg.2.2.1
    have hm5 := hg.2.2.2.2.1
    have HGC := hid (show (gcells n m (pad (flat ss))).size = 27 from hg.csize)
    have HONE := hid (gcells_one n m (pad (flat ss)))
    have HNEW := hid (fun w' => newTrace_any (gcells n m (pad (flat ss))) HGC.out HONE.out w')
    have HASK := hid (show ∀ b xs w', MapOf w' b xs → Calls Try.prog 45 #[.agg (tcells (gcells n m (pad (flat ss))) b), .int .i64 q] w' fun e w'' => (∃ v, e = .returned v) ∧ MapOf w'' b (waysL (bway n m (lett m (pad (flat ss))) q) (blen n m (lett m (pad (flat ss))) q)) ∧ w'.grownBy w'' (some b) from fun b xs w' hm => ask_any n m q _ b (pad (flat ss)) xs w' rfl hg.plen hn5 hm5 hq.2.2 hm)
    have HTW := hid (fun b w' hm => twice_any n m q b (pad (flat ss)) w' hg.plen hn5 hg.2.2.2.1 hm5 hq.2.2 hm)
    have HRR := hid (show ((((twP n m (lett m (pad (flat ss))) q).length : Nat) : Int), true) = twiceR n m (lett m (pad (flat ss))) q by unfold twiceR; rw [twP_length])
    clear hbel hq
    generalize waysL (bway n m (lett m (pad (flat ss))) q) (blen n m (lett m (pad (flat ss))) q) = wl at *
    generalize twP n m (lett m (pad (flat ss))) q = tp at *
    generalize gcells n m (pad (flat ss)) = cs at *
    clear hg
    have HS := hid (show (Try.prog.info? 46).map (·.size) = some cs.size by rw [HGC.out]; exact Try.size_grid)
    have HST := hid (fun b => show (Try.prog.info? 51).map (·.size) = some (tcells cs b).size by rw [tcells_size HGC.out]; exact Try.size_trace)
    have HTO := hid (fun b => tcells_one HONE.out b)
    have HTZ := hid (fun b => show zeroT.size = (tcells cs b).size by rw [tcells_size HGC.out]; rfl)
    have HZ := hid (show zeroG.size = cs.size by rw [HGC.out]; rfl)
    have HL := hid (setRow_heap (w1.alloc (.cells zeroG 46)) w1.heap.size zeroG cs 46 (0, 0) (heap_new0 w1 _))
    have HW := hid (HB.out.trans (below_setRow' ((Below.refl _ w1).alloc HB.out.size (.cells zeroG 46)) HB.out.size cs))
    have HWS1 := hid (show ((w1.alloc (.cells zeroG 46)).setRow w1.heap.size cs).heap.size = w1.heap.size + 1 by simp)
    generalize hX : (w1.alloc (.cells zeroG 46)).setRow w1.heap.size cs = X at HL HW HWS1
    have HX := hid hX
    clear hX
    go_wp2_with (first
      | (refine wpList_store_row rfl 46 _ _ rfl w1.heap.size cs rfl rfl 46 zeroG (heap_new0 w1 _) HS.out HZ.out HONE.out ?_; rw [HX.out])
      | refine wpList_load_row rfl 46 _ rfl w1.heap.size rfl 46 cs (0, 0) _ HL.out Try.underlying46 rfl HS.out ?_)
    refine (HNEW.out _).mono ?_
    rintro e w2 ⟨rfl, hm2, hb2⟩
    have HM2 := hid hm2
    have HB2 := hid hb2
    have HBX := hid (show w1.heap.size < X.heap.size by rw [HWS1.out]; omega)
    have HXW := hid (show w.heap.size ≤ X.heap.size from by have := HB.out.size; have := HBX.out; omega)
    clear hm2 hb2
    generalize hbb : X.heap.size + 2 = b at *
    have HBB := hid hbb
    clear hbb
    have HN2 := hid (heap_new0 w2 (.cells zeroT 51))
    have HL2 := hid (setRow_heap (w2.alloc (.cells zeroT 51)) w2.heap.size zeroT (tcells cs b) 51 (0, 0) (heap_new0 w2 _))
    have HM3 := hid (show MapOf ((w2.alloc (.cells zeroT 51)).setRow w2.heap.size (tcells cs b)) b ([] : List Wy) from (HM2.out.alloc _).kept (setRow_other _ _ _ _ (by have := HM2.out.lt; omega)))
    have HB3 := hid (show Below w.heap.size w ((w2.alloc (.cells zeroT 51)).setRow w2.heap.size (tcells cs b)) from
      (HW.out.trans (HB2.out.mono HXW.out)).trans (below_setRow' ((Below.refl _ w2).alloc (by have := HB2.out.size; have := HXW.out; omega) _) (by have := HB2.out.size; have := HXW.out; omega) _))
    generalize hY : (w2.alloc (.cells zeroT 51)).setRow w2.heap.size (tcells cs b) = Y at HL2 HM3 HB3
    have HY := hid hY
    have HKY : ∀ (g : Nat) (o : Obj), w2.heap[g]? = some o → Y.heap[g]? = some o := fun g o h => by rw [← hY, setRow_other _ _ _ _ (by have := lt_of_block h; omega), Below.heap_alloc _ _ _ (lt_of_block h)]; exact h
    clear hY
    go_wp2_with (first
      | (refine wpList_store_row rfl 51 _ _ rfl w2.heap.size (tcells cs b) rfl rfl 51 zeroT HN2.out (HST.out b) (HTZ.out b) (HTO.out b) ?_; rw [HY.out])
      | refine wpList_load_row rfl 51 _ rfl w2.heap.size rfl 51 (tcells cs b) (0, 0) _ HL2.out Try.underlying51 rfl (HST.out b) ?_)
    refine (HASK.out b _ Y HM3.out).mono ?_
    rintro e w3 ⟨⟨v3, rfl⟩, hm3, hg3⟩
    have HL3 := hid (show w3.heap[w2.heap.size]? = some (.cells (tcells cs b) 51 (0, 0)) from (hg3.block _ (lt_of_block HL2.out) (by have := HM2.out.lt; intro e; cases e; omega)).trans HL2.out)
    have HM4 := hid hm3
    have HB4 := hid (show Below w.heap.size w w3 from HB3.out.trans (below_grown hg3 HB3.out.size (by have := HBB.out; have := HXW.out; omega)))
    have HK2 := hid (show w2.heap[w1.heap.size]? = some (.cells cs 46 (0, 0)) from (HB2.out.block _ HBX.out).trans HL.out)
    have HK3 := hid (show w3.heap[w1.heap.size]? = some (.cells cs 46 (0, 0)) from (hg3.block _ (lt_of_block (HKY w1.heap.size _ HK2.out)) (by have := HBB.out; have := HBX.out; intro e; cases e; omega)).trans (HKY w1.heap.size _ HK2.out))
    clear hm3 hg3 HKY
    go_wp2_with (refine wpList_load_row rfl 51 _ rfl w2.heap.size rfl 51 (tcells cs b) (0, 0) _ HL3.out Try.underlying51 rfl (HST.out b) ?_)
    refine (HTW.out b w3 HM4.out).mono ?_
    rintro e w4 ⟨v, rfl, hgp, hb4⟩
    obtain ⟨A', c', rfl⟩ := hgp.slice
    have HB5 := hid (HB4.out.trans (hb4.mono HB4.out.size))
    clear hgp hb4
    go_wp2_with fail
    refine bodyPost_ret (results_tmp2 rfl _ _ _) rfl ?_
    exact ⟨HB5.out, _, true, rfl, .inl ⟨n, m, q, HQ.out, HRR.out⟩⟩
  · have HB := hid hbel
    have HGr := hid hno
    clear hbel hno
    go_wp2_with (refine wpList_store_row rfl 46 _ _ rfl w1.heap.size zeroG rfl rfl 46 zeroG (heap_new0 w1 _) Try.size_grid rfl (gcells_one 0 0 (pad [])) ?_)
    refine bodyPost_ret (results_tmp2 rfl _ _ _) rfl ?_
    exact ⟨HB.out.trans (below_setRow' ((Below.refl _ w1).alloc HB.out.size _) HB.out.size _), 0, false, rfl, .inr ⟨HGr.out, rfl, rfl⟩⟩

/-- What the operations of CrossSelf's last statement hand back. -/
def crossSelfRel (m : Nat) (ls : List UInt8) (cs : Array Value) (b : Nat) (tp : List (Int × Int)) (i : Nat) (v : Value) (W : World) : Prop :=
  match i with
  | 0 => v = .agg cs
  | 1 => v = .agg (tcells cs b)
  | 2 => ∃ A c, v = .slice A tp.length c ∧ Plcs W A tp
  | 3 => v = .int .i64 ((emptN m ls tp : Nat) : Int)
  | 4 => v = .int .i64 ((emptN m ls tp : Nat) : Int)
  | 5 => v = .bool true
  | _ => True

set_option maxRecDepth 100000 in
set_option maxHeartbeats 2000000 in
theorem implCrossSelf_any (A : Option Addr) (c : Nat) (ss : List ByteArray) (p : Int) (w : World) (h : Strs w w.heap.size A ss) (hn : ss.length ≤ 1048576) (hs : ∀ s ∈ ss, s.size ≤ 1048576) :
    Calls Try.prog 23 #[.slice A ss.length c, .int .i64 p] w fun e w' => Below w.heap.size w w' ∧ ∃ x ok, e = .returned (.tuple #[.int .i64 x, .bool ok]) ∧ BeamOut selfR ss p x ok := by
  have HR := hid (gridWithPort_any A c ss p w h hn hs)
  clear h hs
  go_enter Try.func23, Try.ntmps23
  go_wp2_with fail
  refine HR.out.mono ?_
  rintro e w1 ⟨hbel, ⟨n, m, q, hq, rfl⟩ | ⟨hno, rfl⟩⟩
  · have HB := hid hbel
    have hg := hq.1
    obtain rfl := hq.2.1
    have HQ := hid hq
    have hn5 := hg.2.2.1
    have hm5 := hg.2.2.2.2.1
    have HGC := hid (show (gcells n m (pad (flat ss))).size = 27 from hg.csize)
    have HONE := hid (gcells_one n m (pad (flat ss)))
    have HNEW := hid (fun w' => newTrace_any (gcells n m (pad (flat ss))) HGC.out HONE.out w')
    have HASK := hid (show ∀ b xs w', MapOf w' b xs → Calls Try.prog 45 #[.agg (tcells (gcells n m (pad (flat ss))) b), .int .i64 q] w' fun e w'' => (∃ v, e = .returned v) ∧ MapOf w'' b (waysL (bway n m (lett m (pad (flat ss))) q) (blen n m (lett m (pad (flat ss))) q)) ∧ w'.grownBy w'' (some b) from fun b xs w' hm => ask_any n m q _ b (pad (flat ss)) xs w' rfl hg.plen hn5 hm5 hq.2.2 hm)
    have HTW := hid (fun b w' hm => twice_any n m q b (pad (flat ss)) w' hg.plen hn5 hg.2.2.2.1 hm5 hq.2.2 hm)
    have HRR := hid (show (((emptN m (pad (flat ss)) (twP n m (lett m (pad (flat ss))) q) : Nat) : Int), true) = selfR n m (lett m (pad (flat ss))) q by unfold selfR; rw [empt_twP])
    have HTL := hid (show (twP n m (lett m (pad (flat ss))) q).length ≤ 100 by
      rw [twP_length]
      have := List.countP_le_length (p := fun c => (bcells n m (lett m (pad (flat ss))) q).count c == 2) (l := List.range (n * m))
      rw [List.length_range] at this
      have := hg.le25
      omega)
    have HEM := hid (fun A c w' (h : Plcs w' A (twP n m (lett m (pad (flat ss))) q)) => empties_any n m (pad (flat ss)) A c (twP n m (lett m (pad (flat ss))) q) w' hg.plen hn5 hm5 HTL.out twP_in h)
    clear hbel hq
    generalize waysL (bway n m (lett m (pad (flat ss))) q) (blen n m (lett m (pad (flat ss))) q) = wl at *
    generalize twP n m (lett m (pad (flat ss))) q = tp at *
    generalize gcells n m (pad (flat ss)) = cs at *
    clear hg
    have HS := hid (show (Try.prog.info? 46).map (·.size) = some cs.size by rw [HGC.out]; exact Try.size_grid)
    have HST := hid (fun b => show (Try.prog.info? 51).map (·.size) = some (tcells cs b).size by rw [tcells_size HGC.out]; exact Try.size_trace)
    have HTO := hid (fun b => tcells_one HONE.out b)
    have HTZ := hid (fun b => show zeroT.size = (tcells cs b).size by rw [tcells_size HGC.out]; rfl)
    have HZ := hid (show zeroG.size = cs.size by rw [HGC.out]; rfl)
    have HL := hid (setRow_heap (w1.alloc (.cells zeroG 46)) w1.heap.size zeroG cs 46 (0, 0) (heap_new0 w1 _))
    have HW := hid (HB.out.trans (below_setRow' ((Below.refl _ w1).alloc HB.out.size (.cells zeroG 46)) HB.out.size cs))
    have HWS1 := hid (show ((w1.alloc (.cells zeroG 46)).setRow w1.heap.size cs).heap.size = w1.heap.size + 1 by simp)
    generalize hX : (w1.alloc (.cells zeroG 46)).setRow w1.heap.size cs = X at HL HW HWS1
    have HX := hid hX
    clear hX
    go_wp2_with (first
      | (refine wpList_store_row rfl 46 _ _ rfl w1.heap.size cs rfl rfl 46 zeroG (heap_new0 w1 _) HS.out HZ.out HONE.out ?_; rw [HX.out])
      | refine wpList_load_row rfl 46 _ rfl w1.heap.size rfl 46 cs (0, 0) _ HL.out Try.underlying46 rfl HS.out ?_)
    refine (HNEW.out _).mono ?_
    rintro e w2 ⟨rfl, hm2, hb2⟩
    have HM2 := hid hm2
    have HB2 := hid hb2
    have HBX := hid (show w1.heap.size < X.heap.size by rw [HWS1.out]; omega)
    have HXW := hid (show w.heap.size ≤ X.heap.size from by have := HB.out.size; have := HBX.out; omega)
    clear hm2 hb2
    generalize hbb : X.heap.size + 2 = b at *
    have HBB := hid hbb
    clear hbb
    have HN2 := hid (heap_new0 w2 (.cells zeroT 51))
    have HL2 := hid (setRow_heap (w2.alloc (.cells zeroT 51)) w2.heap.size zeroT (tcells cs b) 51 (0, 0) (heap_new0 w2 _))
    have HM3 := hid (show MapOf ((w2.alloc (.cells zeroT 51)).setRow w2.heap.size (tcells cs b)) b ([] : List Wy) from (HM2.out.alloc _).kept (setRow_other _ _ _ _ (by have := HM2.out.lt; omega)))
    have HB3 := hid (show Below w.heap.size w ((w2.alloc (.cells zeroT 51)).setRow w2.heap.size (tcells cs b)) from
      (HW.out.trans (HB2.out.mono HXW.out)).trans (below_setRow' ((Below.refl _ w2).alloc (by have := HB2.out.size; have := HXW.out; omega) _) (by have := HB2.out.size; have := HXW.out; omega) _))
    generalize hY : (w2.alloc (.cells zeroT 51)).setRow w2.heap.size (tcells cs b) = Y at HL2 HM3 HB3
    have HY := hid hY
    have HKY : ∀ (g : Nat) (o : Obj), w2.heap[g]? = some o → Y.heap[g]? = some o := fun g o h => by rw [← hY, setRow_other _ _ _ _ (by have := lt_of_block h; omega), Below.heap_alloc _ _ _ (lt_of_block h)]; exact h
    clear hY
    go_wp2_with (first
      | (refine wpList_store_row rfl 51 _ _ rfl w2.heap.size (tcells cs b) rfl rfl 51 zeroT HN2.out (HST.out b) (HTZ.out b) (HTO.out b) ?_; rw [HY.out])
      | refine wpList_load_row rfl 51 _ rfl w2.heap.size rfl 51 (tcells cs b) (0, 0) _ HL2.out Try.underlying51 rfl (HST.out b) ?_)
    refine (HASK.out b _ Y HM3.out).mono ?_
    rintro e w3 ⟨⟨v3, rfl⟩, hm3, hg3⟩
    have HL3 := hid (show w3.heap[w2.heap.size]? = some (.cells (tcells cs b) 51 (0, 0)) from (hg3.block _ (lt_of_block HL2.out) (by have := HM2.out.lt; intro e; cases e; omega)).trans HL2.out)
    have HM4 := hid hm3
    have HB4 := hid (show Below w.heap.size w w3 from HB3.out.trans (below_grown hg3 HB3.out.size (by have := HBB.out; have := HXW.out; omega)))
    have HK2 := hid (show w2.heap[w1.heap.size]? = some (.cells cs 46 (0, 0)) from (HB2.out.block _ HBX.out).trans HL.out)
    have HK3 := hid (show w3.heap[w1.heap.size]? = some (.cells cs 46 (0, 0)) from (hg3.block _ (lt_of_block (HKY w1.heap.size _ HK2.out)) (by have := HBB.out; have := HBX.out; intro e; cases e; omega)).trans (HKY w1.heap.size _ HK2.out))
    clear hm3 hg3 HKY
    go_wp2_with fail
    have HRX := hid (show ∀ x : Int, x = ((emptN m (pad (flat ss)) tp : Nat) : Int) → (x, true) = selfR n m (lett m (pad (flat ss))) q from fun x hx => by rw [hx]; exact HRR.out)
    refine wp_region_rel (by kernel_rfl) (by kernel_rfl) 6 rfl (fun us => { tmps := #[.slice A ss.length c, .int .i64 (q : Int), undef, undef, us 4, us 5, .pointer (some ⟨w1.heap.size, 0, none⟩), .bool true, .pointer (some ⟨w2.heap.size, 0, none⟩), .tuple #[.agg cs, .bool true], .slice A ss.length c, .int .i64 (q : Int), .tuple #[.agg cs, .bool true],
      .agg cs, .bool true, .bool true, .bool false, .agg cs, .agg (tcells cs b), .agg (tcells cs b), .int .i64 (q : Int), v3, us 0, us 1, us 2, us 3], defers := [] }) (fun k => if k = 4 then .int .i64 0 else if k = 5 then .bool false else undef) rfl (crossSelfRel m (pad (flat ss)) cs b tp) (fun i v W W' h hb => ?_) (fun i us v hi => ?_) (fun i us W hi hb hd => ?_) (fun us W hb hr => ?_)
    · unfold crossSelfRel at h ⊢
      split at h <;> try exact h
      obtain ⟨A', c', h1, h2⟩ := h
      exact ⟨A', c', h1, h2.below hb⟩
    · match i, hi with
      | 0, _ => rfl
      | 1, _ => rfl
      | 2, _ => rfl
      | 3, _ => rfl
      | 4, _ => rfl
      | 5, _ => rfl
    · have L0 := hid ((hb.block _ (lt_of_block HK3.out)).trans HK3.out)
      have L1 := hid ((hb.block _ (lt_of_block HL3.out)).trans HL3.out)
      have LM := hid (HM4.out.kept (hb.block _ HM4.out.lt))
      match i, hi with
      | 0, _ => exact wpOp_val rfl rfl (exec_load_row 46 _ rfl w1.heap.size rfl 46 cs (0, 0) _ L0.out Try.underlying46 rfl HS.out) rfl
      | 1, _ => exact wpOp_val rfl rfl (exec_load_row 51 _ rfl w2.heap.size rfl 51 (tcells cs b) (0, 0) _ L1.out Try.underlying51 rfl (HST.out b)) rfl
      | 2, _ =>
        have h1 : us 1 = _ := hd _ rfl { on := 1, ground := .data } (by simp) rfl
        rw [h1]
        exact wpOp_call rfl rfl (by go_simp) ((HTW.out b W LM.out).mono fun e w'' ⟨v, he, hgp, hb'⟩ => by
          obtain ⟨A', c', rfl, hpl⟩ := hgp.plcs
          exact ⟨_, he, ⟨A', c', rfl, hpl⟩, hb'⟩)
      | 3, _ =>
        have h0 : us 0 = _ := hd _ rfl { on := 0, ground := .data } (by simp) rfl
        obtain ⟨A', c', h2, hpl⟩ : ∃ A c, us 2 = .slice A tp.length c ∧ Plcs W A tp := hd _ rfl { on := 2, ground := .data } (by simp) rfl
        rw [h0, h2]
        exact wpOp_call rfl rfl (by go_simp) ((HEM.out A' c' W hpl).mono fun e w'' ⟨he, hb'⟩ => ⟨_, he, rfl, hb'⟩)
      | 4, _ =>
        have h3 : us 3 = _ := hd _ rfl { on := 3, ground := .data } (by simp) rfl
        rw [h3]
        exact wpOp_val rfl rfl (by go_simp) rfl
      | 5, _ => exact wpOp_val rfl rfl (by go_simp) rfl
    · have h4 : us 4 = _ := hr 4 (by omega)
      have h5 : us 5 = _ := hr 5 (by omega)
      rw [h4, h5]
      have HB5 := hid (HB4.out.trans (hb.mono HB4.out.size))
      clear hr hb
      go_wp2_with fail
      refine bodyPost_ret (results_tmp2 rfl _ _ _) rfl ?_
      exact ⟨HB5.out, _, true, rfl, .inl ⟨n, m, q, HQ.out, HRX.out _ rfl⟩⟩
  · have HB := hid hbel
    have HGr := hid hno
    clear hbel hno
    go_wp2_with (refine wpList_store_row rfl 46 _ _ rfl w1.heap.size zeroG rfl rfl 46 zeroG (heap_new0 w1 _) Try.size_grid rfl (gcells_one 0 0 (pad [])) ?_)
    refine bodyPost_ret (results_tmp2 rfl _ _ _) rfl ?_
    exact ⟨HB.out.trans (below_setRow' ((Below.refl _ w1).alloc HB.out.size _) HB.out.size _), 0, false, rfl, .inr ⟨HGr.out, rfl, rfl⟩⟩
end Go.Proofs.Ytagnecclhmbofaa
