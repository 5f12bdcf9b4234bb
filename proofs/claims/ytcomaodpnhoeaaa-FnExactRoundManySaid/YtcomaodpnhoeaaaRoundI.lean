/- RoundMany, RoundLeast of the program, by their contracts. -/
import Derived.Test.YtcomaodpnhoeaaaRoundS
import Derived.Test.YtcomaodpnhoeaaaRounds
import Derived.Test.YtcomaodpnhoeaaaRead
namespace Go.Proofs.Ytcomaodpnhoeaaa
open Go.RowKit Go.Shelf

theorem RoundsOf.slice {w : World} {base g n m x : Nat} {t : Int → Int → UInt8} {v : Value} (h : RoundsOf w base g n m t x v) : ∃ A c, v = .slice A (leadsTo n m t x).length c := by
  obtain ⟨vs, h1, h2, _⟩ := h
  rw [← h2]
  rcases h1.2 with ⟨rfl, h0⟩ | ⟨b, cap, cur, rfl, _⟩
  · rw [h0]; exact ⟨_, _, rfl⟩
  · exact ⟨_, _, rfl⟩
/-- The first round, and its first step. -/
theorem RoundsOf.first {w : World} {base g n m x c : Nat} {t : Int → Int → UInt8} {v : Value} (h : RoundsOf w base g n m t x v) (hc : (leadsTo n m t x).head? = some c) :
    ∃ b cap b2 l2 cap2, v = .slice (some ⟨b, 0, none⟩) (leadsTo n m t x).length cap ∧ 0 < l2 ∧ w.cell? ⟨b, 0, none⟩ = some (.slice (some ⟨b2, 0, none⟩) l2 cap2) ∧ w.cell? ⟨b2, 0, none⟩ = some (.pointer (some ⟨g, 5 * c, none⟩)) := by
  have hlead := (leadsTo_mem (List.mem_of_mem_head? hc)).2
  have hlt := (leadsTo_mem (List.mem_of_mem_head? hc)).1
  obtain ⟨vs, h1, h2, h3⟩ := h
  rw [List.head?_eq_getElem?] at hc
  obtain ⟨u, h4, b2, cap2, rfl, _, _, h5⟩ := h3 0 c hc
  have hpos : 0 < vs.length := (List.getElem?_eq_some_iff.1 h4).1
  rcases h1.2 with ⟨_, h0⟩ | ⟨b, cap, cur, rfl, _, hg, _, _, _, ht⟩
  · omega
  · have hon := (lead_iff.1 hlead).1
    have hL : 0 < (ringN n m t (wayN m c)).length := by
      rw [ringN_length]
      unfold goL
      rw [if_pos hon]
      exact (rlen_facts (wayN_d c) hon).1
    refine ⟨b, cap, b2, _, cap2, by rw [h2], hL, ?_, h5 0 c ?_⟩
    · rw [cell_of_row _ _ _ _ _ _ hg]
      rw [← ht, List.getElem?_take_of_lt (by omega)] at h4
      rw [← Array.getElem?_toList, h4]
    · unfold ringN
      rw [ringN_length] at hL
      rw [List.getElem?_map, List.getElem?_range hL]
      simp [iter, wcode_way]

set_option maxRecDepth 100000 in
set_option maxHeartbeats 2000000 in
theorem implRoundMany_any (A : Option Addr) (c : Nat) (ss : List ByteArray) (w : World) (h : Strs w w.heap.size A ss) (hn : ss.length ≤ 1048576) (hs : ∀ s ∈ ss, s.size ≤ 1048576) :
    Calls Try.prog 63 #[.slice A ss.length c] w fun e w' => Below w.heap.size w w' ∧ ∃ x ok, e = .returned (.tuple #[.int .i64 x, .bool ok]) ∧ GridOut manyR ss x ok := by
  have HR := hid (readGrid_any A c ss w h hn hs)
  clear h hs
  go_enter Try.func63, Try.ntmps63
  go_wp2_with fail
  refine HR.out.mono ?_
  rintro e w1 ⟨hbel, ⟨n, m, hg, rfl⟩ | ⟨hno, rfl⟩⟩
  · have HB := hid hbel
    have HGr := hid hg
    have HS := hid (show (Try.prog.info? 60).map (·.size) = some (gcells n m (pad (flat ss))).size by rw [hg.csize]; exact Try.size_grid)
    have HZ := hid (show zeroG.size = (gcells n m (pad (flat ss))).size by rw [hg.csize]; rfl)
    have HL := hid (setRow_heap (w1.alloc (.cells zeroG 60)) w1.heap.size zeroG (gcells n m (pad (flat ss))) 60 (0, 0) (heap_new0 w1 _))
    have HW := hid (HB.out.trans (below_setRow' ((Below.refl _ w1).alloc HB.out.size (.cells zeroG 60)) HB.out.size (gcells n m (pad (flat ss)))))
    have HNC := hid (fun w' => newChart_any n m (4 * (n * m)) (n * m) (pad (flat ss)) w' hg.plen hg.2.2.1 hg.2.2.2.1 hg.2.2.2.2.1 rfl rfl)
    have HRS := hid (fun g w' hst => rounds_any n m g (4 * (n * m)) (pad (flat ss)) w' hg.plen hg.2.2.1 hg.2.2.2.2.1 rfl hst)
    clear hbel hg
    go_wp2_with (first
      | refine wpList_store_row rfl 60 _ _ rfl w1.heap.size (gcells n m (pad (flat ss))) rfl rfl 60 zeroG (heap_new0 w1 _) HS.out HZ.out (gcells_one _ _ _) ?_
      | refine wpList_load_row rfl 60 _ rfl w1.heap.size rfl 60 (gcells n m (pad (flat ss))) (0, 0) _ HL.out Try.underlying60 rfl HS.out ?_)
    refine (HNC.out _).mono ?_
    rintro e w2 ⟨g, _, rfl, hst, hb2⟩
    have HRR := hid (HRS.out g w2 hst)
    have HB2 := hid (HW.out.trans (hb2.mono HW.out.size))
    clear hb2 hst
    go_wp2_with fail
    refine HRR.out.mono ?_
    rintro e w3 ⟨v, rfl, hro, hb3⟩
    obtain ⟨A1, cc, rfl⟩ := hro.slice
    have HB3 := hid (HB2.out.trans (hb3.mono HB2.out.size))
    clear hb3 hro
    go_wp2_with fail
    refine bodyPost_ret (results_tmp2 rfl _ _ _) rfl ?_
    exact ⟨HB3.out, _, true, rfl, .inl ⟨n, m, HGr.out, rfl⟩⟩
  · have HB := hid hbel
    have HGr := hid hno
    clear hbel hno
    go_wp2_with (refine wpList_store_row rfl 60 _ _ rfl w1.heap.size zeroG rfl rfl 60 zeroG (heap_new0 w1 _) Try.size_grid rfl (gcells_one 0 0 (pad [])) ?_)
    refine bodyPost_ret (results_tmp2 rfl _ _ _) rfl ?_
    exact ⟨HB.out.trans (below_setRow' ((Below.refl _ w1).alloc HB.out.size _) HB.out.size _), 0, false, rfl, .inr ⟨HGr.out, rfl, rfl⟩⟩

set_option maxRecDepth 100000 in
set_option maxHeartbeats 2000000 in
theorem implRoundLeast_any (A : Option Addr) (c : Nat) (ss : List ByteArray) (w : World) (h : Strs w w.heap.size A ss) (hn : ss.length ≤ 1048576) (hs : ∀ s ∈ ss, s.size ≤ 1048576) :
    Calls Try.prog 71 #[.slice A ss.length c] w fun e w' => Below w.heap.size w w' ∧ ∃ x ok, e = .returned (.tuple #[.int .i64 x, .bool ok]) ∧ GridOut leastR ss x ok := by
  have HR := hid (readGrid_any A c ss w h hn hs)
  clear h hs
  go_enter Try.func71, Try.ntmps71
  go_wp2_with fail
  refine HR.out.mono ?_
  rintro e w1 ⟨hbel, ⟨n, m, hg, rfl⟩ | ⟨hno, rfl⟩⟩
  · have HB := hid hbel
    have HGr := hid hg
    have HS := hid (show (Try.prog.info? 60).map (·.size) = some (gcells n m (pad (flat ss))).size by rw [hg.csize]; exact Try.size_grid)
    have HZ := hid (show zeroG.size = (gcells n m (pad (flat ss))).size by rw [hg.csize]; rfl)
    have HL := hid (setRow_heap (w1.alloc (.cells zeroG 60)) w1.heap.size zeroG (gcells n m (pad (flat ss))) 60 (0, 0) (heap_new0 w1 _))
    have HW := hid (HB.out.trans (below_setRow' ((Below.refl _ w1).alloc HB.out.size (.cells zeroG 60)) HB.out.size (gcells n m (pad (flat ss)))))
    have HNC := hid (fun w' => newChart_any n m (4 * (n * m)) (n * m) (pad (flat ss)) w' hg.plen hg.2.2.1 hg.2.2.2.1 hg.2.2.2.2.1 rfl rfl)
    have HRS := hid (fun g w' hst => rounds_any n m g (4 * (n * m)) (pad (flat ss)) w' hg.plen hg.2.2.1 hg.2.2.2.2.1 rfl hst)
    have HCE := hid (fun q w' (hq : inG n m q) => cell_cells (gcells n m (pad (flat ss))) q.i q.k m (cellN m q) w' (gcells_1 n m _) (Nat.lt_of_lt_of_le (cellN_lt hq) hg.le25) (cellN_int hq) ⟨hq.1, Int.lt_of_lt_of_le hq.2.1 (by have := hg.2.2.1; omega)⟩ ⟨by omega, by have := hg.2.2.2.2.1; omega⟩)
    clear hbel hg
    go_wp2_with (first
      | refine wpList_store_row rfl 60 _ _ rfl w1.heap.size (gcells n m (pad (flat ss))) rfl rfl 60 zeroG (heap_new0 w1 _) HS.out HZ.out (gcells_one _ _ _) ?_
      | refine wpList_load_row rfl 60 _ rfl w1.heap.size rfl 60 (gcells n m (pad (flat ss))) (0, 0) _ HL.out Try.underlying60 rfl HS.out ?_)
    refine (HNC.out _).mono ?_
    rintro e w2 ⟨g, _, rfl, hst, hb2⟩
    have HRR := hid (HRS.out g w2 hst)
    have HST := hid hst
    have HB2 := hid (HW.out.trans (hb2.mono HW.out.size))
    have HL2 := hid ((hb2.block _ (lt_of_block HL.out)).trans HL.out)
    clear hb2 hst
    go_wp2_with fail
    refine HRR.out.mono ?_
    rintro e w3 ⟨v, rfl, hro, hb3⟩
    have HB3 := hid (HB2.out.trans (hb3.mono HB2.out.size))
    have HL3 := hid ((hb3.block _ (lt_of_block HL2.out)).trans HL2.out)
    have HST3 := hid (HST.out.below hb3)
    clear hb3
    cases hhd : (leads n m (lett m (pad (flat ss)))).head? with
    | none =>
      have hnil := List.head?_eq_none_iff.1 hhd
      obtain ⟨A1, cc, rfl⟩ := hro.slice
      rw [leadsTo_all, hnil]
      have HH := hid hhd
      clear hro hhd hnil
      go_wp2_with fail
      refine bodyPost_ret (results_tmp2 rfl _ _ _) rfl ?_
      exact ⟨HB3.out, 0, false, rfl, .inl ⟨n, m, HGr.out, by unfold leastR; rw [HH.out]⟩⟩
    | some l =>
      obtain ⟨b, cap, b2, l2, cap2, rfl, hl2, hcb, hcb2⟩ := hro.first (c := l) (by rw [leadsTo_all]; exact hhd)
      have hlm := leads_lt (List.mem_of_mem_head? hhd)
      have hxin := wayN_in hlm.1
      have hway := HST3.out.way hlm.1
      have hcn := cellN_way (m := m) l
      have HC4 := hid (fun w' => HCE.out (wayN m l) w' hxin)
      rw [hcn] at HC4
      have hlen0 : (((leads n m (lett m (pad (flat ss)))).length : Int) == 0) = false := by
        rw [beq_eq_false_iff_ne]
        intro e
        have h0 : leads n m (lett m (pad (flat ss))) = [] := List.eq_nil_of_length_eq_zero (by omega)
        rw [h0] at hhd
        cases hhd
      have hlpos : (0 : Int) < ((leads n m (lett m (pad (flat ss)))).length : Int) := by
        rw [beq_eq_false_iff_ne] at hlen0; omega
      have hl2i : (0 : Int) < (l2 : Int) := by omega
      rw [leadsTo_all]
      have HH := hid hhd
      have HWY := hid (show ∀ w', Cls w3 w' → w'.rangeAt g (5 * l) (#[.int .i64 (wayN m l).i, .int .i64 (wayN m l).k] : Array Value).toList from fun w' hw j v hj => by
        have h1 := (HST3.out.below hw).way hlm.1
        refine h1 j v ?_
        match j, hj with
        | 0, hj => exact hj
        | 1, hj => exact hj
        | j + 2, hj => simp at hj)
      have hb1 : b < w3.heap.size := World.block_lt_of_cell? w3 _ hcb
      have hb2 : b2 < w3.heap.size := World.block_lt_of_cell? w3 _ hcb2
      have HCB := hid (fun w' (hw : Cls w3 w') => (hw.cell (p := ⟨b, 0, none⟩) hb1).trans hcb)
      have HCB2 := hid (fun w' (hw : Cls w3 w') => (hw.cell (p := ⟨b2, 0, none⟩) hb2).trans hcb2)
      have HLL := hid (fun w' (hw : Cls w3 w') => (hw.block _ (lt_of_block HL3.out)).trans HL3.out)
      clear hro hhd hlm hxin hway hcn hcb hcb2 hb1 hb2
      generalize hll : (leads n m (lett m (pad (flat ss)))).length = K at hlen0 hlpos ⊢
      clear hll
      have hK0 : 0 < K := by omega
      go_wp2_with fail
      refine wp_region_quiet (C := Cls w3) (by kernel_rfl) (by kernel_rfl) (Below.refl _ w3).drew ?_
      refine wpQuiet_load_row rfl 60 _ rfl w1.heap.size rfl 60 (gcells n m (pad (flat ss))) (0, 0) _ HLL.out Try.underlying60 rfl HS.out ?_
      quiet_step ((intro _; rfl))
      quiet_step ((intro _; rfl))
      refine wpQuiet_value rfl (.slice (some ⟨b2, 0, none⟩) l2 cap2) (fun w' hw => by have hc := HCB.out w' hw; go_simp) ?_
      quiet_step ((intro _; rfl))
      refine wpQuiet_value rfl (.pointer (some ⟨g, 5 * l, none⟩)) (fun w' hw => by have hc := HCB2.out w' hw; go_simp) ?_
      quiet_step ((intro _; rfl))
      quiet_step ((intro _; rfl))
      quiet_step ((intro _; rfl))
      refine wpQuiet_load_mid rfl 71 _ rfl g (5 * l) rfl #[.int .i64 (wayN m l).i, .int .i64 (wayN m l).k] _ HWY.out Try.underlying71 rfl Try.size_place ?_
      refine wpQuiet_call rfl 120 #[.agg (gcells n m (pad (flat ss))), .agg #[.int .i64 (wayN m l).i, .int .i64 (wayN m l).k]] (.int .i64 ((l / 4 : Nat) : Int)) (fun w _ => by go_simp) (fun w' hw => (HC4.out w').mono fun e w'' ⟨he, hb'⟩ => ⟨he, hw.trans (hb'.mono hw.size)⟩) ?_
      quiet_step ((intro _; rfl))
      quiet_step ((intro _; rfl))
      refine wpQuiet_nil ?_
      intro w4 hw4
      have HB4 := hid (HB3.out.trans (hw4.mono HB3.out.size))
      clear hw4
      go_wp2_with fail
      refine bodyPost_ret (results_tmp2 rfl _ _ _) rfl ?_
      exact ⟨HB4.out, _, true, rfl, .inl ⟨n, m, HGr.out, by unfold leastR; rw [HH.out]; rfl⟩⟩
  · have HB := hid hbel
    have HGr := hid hno
    clear hbel hno
    go_wp2_with (refine wpList_store_row rfl 60 _ _ rfl w1.heap.size zeroG rfl rfl 60 zeroG (heap_new0 w1 _) Try.size_grid rfl (gcells_one 0 0 (pad [])) ?_)
    refine bodyPost_ret (results_tmp2 rfl _ _ _) rfl ?_
    exact ⟨HB.out.trans (below_setRow' ((Below.refl _ w1).alloc HB.out.size _) HB.out.size _), 0, false, rfl, .inr ⟨HGr.out, rfl, rfl⟩⟩

end Go.Proofs.Ytcomaodpnhoeaaa
