/- BeamLength of the specification and of the program, by their contracts. -/
import Derived.Test.YtpbppkidglmacaaTrace
import Derived.Test.YtpbppkidglmacaaPort
import Derived.Test.YtpbppkidglmacaaSpecTurns
namespace Go.Proofs.Ytpbppkidglmacaa
open Go.RowKit Go.Shelf

def lengthR (n m : Nat) (t : Int → Int → UInt8) (q : Nat) : Int × Bool := (((blen n m t q : Nat) : Int), true)

set_option maxRecDepth 100000 in
set_option maxHeartbeats 2000000 in
theorem specBeamLength_any (A : Option Addr) (c B : Nat) (ss : List ByteArray) (p : Int) (w : World) (h : Strs w B A ss) (hB : B ≤ w.heap.size) (hn : ss.length ≤ 1048576) (hs : ∀ s ∈ ss, s.size ≤ 1048576) :
    Calls Try.prog 24 #[.slice A ss.length c, .int .i64 p] w fun e w' => Below w.heap.size w w' ∧ ∃ x ok, e = .returned (.tuple #[.int .i64 x, .bool ok]) ∧ BeamOut lengthR ss p x ok := by
  have HI := hid (l2Given_any A c B ss p w h hn hs)
  have HD := hid h
  clear h hs
  go_enter Try.func24, Try.ntmps24
  go_wp2_with fail
  refine HI.out.mono ?_
  rintro e w' ⟨ok, rfl, hok, d, rfl⟩
  have HBd := hid (below_drewN' (Below.refl w.heap.size w) d)
  rcases hok with ⟨rfl, n, m, q, hq⟩ | ⟨rfl, hno⟩
  · obtain rfl := hq.2.1
    have c1 := hid (l2Way_port A c B n m q ss (w.drewN d) (HD.out.drewN d) hB hq.1 hq.2.2)
    have HQ := hid hq
    clear hq
    go_wp2_with fail
    refine c1.out.mono ?_
    rintro e w1 ⟨v, v', rfl, hv, _, hb1⟩
    obtain ⟨A1, cc, rfl, hint⟩ := hv.ints
    rw [cellsI_length]
    have HB1 := hid (HBd.out.trans hb1)
    clear hb1 hv hint
    go_wp2_with fail
    refine bodyPost_ret (results_tmp2 rfl _ _ _) rfl ?_
    exact ⟨HB1.out, _, true, rfl, .inl ⟨n, m, q, HQ.out, rfl⟩⟩
  · have HNo := hid hno
    clear hno
    go_wp2_with fail
    refine bodyPost_ret (results_tmp2 rfl _ _ _) rfl ?_
    exact ⟨HBd.out, 0, false, rfl, .inr ⟨HNo.out, rfl, rfl⟩⟩

/-- The ways of a beam, as a list. -/
def waysL (bw : Nat → Wy) (L : Nat) : List Wy := (List.finRange L).map fun x => bw x.val
theorem waysL_length (bw : Nat → Wy) (L : Nat) : (waysL bw L).length = L := by simp [waysL]
theorem waysL_mem {bw : Nat → Wy} {L : Nat} {y : Wy} : y ∈ waysL bw L ↔ ∃ j, j < L ∧ bw j = y := by
  unfold waysL
  rw [List.mem_map]
  constructor
  · rintro ⟨x, _, rfl⟩
    exact ⟨x.val, x.isLt, rfl⟩
  · rintro ⟨j, hj, rfl⟩
    exact ⟨⟨j, hj⟩, List.mem_finRange _, rfl⟩
theorem waysL_nodup {bw : Nat → Wy} {L : Nat} (h : ∀ a b, a < b → b < L → bw a ≠ bw b) : (waysL bw L).Nodup := by
  unfold waysL List.Nodup
  rw [List.pairwise_map]
  rw [List.pairwise_iff_getElem]
  intro i j hi hj hij
  simp only [List.getElem_finRange, Fin.val_cast]
  exact h i j hij (by simpa using hj)
theorem okW_in {n m : Nat} {t : Int → Int → UInt8} {q j : Nat} (hn : n ≤ 5) (hm : m ≤ 5) (hj : j < blen n m t q) : okW (bway n m t q j) := by
  have hin := blen_in (n := n) (m := m) (t := t) (p := q) (j := j) hj
  have hd := bway_d (n := n) (m := m) (t := t) q j
  unfold inG at hin
  unfold okW
  omega
theorem okW_ways {n m : Nat} {t : Int → Int → UInt8} {q : Nat} (hn : n ≤ 5) (hm : m ≤ 5) : ∀ x ∈ waysL (bway n m t q) (blen n m t q), okW x := fun x hx => by
  obtain ⟨j, hj, rfl⟩ := waysL_mem.1 hx
  exact okW_in hn hm hj

attribute [local go_sem] Oper.semAt_some

set_option maxRecDepth 100000 in
set_option maxHeartbeats 2000000 in
theorem implBeamLength_any (A : Option Addr) (c : Nat) (ss : List ByteArray) (p : Int) (w : World) (h : Strs w w.heap.size A ss) (hn : ss.length ≤ 1048576) (hs : ∀ s ∈ ss, s.size ≤ 1048576) :
    Calls Try.prog 23 #[.slice A ss.length c, .int .i64 p] w fun e w' => Below w.heap.size w w' ∧ ∃ x ok, e = .returned (.tuple #[.int .i64 x, .bool ok]) ∧ BeamOut lengthR ss p x ok := by
  have HR := hid (gridWithPort_any A c ss p w h hn hs)
  clear h hs
  refine (callsIn_wide (n := 3)).1 ?_
  refine callsIn_of_wp Try.func23 rfl trivial ?_ rfl
  simp only [Try.ntmps23, List.size_toArray, List.length_cons, List.length_nil, Nat.reduceAdd, Nat.reduceSub, Array.replicate_succ, Array.replicate_zero, List.push_toArray, List.append_toArray, List.nil_append, List.cons_append]
  gi_wp2_with fail
  refine ⟨trivial, callsIn_wide.2 (HR.out.mono ?_)⟩
  rintro e w1 ⟨hbel, ⟨n, m, q, hq, rfl⟩ | ⟨hno, rfl⟩⟩
  · have HB := hid hbel
    have hg := hq.1
    obtain rfl := hq.2.1
    have HQ := hid hq
    have hn5 := hg.2.2.1
    have hm5 := hg.2.2.2.2.1
    have HGC := hid (show (gcells n m (pad (flat ss))).size = 27 from hg.csize)
    have HONE := hid (gcells_one n m (pad (flat ss)))
    have HNEW := hid (fun w' => newTrace_any (gcells n m (pad (flat ss))) HGC.out HONE.out w')
    have HASK := hid (fun b xs w' hm => ask_any n m q _ b (pad (flat ss)) xs w' rfl hg.plen hn5 hm5 hq.2.2 hm)
    have HOKW := hid (okW_ways (t := lett m (pad (flat ss))) (q := q) hn5 hm5)
    have HNOD := hid (waysL_nodup (bw := bway n m (lett m (pad (flat ss))) q) (L := blen n m (lett m (pad (flat ss))) q) fun a b h1 h2 => bway_ne hq.2.2 h1 (by omega))
    have HLEN := hid (fun b w' hm => length_any (gcells n m (pad (flat ss))) HGC.out b (waysL (bway n m (lett m (pad (flat ss))) q) (blen n m (lett m (pad (flat ss))) q)) w' hm HOKW.out HNOD.out)
    have HRR := hid (show (((blen n m (lett m (pad (flat ss))) q : Nat) : Int), true) = lengthR n m (lett m (pad (flat ss))) q from rfl)
    simp only [waysL_length] at HLEN
    clear hbel hq hg
    generalize gcells n m (pad (flat ss)) = cs at *
    have HASK2 := hid (show ∀ b xs w', MapOf w' b xs → Calls Try.prog 57 #[.agg (tcells cs b), .int .i64 q] w' fun e w'' => (∃ v, e = .returned v) ∧ MapOf w'' b (waysL (bway n m (lett m (pad (flat ss))) q) (blen n m (lett m (pad (flat ss))) q)) ∧ w'.grownBy w'' (some b) from HASK.out)
    clear HASK
    generalize bway n m (lett m (pad (flat ss))) q = bw at *
    generalize blen n m (lett m (pad (flat ss))) q = L at *
    have HS := hid (show (Try.prog.info? 44).map (·.size) = some cs.size by rw [HGC.out]; exact Try.size_grid)
    have HST := hid (fun b => show (Try.prog.info? 62).map (·.size) = some (tcells cs b).size by rw [tcells_size HGC.out]; exact Try.size_trace)
    have HTO := hid (fun b => tcells_one HONE.out b)
    have HTZ := hid (fun b => show zeroT.size = (tcells cs b).size by rw [tcells_size HGC.out]; rfl)
    have HZ := hid (show zeroG.size = cs.size by rw [HGC.out]; rfl)
    have HL := hid (setRow_heap (w1.alloc (.cells zeroG 44)) w1.heap.size zeroG cs 44 (0, 0) (heap_new0 w1 _))
    have HW := hid (HB.out.trans (below_setRow' ((Below.refl _ w1).alloc HB.out.size (.cells zeroG 44)) HB.out.size cs))
    have HWS1 := hid (show ((w1.alloc (.cells zeroG 44)).setRow w1.heap.size cs).heap.size = w1.heap.size + 1 by simp)
    generalize hX : (w1.alloc (.cells zeroG 44)).setRow w1.heap.size cs = X at HL HW HWS1
    have HX := hid hX
    clear hX
    gi_wp2_with (first
      | (refine wpListIn_store_row (Open.wide _) rfl 44 _ _ rfl w1.heap.size cs rfl rfl 44 zeroG (heap_new0 w1 _) HS.out HZ.out HONE.out ?_; rw [HX.out])
      | refine wpListIn_load_row (Open.wide _) rfl 44 _ rfl w1.heap.size rfl 44 cs (0, 0) _ HL.out Try.underlying44 rfl HS.out ?_)
    refine ⟨trivial, callsIn_wide.2 ((HNEW.out _).mono ?_)⟩
    rintro e w2 ⟨rfl, hm2, hb2⟩
    have HM2 := hid hm2
    have HB2 := hid hb2
    have HBX := hid (show w1.heap.size < X.heap.size by rw [HWS1.out]; omega)
    have HXW := hid (show w.heap.size ≤ X.heap.size from by have := HB.out.size; have := HBX.out; omega)
    clear hm2 hb2
    generalize hbb : X.heap.size + 2 = b at *
    have HBB := hid hbb
    clear hbb
    have HN2 := hid (heap_new0 w2 (.cells zeroT 62))
    have HL2 := hid (setRow_heap (w2.alloc (.cells zeroT 62)) w2.heap.size zeroT (tcells cs b) 62 (0, 0) (heap_new0 w2 _))
    have HM3 := hid (show MapOf ((w2.alloc (.cells zeroT 62)).setRow w2.heap.size (tcells cs b)) b ([] : List Wy) from (HM2.out.alloc _).kept (setRow_other _ _ _ _ (by have := HM2.out.lt; omega)))
    have HB3 := hid (show Below w.heap.size w ((w2.alloc (.cells zeroT 62)).setRow w2.heap.size (tcells cs b)) from
      (HW.out.trans (HB2.out.mono HXW.out)).trans (below_setRow' ((Below.refl _ w2).alloc (by have := HB2.out.size; have := HXW.out; omega) _) (by have := HB2.out.size; have := HXW.out; omega) _))
    generalize hY : (w2.alloc (.cells zeroT 62)).setRow w2.heap.size (tcells cs b) = Y at HL2 HM3 HB3
    have HY := hid hY
    clear hY
    gi_wp2_with (first
      | (refine wpListIn_store_row (Open.wide _) rfl 62 _ _ rfl w2.heap.size (tcells cs b) rfl rfl 62 zeroT HN2.out (HST.out b) (HTZ.out b) (HTO.out b) ?_; rw [HY.out])
      | refine wpListIn_load_row (Open.wide _) rfl 62 _ rfl w2.heap.size rfl 62 (tcells cs b) (0, 0) _ HL2.out Try.underlying62 rfl (HST.out b) ?_)
    refine ⟨trivial, callsIn_wide.2 ((HASK2.out b _ Y HM3.out).mono ?_)⟩
    rintro e w3 ⟨⟨v3, rfl⟩, hm3, hg3⟩
    have HL3 := hid (show w3.heap[w2.heap.size]? = some (.cells (tcells cs b) 62 (0, 0)) from (hg3.block _ (lt_of_block HL2.out) (by have := HM2.out.lt; intro e; cases e; omega)).trans HL2.out)
    have HM4 := hid hm3
    have HB4 := hid (show Below w.heap.size w w3 from HB3.out.trans (below_grown hg3 HB3.out.size (by have := HBB.out; have := HXW.out; omega)))
    clear hm3 hg3
    gi_wp2_with (refine wpListIn_load_row (Open.wide _) rfl 62 _ rfl w2.heap.size rfl 62 (tcells cs b) (0, 0) _ HL3.out Try.underlying62 rfl (HST.out b) ?_)
    refine ⟨trivial, callsIn_wide.2 ((HLEN.out b w3 HM4.out).mono ?_)⟩
    rintro e w4 ⟨rfl, hb4⟩
    have HB5 := hid (HB4.out.trans (hb4.mono HB4.out.size))
    clear hb4
    gi_wp2
    refine bodyPost_ret (results_tmp2 rfl _ _ _) rfl ?_
    exact ⟨HB5.out, _, true, rfl, .inl ⟨n, m, q, HQ.out, by rw [← HRR.out]⟩⟩
  · have HB := hid hbel
    have HGr := hid hno
    clear hbel hno
    gi_wp2_with (refine wpListIn_store_row (Open.wide _) rfl 44 _ _ rfl w1.heap.size zeroG rfl rfl 44 zeroG (heap_new0 w1 _) Try.size_grid rfl (gcells_one 0 0 (pad [])) ?_)
    refine bodyPost_ret (results_tmp2 rfl _ _ _) rfl ?_
    refine ⟨?_, 0, false, rfl, .inr ⟨HGr.out, rfl, rfl⟩⟩
    exact HB.out.trans (below_setRow' ((Below.refl _ w1).alloc HB.out.size _) HB.out.size _)

end Go.Proofs.Ytpbppkidglmacaa
