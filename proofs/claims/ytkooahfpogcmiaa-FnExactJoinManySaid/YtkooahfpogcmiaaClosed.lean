/- closed, JoinClose of the program, by their contracts. -/
import Derived.Test.YtkooahfpogcmiaaSewC
import Derived.Test.YtkooahfpogcmiaaUnit
import Derived.Great.BuildSlice
namespace Go.Proofs.Ytkooahfpogcmiaa
open Go.RowKit Go.Shelf

theorem GrowI.ints' {w : World} {base : Nat} {A : Option Addr} {n c : Nat} {l : List Int} (h : GrowI w base (.slice A n c) l) : n = l.length ∧ Ints w w.heap.size A l := by
  obtain ⟨A', c', e, h2⟩ := h.ints
  cases e
  exact ⟨rfl, h2⟩
theorem GrowI.head' {w : World} {base : Nat} {v : Value} {l : List Int} (h : GrowI w base v l) (h0 : 0 < l.length) : ∃ g c cs, v = .slice (some ⟨g, 0, none⟩) l.length c ∧ w.heap[g]? = some (.cells cs 3 (0, 0)) ∧ l.length ≤ cs.size ∧ base ≤ g := by
  rcases h.2 with ⟨_, h1⟩ | ⟨g, cap, cur, rfl, hb, hg, h1, _, h3, _⟩
  · omega
  · exact ⟨g, cap, cur, rfl, hg, by omega, hb⟩
theorem run_slice_joined1 {l : List Int} (h : l.length = 20) (n m r : Nat) (w : World) : (Instr.buildSlice 111 1 #[(0, .agg (pairC (joinL l n m r)))]).run Try.prog w = .ok (.slice (some ⟨w.heap.size, 0, none⟩) 1 1) (w.alloc (.cells (pairC (joinL l n m r)) 51)) := by
  obtain ⟨i0, hi⟩ : ∃ i, Try.prog.info? 51 = some i := info_of_underlying Try.underlying51
  have hz : i0.zero = some (.agg zeroJ) := by
    have e : (Try.prog.info? 51).bind (·.zero) = some (.agg zeroJ) := by kernel_rfl
    rw [hi] at e
    exact e
  have hs : i0.size = 23 := by
    have e := Try.size_joined
    rw [hi] at e
    exact Option.some.inj e
  refine run_buildSlice w 111 51 1 _ _ i0 _ Try.underlying111 hi hz (by rw [hs]; decide) (by rw [hs]; decide) ?_
  rw [hs]
  obtain ⟨a0, a1, a2, a3, a4, a5, a6, a7, a8, a9, b0, b1, b2, b3, b4, b5, b6, b7, b8, b9, rfl⟩ := lits20 h
  kernel_rfl
theorem exec_slice1 {o : Oper} {a : Act} {w : World} (x : Operand) (ho : o.op = Op.buildSlice 111 1 #[(0, x)]) (l : List Int) (n m r : Nat) (hl : l.length = 20) (hx : a.eval x = .agg (pairC (joinL l n m r))) :
    (execOp a.eval o).run Try.prog w = .ok (.value (.slice (some ⟨w.heap.size, 0, none⟩) 1 1)) (w.alloc (.cells (pairC (joinL l n m r)) 51)) := by
  unfold execOp
  simp only [ho]
  have : (#[(0, x)] : Array (Nat × Operand)).map (fun p => (p.1, a.eval p.2)) = #[(0, .agg (pairC (joinL l n m r)))] := by simp [hx]
  rw [this]
  simp only [Sem.run_bind, run_slice_joined1 hl n m r w, Result.andThen_ok, Sem.run_pure]
/-- What the operations hand back that tell both ends of a row to be sewn. -/
def sewRel (sv : Array Value) (m k z : Nat) (cs : Array Value) (i : Nat) (v : Value) (_ : World) : Prop :=
  match i with
  | 0 => v = .agg sv
  | 1 => v = .agg cs
  | 2 => v = .int .i64 (k : Int)
  | 3 => v = .int .i64 ((m + k : Nat) : Int)
  | 4 => v = .agg cs
  | 5 => v = .int .i64 (k : Int)
  | 6 => v = .int .i64 (z : Int)
  | _ => True

set_option maxRecDepth 100000 in
set_option maxHeartbeats 4000000 in
theorem closed_any (l : List Int) (n m r : Nat) (w : World) (hp : IsPair l) (hn : n ≤ 5) (hm : m ≤ 5) (hlen : l.length = 2 * (n + m)) :
    Calls Try.prog 60 #[.agg (pairC (joinL (padTo l) n m r))] w fun e w' => e = .returned (.int .i64 ((roundsTo l.length (mateN l) (sewT n m l.length) l.length : Nat) : Int)) ∧ Below w.heap.size w w' := by
  have hpl := padTo_length hp.2.1
  have hN20 := hp.2.1
  have hN4 := hp.1
  have HNS := hid (fun g c W (hr : W.rangeAt g 0 (pairC (joinL (padTo l) n m r)).toList) (hg : g < W.heap.size) => newSewing_any g 1 c [(l, n, m, r)] W rfl (by omega) (fun i e he => by
    match i, he with
    | 0, he =>
      simp at he
      subst he
      exact ⟨by rw [Nat.zero_mul]; exact hr, hp⟩
    | i + 1, he => simp at he) hg)
  simp only [List.map_cons, List.map_nil, catI_one] at HNS
  have HRE := hid (fun k W (hk : k < n) => rightEnd_any (padTo l) n m r k W hpl hm (by omega))
  have HLE := hid (fun k W (hk : k < n) => leftEnd_any (padTo l) n m r k W hpl hn hm hk)
  have HSW := hid (oneS_sewn (n := n) (m := m) (p := l.length) (a := mateN l) (fun i hi => ⟨(hp.mates hi).1, (hp.mates hi).2.1, (hp.mates hi).2.2.2⟩) (by omega))
  have HLS := hid (pair_list hp)
  have HSR := hid (fun v W (h : SewR W W.heap.size v l.length (mateN l) (sewT n m l.length)) => sewRounds_any v W.heap.size l.length (mateN l) (sewT n m l.length) W HSW.out h (Nat.le_refl _) (by omega))
  have HSJ := hid (size_joinL hpl n m r)
  have HC0 := hid (joinL_rows hpl n m r)
  have HPL := hid hpl
  obtain ⟨N, hN⟩ : ∃ N, l.length = N := ⟨_, rfl⟩
  have HNN := hid hN
  rw [hN] at hlen hN20 hN4 HSW HLS HSR ⊢
  rw [hN] at HNS
  rw [othersL_none N] at HNS
  have HZT := hid (sewT_zero m N)
  rw [← HZT.out] at HNS
  generalize roundsTo N (mateN l) (sewT n m N) N = RR at *
  have HLEN := hid hlen
  clear hp hpl hN hlen
  have H0 := hid (heap_new0 w (.cells (pairC (joinL (padTo l) n m r)) 51))
  have HB := hid ((Below.refl w.heap.size w).alloc (Nat.le_refl _) (.cells (pairC (joinL (padTo l) n m r)) 51))
  go_enter Try.func60, Try.ntmps60
  go_wp2_with (first
    | refine wpList_load_row rfl 51 _ rfl w.heap.size rfl 51 (pairC (joinL (padTo l) n m r)) (0, 0) _ H0.out Try.underlying51 rfl HSJ.out ?_
    | refine wpList_exec rfl (exec_slice1 _ rfl (padTo l) n m r HPL.out rfl) ?_)
  have A1 := hid (show ((w.alloc (.cells (pairC (joinL (padTo l) n m r)) 51)).alloc (.cells (pairC (joinL (padTo l) n m r)) 51)).heap[w.heap.size + 1]? = some (.cells (pairC (joinL (padTo l) n m r)) 51 (0, 0)) by
    have := heap_new0 (w.alloc (.cells (pairC (joinL (padTo l) n m r)) 51)) (.cells (pairC (joinL (padTo l) n m r)) 51)
    rwa [World.size_alloc] at this)
  have A0 := hid ((Below.heap_alloc _ (.cells (pairC (joinL (padTo l) n m r)) 51) _ (lt_of_block H0.out)).trans H0.out)
  have AB := hid (HB.out.alloc HB.out.size (.cells (pairC (joinL (padTo l) n m r)) 51))
  generalize World.alloc (World.alloc w _) _ = Y at A1 A0 AB ⊢
  have HYS := hid (show w.heap.size + 1 < Y.heap.size from lt_of_block A1.out)
  refine (HNS.out (w.heap.size + 1) 1 Y (rangeAt_head A1.out (fun _ _ h => h)) HYS.out).mono ?_
  rintro e w1 ⟨⟨v1, v2, rfl, hg1, hg2, hab⟩, hb1⟩
  obtain ⟨g1, c1, cs1, rfl, _, _, _⟩ := hg1.head' (by rw [HNN.out]; omega)
  obtain ⟨g2, c2, cs2, rfl, _, _, hlo2⟩ := hg2.head' (by rw [othersL_length]; omega)
  rw [HNN.out] at hg1 hab
  rw [othersL_length] at hg2 hab
  have HLO := hid (show w.heap.size ≤ g2 by have := HYS.out; omega)
  have H12 := hid (show g1 ≠ g2 from fun e => hab g1 rfl (by rw [e]; rfl))
  have I0 := hid ((hb1.block _ (lt_of_block A0.out)).trans A0.out)
  have IB := hid (AB.out.trans (hb1.mono AB.out.size))
  have IG1 := hid hg1
  have IG2 := hid hg2
  have IL := hid (lt_of_block I0.out)
  rw [HNN.out, othersL_length]
  clear hg1 hg2 hab hb1 hlo2
  have HSO := hid (sew_one (.slice (some ⟨g1, 0, none⟩) N c1) (.slice (some ⟨g2, 0, none⟩) N c2) rfl rfl)
  have N0 := hid (heap_new0 w1 (.cells zeroSew 94))
  have HXB := hid (show Below w1.heap.size w1 ((w1.alloc (.cells zeroSew 94)).setRow w1.heap.size #[.slice (some ⟨g1, 0, none⟩) N c1, .slice (some ⟨g2, 0, none⟩) N c2]) from below_setRow' ((Below.refl w1.heap.size w1).alloc (Nat.le_refl _) _) (Nat.le_refl _) _)
  have XS := hid (setRow_heap _ _ _ #[.slice (some ⟨g1, 0, none⟩) N c1, .slice (some ⟨g2, 0, none⟩) N c2] _ _ N0.out)
  generalize hX : (w1.alloc (.cells zeroSew 94)).setRow w1.heap.size #[.slice (some ⟨g1, 0, none⟩) N c1, .slice (some ⟨g2, 0, none⟩) N c2] = X at HXB XS
  have HX := hid hX
  have X0 := hid ((HXB.out.block _ IL.out).trans I0.out)
  have XG1 := hid (IG1.out.belowC HXB.out)
  have XG2 := hid (IG2.out.belowC HXB.out)
  have XB := hid (IB.out.trans (HXB.out.mono IB.out.size))
  have hcell : X.cell? ⟨w.heap.size, 20, none⟩ = some (.int .i64 (n : Int)) := by rw [cell_of_row _ _ _ _ _ _ X0.out]; exact HC0.out
  clear hX
  go_wp2_with (refine wpList_store_row rfl 94 _ _ rfl w1.heap.size #[.slice (some ⟨g1, 0, none⟩) N c1, .slice (some ⟨g2, 0, none⟩) N c2] rfl rfl 94 zeroSew N0.out Try.size_sewing rfl HSO.out ?_; rw [HX.out])
  clear hcell
  have HWL := hid (show w1.heap.size ≠ g2 from by have := (World.ownsRow.lt IG2.out g2 rfl).2; omega)
  generalize hcs : pairC (joinL (padTo l) n m r) = cs at *
  clear hcs
  go_loopw [10] (fun (iv : Value) (wr : World) => ∃ k : Nat, k ≤ n ∧ iv = .int .i64 k ∧ GrowI wr Y.heap.size (.slice (some ⟨g1, 0, none⟩) N c1) l ∧ GrowI wr Y.heap.size (.slice (some ⟨g2, 0, none⟩) N c2) (othersL N (sewT k m N)) ∧ wr.heap[w1.heap.size]? = some (.cells #[.slice (some ⟨g1, 0, none⟩) N c1, .slice (some ⟨g2, 0, none⟩) N c2] 94 (0, 0)) ∧ wr.heap[w.heap.size]? = some (.cells cs 51 (0, 0)) ∧ Below w.heap.size w wr) (fun i _ => n - (intOf i).toNat)
  case atStart => exact ⟨0, by omega, rfl, XG1.out, XG2.out, XS.out, X0.out, XB.out⟩
  case round =>
    obtain ⟨k, hk, rfl, hg1, hg2, hs, h0, hb⟩ := hrel
    have G1 := hid hg1
    have G2 := hid hg2
    have BS := hid hs
    have B0 := hid h0
    have BB := hid hb
    clear hg1 hg2 hs h0 hb
    by_cases hlt : k < n
    · have hki : (k : Int) < (n : Int) := by omega
      go_wp2_with fail
      obtain ⟨z, hz⟩ : ∃ z, N - 1 - k = z := ⟨_, rfl⟩
      have HZ := hid hz
      have HLE2 := hid (show ∀ W, Calls Try.prog 83 #[.agg cs, .int .i64 (k : Int)] W fun e w' => e = .returned (.int .i64 (z : Int)) ∧ Below W.heap.size W w' from fun W => by
        have h1 := HLE.out k W hlt
        rwa [show 2 * n + 2 * m - 1 - k = z by have := HLEN.out; omega] at h1)
      refine wp_region_rel_tail (by kernel_rfl) 7 (by kernel_rfl) (fun us => { tmps := #[.agg cs, .pointer (some ⟨w.heap.size, 0, none⟩), .int .i64 0, .pointer (some ⟨w1.heap.size, 0, none⟩), .int .i64 (k : Int), .agg cs, .slice (some ⟨w.heap.size + 1, 0, none⟩) 1 1, .agg #[.slice (some ⟨g1, 0, none⟩) N c1, .slice (some ⟨g2, 0, none⟩) N c2], .pointer (some ⟨w.heap.size, 20, none⟩), .int .i64 (n : Int), .int .i64 (k : Int), .bool true, .int .i64 (k : Int), us 0, us 1, us 2, us 3, us 4, us 5, us 6, u20, u21, undef, undef], defers := [] }) (fun i => if i = 0 then u13 else if i = 1 then u14 else if i = 2 then u15 else if i = 3 then u16 else if i = 4 then u17 else if i = 5 then u18 else u19) rfl (sewRel #[.slice (some ⟨g1, 0, none⟩) N c1, .slice (some ⟨g2, 0, none⟩) N c2] m k z cs) (fun i v W W' h hb => h) (fun i us v hi => ?_) (fun i us W hi hb hd => ?_) (fun us W hb hr => ?_)
      · match i, hi with
        | 0, _ => rfl
        | 1, _ => rfl
        | 2, _ => rfl
        | 3, _ => rfl
        | 4, _ => rfl
        | 5, _ => rfl
        | 6, _ => rfl
      · have L0 := hid ((hb.block _ (lt_of_block B0.out)).trans B0.out)
        have LS := hid ((hb.block _ (lt_of_block BS.out)).trans BS.out)
        match i, hi with
        | 0, _ => exact wpOp_val rfl rfl (exec_load_row 94 _ rfl w1.heap.size rfl 94 #[.slice (some ⟨g1, 0, none⟩) N c1, .slice (some ⟨g2, 0, none⟩) N c2] (0, 0) _ LS.out Try.underlying94 rfl Try.size_sewing) rfl
        | 1, _ => exact wpOp_val rfl rfl (exec_load_row 51 _ rfl w.heap.size rfl 51 cs (0, 0) _ L0.out Try.underlying51 rfl HSJ.out) rfl
        | 2, _ => exact wpOp_val rfl rfl (by go_simp) rfl
        | 3, _ =>
          have h0 : us 1 = _ := hd _ rfl { on := 1, ground := .data } (by simp) rfl
          have h1 : us 2 = _ := hd _ rfl { on := 2, ground := .data } (by simp) rfl
          rw [h0, h1]
          exact wpOp_call rfl rfl (by go_simp) ((HRE.out k W hlt).mono fun e w'' ⟨he, hb'⟩ => ⟨_, he, rfl, hb'⟩)
        | 4, _ => exact wpOp_val rfl rfl (exec_load_row 51 _ rfl w.heap.size rfl 51 cs (0, 0) _ L0.out Try.underlying51 rfl HSJ.out) rfl
        | 5, _ => exact wpOp_val rfl rfl (by go_simp) rfl
        | 6, _ =>
          have h0 : us 4 = _ := hd _ rfl { on := 4, ground := .data } (by simp) rfl
          have h1 : us 5 = _ := hd _ rfl { on := 5, ground := .data } (by simp) rfl
          rw [h0, h1]
          exact wpOp_call rfl rfl (by go_simp) ((HLE2.out W).mono fun e w'' ⟨he, hb'⟩ => ⟨_, he, rfl, hb'⟩)
      · have h0 : us 0 = _ := hr 0 (by omega)
        have h1 : us 1 = _ := hr 1 (by omega)
        have h2 : us 2 = _ := hr 2 (by omega)
        have h3 : us 3 = _ := hr 3 (by omega)
        have h4 : us 4 = _ := hr 4 (by omega)
        have h5 : us 5 = _ := hr 5 (by omega)
        have h6 : us 6 = _ := hr 6 (by omega)
        rw [h0, h1, h2, h3, h4, h5, h6]
        have L0 := hid ((hb.block _ (lt_of_block B0.out)).trans B0.out)
        have LS := hid ((hb.block _ (lt_of_block BS.out)).trans BS.out)
        have LG1 := hid (G1.out.belowC hb)
        have LG2 := hid (G2.out.belowC hb)
        have LB := hid (BB.out.trans (hb.mono BB.out.size))
        clear h0 h1 h2 h3 h4 h5 h6 hr hb
        obtain ⟨y, hy⟩ : ∃ y, m + k = y := ⟨_, rfl⟩
        have HY := hid hy
        rw [hy]
        obtain ⟨g', c', cs2, hv, hh2, hsz, _⟩ := LG2.out.head' (by rw [othersL_length]; omega)
        obtain rfl : g2 = g' := by simpa [Value.ownBlock] using congrArg Value.ownBlock hv
        rw [othersL_length] at hsz
        have HH2 := hid hh2
        have HSE := hid (sew_any (some ⟨g1, 0, none⟩) c1 c2 g2 N y z cs2 W hh2 hsz (by have := HLEN.out; omega) (by have := HLEN.out; omega) (by have := HLEN.out; omega))
        have HOS := hid (othersL_sew (N := N) (m := m) (k := k) (by have := HLEN.out; omega))
        rw [hy, hz] at HOS
        clear hv hh2 hsz hy hz
        go_wp2_with fail
        refine HSE.out.mono ?_
        rintro e w3 ⟨rfl, hpr⟩
        have DG2 := hid (show GrowI w3 Y.heap.size (.slice (some ⟨g2, 0, none⟩) N c2) (othersL N (sewT (k + 1) m N)) by rw [← HOS.out]; exact LG2.out.paired HH2.out hpr)
        have DG1 := hid (LG1.out.but hpr.2 (fun b e => by cases e; exact H12.out))
        have D0 := hid ((hpr.2.block _ (lt_of_block L0.out) (by have := HLO.out; have := HYS.out; have := (World.ownsRow.lt LG2.out g2 rfl).1; omega)).trans L0.out)
        have DS := hid ((hpr.2.block _ (lt_of_block LS.out) HWL.out).trans LS.out)
        have DB := hid (LB.out.trans (hpr.2.below HLO.out LB.out.size))
        clear hpr
        go_wp2_with fail
        go_roundw
        case rel => exact ⟨k + 1, by omega, by go_num, DG1.out, DG2.out, DS.out, D0.out, DB.out⟩
        case measure => simp [intOf]; omega
    · obtain rfl : k = n := by omega
      have HREAD := hid (show SewR wr wr.heap.size (.agg #[.slice (some ⟨g1, 0, none⟩) N c1, .slice (some ⟨g2, 0, none⟩) N c2]) N (mateN l) (sewT k m N) from ⟨_, _, _, _, rfl, by rw [HLS.out]; exact G1.out.ints'.2, G2.out.ints'.2⟩)
      go_wp2_with (refine wpList_load_row rfl 94 _ rfl w1.heap.size rfl 94 #[.slice (some ⟨g1, 0, none⟩) N c1, .slice (some ⟨g2, 0, none⟩) N c2] (0, 0) _ BS.out Try.underlying94 rfl Try.size_sewing ?_)
      refine (HSR.out _ _ HREAD.out).mono ?_
      rintro e w2 ⟨rfl, hb2⟩
      have B2 := hid (BB.out.trans (hb2.mono BB.out.size))
      clear hb2
      go_wp2_with fail
      go_ret
      exact ⟨rfl, B2.out⟩

/-- What JoinClose comes to. -/
def closeV (n m : Nat) (l : List Int) : Int := ((roundsTo l.length (mateN l) (sewT n m l.length) l.length : Nat) : Int)

set_option maxRecDepth 100000 in
set_option maxHeartbeats 4000000 in
theorem implJoinClose_any (n m : Int) (A : Option Addr) (c : Nat) (l : List Int) (w : World) (h : Ints w w.heap.size A l) (hn : l.length ≤ 1048576) :
    Calls Try.prog 38 #[.int .i64 n, .int .i64 m, .slice A l.length c] w fun e w' => Below w.heap.size w w' ∧ ∃ res ok, e = .returned (.tuple #[.int .i64 res, .bool ok]) ∧ IOut (PairOf n m l) (closeV n.toNat m.toNat l) res ok := by
  have H := hid (readJoined_any n m A c l w h hn)
  go_enter Try.func38, Try.ntmps38
  go_wp2_with fail
  refine H.out.mono ?_
  rintro e w1 ⟨⟨a, b, rfl, rfl, hp, rfl⟩ | ⟨hp, rfl⟩, hb⟩
  · have hpl := padTo_length hp.2.2.1.2.1
    have HD := hid hp
    have HSJ := hid (size_joinL hpl a b 0)
    have HZJ := hid (zero_joinL hpl a b 0)
    have HF := hid (fun W => closed_any l a b 0 W hp.2.2.1 (by have := hp.1.2; omega) (by have := hp.2.1.2; omega) (by have := hp.2.2.2; omega))
    have HFR := hid (show ((roundsTo l.length (mateN l) (sewT a b l.length) l.length : Nat) : Int) = closeV (a : Int).toNat (b : Int).toNat l by rw [Int.toNat_natCast, Int.toNat_natCast]; rfl)
    have N0 := hid (heap_new0 w1 (.cells zeroJ 51))
    have NB := hid (below_setRow' (hb.alloc hb.size (.cells zeroJ 51)) hb.size (pairC (joinL (padTo l) a b 0)))
    have N1 := hid (setRow_heap _ _ _ (pairC (joinL (padTo l) a b 0)) _ _ N0.out)
    clear hb hp hpl
    generalize hY : World.setRow (w1.alloc (.cells zeroJ 51)) w1.heap.size (pairC (joinL (padTo l) a b 0)) = Y at NB N1
    have HY := hid hY
    clear hY
    generalize ((roundsTo l.length (mateN l) (sewT a b l.length) l.length : Nat) : Int) = FR at *
    go_wp2_with (first
      | (refine wpList_store_row rfl 51 _ _ rfl w1.heap.size (pairC (joinL (padTo l) a b 0)) rfl rfl 51 zeroJ N0.out HSJ.out HZJ.out (pairC_one _) ?_; rw [HY.out])
      | refine wpList_load_row rfl 51 _ rfl w1.heap.size rfl 51 (pairC (joinL (padTo l) a b 0)) (0, 0) _ N1.out Try.underlying51 rfl HSJ.out ?_)
    refine (HF.out _).mono ?_
    rintro e w2 ⟨rfl, hb2⟩
    have B2 := hid (NB.out.trans (hb2.mono NB.out.size))
    clear hb2
    go_wp2_with fail
    refine bodyPost_ret (results_tmp2 rfl _ _ _) rfl ?_
    exact ⟨B2.out, FR, true, rfl, .inl ⟨HD.out, HFR.out, rfl⟩⟩
  · have HNo := hid hp
    have HB := hid hb
    clear hb hp
    have N0 := hid (heap_new0 w1 (.cells zeroJ 51))
    have NB := hid (below_setRow' (HB.out.alloc HB.out.size (.cells zeroJ 51)) HB.out.size zeroJ)
    go_wp2_with (refine wpList_store_row rfl 51 _ _ rfl w1.heap.size zeroJ rfl rfl 51 zeroJ N0.out Try.size_joined rfl zeroJ_one ?_)
    refine bodyPost_ret (results_tmp2 rfl _ _ _) rfl ?_
    exact ⟨NB.out, 0, false, rfl, .inr ⟨HNo.out, rfl, rfl⟩⟩

set_option maxRecDepth 100000 in
set_option maxHeartbeats 4000000 in
theorem implJoinUnit_any (n m : Int) (w : World) :
    Calls Try.prog 36 #[.int .i64 n, .int .i64 m] w fun e w' => Below w.heap.size w w' ∧ ∃ A' c' res ok, e = .returned (.tuple #[.slice A' res.length c', .bool ok]) ∧ LOut ((1 ≤ n ∧ n ≤ 5) ∧ 1 ≤ m ∧ m ≤ 5) (unitL n.toNat m.toNat) res ok ∧ Own3 w' w.heap.size A' res := by
  have HS := hid (fun x W => sideIn_any x W)
  by_cases hn : 1 ≤ n ∧ n ≤ 5
  · obtain ⟨a, rfl⟩ : ∃ a : Nat, n = (a : Int) := ⟨n.toNat, by omega⟩
    have s1 := hid (show ∀ W, Calls Try.prog 58 #[.int .i64 (a : Int)] W fun e w' => e = .returned (.bool true) ∧ W = w' from fun W => by have := HS.out (a : Int) W; rwa [decide_eq_true hn] at this)
    by_cases hm : 1 ≤ m ∧ m ≤ 5
    · obtain ⟨b, rfl⟩ : ∃ b : Nat, m = (b : Int) := ⟨m.toNat, by omega⟩
      have s2 := hid (show ∀ W, Calls Try.prog 58 #[.int .i64 (b : Int)] W fun e w' => e = .returned (.bool true) ∧ W = w' from fun W => by have := HS.out (b : Int) W; rwa [decide_eq_true hm] at this)
      have HD := hid (And.intro hn hm)
      have HU := hid (fun W => unitPairing_any a b W (by omega) (by omega) (by omega) (by omega))
      have hup := unitL_pair (n := a) (m := b) (by omega) (by omega) (by omega) (by omega)
      have HPL := hid (padTo_length hup.2.1)
      have HLI := hid (fun W => pair_plist (unitL a b) W hup)
      have HFR := hid (show unitL a b = unitL (a : Int).toNat (b : Int).toNat by rw [Int.toNat_natCast, Int.toNat_natCast])
      generalize unitL a b = FR at *
      clear hn hm hup
      go_enter Try.func36, Try.ntmps36
      go_wp2_with fail
      refine (s1.out _).mono ?_
      rintro e w' ⟨rfl, rfl⟩
      go_wp2_with fail
      refine (s2.out _).mono ?_
      rintro e w' ⟨rfl, rfl⟩
      go_wp2_with fail
      refine (HU.out _).mono ?_
      rintro e w2 ⟨rfl, hb2⟩
      have B2 := hid hb2
      clear hb2
      go_wp2_with (refine wpList_exec rfl (exec_field0 _ rfl (padTo FR) a b 0 HPL.out rfl) ?_)
      refine (HLI.out _).mono ?_
      rintro e w3 ⟨v, rfl, hg3, hb3⟩
      obtain ⟨A', c', rfl, hown⟩ := (hg3.lower B2.out.size).own
      have HOW := hid hown
      have B3 := hid (B2.out.trans (hb3.mono B2.out.size))
      clear hg3 hb3 hown
      go_wp2_with fail
      refine bodyPost_ret (results_tmp2 rfl _ _ _) rfl ?_
      exact ⟨B3.out, A', c', FR, true, rfl, .inl ⟨HD.out, HFR.out, rfl⟩, HOW.out⟩
    · have s2 := hid (show ∀ W, Calls Try.prog 58 #[.int .i64 m] W fun e w' => e = .returned (.bool false) ∧ W = w' from fun W => by have := HS.out m W; rwa [decide_eq_false hm] at this)
      have HNo := hid (show ¬ ((1 ≤ (a : Int) ∧ (a : Int) ≤ 5) ∧ 1 ≤ m ∧ m ≤ 5) from fun h => hm h.2)
      clear hn hm
      go_enter Try.func36, Try.ntmps36
      go_wp2_with fail
      refine (s1.out _).mono ?_
      rintro e w' ⟨rfl, rfl⟩
      go_wp2_with fail
      refine (s2.out _).mono ?_
      rintro e w' ⟨rfl, rfl⟩
      go_wp2_with fail
      refine bodyPost_ret (results_tmp2 rfl _ _ _) rfl ?_
      exact ⟨Below.refl _ _, none, 0, [], false, rfl, .inr ⟨HNo.out, rfl, rfl⟩, .inl ⟨rfl, rfl⟩⟩
  · have s1 := hid (show ∀ W, Calls Try.prog 58 #[.int .i64 n] W fun e w' => e = .returned (.bool false) ∧ W = w' from fun W => by have := HS.out n W; rwa [decide_eq_false hn] at this)
    have HNo := hid (show ¬ ((1 ≤ n ∧ n ≤ 5) ∧ 1 ≤ m ∧ m ≤ 5) from fun h => hn h.1)
    clear hn
    go_enter Try.func36, Try.ntmps36
    go_wp2_with fail
    refine (s1.out _).mono ?_
    rintro e w' ⟨rfl, rfl⟩
    go_wp2_with fail
    refine bodyPost_ret (results_tmp2 rfl _ _ _) rfl ?_
    exact ⟨Below.refl _ _, none, 0, [], false, rfl, .inr ⟨HNo.out, rfl, rfl⟩, .inl ⟨rfl, rfl⟩⟩
end Go.Proofs.Ytkooahfpogcmiaa
