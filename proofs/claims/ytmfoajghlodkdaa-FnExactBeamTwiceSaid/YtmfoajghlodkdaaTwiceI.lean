/- BeamTwice of the program, by its contract. -/
import Derived.Test.YtmfoajghlodkdaaTwiceS
namespace Go.Proofs.Ytmfoajghlodkdaa
open Go.RowKit Go.Shelf
attribute [local go_sem] Oper.semAt_some

/-- The cells gone through twice among those that have come. -/
def twW {N : Nat} (g : Nat → Nat) (pre : List (Fin N)) : Nat := pre.countP fun x => g x.val == 2
theorem twW_snoc {N : Nat} (g : Nat → Nat) (pre : List (Fin N)) (x : Fin N) : twW g (pre ++ [x]) = twW g pre + (if (g x.val == 2) = true then 1 else 0) := by
  simp [twW, List.countP_append, List.countP_cons]
theorem twW_le {N : Nat} (g : Nat → Nat) (pre : List (Fin N)) : twW g pre ≤ pre.length := List.countP_le_length
theorem twW_all (N : Nat) (g : Nat → Nat) : twW g (List.finRange N) = (List.range N).countP fun c => g c == 2 := by
  unfold twW
  have e := upto_val (N := N) (k := N) (Nat.le_refl _)
  rw [upto_all] at e
  rw [← e, List.countP_map]
  rfl
theorem nat_beq2 (a : Nat) : ((a : Int) == 2) = (a == 2) := by
  rw [Bool.eq_iff_iff, beq_iff_eq, beq_iff_eq]; omega
def placeC (m x : Nat) : Array Value := #[.int .i64 ((x / m : Nat) : Int), .int .i64 ((x % m : Nat) : Int)]

set_option maxRecDepth 100000 in
set_option maxHeartbeats 2000000 in
theorem implBeamTwice_any (A : Option Addr) (c : Nat) (ss : List ByteArray) (p : Int) (w : World) (h : Strs w w.heap.size A ss) (hn : ss.length ≤ 1048576) (hs : ∀ s ∈ ss, s.size ≤ 1048576) :
    Calls Try.prog 71 #[.slice A ss.length c, .int .i64 p] w fun e w' => Below w.heap.size w w' ∧ ∃ x ok, e = .returned (.tuple #[.int .i64 x, .bool ok]) ∧ BeamOut twiceR ss p x ok := by
  have HR := hid (gridWithPort_any A c ss p w h hn hs)
  clear h hs
  refine (callsIn_wide (n := 3)).1 ?_
  refine callsIn_of_wp_marks Try.func71 rfl trivial ?_ rfl
  simp only [Try.ntmps71, List.size_toArray, List.length_cons, List.length_nil, Nat.reduceAdd, Nat.reduceSub, Array.replicate_succ, Array.replicate_zero, List.push_toArray, List.append_toArray, List.nil_append, List.cons_append]
  gi_wp2_with fail
  refine ⟨trivial, callsIn_wide.2 (HR.out.mono ?_)⟩
  rintro e w1 ⟨hbel, ⟨n, m, q, hq, rfl⟩ | ⟨hno, rfl⟩⟩
  · have HB := hid hbel
    have hg := hq.1
    obtain rfl := hq.2.1
    have HQ := hid hq
    have hn5 := hg.2.2.1
    have hm5 := hg.2.2.2.2.1
    have HGC := hid (show (gcells n m (pad (flat ss))).size = 27 from hg.csize)
    have HONE := hid (gcells_one n m (pad (flat ss)))
    have HNEW := hid (fun w' => newTrace_any (gcells n m (pad (flat ss))) HGC.out HONE.out w')
    have HASK := hid (fun b xs w' hm => ask_any n m q _ b (pad (flat ss)) xs w' rfl hg.plen hn5 hm5 hq.2.2 hm)
    have HOKW := hid (okW_ways (t := lett m (pad (flat ss))) (q := q) hn5 hm5)
    have HNOD := hid (waysL_nodup (bw := bway n m (lett m (pad (flat ss))) q) (L := blen n m (lett m (pad (flat ss))) q) fun a b h1 h2 => bway_ne hq.2.2 h1 (by omega))
    have HTIM := hid (show ∀ (b c : Nat) (w' : World), c < n * m → MapOf w' b (waysL (bway n m (lett m (pad (flat ss))) q) (blen n m (lett m (pad (flat ss))) q)) → Calls Try.prog 128 #[.agg (tcells (gcells n m (pad (flat ss))) b), .agg #[.int .i64 ((c / m : Nat) : Int), .int .i64 ((c % m : Nat) : Int)]] w' fun e w'' => e = .returned (.int .i64 (((bcells n m (lett m (pad (flat ss))) q).count c : Nat) : Int)) ∧ Below w'.heap.size w' w'' from fun b c w' hc hm => by
      rw [← times_at hq.2.2 hg.2.2.2.1]
      have h1 : c / m ≤ c := Nat.div_le_self _ _
      have h2 : c % m ≤ c := Nat.mod_le _ _
      have h3 : n * m ≤ 25 := hg.le25
      have hbd : ∀ a b : Nat, a ≤ c → b ≤ c → (-100 : Int) ≤ (a : Int) ∧ (a : Int) ≤ 100 ∧ (-100 : Int) ≤ (b : Int) ∧ (b : Int) ≤ 100 := fun a b h1 h2 => by omega
      exact times_any (gcells n m (pad (flat ss))) HGC.out b _ _ _ _ (hbd _ _ h1 h2) w' hm HOKW.out)
    have HCS := hid (fun (Bg : Nat) (w' : World) h => cells_stops 2 Bg n m (n * m) rfl (pad (flat ss)) hg.plen hn5 hg.2.2.2.1 hm5 w' h)
    have hnm := hg.le25
    have HRR := hid (show ((((List.range (n * m)).countP fun c => (bcells n m (lett m (pad (flat ss))) q).count c == 2 : Nat) : Int), true) = twiceR n m (lett m (pad (flat ss))) q from rfl)
    clear hbel hq hg
    generalize gcells n m (pad (flat ss)) = cs at *
    have HASK2 := hid (show ∀ b xs w', MapOf w' b xs → Calls Try.prog 120 #[.agg (tcells cs b), .int .i64 q] w' fun e w'' => (∃ v, e = .returned v) ∧ MapOf w'' b (waysL (bway n m (lett m (pad (flat ss))) q) (blen n m (lett m (pad (flat ss))) q)) ∧ w'.grownBy w'' (some b) from HASK.out)
    clear HASK
    generalize bcells n m (lett m (pad (flat ss))) q = bc at *
    generalize bway n m (lett m (pad (flat ss))) q = bw at *
    generalize blen n m (lett m (pad (flat ss))) q = L at *
    have HS := hid (show (Try.prog.info? 56).map (·.size) = some cs.size by rw [HGC.out]; exact Try.size_grid)
    have HST := hid (fun b => show (Try.prog.info? 94).map (·.size) = some (tcells cs b).size by rw [tcells_size HGC.out]; exact Try.size_trace)
    have HTO := hid (fun b => tcells_one HONE.out b)
    have HTZ := hid (fun b => show zeroT.size = (tcells cs b).size by rw [tcells_size HGC.out]; rfl)
    have HZ := hid (show zeroG.size = cs.size by rw [HGC.out]; rfl)
    have HL := hid (setRow_heap (w1.alloc (.cells zeroG 56)) w1.heap.size zeroG cs 56 (0, 0) (heap_new0 w1 _))
    have HW := hid (HB.out.trans (below_setRow' ((Below.refl _ w1).alloc HB.out.size (.cells zeroG 56)) HB.out.size cs))
    have HWS1 := hid (show ((w1.alloc (.cells zeroG 56)).setRow w1.heap.size cs).heap.size = w1.heap.size + 1 by simp)
    generalize hX : (w1.alloc (.cells zeroG 56)).setRow w1.heap.size cs = X at HL HW HWS1
    have HX := hid hX
    clear hX
    gi_wp2_with (first
      | (refine wpListIn_store_row (Open.wide _) rfl 56 _ _ rfl w1.heap.size cs rfl rfl 56 zeroG (heap_new0 w1 _) HS.out HZ.out HONE.out ?_; rw [HX.out])
      | refine wpListIn_load_row (Open.wide _) rfl 56 _ rfl w1.heap.size rfl 56 cs (0, 0) _ HL.out Try.underlying56 rfl HS.out ?_)
    refine ⟨trivial, callsIn_wide.2 ((HNEW.out _).mono ?_)⟩
    rintro e w2 ⟨rfl, hm2, hb2⟩
    have HM2 := hid hm2
    have HB2 := hid hb2
    have HBX := hid (show w1.heap.size < X.heap.size by rw [HWS1.out]; omega)
    have HXW := hid (show w.heap.size ≤ X.heap.size from by have := HB.out.size; have := HBX.out; omega)
    clear hm2 hb2
    generalize hbb : X.heap.size + 2 = b at *
    have HBB := hid hbb
    clear hbb
    have HN2 := hid (heap_new0 w2 (.cells zeroT 94))
    have HL2 := hid (setRow_heap (w2.alloc (.cells zeroT 94)) w2.heap.size zeroT (tcells cs b) 94 (0, 0) (heap_new0 w2 _))
    have HM3 := hid (show MapOf ((w2.alloc (.cells zeroT 94)).setRow w2.heap.size (tcells cs b)) b ([] : List Wy) from (HM2.out.alloc _).kept (setRow_other _ _ _ _ (by have := HM2.out.lt; omega)))
    have HB3 := hid (show Below w.heap.size w ((w2.alloc (.cells zeroT 94)).setRow w2.heap.size (tcells cs b)) from
      (HW.out.trans (HB2.out.mono HXW.out)).trans (below_setRow' ((Below.refl _ w2).alloc (by have := HB2.out.size; have := HXW.out; omega) _) (by have := HB2.out.size; have := HXW.out; omega) _))
    generalize hY : (w2.alloc (.cells zeroT 94)).setRow w2.heap.size (tcells cs b) = Y at HL2 HM3 HB3
    have HY := hid hY
    have HKY : ∀ (g : Nat) (o : Obj), w2.heap[g]? = some o → Y.heap[g]? = some o := fun g o h => by rw [← hY, setRow_other _ _ _ _ (by have := lt_of_block h; omega), Below.heap_alloc _ _ _ (lt_of_block h)]; exact h
    clear hY
    gi_wp2_with (first
      | (refine wpListIn_store_row (Open.wide _) rfl 94 _ _ rfl w2.heap.size (tcells cs b) rfl rfl 94 zeroT HN2.out (HST.out b) (HTZ.out b) (HTO.out b) ?_; rw [HY.out])
      | refine wpListIn_load_row (Open.wide _) rfl 94 _ rfl w2.heap.size rfl 94 (tcells cs b) (0, 0) _ HL2.out Try.underlying94 rfl (HST.out b) ?_)
    refine ⟨trivial, callsIn_wide.2 ((HASK2.out b _ Y HM3.out).mono ?_)⟩
    rintro e w3 ⟨⟨v3, rfl⟩, hm3, hg3⟩
    have HL3 := hid (show w3.heap[w2.heap.size]? = some (.cells (tcells cs b) 94 (0, 0)) from (hg3.block _ (lt_of_block HL2.out) (by have := HM2.out.lt; intro e; cases e; omega)).trans HL2.out)
    have HM4 := hid hm3
    have HB4 := hid (show Below w.heap.size w w3 from HB3.out.trans (below_grown hg3 HB3.out.size (by have := HBB.out; have := HXW.out; omega)))
    have HK2 := hid (show w2.heap[w1.heap.size]? = some (.cells cs 56 (0, 0)) from (HB2.out.block _ HBX.out).trans HL.out)
    have HK3 := hid (show w3.heap[w1.heap.size]? = some (.cells cs 56 (0, 0)) from (hg3.block _ (lt_of_block (HKY w1.heap.size _ HK2.out)) (by have := HBB.out; have := HBX.out; intro e; cases e; omega)).trans (HKY w1.heap.size _ HK2.out))
    clear hm3 hg3 HKY
    have HS0 := hid (show (w3.alloc (.cells #[.int .i64 0] 3)).heap[w1.heap.size]? = some (.cells cs 56 (0, 0)) from (Below.heap_alloc _ _ _ (lt_of_block HK3.out)).trans HK3.out)
    gi_wp2_with (refine wpListIn_load_row (Open.wide _) rfl 56 _ rfl w1.heap.size rfl 56 cs (0, 0) _ HS0.out Try.underlying56 rfl HS.out ?_)
    refine ⟨trivial, callsIn_wide.2 ((cells_any cs _).mono ?_)⟩
    rintro e w4 ⟨rfl, hw4⟩
    have K1 := hid (show Boxed w4 w3.heap.size 3 (.int .i64 ((twW (fun c => bc.count c) ([] : List (Fin (n * m))) : Nat) : Int)) by
      unfold Boxed
      rw [hw4]; exact heap_new1 w3 _ _)
    have K3 := hid (show w4.heap[w3.heap.size + 1]? = some (.cells cs 56 (0, 0)) by
      rw [hw4]; simpa using heap_new0 (w3.alloc (.cells #[.int .i64 0] 3)) (.cells cs 56))
    have K34 := hid (show Below w3.heap.size w3 w4 by rw [hw4]; exact ((Below.refl _ w3).alloc (Nat.le_refl _) _).alloc (by simp) _)
    have KS := hid (show w4.heap.size = w3.heap.size + 2 by rw [hw4]; simp)
    have KB := hid (show Below w.heap.size w w4 from HB4.out.trans (K34.out.mono HB4.out.size))
    have KT := hid (show w4.heap[w2.heap.size]? = some (.cells (tcells cs b) 94 (0, 0)) from (K34.out.block _ (lt_of_block HL3.out)).trans HL3.out)
    have KM := hid (show MapOf w4 b (waysL bw L) from HM4.out.kept (K34.out.block _ HM4.out.lt))
    have KW := hid (show w.heap.size ≤ w3.heap.size from HB4.out.size)
    have KL2 := hid (show w2.heap.size < w3.heap.size from lt_of_block HL3.out)
    clear hw4
    simp only [World.size_alloc]
    gi_wp2
    refine wpIn_rangeFunc_ownH rfl (by omega) (gf := 146) (lb := #[.pointer (some ⟨w3.heap.size + 1, 0, none⟩)]) rfl trivial (enters_of Try.func146 (by kernel_rfl) rfl)
      (HCS.out (w3.heap.size + 1) w4 K3.out) KeepsAt.trans (keepsAt_b (lt_of_block K3.out)) (Below.refl _ _) (fun _ => rfl)
      (fun pre W => ((W.heap[w2.heap.size]? = some (.cells (tcells cs b) 94 (0, 0)) ∧ MapOf W b (waysL bw L)) ∧ Boxed W w3.heap.size 3 (.int .i64 ((twW (fun c => bc.count c) pre : Nat) : Int))) ∧ Below w.heap.size w4 W)
      (fun _ _ _ => False)
      (OwnFrom.and (OwnFrom.and (OwnFrom.and (ownFrom_heap _ _ (fun _ => _) (fun _ => rfl)) (own_map b _ (fun _ => waysL bw L) KM.out.lt)) (Own.from (boxed_own _ _ (fun pre => .int .i64 ((twW (fun c => bc.count c) pre : Nat) : Int))) _)) (ownFrom_below (by have := KS.out; have := KW.out; omega) (by have := KS.out; have := KW.out; omega)))
      (fun _ _ _ _ _ hs _ _ => hs)
      ⟨⟨⟨KT.out, KM.out⟩, K1.out⟩, Below.refl _ _⟩
      (fun x a' W => ∃ Bx, w4.heap.size ≤ Bx ∧ W.heap[Bx]? = some (.cells (placeC m x.val) 69 (0, 0)) ∧ ∃ u0 u1 u2 u3 u4 u5 u7 u11 u12 u13 u14 u15 u16 u17 u18 u19 u20 u21 u22 u23 u24 u25 u26 u27 u28 u29 u30 u31 u32 u33 u34 : Value,
        a' = { tmps := #[u0, u1, u2, u3, u4, u5, .pointer (some ⟨w1.heap.size, 0, none⟩), u7, .pointer (some ⟨w2.heap.size, 0, none⟩), .pointer (some ⟨w3.heap.size, 0, none⟩), .pointer (some ⟨Bx, 0, none⟩), u11, u12, u13, u14, u15, u16, u17, u18, u19, u20, u21, u22, u23, u24, u25, u26, u27, u28, u29, u30, u31, u32, u33, u34], defers := [] })
      (fun x a' _ X Y row hs hg hr => by
        obtain ⟨Bx, h1, h2, h3⟩ := hs
        exact ⟨Bx, h1, ownFrom_heap _ Bx (fun (_ : Unit) => Obj.cells (placeC m x.val) 69 (0, 0)) (fun _ => rfl) () X Y row h2 hg hr, h3⟩)
      ?assign ?body ?done ?stop
    case assign =>
      rintro l pre x W K ⟨⟨⟨i0, i1⟩, i2⟩, i3⟩ hK
      have J0 := hid i0
      have J1 := hid i1
      have J2 := hid i2
      have J3 := hid i3
      have JK := hid hK
      clear i0 i1 i2 i3 hK
      unfold encs
      simp only [placeC] at JK ⊢
      generalize ((x.val / m : Nat) : Int) = iv at *
      generalize ((x.val % m : Nat) : Int) = kv at *
      generalize (((pad (flat ss)).getD x.val 0).toNat : Int) = bv at *
      gi_wp2
      have hsz : w4.heap.size ≤ W.heap.size := J3.out.size
      exact JK.out _ _ ((KeepsOthers.alloc _ _).from _) (KeepsAt.below ((Below.refl _ W).alloc (Nat.le_refl _) _) (by have := KS.out; omega))
        ⟨⟨⟨(Below.heap_alloc _ _ _ (lt_of_block J0.out)).trans J0.out, J1.out.alloc _⟩, J2.out.alloc _⟩, J3.out.alloc (by have := KS.out; have := KW.out; omega) _⟩
        ⟨W.heap.size, hsz, heap_new0 W _, _, _, _, _, _, _, _, _, _, _, _, _, _, _, _, _, _, _, _, _, _, _, _, _, _, _, _, _, _, _, _, rfl⟩
    case body =>
      rintro l pre x a' W hlw ⟨r, hr⟩ ⟨⟨⟨i0, i1⟩, i2⟩, i3⟩ ⟨Bx, hBx, hX, u0, u1, u2, u3, u4, u5, u7, u11, u12, u13, u14, u15, u16, u17, u18, u19, u20, u21, u22, u23, u24, u25, u26, u27, u28, u29, u30, u31, u32, u33, u34, rfl⟩ hlt
      have htim := hid (HTIM.out b x.val W x.isLt i1)
      have hle := twW_le (fun c => bc.count c) pre
      have hsn := twW_snoc (fun c => bc.count c) pre x
      have hne := nat_beq2 (bc.count x.val)
      obtain ⟨bb, hbb⟩ : ∃ bb : Nat, bc.count x.val = bb := ⟨_, rfl⟩
      simp only [hbb] at hsn
      rw [hbb] at hne htim
      have c0 : W.cell? ⟨Bx, 0, none⟩ = some (.int .i64 ((x.val / m : Nat) : Int)) := by rw [cell_of_row _ _ _ _ _ _ hX]; rfl
      have c1 : W.cell? ⟨Bx, 1, none⟩ = some (.int .i64 ((x.val % m : Nat) : Int)) := by rw [cell_of_row _ _ _ _ _ _ hX]; rfl
      generalize ((x.val / m : Nat) : Int) = iv at *
      generalize ((x.val % m : Nat) : Int) = kv at *
      obtain ⟨bv, hbv⟩ : ∃ bv : Int, (bb : Int) = bv := ⟨_, rfl⟩
      rw [hbv] at hne htim
      obtain ⟨cv, hcv⟩ : ∃ cv : Int, ((twW (fun c => bc.count c) pre : Nat) : Int) = cv := ⟨_, rfl⟩
      have hcb0 : 0 ≤ cv := by omega
      have hcb1 : cv < 100 := by omega
      rw [hcv] at i2
      have HC := hid hcv
      have I0 := hid i0
      have I1 := hid i1
      have I2 := hid i2
      have I3 := hid i3
      have HSN := hid hsn
      clear hcv i0 i1 i2 i3 hsn hle hlt hbv hbb hr hX hlw
      gi_wp2_with (refine wpListIn_load_row (Open.round _ l) rfl 94 _ rfl w2.heap.size rfl 94 (tcells cs b) (0, 0) _ I0.out Try.underlying94 rfl (HST.out b) ?_)
      refine ⟨trivial, CallsIn.inRound l (callsIn_wide.2 (htim.out.mono ?_))⟩
      rintro e w5 ⟨rfl, hb5⟩
      have E0 := hid ((hb5.block _ (lt_of_block I0.out)).trans I0.out)
      have EM := hid (I1.out.kept (hb5.block _ I1.out.lt))
      have E1 := hid (show Boxed w5 w3.heap.size 3 (.int .i64 cv) from (hb5.block _ I2.out.lt).trans I2.out)
      have E2 := hid (I3.out.trans (hb5.mono (by have := I3.out.size; have := KS.out; have := KW.out; omega)))
      have EK := hid (keeps_below hb5)
      have EW := hid (KeepsAt.below (g := w3.heap.size + 1) hb5 (by have := I3.out.size; have := KS.out; omega))
      have hcell := E1.out.cell
      have hfr := E1.out.frozen
      clear hb5 c0 c1
      cases hb : (bb == 2) with
      | true =>
        rw [hb] at hne
        have HSX := hid (show twW (fun c => bc.count c) (pre ++ [x]) = twW (fun c => bc.count c) pre + 1 by rw [HSN.out, if_pos hb])
        clear hb
        gi_wp2
        refine ⟨(EK.out.trans (KeepsOthers.setCell _ _ _)).from _, EW.out.trans ⟨by simp, Below.heap_setCell _ _ _ _ (by simp)⟩, ⟨⟨?_, ?_⟩, ?_⟩, E2.out.setCell (p := ⟨w3.heap.size, 0, none⟩) KW.out _⟩
        · rw [Below.heap_setCell _ _ _ _ (by have := KL2.out; show w2.heap.size ≠ w3.heap.size; omega)]; exact E0.out
        · exact EM.out.kept (Below.heap_setCell _ _ _ _ (by have := HM4.out.lt; show b ≠ w3.heap.size; omega))
        · rw [HSX.out, Int.natCast_add, HC.out]
          exact E1.out.set _
      | false =>
        rw [hb] at hne
        have HSX := hid (show twW (fun c => bc.count c) (pre ++ [x]) = twW (fun c => bc.count c) pre by rw [HSN.out, if_neg (by rw [hb]; decide), Nat.add_zero])
        clear hb
        gi_wp2
        refine ⟨EK.out.from _, EW.out, ⟨⟨E0.out, EM.out⟩, ?_⟩, E2.out⟩
        rw [HSX.out, HC.out]
        exact E1.out
    case done =>
      rintro D xs W hD rfl ⟨⟨⟨i0, i1⟩, i2⟩, i3⟩ hK
      rw [twW_all] at i2
      have hcell := i2.cell
      have J2 := hid i3
      have JK := hid hK
      clear i0 i1 i2 i3 hK
      gi_wp2
      refine ⟨by simp, .inl ⟨_, _, rfl, run_takeDeferred JK.out, ?_⟩⟩
      refine ⟨_, results_tmp2 rfl _ _ _, ?_, _, true, rfl, .inl ⟨n, m, q, HQ.out, ?_⟩⟩
      · exact (KB.out.trans J2.out).trans (belowK_b (w := w) (Nat.le_refl _) _ D _ _ (by have := KS.out; have := KW.out; omega) JK.out rfl rfl)
      · rw [← HRR.out]
    case stop =>
      rintro D c pre W _ _ h _
      exact h.elim
  · have HB := hid hbel
    have HGr := hid hno
    clear hbel hno
    gi_wp2_with (refine wpListIn_store_row (Open.wide _) rfl 56 _ _ rfl w1.heap.size zeroG rfl rfl 56 zeroG (heap_new0 w1 _) Try.size_grid rfl (gcells_one 0 0 (pad [])) ?_)
    refine ⟨_, results_tmp2 rfl _ _ _, ?_, 0, false, rfl, .inr ⟨HGr.out, rfl, rfl⟩⟩
    exact HB.out.trans (below_setRow' ((Below.refl _ w1).alloc HB.out.size _) HB.out.size _)

end Go.Proofs.Ytmfoajghlodkdaa
