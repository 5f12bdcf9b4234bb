/- BeamSides of the specification and of the program, by their contracts. -/
import Derived.Test.YtpbppkidglmacaaFirst
import Derived.Test.YtpbppkidglmacaaBunF
import Derived.Test.YtpbppkidglmacaaListOut
import Derived.StillTailTactics
namespace Go.Proofs.Ytpbppkidglmacaa
open Go.RowKit Go.Shelf

/-- How often a beam's first k ways go in a heading. -/
def headsTo (bw : Nat → Wy) (k d : Nat) : Nat := (List.range k).countP fun j => (bw j).d == d
theorem headsTo_succ (bw : Nat → Wy) (k d : Nat) : headsTo bw (k + 1) d = headsTo bw k d + (if ((bw k).d == d) = true then 1 else 0) := by
  unfold headsTo
  rw [List.range_succ, List.countP_append, List.countP_cons, List.countP_nil, Nat.zero_add]
theorem headsTo_le (bw : Nat → Wy) (k d : Nat) : headsTo bw k d ≤ k := by
  have := List.countP_le_length (p := fun j => (bw j).d == d) (l := List.range k)
  rwa [List.length_range] at this
def sidesL (f : Nat → Nat) : List Int := (List.range 4).map fun d => ((f d : Nat) : Int)
def sidesR (n m : Nat) (t : Int → Int → UInt8) (q : Nat) : List Int := sidesL (headsTo (bway n m t q) (blen n m t q))
theorem sidesL_at {f : Nat → Nat} {d : Nat} {x : Int} (h : (sidesL f)[d]? = some x) : d < 4 ∧ x = ((f d : Nat) : Int) := by
  have hd := (List.getElem?_eq_some_iff.1 h).1
  simp only [sidesL, List.length_map, List.length_range] at hd
  simp [sidesL, hd] at h
  exact ⟨hd, h.symm⟩
/-- A row of four counts. -/
def Row4 (W : World) (R : Nat) (f : Nat → Nat) : Prop := ∃ rs : Array Value, W.heap[R]? = some (.cells rs 3 (0, 0)) ∧ rs.size = 4 ∧ ∀ d, d < 4 → rs[d]? = some (.int .i64 ((f d : Nat) : Int))
theorem Row4.row8 {W : World} {R : Nat} {f : Nat → Nat} (h : Row4 W R f) : Row8 W R (sidesL f) := by
  obtain ⟨rs, h1, _, h3⟩ := h
  refine ⟨rs, h1, fun k x hx => ?_⟩
  obtain ⟨hk, rfl⟩ := sidesL_at hx
  exact h3 k hk
theorem Row4.cell {W : World} {R : Nat} {f : Nat → Nat} (h : Row4 W R f) {d : Nat} (hd : d < 4) : W.cell? ⟨R, d, none⟩ = some (.int .i64 ((f d : Nat) : Int)) ∧ W.frozen? ⟨R, d, none⟩ = false := by
  obtain ⟨rs, h1, _, h3⟩ := h
  exact ⟨by rw [cell_of_row _ _ _ _ _ _ h1]; exact h3 d hd, frozen_of_row _ _ _ _ _ h1⟩
theorem Row4.set {W : World} {R : Nat} {f g : Nat → Nat} (h : Row4 W R f) {d : Nat} {x : Int} (hx : x = ((g d : Nat) : Int)) (ho : ∀ e, e ≠ d → g e = f e) : Row4 (W.setCell ⟨R, d, none⟩ (.int .i64 x)) R g := by
  obtain ⟨rs, h1, h2, h3⟩ := h
  refine ⟨_, heap_setCell_same _ _ _ _ _ _ h1, by simp [h2], fun e he => ?_⟩
  by_cases hed : e = d
  · subst hed
    rw [Array.getElem?_setIfInBounds_self_of_lt (by omega), hx]
  · rw [Array.getElem?_setIfInBounds_ne (fun e' => hed e'.symm), ho e hed]; exact h3 e he
theorem Row4.same {W W' : World} {R : Nat} {f : Nat → Nat} (h : Row4 W R f) (hs : W'.heap[R]? = W.heap[R]?) : Row4 W' R f := by
  obtain ⟨rs, h1, h2⟩ := h
  exact ⟨rs, hs.trans h1, h2⟩
theorem Row4.lt {W : World} {R : Nat} {f : Nat → Nat} (h : Row4 W R f) : R < W.heap.size := by
  obtain ⟨rs, h1, _⟩ := h
  exact lt_of_block h1
theorem Row4.made {W : World} {R : Nat} (h : W.heap[R]? = some (.cells (madeCells #[.int .i64 0] 4) 3 (0, 0))) (bw : Nat → Wy) : Row4 W R (headsTo bw 0) :=
  ⟨_, h, size_madeCells _ _, fun d hd => by simp [madeCells, hd, Nat.mod_one, headsTo]⟩

def SdRel (bw : Nat → Wy) (L R : Nat) (w1 : World) (i : Value) (wr : World) : Prop :=
  ∃ k : Nat, k ≤ L ∧ i = .int .i64 k ∧ Row4 wr R (headsTo bw k) ∧ But R w1 wr
theorem headsI_at {L k : Nat} {bw : Nat → Wy} (h : k < L) : (headsI bw L)[k]? = some (((bw k).d : Nat) : Int) := by simp [headsI, h]

set_option maxRecDepth 100000 in
set_option maxHeartbeats 2000000 in
theorem specBeamSides_any (A : Option Addr) (c B : Nat) (ss : List ByteArray) (p : Int) (w : World) (h : Strs w B A ss) (hB : B ≤ w.heap.size) (hn : ss.length ≤ 1048576) (hs : ∀ s ∈ ss, s.size ≤ 1048576) :
    Calls Try.prog 34 #[.slice A ss.length c, .int .i64 p] w fun e w' => Below w.heap.size w w' ∧ ∃ A c l ok, e = .returned (.tuple #[.slice A l.length c, .bool ok]) ∧ ListOut sidesR ss p l ok ∧ Ints w' w'.heap.size A l := by
  have HI := hid (l2Given_any A c B ss p w h hn hs)
  have HD := hid h
  have hmk := run_make_row' (P := Try.prog) 29 3 (.int .i64 0) 8 Try.underlying29 Try.info_int rfl .i64 .i64 4 (by omega) (by omega)
  simp only [Int.cast_ofNat_Int] at hmk
  clear h hs
  go_enter Try.func34, Try.ntmps34
  go_wp2_with fail
  refine HI.out.mono ?_
  rintro e w' ⟨ok, rfl, hok, d, rfl⟩
  have HBd := hid (below_drewN' (Below.refl w.heap.size w) d)
  rcases hok with ⟨rfl, n, m, q, hq⟩ | ⟨rfl, hno⟩
  · obtain rfl := hq.2.1
    have HWA := hid (fun w' hst hB' => l2Way_port A c B n m q ss w' hst hB' hq.1 hq.2.2)
    have hL100 : blen n m (lett m (pad (flat ss))) q ≤ 100 := by
      have h1 := blen_lt (t := lett m (pad (flat ss))) hq.2.2
      have h2 := hq.1.le25
      omega
    have HD4 := hid (show ∀ j, (bway n m (lett m (pad (flat ss))) q j).d < 4 from fun j => bway_d q j)
    have HR := hid (show sidesL (headsTo (bway n m (lett m (pad (flat ss))) q) (blen n m (lett m (pad (flat ss))) q)) = sidesR n m (lett m (pad (flat ss))) q from rfl)
    have HQ := hid hq
    clear hq
    go_wp2_with fail
    have hx0 : ((w.drewN d).alloc (.cells (madeCells #[.int .i64 0] 4) 3)).heap[w.heap.size]? = some (.cells (madeCells #[.int .i64 0] 4) 3 (0, 0)) := heap_new0 (w.drewN d) _
    have hxb : Below w.heap.size w ((w.drewN d).alloc (.cells (madeCells #[.int .i64 0] 4) 3)) := HBd.out.alloc (by simp) _
    have hxs : w.heap.size < ((w.drewN d).alloc (.cells (madeCells #[.int .i64 0] 4) 3)).heap.size := by simp
    generalize World.alloc (w.drewN d) _ = X at hx0 hxb hxs ⊢
    refine (HWA.out X (HD.out.below hxb hB) (Nat.le_trans hB hxb.size)).mono ?_
    generalize bway n m (lett m (pad (flat ss))) q = bw at HD4 HR
    generalize blen n m (lett m (pad (flat ss))) q = L at HR hL100
    rintro e w1 ⟨v, v', rfl, _, hv, hb1⟩
    obtain ⟨A1, cc, rfl, hown⟩ := hv.own
    rw [headsI_length]
    have HB1 := hid (hxb.trans (hb1.mono hxb.size))
    have HO := hid hown
    have HR4 := hid (Row4.made ((hb1.block _ hxs).trans hx0) bw)
    have HXS := hid hxs
    have HXS1 := hid hb1.size
    clear hb1 hv hown hx0 hxb hxs
    go_wp2_with fail
    go_loopw [10] (SdRel bw L w.heap.size w1) (fun i _ => L - (intOf i).toNat)
    case atStart => exact ⟨0, Nat.zero_le _, rfl, HR4.out, But.refl _ _⟩
    case round =>
      obtain ⟨k, hk, rfl, hr4, hbut⟩ := hrel
      have HF := hid hr4
      have HBt := hid hbut
      clear hr4 hbut
      by_cases hlt : k < L
      · have howr := HO.out.but HBt.out HXS.out
        obtain ⟨b, off, x, rfl, hb, hx, hcx⟩ := howr.ints.at_ (k := k) (by rw [headsI_length]; exact hlt)
        rw [headsI_at hlt] at hx
        obtain rfl := Option.some.inj hx
        have hd4 := HD4.out k
        have hsuc := headsTo_succ bw k
        have hle := headsTo_le bw k (bw k).d
        obtain ⟨hcd, hfd⟩ := HF.out.cell hd4
        obtain ⟨dv, hdv⟩ : ∃ dv, (bw k).d = dv := ⟨_, rfl⟩
        rw [hdv] at hcx hd4 hcd hfd hle hsuc
        obtain ⟨cv, hcv⟩ : ∃ cv, headsTo bw k dv = cv := ⟨_, rfl⟩
        rw [hcv] at hcd hle
        have HSU := hid hsuc
        have HCV := hid hcv
        have hdi : (dv : Int) < 4 := by omega
        have hdi0 : (0 : Int) ≤ (dv : Int) := by omega
        have hki : (k : Int) < (L : Int) := by omega
        have hki0 : (0 : Int) ≤ (k : Int) := by omega
        clear hx howr hdv hcv hsuc
        go_wp2_with fail
        go_still_tail 14, (by kernel_rfl)
        go_wp2_with fail
        go_roundw
        case rel =>
          refine ⟨k + 1, by omega, by go_num, ?_, HBt.out.trans ((But.of_below (Below.refl _ _).drew).trans (But.setCell _ _ _))⟩
          refine Row4.same (Row4.set HF.out (d := dv) (x := (cv : Int) + 1) (g := headsTo bw (k + 1)) ?_ fun e he => ?_) rfl
          · rw [HSU.out, HCV.out]; simp
          · rw [HSU.out, if_neg (by simp; exact fun h => he h.symm), Nat.add_zero]
        case measure => simp [intOf]; omega
      · obtain rfl : k = L := by omega
        have HF8 := hid (HF.out.row8)
        go_wp2_with fail
        refine bodyPost_ret (results_tmp2 rfl _ _ _) rfl ?_
        refine ⟨HB1.out.trans (HBt.out.below (Nat.le_refl _) HB1.out.size), some ⟨w.heap.size, 0, none⟩, 4, _, true, rfl, .inl ⟨n, m, q, HQ.out, HR.out, by simp [sidesR, sidesL], rfl⟩, HF8.out.ints HF8.out.lt⟩
  · have HNo := hid hno
    clear hno
    go_wp2_with fail
    refine bodyPost_ret (results_tmp2 rfl _ _ _) rfl ?_
    exact ⟨HBd.out.alloc (by simp) _, _, _, [], false, rfl, .inr ⟨HNo.out, rfl, rfl⟩, fun h => absurd h (by simp)⟩

attribute [local go_sem] Oper.semAt_some

/-- How often the ways that have come go in a heading. -/
def headsW {L : Nat} (bw : Nat → Wy) (pre : List (Fin L)) (d : Nat) : Nat := pre.countP fun x => (bw x.val).d == d
theorem headsW_snoc {L : Nat} (bw : Nat → Wy) (pre : List (Fin L)) (x : Fin L) (d : Nat) : headsW bw (pre ++ [x]) d = headsW bw pre d + (if ((bw x.val).d == d) = true then 1 else 0) := by
  simp [headsW, List.countP_append, List.countP_cons]
theorem headsW_le {L : Nat} (bw : Nat → Wy) (pre : List (Fin L)) (d : Nat) : headsW bw pre d ≤ pre.length := List.countP_le_length
theorem headsW_all (L : Nat) (bw : Nat → Wy) : headsW bw (List.finRange L) = headsTo bw L := by
  funext d
  unfold headsW headsTo
  have e := upto_val (N := L) (k := L) (Nat.le_refl _)
  rw [upto_all] at e
  rw [← e, List.countP_map]
  rfl

set_option maxRecDepth 100000 in
set_option maxHeartbeats 4000000 in
theorem implBeamSides_any (A : Option Addr) (c : Nat) (ss : List ByteArray) (p : Int) (w : World) (h : Strs w w.heap.size A ss) (hn : ss.length ≤ 1048576) (hs : ∀ s ∈ ss, s.size ≤ 1048576) :
    Calls Try.prog 25 #[.slice A ss.length c, .int .i64 p] w fun e w' => Below w.heap.size w w' ∧ ∃ A c l ok, e = .returned (.tuple #[.slice A l.length c, .bool ok]) ∧ ListOut sidesR ss p l ok ∧ Own3 w' w.heap.size A l := by
  have HR := hid (gridWithPort_any A c ss p w h hn hs)
  clear h hs
  refine (callsIn_wide (n := 3)).1 ?_
  refine callsIn_of_wp_marks Try.func25 rfl trivial ?_ rfl
  simp only [Try.ntmps25, List.size_toArray, List.length_cons, List.length_nil, Nat.reduceAdd, Nat.reduceSub, Array.replicate_succ, Array.replicate_zero, List.push_toArray, List.append_toArray, List.nil_append, List.cons_append]
  gi_wp2_with fail
  refine ⟨trivial, callsIn_wide.2 (HR.out.mono ?_)⟩
  rintro e w1 ⟨hbel, ⟨n, m, q, hq, rfl⟩ | ⟨hno, rfl⟩⟩
  · have HB := hid hbel
    have hg := hq.1
    obtain rfl := hq.2.1
    have HQ := hid hq
    have hn5 := hg.2.2.1
    have hm5 := hg.2.2.2.2.1
    have HGC := hid (show (gcells n m (pad (flat ss))).size = 27 from hg.csize)
    have HWS := hid (fun (Bg Bp : Nat) (w' : World) h1 h2 => ways_stops 2 Bg Bp n m q (blen n m (lett m (pad (flat ss))) q) (pad (flat ss)) rfl hg.plen hn5 hm5 hq.2.2 w' h1 h2)
    have HRR := hid (show sidesL (headsTo (bway n m (lett m (pad (flat ss))) q) (blen n m (lett m (pad (flat ss))) q)) = sidesR n m (lett m (pad (flat ss))) q from rfl)
    have HD4 := hid (show ∀ j, (bway n m (lett m (pad (flat ss))) q j).d < 4 from fun j => bway_d q j)
    have hmk := run_make_row' (P := Try.prog) 29 3 (.int .i64 0) 8 Try.underlying29 Try.info_int rfl .i64 .i64 4 (by omega) (by omega)
    simp only [Int.cast_ofNat_Int] at hmk
    generalize hMC : madeCells #[Value.int .i64 0] 4 = MC at hmk
    have HMC := hid hMC
    clear hMC
    have hL100 : blen n m (lett m (pad (flat ss))) q ≤ 100 := by
      have h1 := blen_lt (t := lett m (pad (flat ss))) hq.2.2
      have h2 := hg.le25
      omega
    clear hbel hq hg
    have HONE := hid (gcells_one n m (pad (flat ss)))
    generalize gcells n m (pad (flat ss)) = cs at *
    generalize bway n m (lett m (pad (flat ss))) q = bw at *
    generalize blen n m (lett m (pad (flat ss))) q = L at *
    have HS := hid (show (Try.prog.info? 44).map (·.size) = some cs.size by rw [HGC.out]; exact Try.size_grid)
    have HZ := hid (show zeroG.size = cs.size by rw [HGC.out]; rfl)
    have HL := hid (setRow_heap (w1.alloc (.cells zeroG 44)) w1.heap.size zeroG cs 44 (0, 0) (heap_new0 w1 _))
    have HW := hid (HB.out.trans (below_setRow' ((Below.refl _ w1).alloc HB.out.size (.cells zeroG 44)) HB.out.size cs))
    have HWS1 := hid (show ((w1.alloc (.cells zeroG 44)).setRow w1.heap.size cs).heap.size = w1.heap.size + 1 by simp)
    generalize hX : (w1.alloc (.cells zeroG 44)).setRow w1.heap.size cs = X at HL HW HWS1
    have HX := hid hX
    clear hX
    have HL2 := hid (show ((X.alloc (.cells MC 3)).alloc (.cells #[.slice (some ⟨w1.heap.size + 1, 0, none⟩) 4 4] 29)).heap[w1.heap.size]? = some (.cells cs 44 (0, 0)) from ((Below.heap_alloc _ _ _ (by have := lt_of_block HL.out; simp; omega)).trans (Below.heap_alloc X _ _ (lt_of_block HL.out))).trans HL.out)
    have hXs := HWS1.out
    gi_wp2_with (first
      | (refine wpListIn_store_row (Open.wide _) rfl 44 _ _ rfl w1.heap.size cs rfl rfl 44 zeroG (heap_new0 w1 _) HS.out HZ.out HONE.out ?_; rw [HX.out])
      | refine wpListIn_load_row (Open.wide _) rfl 44 _ rfl w1.heap.size rfl 44 cs (0, 0) _ HL2.out Try.underlying44 rfl HS.out ?_)
    refine ⟨trivial, callsIn_wide.2 ((ways_any cs q _).mono ?_)⟩
    rintro e w2 ⟨rfl, hw2⟩
    clear hXs
    have hs2 : w2.heap.size = w1.heap.size + 5 := by rw [hw2]; simp [HWS1.out]
    have K0 := hid (show w2.heap[w1.heap.size]? = some (.cells cs 44 (0, 0)) by
      rw [hw2, Below.heap_alloc _ _ _ (by simp [HWS1.out]; omega), Below.heap_alloc _ _ _ (by simp [HWS1.out]; omega)]; exact HL2.out)
    have KR := hid (show Row4 w2 (w1.heap.size + 1) (headsW bw ([] : List (Fin L))) from Row4.made (by
      rw [hw2, Below.heap_alloc _ _ _ (by have := HWS1.out; simp; omega), Below.heap_alloc _ _ _ (by have := HWS1.out; simp; omega), Below.heap_alloc _ _ _ (by have := HWS1.out; simp; omega), ← HWS1.out, HMC.out]; exact heap_new0 X _) bw)
    have K1 := hid (show Boxed w2 (w1.heap.size + 1 + 1) 29 (.slice (some ⟨w1.heap.size + 1, 0, none⟩) 4 4) by
      unfold Boxed
      rw [hw2, ← HWS1.out]; simpa using heap_new2 (X.alloc (.cells MC 3)) _ _ _)
    have KX := hid (show w2.heap[w1.heap.size + 3]? = some (.cells cs 44 (0, 0)) by
      rw [hw2]; simpa [HWS1.out] using heap_new1 ((X.alloc (.cells MC 3)).alloc (.cells #[.slice (some ⟨w1.heap.size + 1, 0, none⟩) 4 4] 29)) (.cells cs 44) (.cells #[.int .i64 q] 3))
    have KP := hid (show Boxed w2 (w1.heap.size + 4) 3 (.int .i64 q) by
      unfold Boxed
      rw [hw2]; simpa [HWS1.out] using heap_new0 (((X.alloc (.cells MC 3)).alloc (.cells #[.slice (some ⟨w1.heap.size + 1, 0, none⟩) 4 4] 29)).alloc (.cells cs 44)) (.cells #[.int .i64 q] 3))
    have KB := hid (show Below w.heap.size w w2 by
      rw [hw2]; exact (((HW.out.alloc HW.out.size _).alloc (by have := HW.out.size; simp; omega) _).alloc (by have := HW.out.size; simp; omega) _).alloc (by have := HW.out.size; simp; omega) _)
    have KS := hid hs2
    have KW := hid (show w.heap.size ≤ w1.heap.size from HB.out.size)
    clear hw2 hs2
    have e3 : ((X.alloc (.cells MC 3)).alloc (.cells #[.slice (some ⟨w1.heap.size + 1, 0, none⟩) 4 4] 29)).heap.size = w1.heap.size + 3 := by simp [HWS1.out]
    rw [e3]
    clear e3
    gi_wp2
    refine wpIn_rangeFunc_ownH rfl (by omega) (gf := 88) (lb := #[.pointer (some ⟨w1.heap.size + 3, 0, none⟩), .pointer (some ⟨w1.heap.size + 4, 0, none⟩)]) rfl trivial (enters_of Try.func88 (by kernel_rfl) rfl)
      (HWS.out (w1.heap.size + 3) (w1.heap.size + 4) w2 KX.out KP.out) KeepsW.trans (keepsW_b (lt_of_block KX.out)) (Below.refl _ _) (fun _ => rfl)
      (fun pre W => (Boxed W (w1.heap.size + 1 + 1) 29 (.slice (some ⟨w1.heap.size + 1, 0, none⟩) 4 4) ∧ Row4 W (w1.heap.size + 1) (headsW bw pre)) ∧ Below w.heap.size w2 W)
      (fun _ _ _ => False)
      (OwnFrom.and (OwnFrom.and (Own.from (boxed_own _ _ (fun _ => .slice (some ⟨w1.heap.size + 1, 0, none⟩) 4 4)) _) (fun s X Y row hs hg hr => by
        obtain ⟨rs, h1, h2⟩ := hs
        exact ⟨rs, ownFrom_heap _ _ (fun (_ : Unit) => Obj.cells rs 3 (0, 0)) (fun _ => rfl) () X Y row h1 hg hr, h2⟩)) (ownFrom_below (by have := KS.out; have := KW.out; omega) (by have := KS.out; have := KW.out; omega)))
      (fun _ _ _ _ _ hs _ _ => hs)
      ⟨⟨K1.out, KR.out⟩, Below.refl _ _⟩
      (fun x a' W => ∃ Bx, w2.heap.size ≤ Bx ∧ W.heap[Bx]? = some (.cells (wayC (bw x.val)) 58 (0, 0)) ∧ ∃ u0 u1 u2 u3 u4 u5 u6 u7 u10 u11 u12 u13 u14 u15 u16 u17 u18 u19 u20 u21 u22 u23 u24 u25 u26 u27 u28 u29 u30 : Value,
        a' = { tmps := #[u0, u1, u2, u3, u4, u5, u6, u7, .pointer (some ⟨w1.heap.size + 1 + 1, 0, none⟩), .pointer (some ⟨Bx, 0, none⟩), u10, u11, u12, u13, u14, u15, u16, u17, u18, u19, u20, u21, u22, u23, u24, u25, u26, u27, u28, u29, u30], defers := [] })
      (fun x a' _ X Y row hs hg hr => by
        obtain ⟨Bx, h1, h2, h3⟩ := hs
        exact ⟨Bx, h1, ownFrom_heap _ Bx (fun (_ : Unit) => Obj.cells (wayC (bw x.val)) 58 (0, 0)) (fun _ => rfl) () X Y row h2 hg hr, h3⟩)
      ?assign ?body ?done ?stop
    case assign =>
      rintro l pre x W K ⟨⟨i0, i1⟩, i2⟩ hK
      have J0 := hid i0
      have J1 := hid i1
      have J2 := hid i2
      have JK := hid hK
      clear i0 i1 i2 hK
      obtain ⟨y, hy⟩ : ∃ y, bw x.val = y := ⟨_, rfl⟩
      unfold encW
      rw [hy] at JK ⊢
      clear hy
      obtain ⟨iv, kv, dv⟩ := y
      simp only [wayV, wayC] at JK ⊢
      gi_wp2
      have hsz : w2.heap.size ≤ W.heap.size := J2.out.size
      have hsz2 : w1.heap.size + 3 < W.heap.size := by have := KS.out; omega
      exact JK.out _ _ ((KeepsOthers.alloc _ _).from _) (KeepsW.below ((Below.refl _ W).alloc (Nat.le_refl _) _) hsz2)
        ⟨⟨J0.out.alloc _, J1.out.same (Below.heap_alloc _ _ _ (by omega))⟩, J2.out.alloc (by have := KW.out; omega) _⟩
        ⟨W.heap.size, hsz, heap_new0 W _, _, _, _, _, _, _, _, _, _, _, _, _, _, _, _, _, _, _, _, _, _, _, _, _, _, _, _, _, _, rfl⟩
    case body =>
      rintro l pre x a' W hlw ⟨r, hr⟩ ⟨⟨i0, i1⟩, i2⟩ ⟨Bx, hBx, hX, u0, u1, u2, u3, u4, u5, u6, u7, u10, u11, u12, u13, u14, u15, u16, u17, u18, u19, u20, u21, u22, u23, u24, u25, u26, u27, u28, u29, u30, rfl⟩ hlt
      have hd4 := HD4.out x.val
      have hsuc := headsW_snoc bw pre x
      have hle := headsW_le bw pre (bw x.val).d
      obtain ⟨hcd, hfd⟩ := i1.cell hd4
      obtain ⟨y, hy⟩ : ∃ y, bw x.val = y := ⟨_, rfl⟩
      rw [hy] at hX hd4 hsuc hle hcd hfd
      clear hy
      obtain ⟨yi, yk, dv⟩ := y
      simp only at hd4 hsuc hle hcd hfd
      have c2 : W.cell? ⟨Bx, 2, none⟩ = some (.int .i64 ((dv : Nat) : Int)) := by rw [cell_of_row _ _ _ _ _ _ hX]; rfl
      have hcell := i0.cell
      obtain ⟨cv, hcv⟩ : ∃ cv, headsW bw pre dv = cv := ⟨_, rfl⟩
      rw [hcv] at hcd hle
      have hcvb : (cv : Int) < 100 := by omega
      have hcv0 : (0 : Int) ≤ (cv : Int) := by omega
      have hdi : (dv : Int) < 4 := by omega
      have hdi0 : (0 : Int) ≤ (dv : Int) := by omega
      have HSU := hid hsuc
      have HCV := hid hcv
      have I0 := hid i0
      have I1 := hid i1
      have I2 := hid i2
      have hWs : w1.heap.size + 5 ≤ W.heap.size := by rw [← KS.out]; exact i2.size
      clear i0 i1 i2 hsuc hcv hlt hr hX hlw hle
      gi_wp2
      refine ⟨(KeepsOthers.setCell _ _ _).from _, KeepsW.setCell _ _ _ (by omega) (by have := KS.out; omega), ⟨by unfold Boxed; rw [Below.heap_setCell _ _ _ _ (by simp)]; exact I0.out, ?_⟩, I2.out.setCell (p := ⟨w1.heap.size + 1, dv, none⟩) (by have := KW.out; show w.heap.size ≤ w1.heap.size + 1; omega) _⟩
      refine Row4.set I1.out (d := dv) (g := headsW bw (pre ++ [x])) ?_ fun e he => ?_
      · rw [HSU.out, HCV.out]; simp
      · rw [HSU.out, if_neg (by simp; exact fun h => he h.symm), Nat.add_zero]
    case done =>
      rintro D xs W hD rfl ⟨⟨i0, i1⟩, i2⟩ hK
      rw [headsW_all] at i1
      have hcell := i0.cell
      have J1 := hid i1.row8
      have J2 := hid i2
      have JK := hid hK
      clear i0 i1 i2 hK
      gi_wp2
      refine ⟨by simp, .inl ⟨_, _, rfl, run_takeDeferred JK.out, ?_⟩⟩
      refine ⟨_, results_tmp2 rfl _ _ _, ?_, some ⟨w1.heap.size + 1, 0, none⟩, 4, sidesL (headsTo bw L), true, rfl, .inl ⟨n, m, q, HQ.out, HRR.out, by simp [sidesR, sidesL], rfl⟩, .inr ⟨w1.heap.size + 1, rfl, by have := KW.out; omega, ?_⟩⟩
      · exact (KB.out.trans J2.out).trans (belowK_b (w := w) (Nat.le_refl _) _ D _ _ (by have := KS.out; have := KW.out; omega) JK.out rfl rfl)
      · obtain ⟨rs, hc, hx⟩ := J1.out
        refine ⟨rs, ?_, hx⟩
        rw [World.putObj_heap_other (fun e => by rw [KS.out] at hD; omega)]
        exact hc
    case stop =>
      rintro D c pre W _ _ h _
      exact h.elim
  · have HB := hid hbel
    have HGr := hid hno
    clear hbel hno
    gi_wp2_with (refine wpListIn_store_row (Open.wide _) rfl 44 _ _ rfl w1.heap.size zeroG rfl rfl 44 zeroG (heap_new0 w1 _) Try.size_grid rfl (gcells_one 0 0 (pad [])) ?_)
    refine ⟨_, results_tmp2 rfl _ _ _, ?_, none, 0, [], false, rfl, .inr ⟨HGr.out, rfl, rfl⟩, .inl ⟨rfl, rfl⟩⟩
    exact HB.out.trans (below_setRow' ((Below.refl _ w1).alloc HB.out.size _) HB.out.size _)

end Go.Proofs.Ytpbppkidglmacaa
