/- BeamLongest of the specification and of the program, by their contracts. -/
import Derived.Test.YtpbppkidglmacaaLength
import Derived.Test.YtpbppkidglmacaaPairs
namespace Go.Proofs.Ytpbppkidglmacaa
open Go.RowKit Go.Shelf

/-- The longest of the first k: which, and how long. -/
def best (len : Nat → Nat) : Nat → Nat × Nat
  | 0 => (0, 0)
  | k + 1 => if len k > (best len k).2 then (k, len k) else best len k
theorem best_le (len : Nat → Nat) (M : Nat) (h : ∀ k, len k ≤ M) : ∀ k, (best len k).1 ≤ k ∧ (best len k).2 ≤ M
  | 0 => ⟨Nat.le_refl _, Nat.zero_le _⟩
  | k + 1 => by
    have ih := best_le len M h k
    unfold best
    split
    · exact ⟨Nat.le_succ _, h k⟩
    · exact ⟨by omega, ih.2⟩
def lenOfB (n m : Nat) (t : Int → Int → UInt8) (k : Nat) : Nat := if k < 2 * (n + m) then blen n m t k else 0
/-- What BeamLongest comes to. -/
def LongOut (ss : List ByteArray) (x y : Int) (ok : Bool) : Prop :=
  (∃ n m, IsGrid n m ss ∧ x = (((best (lenOfB n m (lett m (pad (flat ss)))) (2 * (n + m))).1 : Nat) : Int) ∧ y = (((best (lenOfB n m (lett m (pad (flat ss)))) (2 * (n + m))).2 : Nat) : Int) ∧ ok = true) ∨ (NoGrid ss ∧ x = 0 ∧ y = 0 ∧ ok = false)
theorem LongOut.uniq {ss : List ByteArray} {x x' y y' : Int} {ok ok' : Bool} (h : LongOut ss x y ok) (h' : LongOut ss x' y' ok') : x' = x ∧ y' = y ∧ ok' = ok := by
  rcases h with ⟨n, m, h1, rfl, rfl, rfl⟩ | ⟨h1, rfl, rfl, rfl⟩ <;> rcases h' with ⟨n', m', h1', rfl, rfl, rfl⟩ | ⟨h1', rfl, rfl, rfl⟩
  · obtain ⟨rfl, rfl⟩ := h1.uniq h1'
    exact ⟨rfl, rfl, rfl⟩
  · exact absurd h1 (h1' _ _)
  · exact absurd h1' (h1 _ _)
  · exact ⟨rfl, rfl, rfl⟩

def LgRel (len : Nat → Nat) (N : Nat) (w : World) (pv mv iv : Value) (wr : World) : Prop :=
  ∃ k : Nat, k ≤ N ∧ pv = .int .i64 (((best len k).1 : Nat) : Int) ∧ mv = .int .i64 (((best len k).2 : Nat) : Int) ∧ iv = .int .i64 (k : Int) ∧ Below w.heap.size w wr

set_option maxRecDepth 100000 in
set_option maxHeartbeats 2000000 in
theorem specBeamLongest_any (A : Option Addr) (c B : Nat) (ss : List ByteArray) (w : World) (h : Strs w B A ss) (hB : B ≤ w.heap.size) (hn : ss.length ≤ 1048576) (hs : ∀ s ∈ ss, s.size ≤ 1048576) :
    Calls Try.prog 37 #[.slice A ss.length c] w fun e w' => Below w.heap.size w w' ∧ ∃ x y ok, e = .returned (.tuple #[.int .i64 x, .int .i64 y, .bool ok]) ∧ LongOut ss x y ok := by
  have HI := hid (specGridIn_any A c B ss w h hn hs)
  have HD := hid h
  clear h hs
  go_enter Try.func37, Try.ntmps37
  go_wp2_with fail
  refine HI.out.mono ?_
  rintro e w' ⟨ok, rfl, hok, d, rfl⟩
  have HO := hid hok
  clear hok
  have HBd := hid (below_drewN' (Below.refl w.heap.size w) d)
  cases ok with
  | false =>
    go_wp2_with fail
    refine bodyPost_ret (results_tmp3 rfl _ _ _) rfl ?_
    exact ⟨HBd.out, 0, 0, false, rfl, .inr ⟨noGrid_of HO.out, rfl, rfl, rfl⟩⟩
  | true =>
    obtain ⟨n, m, hg⟩ := HO.out.1 rfl
    have hn1 := hg.2.1
    have hn5 := hg.2.2.1
    have hm5 := hg.2.2.2.2.1
    have hnl := hg.1
    obtain ⟨b, off, s0, rfl, hb, hk0, hc0'⟩ := (HD.out.drewN d).at_ (k := 0) (by omega)
    have hs0 : s0.size = m := (hg.2.2.2.2.2 s0 (List.mem_of_getElem? hk0)).1
    have hs0i : ((s0.size : Nat) : Int) = (m : Int) := by rw [hs0]
    have hl0 : (0 : Int) < (ss.length : Int) := by omega
    have HP := hid (fun w => l2Ports_any n m w hn5 hm5)
    have HW := hid (fun q w' (hst : Strs w' B (some ⟨b, off, none⟩) ss) hB' hq => l2Way_port (some ⟨b, off, none⟩) c B n m q ss w' hst hB' hg hq)
    have HH := hid (HD.out.drewN d)
    have HBB := hid (show B ≤ (w.drewN d).heap.size from hB)
    have HKs := hid hk0
    have HNL := hid hnl
    have HGG := hid hg
    have hM : ∀ k, lenOfB n m (lett m (pad (flat ss))) k ≤ 100 := fun k => by
      unfold lenOfB
      split
      · have h1 := blen_lt (t := lett m (pad (flat ss))) (by assumption : k < 2 * (n + m))
        have h2 := hg.le25
        omega
      · omega
    have HLE := hid (best_le (lenOfB n m (lett m (pad (flat ss)))) 100 hM)
    have HLO := hid (show ∀ k, k < 2 * (n + m) → blen n m (lett m (pad (flat ss))) k = lenOfB n m (lett m (pad (flat ss))) k from fun k hk => by unfold lenOfB; rw [if_pos hk])
    have HLM := hid hM
    clear hs0 hk0 hB hg hc0' hM
    generalize hw : w.drewN d = wd at *
    have HWd := hid hw
    have hwd : wd.heap.size = w.heap.size := by rw [← hw]; rfl
    have HWS := hid hwd
    clear hw hwd
    rw [HNL.out] at hl0 HW ⊢
    clear hnl
    generalize hlen : lenOfB n m (lett m (pad (flat ss))) = len at *
    have HLEN := hid hlen
    clear hlen
    go_wp2_with fail
    go_loopw [5, 6, 7] (LgRel len (2 * (n + m)) wd) (fun _ _ i _ => 2 * (n + m) - (intOf i).toNat)
    case atStart => exact ⟨0, Nat.zero_le _, rfl, rfl, rfl, Below.refl _ _⟩
    case round =>
      obtain ⟨k, hk, rfl, rfl, rfl, hbel⟩ := hrel
      have HB := hid hbel
      have hst := hid (HH.out.below hbel HBB.out)
      have hc0 := hst.out.cell_ HKs.out
      rw [Nat.add_zero] at hc0
      clear hbel
      have hle := HLE.out k
      have hsuc : best len (k + 1) = if len k > (best len k).2 then (k, len k) else best len k := rfl
      obtain ⟨⟨x, y⟩, hxy⟩ : ∃ p, best len k = p := ⟨_, rfl⟩
      rw [hxy] at hle hsuc ⊢
      simp only at hle hsuc ⊢
      have HXY := hid hxy
      have HSU := hid hsuc
      clear hxy hsuc
      go_wp2_with fail
      refine (HP.out _).mono ?_
      rintro e w' ⟨rfl, rfl⟩
      by_cases hlt : k < 2 * (n + m)
      · have hli : (k : Int) < 2 * ((n : Int) + (m : Int)) := by omega
        have hway := hid (HW.out k wr hst.out (Nat.le_trans HBB.out HB.out.size) hlt)
        have hlk := HLO.out k hlt
        have hlm := HLM.out k
        clear hc0
        go_wp2_with fail
        refine hway.out.mono ?_
        rintro e w2 ⟨v, v', rfl, hv, _, hb2⟩
        obtain ⟨A1, cc, rfl, hint⟩ := hv.ints
        rw [cellsI_length, hlk]
        have HB2 := hid (HB.out.trans (hb2.mono HB.out.size))
        clear hb2 hv hint hlk
        generalize len k = lk at *
        by_cases hgt : lk > y
        · have HS2 := hid (show best len (k + 1) = (k, lk) by rw [HSU.out, if_pos hgt])
          have hgi : (y : Int) < (lk : Int) := by omega
          go_wp2_with fail
          go_roundw
          case rel => exact ⟨k + 1, by omega, by rw [HS2.out], by rw [HS2.out], by go_num, HB2.out⟩
          case measure => simp [intOf]; omega
        · have HS2 := hid (show best len (k + 1) = (x, y) by rw [HSU.out, if_neg hgt])
          have hgi : ¬ (y : Int) < (lk : Int) := by omega
          go_wp2_with fail
          go_roundw
          case rel => exact ⟨k + 1, by omega, by rw [HS2.out], by rw [HS2.out], by go_num, HB2.out⟩
          case measure => simp [intOf]; omega
      · have hli : ¬ (k : Int) < 2 * ((n : Int) + (m : Int)) := by omega
        obtain rfl : k = 2 * (n + m) := by omega
        go_wp2_with fail
        refine bodyPost_ret (results_tmp3 rfl _ _ _) rfl ?_
        refine ⟨?_, _, _, true, rfl, .inl ⟨n, m, HGG.out, ?_, ?_, rfl⟩⟩
        · exact HBd.out.trans (HB.out.mono (by rw [HWS.out]; exact Nat.le_refl _))
        · rw [HLEN.out, HXY.out]
        · rw [HLEN.out, HXY.out]

def LiRel (len : Nat → Nat) (N bt b : Nat) (ts : Array Value) (w : World) (pv mv iv : Value) (wr : World) : Prop :=
  ∃ k : Nat, k ≤ N ∧ pv = .int .i64 (((best len k).1 : Nat) : Int) ∧ mv = .int .i64 (((best len k).2 : Nat) : Int) ∧ iv = .int .i64 (k : Int) ∧
    wr.heap[bt]? = some (.cells ts 62 (0, 0)) ∧ (∃ xs, MapOf wr b xs) ∧ Below w.heap.size w wr

set_option maxRecDepth 100000 in
set_option maxHeartbeats 2000000 in
theorem implBeamLongest_any (A : Option Addr) (c : Nat) (ss : List ByteArray) (w : World) (h : Strs w w.heap.size A ss) (hn : ss.length ≤ 1048576) (hs : ∀ s ∈ ss, s.size ≤ 1048576) :
    Calls Try.prog 36 #[.slice A ss.length c] w fun e w' => Below w.heap.size w w' ∧ ∃ x y ok, e = .returned (.tuple #[.int .i64 x, .int .i64 y, .bool ok]) ∧ LongOut ss x y ok := by
  have HR := hid (readGrid_any A c ss w h hn hs)
  clear h hs
  go_enter Try.func36, Try.ntmps36
  go_wp2_with fail
  refine HR.out.mono ?_
  rintro e w1 ⟨hbel, ⟨n, m, hg, rfl⟩ | ⟨hno, rfl⟩⟩
  · have HB := hid hbel
    have hn5 := hg.2.2.1
    have hm5 := hg.2.2.2.2.1
    have HGr := hid hg
    have HGC := hid (show (gcells n m (pad (flat ss))).size = 27 from hg.csize)
    have HONE := hid (gcells_one n m (pad (flat ss)))
    have HPO := hid (fun w => ports_any n m (pad (flat ss)) w hn5 hm5)
    have HNEW := hid (fun w' => newTrace_any (gcells n m (pad (flat ss))) HGC.out HONE.out w')
    have HASK := hid (show ∀ q b xs w', q < 2 * (n + m) → MapOf w' b xs → Calls Try.prog 57 #[.agg (tcells (gcells n m (pad (flat ss))) b), .int .i64 (q : Nat)] w' fun e w'' => (∃ v, e = .returned v) ∧ MapOf w'' b (waysL (bway n m (lett m (pad (flat ss))) q) (blen n m (lett m (pad (flat ss))) q)) ∧ w'.grownBy w'' (some b) from
      fun q b xs w' hq hm => ask_any n m q _ b (pad (flat ss)) xs w' rfl hg.plen hn5 hm5 hq hm)
    have HLEN := hid (show ∀ q b w', q < 2 * (n + m) → MapOf w' b (waysL (bway n m (lett m (pad (flat ss))) q) (blen n m (lett m (pad (flat ss))) q)) → Calls Try.prog 58 #[.agg (tcells (gcells n m (pad (flat ss))) b)] w' fun e w'' => e = .returned (.int .i64 ((lenOfB n m (lett m (pad (flat ss))) q : Nat) : Int)) ∧ Below w'.heap.size w' w'' from fun q b w' hq hm => by
      have := length_any (gcells n m (pad (flat ss))) HGC.out b (waysL (bway n m (lett m (pad (flat ss))) q) (blen n m (lett m (pad (flat ss))) q)) w' hm (okW_ways hn5 hm5) (waysL_nodup fun a b h1 h2 => bway_ne hq h1 (by omega))
      rw [waysL_length] at this
      unfold lenOfB
      rw [if_pos hq]
      exact this)
    have hM : ∀ k, lenOfB n m (lett m (pad (flat ss))) k ≤ 100 := fun k => by
      unfold lenOfB
      split
      · have h1 := blen_lt (t := lett m (pad (flat ss))) (by assumption : k < 2 * (n + m))
        have h2 := hg.le25
        omega
      · omega
    have HLE := hid (best_le (lenOfB n m (lett m (pad (flat ss)))) 100 hM)
    have HLM := hid hM
    have HN := hid (show 2 * (n + m) = 2 * (n + m) from rfl)
    generalize hN : 2 * (n + m) = N at HPO HASK HLEN HN
    have hN20 : N ≤ 20 := by omega
    have HNN := hid hN
    clear hbel hg hN hM HN
    generalize gcells n m (pad (flat ss)) = cs at *
    generalize hlen : lenOfB n m (lett m (pad (flat ss))) = len at *
    have HLN := hid hlen
    clear hlen
    have HAL := hid (show ∀ q b xs w', q < N → MapOf w' b xs → Calls Try.prog 57 #[.agg (tcells cs b), .int .i64 (q : Nat)] w' fun e w'' => (∃ v, e = .returned v) ∧ (∃ ys, MapOf w'' b ys ∧ ∀ w3, MapOf w3 b ys → Calls Try.prog 58 #[.agg (tcells cs b)] w3 fun e w4 => e = .returned (.int .i64 ((len q : Nat) : Int)) ∧ Below w3.heap.size w3 w4) ∧ w'.grownBy w'' (some b) from
      fun q b xs w' hq hm => (HASK.out q b xs w' hq hm).mono fun e w'' ⟨h1, h2, h3⟩ => ⟨h1, ⟨_, h2, fun w3 h => HLEN.out q b w3 hq h⟩, h3⟩)
    clear HASK HLEN
    have HS := hid (show (Try.prog.info? 44).map (·.size) = some cs.size by rw [HGC.out]; exact Try.size_grid)
    have HST := hid (fun b => show (Try.prog.info? 62).map (·.size) = some (tcells cs b).size by rw [tcells_size HGC.out]; exact Try.size_trace)
    have HTO := hid (fun b => tcells_one HONE.out b)
    have HTZ := hid (fun b => show zeroT.size = (tcells cs b).size by rw [tcells_size HGC.out]; rfl)
    have HZ := hid (show zeroG.size = cs.size by rw [HGC.out]; rfl)
    have HL := hid (setRow_heap (w1.alloc (.cells zeroG 44)) w1.heap.size zeroG cs 44 (0, 0) (heap_new0 w1 _))
    have HW := hid (HB.out.trans (below_setRow' ((Below.refl _ w1).alloc HB.out.size (.cells zeroG 44)) HB.out.size cs))
    have HWS1 := hid (show ((w1.alloc (.cells zeroG 44)).setRow w1.heap.size cs).heap.size = w1.heap.size + 1 by simp)
    generalize hX : (w1.alloc (.cells zeroG 44)).setRow w1.heap.size cs = X at HL HW HWS1
    have HX := hid hX
    clear hX
    go_wp2_with (first
      | (refine wpList_store_row rfl 44 _ _ rfl w1.heap.size cs rfl rfl 44 zeroG (heap_new0 w1 _) HS.out HZ.out HONE.out ?_; rw [HX.out])
      | refine wpList_load_row rfl 44 _ rfl w1.heap.size rfl 44 cs (0, 0) _ HL.out Try.underlying44 rfl HS.out ?_)
    refine (HNEW.out _).mono ?_
    rintro e w2 ⟨rfl, hm2, hb2⟩
    have HM2 := hid hm2
    have HB2 := hid hb2
    have HBX := hid (show w1.heap.size < X.heap.size by rw [HWS1.out]; omega)
    have HXW := hid (show w.heap.size ≤ X.heap.size from by have := HB.out.size; have := HBX.out; omega)
    clear hm2 hb2
    generalize hbb : X.heap.size + 2 = b at *
    have HBB := hid hbb
    clear hbb
    have HN2 := hid (heap_new0 w2 (.cells zeroT 62))
    have HL2 := hid (setRow_heap (w2.alloc (.cells zeroT 62)) w2.heap.size zeroT (tcells cs b) 62 (0, 0) (heap_new0 w2 _))
    have HM3 := hid (show MapOf ((w2.alloc (.cells zeroT 62)).setRow w2.heap.size (tcells cs b)) b ([] : List Wy) from (HM2.out.alloc _).kept (setRow_other _ _ _ _ (by have := HM2.out.lt; omega)))
    have HB3 := hid (show Below w.heap.size w ((w2.alloc (.cells zeroT 62)).setRow w2.heap.size (tcells cs b)) from
      (HW.out.trans (HB2.out.mono HXW.out)).trans (below_setRow' ((Below.refl _ w2).alloc (by have := HB2.out.size; have := HXW.out; omega) _) (by have := HB2.out.size; have := HXW.out; omega) _))
    have HK3 := hid (show ((w2.alloc (.cells zeroT 62)).setRow w2.heap.size (tcells cs b)).heap[w1.heap.size]? = some (.cells cs 44 (0, 0)) by
      have h2 := HB2.out.size
      have h3 := HBX.out
      rw [setRow_other _ _ _ _ (by omega), Below.heap_alloc _ _ _ (by omega)]
      exact (HB2.out.block _ HBX.out).trans HL.out)
    generalize hY : (w2.alloc (.cells zeroT 62)).setRow w2.heap.size (tcells cs b) = Y at HL2 HM3 HB3 HK3
    have HY := hid hY
    clear hY
    go_wp2_with (first
      | (refine wpList_store_row rfl 62 _ _ rfl w2.heap.size (tcells cs b) rfl rfl 62 zeroT HN2.out (HST.out b) (HTZ.out b) (HTO.out b) ?_; rw [HY.out])
      | refine wpList_load_row rfl 44 _ rfl w1.heap.size rfl 44 cs (0, 0) _ HK3.out Try.underlying44 rfl HS.out ?_)
    refine (HPO.out _).mono ?_
    rintro e w3 ⟨rfl, hb3⟩
    have HL3 := hid ((hb3.block _ (lt_of_block HL2.out)).trans HL2.out)
    have HM4 := hid (HM3.out.kept (hb3.block _ HM3.out.lt))
    have HB4 := hid (HB3.out.trans (hb3.mono HB3.out.size))
    have HBW := hid (show w.heap.size ≤ b by have := HBB.out; have := HXW.out; omega)
    have HBT := hid (show b ≠ w2.heap.size by have := HM2.out.lt; omega)
    clear hb3
    go_wp2_with fail
    go_loopw [8, 9, 22] (LiRel len N w2.heap.size b (tcells cs b) w) (fun _ _ i _ => N - (intOf i).toNat)
    case atStart => exact ⟨0, Nat.zero_le _, rfl, rfl, rfl, HL3.out, ⟨_, HM4.out⟩, HB4.out⟩
    case round =>
      obtain ⟨k, hk, rfl, rfl, rfl, ht, ⟨xs, hm⟩, hbel⟩ := hrel
      have HT := hid ht
      have HM := hid hm
      have HBe := hid hbel
      clear ht hm hbel
      have hle := HLE.out k
      have hsuc : best len (k + 1) = if len k > (best len k).2 then (k, len k) else best len k := rfl
      obtain ⟨⟨x, y⟩, hxy⟩ : ∃ p, best len k = p := ⟨_, rfl⟩
      rw [hxy] at hle hsuc ⊢
      simp only at hle hsuc ⊢
      have HXY := hid hxy
      have HSU := hid hsuc
      clear hxy hsuc
      by_cases hlt : k < N
      · have hki : (k : Int) < (N : Int) := by omega
        have hask := hid (HAL.out k b xs wr hlt HM.out)
        have hlm := HLM.out k
        generalize len k = lk at *
        go_wp2_with (refine wpList_load_row rfl 62 _ rfl w2.heap.size rfl 62 (tcells cs b) (0, 0) _ HT.out Try.underlying62 rfl (HST.out b) ?_)
        refine hask.out.mono ?_
        rintro e w5 ⟨⟨v, rfl⟩, ⟨ys, hm5, hlen5⟩, hg5⟩
        have HT5 := hid ((hg5.block _ (lt_of_block HT.out) (by have := HBT.out; intro e; cases e; exact this rfl)).trans HT.out)
        have HM5 := hid hm5
        have HLN5 := hid hlen5
        have HB5 := hid (HBe.out.trans (below_grown hg5 HBe.out.size HBW.out))
        clear hm5 hlen5 hg5
        go_wp2_with (refine wpList_load_row rfl 62 _ rfl w2.heap.size rfl 62 (tcells cs b) (0, 0) _ HT5.out Try.underlying62 rfl (HST.out b) ?_)
        refine (HLN5.out w5 HM5.out).mono ?_
        rintro e w6 ⟨rfl, hb6⟩
        have HT6 := hid ((hb6.block _ (lt_of_block HT5.out)).trans HT5.out)
        have HM6 := hid (HM5.out.kept (hb6.block _ HM5.out.lt))
        have HB6 := hid (HB5.out.trans (hb6.mono HB5.out.size))
        clear hb6
        by_cases hgt : lk > y
        · have HS2 := hid (show best len (k + 1) = (k, lk) by rw [HSU.out, if_pos hgt])
          have hgi : (y : Int) < (lk : Int) := by omega
          go_wp2_with (refine wpList_load_row rfl 62 _ rfl w2.heap.size rfl 62 (tcells cs b) (0, 0) _ HT6.out Try.underlying62 rfl (HST.out b) ?_)
          refine (HLN5.out w6 HM6.out).mono ?_
          rintro e w7 ⟨rfl, hb7⟩
          have HT7 := hid ((hb7.block _ (lt_of_block HT6.out)).trans HT6.out)
          have HM7 := hid (HM6.out.kept (hb7.block _ HM6.out.lt))
          have HB7 := hid (HB6.out.trans (hb7.mono HB6.out.size))
          clear hb7
          go_wp2_with fail
          go_roundw
          case rel => exact ⟨k + 1, by omega, by rw [HS2.out], by rw [HS2.out], by go_num, HT7.out, ⟨_, HM7.out⟩, HB7.out⟩
          case measure => simp [intOf]; omega
        · have HS2 := hid (show best len (k + 1) = (x, y) by rw [HSU.out, if_neg hgt])
          have hgi : ¬ (y : Int) < (lk : Int) := by omega
          go_wp2_with fail
          go_roundw
          case rel => exact ⟨k + 1, by omega, by rw [HS2.out], by rw [HS2.out], by go_num, HT6.out, ⟨_, HM6.out⟩, HB6.out⟩
          case measure => simp [intOf]; omega
      · obtain rfl : k = N := by omega
        go_wp2_with fail
        refine bodyPost_ret (results_tmp3 rfl _ _ _) rfl ?_
        refine ⟨HBe.out, _, _, true, rfl, .inl ⟨n, m, HGr.out, ?_, ?_, rfl⟩⟩
        · rw [HLN.out, HNN.out, HXY.out]
        · rw [HLN.out, HNN.out, HXY.out]
  · have HB := hid hbel
    have HGr := hid hno
    clear hbel hno
    go_wp2_with (refine wpList_store_row rfl 44 _ _ rfl w1.heap.size zeroG rfl rfl 44 zeroG (heap_new0 w1 _) Try.size_grid rfl (gcells_one 0 0 (pad [])) ?_)
    refine bodyPost_ret (results_tmp3 rfl _ _ _) rfl ?_
    exact ⟨HB.out.trans (below_setRow' ((Below.refl _ w1).alloc HB.out.size _) HB.out.size _), 0, 0, false, rfl, .inr ⟨HGr.out, rfl, rfl, rfl⟩⟩

end Go.Proofs.Ytpbppkidglmacaa
