/- Settled texts in one file. Each begins with what it holds. -/
import Derived.Test.YtonhnmpgikmlpaaBunF
import Derived.Test.YtonhnmpgikmlpaaBunH
import Derived.Test.YtonhnmpgikmlpaaBunC
import Derived.Test.YtonhnmpgikmlpaaBunD
import Derived.Test.YtonhnmpgikmlpaaBunA
/- How often rounds go through a cell; RoundTwice of the specification and of the program. -/
namespace Go.Proofs.Ytonhnmpgikmlpaa
open Go.RowKit Go.Shelf

def rtwiceR (n m : Nat) (t : Int → Int → UInt8) : Int × Bool := ((((List.range (n * m)).countP fun c => atN n m t c == 2 : Nat) : Int), true)

set_option maxRecDepth 100000 in
set_option maxHeartbeats 1000000 in
theorem l3At_any (g N n m x : Nat) (t : Int → Int → UInt8) (w : World) (hN : 4 * (n * m) = N) (hN100 : N ≤ 100) (hx : x < n * m) (hm : MarksAt w g N (fun c => onR n m t (wayN m c) = false)) :
    Calls Try.prog 86 #[.slice (some ⟨g, 0, none⟩) N N, .int .i64 (x : Int)] w fun e w' => e = .returned (.int .i64 ((atN n m t x : Nat) : Int)) ∧ w = w' := by
  have HM := hid hm
  have hx4 : 4 * x + 3 < N := by omega
  clear hm
  go_enter Try.func86, Try.ntmps86
  go_wp2
  go_loopw [5, 6] (fun (v i : Value) (wr : World) => ∃ d : Nat, d ≤ 4 ∧ i = .int .i64 d ∧ v = .int .i64 ((upT (fun d => onR n m t (wayN m (4 * x + d))) d : Nat) : Int) ∧ w = wr) (fun _ i _ => 4 - (intOf i).toNat)
  case atStart => exact ⟨0, by omega, rfl, rfl, rfl⟩
  case round =>
    obtain ⟨d, hd, rfl, rfl, rfl⟩ := hrel
    have hle := upT_le (fun d => onR n m t (wayN m (4 * x + d))) d
    by_cases hlt : d < 4
    · obtain ⟨bx, hcx, hbx, _⟩ := HM.out.cell (c := 4 * x + d) (by omega)
      have hdi : (d : Int) < 4 := by omega
      have hsum : 4 * (x : Int) + (d : Int) = ((4 * x + d : Nat) : Int) := by omega
      have hsuc : upT (fun d => onR n m t (wayN m (4 * x + d))) (d + 1) = upT (fun d => onR n m t (wayN m (4 * x + d))) d + (onR n m t (wayN m (4 * x + d))).toNat := rfl
      obtain ⟨q, hq⟩ : ∃ q, 4 * x + d = q := ⟨_, rfl⟩
      rw [hq] at hcx hbx hsum hsuc
      have hqN : q < N := by omega
      have hqi : (q : Int) < (N : Int) := by omega
      have hqi0 : (0 : Int) ≤ (q : Int) := by omega
      obtain ⟨u, hu⟩ : ∃ u, upT (fun d => onR n m t (wayN m (4 * x + d))) d = u := ⟨_, rfl⟩
      rw [hu] at hle hsuc ⊢
      have HSU := hid hsuc
      have HU := hid hu
      have hui : (u : Int) ≤ 4 := by omega
      have hui0 : (0 : Int) ≤ (u : Int) := by omega
      have HBX := hid hbx
      clear hbx hsuc hu hq hle
      cases bx with
      | true =>
        have HF := hid (HBX.out.1 rfl)
        go_wp2_with fail
        go_roundw
        case rel => exact ⟨d + 1, by omega, by go_num, by rw [HSU.out, HF.out]; rfl, by first | rfl | trivial⟩
        case measure => simp [intOf]; omega
      | false =>
        have hon : onR n m t (wayN m q) = true := by
          cases hb : onR n m t (wayN m q) with
          | true => rfl
          | false => have := HBX.out.2 hb; cases this
        have HF := hid hon
        clear hon
        go_wp2_with fail
        go_roundw
        case rel => exact ⟨d + 1, by omega, by go_num, by rw [HSU.out, HF.out]; go_num, by first | rfl | trivial⟩
        case measure => simp [intOf]; omega
    · obtain rfl : d = 4 := by omega
      have hat : atN n m t x = upT (fun d => onR n m t (wayN m (4 * x + d))) 4 / 2 := rfl
      obtain ⟨u, hu⟩ : ∃ u, upT (fun d => onR n m t (wayN m (4 * x + d))) 4 = u := ⟨_, rfl⟩
      rw [hu] at hle hat ⊢
      have hui0 : (0 : Int) ≤ (u : Int) := by omega
      have hui : (u : Int) ≤ 4 := by omega
      obtain ⟨v, hv⟩ : ∃ v, u / 2 = v := ⟨_, rfl⟩
      have hdiv : (u : Int) / 2 = (v : Int) := by omega
      rw [hv] at hat
      have HA := hid hat
      clear hat hu hv hle
      go_wp2_with fail
      go_ret
      exact ⟨by rw [HA.out]; first | rfl | rw [hdiv], rfl⟩

set_option maxRecDepth 100000 in
set_option maxHeartbeats 2000000 in
theorem roundsAt_any (n m g N x : Nat) (ls : List UInt8) (w : World) (hl : ls.length = 25) (hn : n ≤ 5) (hm : m ≤ 5) (hN : 4 * (n * m) = N) (hx : x < n * m) (hs : StepsM w g n m (lett m ls) (fun _ => True) N) :
    Calls Try.prog 89 #[.agg (chartC (gcells n m ls) g N), .agg #[.int .i64 ((x / m : Nat) : Int), .int .i64 ((x % m : Nat) : Int)]] w fun e w' => e = .returned (.int .i64 ((atN n m (lett m ls) x : Nat) : Int)) ∧ Below w.heap.size w w' := by
  have hnm25 : n * m ≤ 25 := Nat.mul_le_mul hn hm
  have hz := gcells_size (n := n) (m := m) hl
  have HCS := hid (show (Try.prog.info? 91).map (·.size) = some (chartC (gcells n m ls) g N).size by rw [chartC_size hz]; exact Try.size_chart)
  have HRD := hid (fun d w' (hd : d < 4) hs' => round_any n m g N (4 * x + d) (lett m ls) w' hN (by omega) (by omega) hs')
  have HSP := hid (fun d w' (hd : d < 4) => step_way n m g N ls (wayN m (4 * x + d)) w' hl hn hm (wayN_in (by omega)) (wayN_d _) hN)
  have HWY := hid (fun d (hd : d < 4) => wayN_cell (m := m) (c := x) hd)
  have HS := hid hs
  have HGL := hid (fun d (hd : d < 4) => goL_facts (t := lett m ls) (wayN_d (m := m) (4 * x + d)) (wayN_in (n := n) (m := m) (by omega)))
  generalize lett m ls = t at *
  generalize chartC (gcells n m ls) g N = cc at *
  obtain ⟨qv, hqv⟩ : ∃ qv : Int, ((x / m : Nat) : Int) = qv := ⟨_, rfl⟩
  obtain ⟨rv, hrv⟩ : ∃ rv : Int, ((x % m : Nat) : Int) = rv := ⟨_, rfl⟩
  rw [hqv, hrv] at HWY ⊢
  clear hs hz hqv hrv hl
  have HZ0 := hid (heap_new1 w (.cells cc 91) (.cells #[.int .i64 qv, .int .i64 rv] 97))
  have HZ1 := hid (show ((w.alloc (.cells cc 91)).alloc (.cells #[.int .i64 qv, .int .i64 rv] 97)).heap[w.heap.size + 1]? = some (.cells #[.int .i64 qv, .int .i64 rv] 97 (0, 0)) by
    have := heap_new0 (w.alloc (.cells cc 91)) (.cells #[.int .i64 qv, .int .i64 rv] 97)
    rwa [World.size_alloc] at this)
  have HZB := hid (show Below w.heap.size w ((w.alloc (.cells cc 91)).alloc (.cells #[.int .i64 qv, .int .i64 rv] 97)) from ((Below.refl _ w).alloc (Nat.le_refl _) _).alloc (by simp) _)
  go_enter Try.func89, Try.ntmps89
  go_wp2
  go_loopw [5, 7] (fun (v i : Value) (wr : World) => ∃ d : Nat, d ≤ 4 ∧ i = .int .i64 d ∧ v = .int .i64 ((upT (fun d => onR n m t (wayN m (4 * x + d))) d : Nat) : Int) ∧ Hid (wr.heap[w.heap.size]? = some (.cells cc 91 (0, 0)) ∧ wr.heap[w.heap.size + 1]? = some (.cells #[.int .i64 qv, .int .i64 rv] 97 (0, 0)) ∧ Below w.heap.size w wr)) (fun _ i _ => 4 - (intOf i).toNat)
  case atStart => exact ⟨0, by omega, rfl, rfl, hid ⟨HZ0.out, HZ1.out, HZB.out⟩⟩
  case round =>
    obtain ⟨d, hd, rfl, rfl, HH⟩ := hrel
    have hle := upT_le (fun d => onR n m t (wayN m (4 * x + d))) d
    by_cases hlt : d < 4
    · have hdi : (d : Int) < 4 := by omega
      have hsuc : upT (fun d => onR n m t (wayN m (4 * x + d))) (d + 1) = upT (fun d => onR n m t (wayN m (4 * x + d))) d + (onR n m t (wayN m (4 * x + d))).toNat := rfl
      obtain ⟨u, hu⟩ : ∃ u, upT (fun d => onR n m t (wayN m (4 * x + d))) d = u := ⟨_, rfl⟩
      rw [hu] at hle hsuc ⊢
      have HSU := hid hsuc
      have hui : (u : Int) ≤ 4 := by omega
      have hui0 : (0 : Int) ≤ (u : Int) := by omega
      have hst := hid (HSP.out d wr hlt)
      rw [wcode_way] at hst
      rw [HWY.out d hlt] at hst
      unfold wayV at hst
      have hrd := hid (fun w' hs' => HRD.out d w' hlt hs')
      have hgl := hid (HGL.out d hlt).1
      have HC := hid HH.out.1
      have HP := hid HH.out.2.1
      have HB := hid HH.out.2.2
      clear hsuc hu hle HH
      go_wp2_with (first
        | refine wpList_load_row rfl 91 _ rfl w.heap.size rfl 91 cc (0, 0) _ HC.out Try.underlying91 rfl HCS.out ?_
        | refine wpList_load_row rfl 97 _ rfl (w.heap.size + 1) rfl 97 #[.int .i64 qv, .int .i64 rv] (0, 0) _ HP.out Try.underlying97 rfl Try.size_place ?_)
      refine hst.out.mono ?_
      rintro e w1 ⟨rfl, hb1⟩
      have HC1 := hid ((hb1.block _ (lt_of_block HC.out)).trans HC.out)
      have HP1 := hid ((hb1.block _ (lt_of_block HP.out)).trans HP.out)
      have HB1 := hid (HB.out.trans (hb1.mono HB.out.size))
      clear hb1
      go_wp2_with fail
      refine (hrd.out w1 (HS.out.below HB1.out)).mono ?_
      rintro e w2 ⟨hb2, ⟨hon, v, rfl, hgp⟩ | ⟨hno, rfl⟩⟩
      · obtain ⟨A1, cc1, rfl⟩ := hgp.shape
        have hL := ringN_length n m t (wayN m (4 * x + d))
        obtain ⟨L, hLe⟩ : ∃ L, (ringN n m t (wayN m (4 * x + d))).length = L := ⟨_, rfl⟩
        rw [hLe] at hL ⊢
        have hL0 : (0 : Int) < (L : Int) := by have := hgl.out; omega
        have HON := hid hon
        have HC2 := hid ((hb2.block _ (lt_of_block HC1.out)).trans HC1.out)
        have HP2 := hid ((hb2.block _ (lt_of_block HP1.out)).trans HP1.out)
        have HB2 := hid (HB1.out.trans (hb2.mono HB1.out.size))
        clear hb2 hgp hLe hL hon
        go_wp2_with fail
        go_roundw
        case rel => exact ⟨d + 1, by omega, by go_num, by rw [HSU.out, HON.out]; go_num, hid ⟨HC2.out, HP2.out, HB2.out⟩⟩
        case measure => simp [intOf]; omega
      · have HNO := hid hno
        have HC2 := hid ((hb2.block _ (lt_of_block HC1.out)).trans HC1.out)
        have HP2 := hid ((hb2.block _ (lt_of_block HP1.out)).trans HP1.out)
        have HB2 := hid (HB1.out.trans (hb2.mono HB1.out.size))
        clear hb2 hno
        go_wp2_with fail
        go_roundw
        case rel => exact ⟨d + 1, by omega, by go_num, by rw [HSU.out, HNO.out]; rfl, hid ⟨HC2.out, HP2.out, HB2.out⟩⟩
        case measure => simp [intOf]; omega
    · obtain rfl : d = 4 := by omega
      have hat : atN n m t x = upT (fun d => onR n m t (wayN m (4 * x + d))) 4 / 2 := rfl
      obtain ⟨u, hu⟩ : ∃ u, upT (fun d => onR n m t (wayN m (4 * x + d))) 4 = u := ⟨_, rfl⟩
      rw [hu] at hle hat ⊢
      have hui0 : (0 : Int) ≤ (u : Int) := by omega
      have hui : (u : Int) ≤ 4 := by omega
      obtain ⟨v, hv⟩ : ∃ v, u / 2 = v := ⟨_, rfl⟩
      have hdiv : (u : Int) / 2 = (v : Int) := by omega
      rw [hv] at hat
      have HA := hid hat
      clear hat hu hv hle
      go_wp2_with fail
      go_ret
      exact ⟨by rw [HA.out]; first | rfl | rw [hdiv], HH.out.2.2⟩

/-- How many of these cells only rounds go through. -/
def twos {K : Nat} (n m : Nat) (t : Int → Int → UInt8) (pre : List (Fin K)) : Nat := pre.countP fun x => atN n m t x.val == 2
theorem twos_snoc {K : Nat} (n m : Nat) (t : Int → Int → UInt8) (pre : List (Fin K)) (x : Fin K) : twos n m t (pre ++ [x]) = twos n m t pre + (if (atN n m t x.val == 2) = true then 1 else 0) := by
  simp [twos, List.countP_append, List.countP_cons]
theorem twos_le {K : Nat} (n m : Nat) (t : Int → Int → UInt8) (pre : List (Fin K)) : twos n m t pre ≤ pre.length := List.countP_le_length
theorem twos_all (K n m : Nat) (t : Int → Int → UInt8) : twos n m t (List.finRange K) = (List.range K).countP fun c => atN n m t c == 2 := by
  unfold twos
  have e := upto_val (N := K) (k := K) (Nat.le_refl _)
  rw [upto_all] at e
  rw [← e, List.countP_map]
  rfl

attribute [local go_sem] Oper.semAt_some
set_option maxRecDepth 100000 in
set_option maxHeartbeats 4000000 in
theorem implRoundTwice_any (A : Option Addr) (c : Nat) (ss : List ByteArray) (w : World) (h : Strs w w.heap.size A ss) (hn : ss.length ≤ 1048576) (hs : ∀ s ∈ ss, s.size ≤ 1048576) :
    Calls Try.prog 32 #[.slice A ss.length c] w fun e w' => Below w.heap.size w w' ∧ ∃ x ok, e = .returned (.tuple #[.int .i64 x, .bool ok]) ∧ GridOut rtwiceR ss x ok := by
  have HR := hid (readGrid_any A c ss w h hn hs)
  clear h hs
  refine (callsIn_wide (n := 3)).1 ?_
  refine callsIn_of_wp_marks Try.func32 rfl trivial ?_ rfl
  simp only [Try.ntmps32, List.size_toArray, List.length_cons, List.length_nil, Nat.reduceAdd, Nat.reduceSub, Array.replicate_succ, Array.replicate_zero, List.push_toArray, List.append_toArray, List.nil_append, List.cons_append]
  gi_wp2_with fail
  refine ⟨trivial, callsIn_wide.2 (HR.out.mono ?_)⟩
  rintro e w1 ⟨hbel, ⟨n, m, hg, rfl⟩ | ⟨hno, rfl⟩⟩
  · have HB := hid hbel
    have HGr := hid hg
    have hn5 := hg.2.2.1
    have hm1 := hg.2.2.2.1
    have hm5 := hg.2.2.2.2.1
    have h25 := hg.le25
    have hpl := hg.plen
    have HS := hid (show (Try.prog.info? 63).map (·.size) = some (gcells n m (pad (flat ss))).size by rw [hg.csize]; exact Try.size_grid)
    have HZ := hid (show zeroG.size = (gcells n m (pad (flat ss))).size by rw [hg.csize]; rfl)
    have HL := hid (setRow_heap (w1.alloc (.cells zeroG 63)) w1.heap.size zeroG (gcells n m (pad (flat ss))) 63 (0, 0) (heap_new0 w1 _))
    have HW := hid (HB.out.trans (below_setRow' ((Below.refl _ w1).alloc HB.out.size (.cells zeroG 63)) HB.out.size (gcells n m (pad (flat ss)))))
    obtain ⟨K, hK⟩ : ∃ K, n * m = K := ⟨_, rfl⟩
    obtain ⟨N, hN⟩ : ∃ N, 4 * K = N := ⟨_, rfl⟩
    have HNC := hid (fun w' => newChart_any n m N K (pad (flat ss)) w' hg.plen hn5 hm1 hm5 hK hN)
    have HAT := hid (fun g x w' (hx : x < K) hst => roundsAt_any n m g N x (pad (flat ss)) w' hg.plen hn5 hm5 (by rw [hK]; exact hN) (by rw [hK]; exact hx) hst)
    have HCST := hid (fun Bg w' h => cells_stops 2 Bg n m K hK.symm (pad (flat ss)) hg.plen hn5 hm1 hm5 w' h)
    have HCS := hid (fun g => show (Try.prog.info? 91).map (·.size) = some (chartC (gcells n m (pad (flat ss))) g N).size by rw [chartC_size hg.csize]; exact Try.size_chart)
    have HCO := hid (fun g => chartC_one (gcells_one n m (pad (flat ss))) g N)
    have HCZ := hid (fun g => show zeroK.size = (chartC (gcells n m (pad (flat ss))) g N).size by rw [chartC_size hg.csize]; rfl)
    have HKK := hid hK
    have HONE := hid (gcells_one n m (pad (flat ss)))
    have hK25 : K ≤ 25 := by omega
    generalize gcells n m (pad (flat ss)) = gc at *
    generalize hlet : lett m (pad (flat ss)) = t at *
    have HLET := hid hlet
    clear hbel hg hlet hpl hN h25
    gi_wp2_with (first
      | refine wpListIn_store_row (Open.wide _) rfl 63 _ _ rfl w1.heap.size gc rfl rfl 63 zeroG (heap_new0 w1 _) HS.out HZ.out HONE.out ?_
      | refine wpListIn_load_row (Open.wide _) rfl 63 _ rfl w1.heap.size rfl 63 gc (0, 0) _ HL.out Try.underlying63 rfl HS.out ?_)
    refine ⟨trivial, callsIn_wide.2 ((HNC.out _).mono ?_)⟩
    rintro e w2 ⟨g, hgl, rfl, hst, hb2⟩
    have HB2 := hid (HW.out.trans (hb2.mono HW.out.size))
    have HL2 := hid ((hb2.block _ (lt_of_block HL.out)).trans HL.out)
    have HST2 := hid hst
    clear hb2 hst hgl
    -- the chart lies in a block of its own
    have X0 := setRow_heap (w2.alloc (.cells zeroK 91)) w2.heap.size zeroK (chartC gc g N) 91 (0, 0) (heap_new0 w2 _)
    have hch := fun (k : Nat) (hk : k < w2.heap.size) => show ((w2.alloc (.cells zeroK 91)).setRow w2.heap.size (chartC gc g N)).heap[k]? = w2.heap[k]? by
      rw [setRow_other _ _ _ _ (by omega)]; exact Below.heap_alloc _ _ _ hk
    have XB := HB2.out.trans (below_setRow' ((Below.refl _ w2).alloc HB2.out.size (.cells zeroK 91)) HB2.out.size (chartC gc g N))
    have XL := (hch _ (lt_of_block HL2.out)).trans HL2.out
    have XS := HST2.out.keep (hch _ HST2.out.lt)
    have XZ : ((w2.alloc (.cells zeroK 91)).setRow w2.heap.size (chartC gc g N)).heap.size = w2.heap.size + 1 := by simp
    generalize hX : World.setRow (w2.alloc (.cells zeroK 91)) w2.heap.size (chartC gc g N) = X at X0 XB XL XS XZ
    have HX := hid hX
    have Y0 := hid ((Below.heap_alloc X (.cells #[.int .i64 0] 3) _ (lt_of_block X0)).trans X0)
    have YL := hid ((Below.heap_alloc X (.cells #[.int .i64 0] 3) _ (lt_of_block XL)).trans XL)
    have YS := hid (XS.keep (Below.heap_alloc X (.cells #[.int .i64 0] 3) _ XS.lt))
    have YB := hid (XB.alloc XB.size (.cells #[.int .i64 0] 3))
    have YT := hid (Boxed.new X 3 (.int .i64 0))
    have YZ := hid (show (X.alloc (.cells #[.int .i64 0] 3)).heap.size = w2.heap.size + 2 by rw [World.size_alloc, XZ])
    have HXZ := hid XZ
    have HZN := hid (heap_new0 w2 (.cells zeroK 91))
    clear X0 hch XB XL XS hX
    clear XZ
    gi_wp2_with (first
      | (refine wpListIn_store_row (Open.wide _) rfl 91 _ _ rfl w2.heap.size (chartC gc g N) rfl rfl 91 zeroK HZN.out (HCS.out g) (HCZ.out g) (HCO.out g) ?_; rw [HX.out])
      | refine wpListIn_load_row (Open.wide _) rfl 63 _ rfl w1.heap.size rfl 63 gc (0, 0) _ YL.out Try.underlying63 rfl HS.out ?_)
    refine ⟨trivial, callsIn_wide.2 ((cells_any gc _).mono ?_)⟩
    generalize World.alloc X (.cells #[.int .i64 0] 3) = Y at Y0 YL YS YB YT YZ
    rintro e w3 ⟨rfl, hw3⟩
    have K0 := hid (show w3.heap[w2.heap.size]? = some (.cells (chartC gc g N) 91 (0, 0)) by rw [hw3]; exact (Below.heap_alloc _ _ _ (lt_of_block Y0.out)).trans Y0.out)
    have KS := hid (show StepsM w3 g n m t (fun _ => True) N by rw [hw3]; exact YS.out.below ((Below.refl _ _).alloc (Nat.le_refl _) _))
    have KB := hid (show Below w.heap.size w w3 by rw [hw3]; exact YB.out.alloc YB.out.size _)
    have KT := hid (show Boxed w3 X.heap.size 3 (.int .i64 0) by rw [hw3]; exact YT.out.alloc _)
    have K3 := hid (show w3.heap[Y.heap.size]? = some (.cells gc 63 (0, 0)) by rw [hw3]; exact heap_new0 Y _)
    have KZ := hid (show w3.heap.size = w2.heap.size + 3 by rw [hw3, World.size_alloc, YZ.out])
    have KY := hid YZ.out
    have KX := hid HXZ.out
    obtain ⟨bT, hbT⟩ : ∃ bT, X.heap.size = bT := ⟨_, rfl⟩
    rw [hbT] at KT KX ⊢
    clear hw3 hbT
    gi_wp2
    refine wpIn_rangeFunc_ownH rfl (by omega) (gf := 139) (lb := #[.pointer (some ⟨Y.heap.size, 0, none⟩)]) rfl trivial (enters_of Try.func139 (by kernel_rfl) rfl)
      (HCST.out Y.heap.size w3 K3.out) KeepsAt.trans (keepsAt_b (lt_of_block K3.out)) (Below.refl _ _) (fun _ => rfl)
      (fun pre W => ((W.heap[w2.heap.size]? = some (.cells (chartC gc g N) 91 (0, 0)) ∧ Boxed W bT 3 (.int .i64 ((twos n m t pre : Nat) : Int))) ∧ StepsM W g n m t (fun _ => True) N) ∧ Below w.heap.size w3 W)
      (fun _ _ _ => False)
      (OwnFrom.and (OwnFrom.and (OwnFrom.and (ownFrom_heap _ _ (fun _ => _) (fun _ => rfl)) (Own.from (boxed_own _ _ (fun pre => .int .i64 ((twos n m t pre : Nat) : Int))) _)) (ownFrom_steps _ g n m t (fun _ _ => True) N)) (ownFrom_below KB.out.size KB.out.size))
      (fun _ _ _ _ _ hs _ _ => hs)
      ⟨⟨⟨K0.out, KT.out⟩, KS.out⟩, Below.refl _ _⟩
      (fun x a' W => ∃ Bx, w2.heap.size + 3 ≤ Bx ∧ W.heap[Bx]? = some (.cells #[.int .i64 ((x.val / m : Nat) : Int), .int .i64 ((x.val % m : Nat) : Int)] 97 (0, 0)) ∧ ∃ u0 u1 u2 u3 u4 u5 u9 u10 u11 u12 u13 u14 u15 u16 u17 u18 u19 u20 u21 u22 u23 u24 u25 u26 u27 u28 : Value,
        a' = { tmps := #[u0, u1, u2, u3, u4, u5, .pointer (some ⟨w2.heap.size, 0, none⟩), .pointer (some ⟨bT, 0, none⟩), .pointer (some ⟨Bx, 0, none⟩), u9, u10, u11, u12, u13, u14, u15, u16, u17, u18, u19, u20, u21, u22, u23, u24, u25, u26, u27, u28], defers := [] })
      (fun x a' _ X Y row hs hg hr => by
        obtain ⟨Bx, h1, h2, h3⟩ := hs
        exact ⟨Bx, h1, ownFrom_heap _ Bx (fun (_ : Unit) => Obj.cells #[.int .i64 ((x.val / m : Nat) : Int), .int .i64 ((x.val % m : Nat) : Int)] 97 (0, 0)) (fun _ => rfl) () X Y row h2 hg hr, h3⟩)
      ?assign ?body ?done ?stop
    case assign =>
      rintro l pre x W Kk ⟨⟨⟨i0, i1⟩, i2⟩, i3⟩ hK
      have J0 := hid i0
      have J1 := hid i1
      have J2 := hid i2
      have J3 := hid i3
      have JK := hid hK
      clear i0 i1 i2 i3 hK
      unfold encs
      obtain ⟨qv, hqv⟩ : ∃ qv : Int, ((x.val / m : Nat) : Int) = qv := ⟨_, rfl⟩
      obtain ⟨rv, hrv⟩ : ∃ rv : Int, ((x.val % m : Nat) : Int) = rv := ⟨_, rfl⟩
      rw [hqv, hrv] at JK ⊢
      have hsz : w2.heap.size + 3 ≤ W.heap.size := by rw [← KZ.out]; exact J3.out.size
      have JY := hid KY.out
      gi_wp2
      exact JK.out _ _ ((KeepsOthers.alloc _ _).from _) ⟨by simp, Below.heap_alloc _ _ _ (by have := JY.out; omega)⟩
        ⟨⟨⟨(Below.heap_alloc _ _ _ (lt_of_block J0.out)).trans J0.out, J1.out.alloc _⟩, J2.out.below ((Below.refl _ _).alloc (Nat.le_refl _) _)⟩, J3.out.alloc (by have := HB2.out.size; omega) _⟩
        ⟨W.heap.size, hsz, heap_new0 W _, _, _, _, _, _, _, _, _, _, _, _, _, _, _, _, _, _, _, _, _, _, _, _, _, _, _, rfl⟩
    case body =>
      rintro l pre x a' W hlw ⟨r, hr⟩ ⟨⟨⟨i0, i1⟩, i2⟩, i3⟩ ⟨Bx, hBx, hXx, u0, u1, u2, u3, u4, u5, u9, u10, u11, u12, u13, u14, u15, u16, u17, u18, u19, u20, u21, u22, u23, u24, u25, u26, u27, u28, rfl⟩ hlt
      have hat := hid (HAT.out g x.val W x.isLt i2)
      have hle := twos_le n m t pre
      have hsn := twos_snoc n m t pre x
      obtain ⟨qv, hqv⟩ : ∃ qv : Int, ((x.val / m : Nat) : Int) = qv := ⟨_, rfl⟩
      obtain ⟨rv, hrv⟩ : ∃ rv : Int, ((x.val % m : Nat) : Int) = rv := ⟨_, rfl⟩
      obtain ⟨av, hav⟩ : ∃ av, atN n m t x.val = av := ⟨_, rfl⟩
      rw [hqv, hrv] at hXx hat
      rw [hav] at hat hsn
      obtain ⟨cv, hcv⟩ : ∃ cv, twos n m t pre = cv := ⟨_, rfl⟩
      rw [hcv] at i1 hle hsn
      have J0 := hid i0
      have J1 := hid i1
      have J2 := hid i2
      have J3 := hid i3
      have JX := hid hXx
      have HSN := hid hsn
      have hc25 : (cv : Int) ≤ 25 := by omega
      have hc0 : (0 : Int) ≤ (cv : Int) := by omega
      have JY := hid (show Y.heap.size < W.heap.size by have h1 := i3.size; have := KZ.out; have := KY.out; omega)
      clear i0 i1 i2 i3 hXx hqv hrv hav hcv hr hsn hle hlt
      gi_wp2_with (first
        | refine wpListIn_load_row (Open.round _ l) rfl 91 _ rfl w2.heap.size rfl 91 (chartC gc g N) (0, 0) _ J0.out Try.underlying91 rfl (HCS.out g) ?_
        | refine wpListIn_load_row (Open.round _ l) rfl 97 _ rfl Bx rfl 97 #[.int .i64 qv, .int .i64 rv] (0, 0) _ JX.out Try.underlying97 rfl Try.size_place ?_)
      refine ⟨trivial, CallsIn.inRound l (callsIn_wide.2 (hat.out.mono ?_))⟩
      rintro e w4 ⟨rfl, hb4⟩
      have L0 := hid ((hb4.block _ (lt_of_block J0.out)).trans J0.out)
      have L1 := hid (show Boxed w4 bT 3 (.int .i64 (cv : Int)) from (hb4.block _ (lt_of_block J1.out)).trans J1.out)
      have L2 := hid (J2.out.below hb4)
      have L3 := hid (J3.out.trans (hb4.mono (Nat.le_trans KB.out.size J3.out.size)))
      have LK := hid (keeps_below hb4)
      have LA := hid (show KeepsAt Y.heap.size W w4 from ⟨hb4.size, hb4.block _ JY.out⟩)
      have hcell := L1.out.cell
      have hfr := L1.out.frozen
      clear hb4
      by_cases h2 : av = 2
      · subst h2
        gi_wp2
        refine ⟨(LK.out.trans (KeepsOthers.setCell _ _ _)).from _, LA.out.trans ⟨by simp, Below.heap_setCell _ _ _ _ (show Y.heap.size ≠ bT by have := KX.out; have := KY.out; omega)⟩, ⟨⟨?_, ?_⟩, ?_⟩, ?_⟩
        · exact (Below.heap_setCell _ _ _ _ (show w2.heap.size ≠ bT by have := KX.out; omega)).trans L0.out
        · have hx : twos n m t (pre ++ [x]) = cv + 1 := HSN.out
          rw [hx, Int.natCast_add]
          exact L1.out.set _
        · refine L2.out.keep (Below.heap_setCell _ _ _ _ ?_)
          rintro rfl
          obtain ⟨cs, h1, _⟩ := L2.out
          have h3 := L1.out
          unfold Boxed at h3
          rw [h1] at h3
          simp at h3
        · exact L3.out.setCell (p := ⟨bT, 0, none⟩) (by have := KX.out; have := HB2.out.size; show w.heap.size ≤ bT; omega) _
      · have hv2 : ((av : Int) == 2) = false := by rw [beq_eq_false_iff_ne]; omega
        have hv2n : (av == 2) = false := by rw [beq_eq_false_iff_ne]; exact h2
        have HV := hid hv2n
        clear h2 hv2n
        gi_wp2
        refine ⟨LK.out.from _, LA.out, ⟨⟨L0.out, ?_⟩, L2.out⟩, L3.out⟩
        have hx := HSN.out
        rw [if_neg (by rw [HV.out]; decide), Nat.add_zero] at hx
        rw [hx]
        exact L1.out
    case done =>
      rintro D xs W hD rfl ⟨⟨⟨i0, i1⟩, i2⟩, i3⟩ hK
      rw [twos_all] at i1
      have hcell := i1.cell
      have J3 := hid i3
      have JK := hid hK
      clear i0 i1 i2 i3 hK
      gi_wp2
      refine ⟨by simp, .inl ⟨_, _, rfl, run_takeDeferred JK.out, ?_⟩⟩
      refine ⟨_, results_tmp2 rfl _ _ _, ?_, _, true, rfl, .inl ⟨n, m, HGr.out, ?_⟩⟩
      · exact (KB.out.trans J3.out).trans (belowK_b (w := w) (Nat.le_refl _) _ D _ _ (by have := KZ.out; have := HB2.out.size; omega) JK.out rfl rfl)
      · unfold rtwiceR
        rw [HLET.out, HKK.out]
    case stop =>
      rintro D c pre W _ _ h _
      exact h.elim
  · have HB := hid hbel
    have HGr := hid hno
    clear hbel hno
    gi_wp2_with (refine wpListIn_store_row (Open.wide _) rfl 63 _ _ rfl w1.heap.size zeroG rfl rfl 63 zeroG (heap_new0 w1 _) Try.size_grid rfl (gcells_one 0 0 (pad [])) ?_)
    refine ⟨_, results_tmp2 rfl _ _ _, ?_, 0, false, rfl, .inr ⟨HGr.out, rfl, rfl⟩⟩
    exact HB.out.trans (below_setRow' ((Below.refl _ w1).alloc HB.out.size _) HB.out.size _)

end Go.Proofs.Ytonhnmpgikmlpaa

/- A change of a cell: its number and a closure over boxed values; what the closure makes; the exchange of a mirror; how many paths more come. -/
namespace Go.Proofs.Ytonhnmpgikmlpaa
open Go.RowKit Go.Shelf

/-- The three blocks hold a grid, a place and a letter. -/
def MadeAt (W : World) (n m : Nat) (ls : List UInt8) (x : Wy) (b : UInt8) (g0 g1 g2 : Nat) : Prop :=
  W.heap[g0]? = some (.cells (gcells n m ls) 63 (0, 0)) ∧ W.heap[g1]? = some (.cells #[.int .i64 x.i, .int .i64 x.k] 97 (0, 0)) ∧ W.heap[g2]? = some (.cells #[.int .u8 (b.toNat : Int)] 5 (0, 0))
theorem MadeAt.below {W W' : World} {n m : Nat} {ls : List UInt8} {x : Wy} {b : UInt8} {g0 g1 g2 : Nat} (h : MadeAt W n m ls x b g0 g1 g2) (hb : Below W.heap.size W W') : MadeAt W' n m ls x b g0 g1 g2 :=
  ⟨(hb.block _ (lt_of_block h.1)).trans h.1, (hb.block _ (lt_of_block h.2.1)).trans h.2.1, (hb.block _ (lt_of_block h.2.2)).trans h.2.2⟩
end Go.Proofs.Ytonhnmpgikmlpaa

/- RoundAt of the specification and of the program, by their contracts. -/
namespace Go.Proofs.Ytonhnmpgikmlpaa
open Go.RowKit Go.Shelf

section
variable {P : Program} {ops : Array Oper} {rest : List Oper} {o : Oper} {a : Act} {w : World} {Q : Exit → Act → World → Prop}
theorem wpList_load_row_gA (hw : Region.wanted o (yielded ops a.tmps) = true) (ty : TypeId) (x : Operand) (ho : o.op = .load ty x)
    (g : Nat) (hx : a.eval x = .pointer (some ⟨g, 0, none⟩)) (t : TypeId) (cs : Array Value) (fr : Nat × Nat) (d : TypeDesc) (hg : w.heap[g]? = some (.cells cs t fr))
    (hu : P.underlying ty = some d) (hd : (match d with | .struct _ | .array _ _ => true | _ => false) = true) (hi : (P.info? ty).map (·.size) = some cs.size)
    (h : wpList P ops Q rest (a.put o.dst (.agg cs)) w) : wpList P ops Q (o :: rest) a w := by
  unfold wpList
  rw [if_pos hw]
  refine .inl ?_
  unfold Oper.wp
  rw [exec_load_row ty x ho g hx t cs fr d hg hu hd hi]
  exact h
end

/-- A grid, and a number of one of its cells. -/
def CellIn (ss : List ByteArray) (cell : Int) (n m c : Nat) : Prop := IsGrid n m ss ∧ cell = (c : Int) ∧ c < n * m
/-- What a question on a cell comes to, where the answer is an integer and a bool. -/
def CellOut (R : Nat → Nat → (Int → Int → UInt8) → Nat → Int × Bool) (ss : List ByteArray) (cell : Int) (x : Int) (ok : Bool) : Prop :=
  (∃ n m c, CellIn ss cell n m c ∧ (x, ok) = R n m (lett m (pad (flat ss))) c) ∨ ((∀ n m c, ¬ CellIn ss cell n m c) ∧ x = 0 ∧ ok = false)
theorem CellOut.uniq {R : Nat → Nat → (Int → Int → UInt8) → Nat → Int × Bool} {ss : List ByteArray} {cell x x' : Int} {ok ok' : Bool} (h : CellOut R ss cell x ok) (h' : CellOut R ss cell x' ok') : x' = x ∧ ok' = ok := by
  rcases h with ⟨n, m, c, h1, h2⟩ | ⟨h1, rfl, rfl⟩ <;> rcases h' with ⟨n', m', c', h1', h2'⟩ | ⟨h1', rfl, rfl⟩
  · obtain ⟨rfl, rfl⟩ := h1.1.uniq h1'.1
    obtain rfl : c = c' := by have := h1.2.1.symm.trans h1'.2.1; omega
    have := h2'.trans h2.symm
    cases this
    exact ⟨rfl, rfl⟩
  · exact absurd h1 (h1' _ _ _)
  · exact absurd h1' (h1 _ _ _)
  · exact ⟨rfl, rfl⟩
def atR (n m : Nat) (t : Int → Int → UInt8) (c : Nat) : Int × Bool := (((atN n m t c : Nat) : Int), true)

/-- What the operations of the program's question hand back. -/
def atImplRel (gc : Array Value) (n m N c k : Nat) (t : Int → Int → UInt8) (i : Nat) (v : Value) (W : World) : Prop :=
  match i with
  | 0 => v = .agg gc
  | 1 => ∃ g, v = .agg (chartC gc g N) ∧ StepsM W g n m t (fun _ => True) N
  | 2 => v = .agg gc
  | 3 => v = .int .i64 (c : Int)
  | 4 => v = .agg #[.int .i64 ((c / m : Nat) : Int), .int .i64 ((c % m : Nat) : Int)]
  | 5 => v = .int .i64 (k : Int)
  | 6 => v = .int .i64 (k : Int)
  | 7 => v = .bool true
  | _ => True

end Go.Proofs.Ytonhnmpgikmlpaa

/- How many paths more come by a change; a grid and one of its cells. -/
namespace Go.Proofs.Ytonhnmpgikmlpaa
open Go.RowKit Go.Shelf

theorem pathsR_le {n m : Nat} {t : Int → Int → UInt8} (hn : n ≤ 5) (hm : m ≤ 5) : 0 ≤ (pathsR n m t).1 ∧ (pathsR n m t).1 ≤ 110 := by
  have h25 : n * m ≤ 5 * 5 := Nat.mul_le_mul hn hm
  have := leadsTo_le (n := n) (m := m) (t := t) (4 * (n * m))
  rw [leadsTo_all] at this
  unfold pathsR
  simp only
  omega

section
variable {P : Program} {w : World}
theorem results_cells_tmp {fn : Func} {p q u : Tmp} {ty ty' : TypeId} (h : fn.results = #[.cell p ty, .cell q ty', .tmp u]) (tmps : Array Value) (P : Program) (w : World) :
    (results fn tmps).run P w =
      ((asAddr (tmps.getD p undef)).run P w).andThen fun a w₁ => ((loadVar ty a).run P w₁).andThen fun v w₂ =>
      ((asAddr (tmps.getD q undef)).run P w₂).andThen fun a' w₃ => ((loadVar ty' a').run P w₃).andThen fun v' w₄ => .ok (.tuple #[v, v', tmps.getD u undef]) w₄ := by
  simp only [results, h]
  simp [Sem.run_bind, Result.andThen]
theorem results_rows_tmp {fn : Func} {p q u : Tmp} {ty ty' : TypeId} (h : fn.results = #[.cell p ty, .cell q ty', .tmp u]) (tmps : Array Value) (g g' : Nat) (t t' : TypeId) (cs cs' : Array Value) (fr fr' : Nat × Nat) (d d' : TypeDesc)
    (hp : tmps.getD p undef = .pointer (some ⟨g, 0, none⟩)) (hq : tmps.getD q undef = .pointer (some ⟨g', 0, none⟩)) (hg : w.heap[g]? = some (.cells cs t fr)) (hg' : w.heap[g']? = some (.cells cs' t' fr'))
    (hu : P.underlying ty = some d) (hd : (match d with | .struct _ | .array _ _ => true | _ => false) = true) (hi : (P.info? ty).map (·.size) = some cs.size)
    (hu' : P.underlying ty' = some d') (hd' : (match d' with | .struct _ | .array _ _ => true | _ => false) = true) (hi' : (P.info? ty').map (·.size) = some cs'.size) :
    (results fn tmps).run P w = .ok (.tuple #[.agg cs, .agg cs', tmps.getD u undef]) w := by
  rw [results_cells_tmp h, hp, hq]
  simp [asAddr, run_loadVar_row w g t ty cs fr d hg hu hd hi, run_loadVar_row w g' t' ty' cs' fr' d' hg' hu' hd' hi', Result.andThen]
end

theorem zero2_one : (#[.int .i64 0, .int .i64 0] : Array Value).all (·.oneCell') = true := by
  rw [Array.all_eq_true_iff_forall_mem]
  intro u hu
  simp at hu
  rcases hu with rfl | rfl <;> rfl
/-- What the operations of placeIn's last statement hand back. -/
def placeRel (gc : Array Value) (m c : Nat) (i : Nat) (v : Value) (_ : World) : Prop :=
  match i with
  | 0 => v = .agg gc
  | 1 => v = .agg gc
  | 2 => v = .int .i64 (c : Int)
  | 3 => v = .agg #[.int .i64 ((c / m : Nat) : Int), .int .i64 ((c % m : Nat) : Int)]
  | _ => True
/-- What placeIn comes to: the grid and the place of a cell. -/
def PlaceEnd (ss : List ByteArray) (cell : Int) (w : World) (e : Ending) (w' : World) : Prop :=
  Below w.heap.size w w' ∧ ((∃ n m c, CellIn ss cell n m c ∧ e = .returned (.tuple #[.agg (gcells n m (pad (flat ss))), .agg #[.int .i64 ((c / m : Nat) : Int), .int .i64 ((c % m : Nat) : Int)], .bool true])) ∨
    ((∀ n m c, ¬ CellIn ss cell n m c) ∧ e = .returned (.tuple #[.agg zeroG, .agg #[.int .i64 0, .int .i64 0], .bool false])))

end Go.Proofs.Ytonhnmpgikmlpaa

/- A grid and one of its cells with a mirror, by the contract of mirrorIn. -/
namespace Go.Proofs.Ytonhnmpgikmlpaa
open Go.RowKit Go.Shelf

/-- The place of a cell. -/
def placeN (m c : Nat) : Wy := ⟨((c / m : Nat) : Int), ((c % m : Nat) : Int), 0⟩
theorem placeN_in {n m c : Nat} (h : c < n * m) : inG n m (placeN m c) := by
  have h1 := wayN_in (n := n) (m := m) (c := 4 * c + 0) (by omega)
  rwa [wayN_cell (by decide)] at h1
theorem cellN_place (m c : Nat) : cellN m (placeN m c) = c := by
  have h1 := cellN_way (m := m) (4 * c + 0)
  rw [wayN_cell (by decide)] at h1
  have : (4 * c + 0) / 4 = c := by omega
  rw [this] at h1
  exact h1
/-- A grid, the number of one of its cells, a mirror there. -/
def MirrorIn (ss : List ByteArray) (cell : Int) (n m c : Nat) : Prop := CellIn ss cell n m c ∧ lett m (pad (flat ss)) ((c / m : Nat) : Int) ((c % m : Nat) : Int) ≠ 46
def MirrorEnd (ss : List ByteArray) (cell : Int) (w : World) (e : Ending) (w' : World) : Prop :=
  Below w.heap.size w w' ∧ ((∃ n m c, MirrorIn ss cell n m c ∧ e = .returned (.tuple #[.agg (gcells n m (pad (flat ss))), .agg #[.int .i64 ((c / m : Nat) : Int), .int .i64 ((c % m : Nat) : Int)], .bool true])) ∨
    ((∀ n m c, ¬ MirrorIn ss cell n m c) ∧ e = .returned (.tuple #[.agg zeroG, .agg #[.int .i64 0, .int .i64 0], .bool false])))
theorem CellIn.uniq {ss : List ByteArray} {cell : Int} {n m c n' m' c' : Nat} (h : CellIn ss cell n m c) (h' : CellIn ss cell n' m' c') : n = n' ∧ m = m' ∧ c = c' := by
  obtain ⟨rfl, rfl⟩ := h.1.uniq h'.1
  have := h.2.1.symm.trans h'.2.1
  exact ⟨rfl, rfl, by omega⟩
theorem int2_one (a b : Int) : (#[.int .i64 a, .int .i64 b] : Array Value).all (·.oneCell') = true := by
  rw [Array.all_eq_true_iff_forall_mem]
  intro u hu
  simp at hu
  rcases hu with rfl | rfl <;> rfl
/-- What the operations of mirrorIn's last statement hand back. -/
def mirRel (a b : Nat) (gc : Array Value) (qv rv : Int) (i : Nat) (v : Value) (W : World) : Prop :=
  match i with
  | 0 => v = .agg gc
  | 1 => v = .agg #[.int .i64 qv, .int .i64 rv]
  | 2 => W.heap[a]? = some (.cells gc 63 (0, 0))
  | 3 => W.heap[b]? = some (.cells #[.int .i64 qv, .int .i64 rv] 97 (0, 0))
  | 4 => v = .bool true
  | _ => True

end Go.Proofs.Ytonhnmpgikmlpaa

/- RoundMany, RoundLeast of the program, by their contracts. -/
namespace Go.Proofs.Ytonhnmpgikmlpaa
open Go.RowKit Go.Shelf

theorem RoundsOf.slice {w : World} {base g n m x : Nat} {t : Int → Int → UInt8} {v : Value} (h : RoundsOf w base g n m t x v) : ∃ A c, v = .slice A (leadsTo n m t x).length c := by
  obtain ⟨vs, h1, h2, _⟩ := h
  rw [← h2]
  rcases h1.2 with ⟨rfl, h0⟩ | ⟨b, cap, cur, rfl, _⟩
  · rw [h0]; exact ⟨_, _, rfl⟩
  · exact ⟨_, _, rfl⟩
/-- The first round, and its first step. -/
theorem RoundsOf.first {w : World} {base g n m x c : Nat} {t : Int → Int → UInt8} {v : Value} (h : RoundsOf w base g n m t x v) (hc : (leadsTo n m t x).head? = some c) :
    ∃ b cap b2 l2 cap2, v = .slice (some ⟨b, 0, none⟩) (leadsTo n m t x).length cap ∧ 0 < l2 ∧ w.cell? ⟨b, 0, none⟩ = some (.slice (some ⟨b2, 0, none⟩) l2 cap2) ∧ w.cell? ⟨b2, 0, none⟩ = some (.pointer (some ⟨g, 5 * c, none⟩)) := by
  have hlead := (leadsTo_mem (List.mem_of_mem_head? hc)).2
  have hlt := (leadsTo_mem (List.mem_of_mem_head? hc)).1
  obtain ⟨vs, h1, h2, h3⟩ := h
  rw [List.head?_eq_getElem?] at hc
  obtain ⟨u, h4, b2, cap2, rfl, _, _, h5⟩ := h3 0 c hc
  have hpos : 0 < vs.length := (List.getElem?_eq_some_iff.1 h4).1
  rcases h1.2 with ⟨_, h0⟩ | ⟨b, cap, cur, rfl, _, hg, _, _, _, ht⟩
  · omega
  · have hon := (lead_iff.1 hlead).1
    have hL : 0 < (ringN n m t (wayN m c)).length := by
      rw [ringN_length]
      unfold goL
      rw [if_pos hon]
      exact (rlen_facts (wayN_d c) hon).1
    refine ⟨b, cap, b2, _, cap2, by rw [h2], hL, ?_, h5 0 c ?_⟩
    · rw [cell_of_row _ _ _ _ _ _ hg]
      rw [← ht, List.getElem?_take_of_lt (by omega)] at h4
      rw [← Array.getElem?_toList, h4]
    · unfold ringN
      rw [ringN_length] at hL
      rw [List.getElem?_map, List.getElem?_range hL]
      simp [iter, wcode_way]

set_option maxRecDepth 100000 in
set_option maxHeartbeats 2000000 in
theorem implRoundMany_any (A : Option Addr) (c : Nat) (ss : List ByteArray) (w : World) (h : Strs w w.heap.size A ss) (hn : ss.length ≤ 1048576) (hs : ∀ s ∈ ss, s.size ≤ 1048576) :
    Calls Try.prog 49 #[.slice A ss.length c] w fun e w' => Below w.heap.size w w' ∧ ∃ x ok, e = .returned (.tuple #[.int .i64 x, .bool ok]) ∧ GridOut manyR ss x ok := by
  have HR := hid (readGrid_any A c ss w h hn hs)
  clear h hs
  go_enter Try.func49, Try.ntmps49
  go_wp2_with fail
  refine HR.out.mono ?_
  rintro e w1 ⟨hbel, ⟨n, m, hg, rfl⟩ | ⟨hno, rfl⟩⟩
  · have HB := hid hbel
    have HGr := hid hg
    have HS := hid (show (Try.prog.info? 63).map (·.size) = some (gcells n m (pad (flat ss))).size by rw [hg.csize]; exact Try.size_grid)
    have HZ := hid (show zeroG.size = (gcells n m (pad (flat ss))).size by rw [hg.csize]; rfl)
    have HL := hid (setRow_heap (w1.alloc (.cells zeroG 63)) w1.heap.size zeroG (gcells n m (pad (flat ss))) 63 (0, 0) (heap_new0 w1 _))
    have HW := hid (HB.out.trans (below_setRow' ((Below.refl _ w1).alloc HB.out.size (.cells zeroG 63)) HB.out.size (gcells n m (pad (flat ss)))))
    have HNC := hid (fun w' => newChart_any n m (4 * (n * m)) (n * m) (pad (flat ss)) w' hg.plen hg.2.2.1 hg.2.2.2.1 hg.2.2.2.2.1 rfl rfl)
    have HRS := hid (fun g w' hst => rounds_any n m g (4 * (n * m)) (pad (flat ss)) w' hg.plen hg.2.2.1 hg.2.2.2.2.1 rfl hst)
    clear hbel hg
    go_wp2_with (first
      | refine wpList_store_row rfl 63 _ _ rfl w1.heap.size (gcells n m (pad (flat ss))) rfl rfl 63 zeroG (heap_new0 w1 _) HS.out HZ.out (gcells_one _ _ _) ?_
      | refine wpList_load_row rfl 63 _ rfl w1.heap.size rfl 63 (gcells n m (pad (flat ss))) (0, 0) _ HL.out Try.underlying63 rfl HS.out ?_)
    refine (HNC.out _).mono ?_
    rintro e w2 ⟨g, _, rfl, hst, hb2⟩
    have HRR := hid (HRS.out g w2 hst)
    have HB2 := hid (HW.out.trans (hb2.mono HW.out.size))
    clear hb2 hst
    go_wp2_with fail
    refine HRR.out.mono ?_
    rintro e w3 ⟨v, rfl, hro, hb3⟩
    obtain ⟨A1, cc, rfl⟩ := hro.slice
    have HB3 := hid (HB2.out.trans (hb3.mono HB2.out.size))
    clear hb3 hro
    go_wp2_with fail
    refine bodyPost_ret (results_tmp2 rfl _ _ _) rfl ?_
    exact ⟨HB3.out, _, true, rfl, .inl ⟨n, m, HGr.out, rfl⟩⟩
  · have HB := hid hbel
    have HGr := hid hno
    clear hbel hno
    go_wp2_with (refine wpList_store_row rfl 63 _ _ rfl w1.heap.size zeroG rfl rfl 63 zeroG (heap_new0 w1 _) Try.size_grid rfl (gcells_one 0 0 (pad [])) ?_)
    refine bodyPost_ret (results_tmp2 rfl _ _ _) rfl ?_
    exact ⟨HB.out.trans (below_setRow' ((Below.refl _ w1).alloc HB.out.size _) HB.out.size _), 0, false, rfl, .inr ⟨HGr.out, rfl, rfl⟩⟩

end Go.Proofs.Ytonhnmpgikmlpaa
