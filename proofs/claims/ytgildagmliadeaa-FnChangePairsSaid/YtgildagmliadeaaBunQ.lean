/- Settled texts in one file. Each begins with what it holds. -/
import Derived.Test.YtgildagmliadeaaBunF
import Derived.Test.YtgildagmliadeaaBunH
import Derived.Test.YtgildagmliadeaaBunC
import Derived.Test.YtgildagmliadeaaBunD
import Derived.Test.YtgildagmliadeaaBunA
/- How often rounds go through a cell; RoundTwice of the specification and of the program. -/
namespace Go.Proofs.Ytgildagmliadeaa
open Go.RowKit Go.Shelf

def rtwiceR (n m : Nat) (t : Int → Int → UInt8) : Int × Bool := ((((List.range (n * m)).countP fun c => atN n m t c == 2 : Nat) : Int), true)

set_option maxRecDepth 100000 in
set_option maxHeartbeats 1000000 in
theorem l3At_any (g N n m x : Nat) (t : Int → Int → UInt8) (w : World) (hN : 4 * (n * m) = N) (hN100 : N ≤ 100) (hx : x < n * m) (hm : MarksAt w g N (fun c => onR n m t (wayN m c) = false)) :
    Calls Try.prog 80 #[.slice (some ⟨g, 0, none⟩) N N, .int .i64 (x : Int)] w fun e w' => e = .returned (.int .i64 ((atN n m t x : Nat) : Int)) ∧ w = w' := by
  have HM := hid hm
  have hx4 : 4 * x + 3 < N := by omega
  clear hm
  go_enter Try.func80, Try.ntmps80
  go_wp2
  go_loopw [5, 6] (fun (v i : Value) (wr : World) => ∃ d : Nat, d ≤ 4 ∧ i = .int .i64 d ∧ v = .int .i64 ((upT (fun d => onR n m t (wayN m (4 * x + d))) d : Nat) : Int) ∧ w = wr) (fun _ i _ => 4 - (intOf i).toNat)
  case atStart => exact ⟨0, by omega, rfl, rfl, rfl⟩
  case round =>
    obtain ⟨d, hd, rfl, rfl, rfl⟩ := hrel
    have hle := upT_le (fun d => onR n m t (wayN m (4 * x + d))) d
    by_cases hlt : d < 4
    · obtain ⟨bx, hcx, hbx, _⟩ := HM.out.cell (c := 4 * x + d) (by omega)
      have hdi : (d : Int) < 4 := by omega
      have hsum : 4 * (x : Int) + (d : Int) = ((4 * x + d : Nat) : Int) := by omega
      have hsuc : upT (fun d => onR n m t (wayN m (4 * x + d))) (d + 1) = upT (fun d => onR n m t (wayN m (4 * x + d))) d + (onR n m t (wayN m (4 * x + d))).toNat := rfl
      obtain ⟨q, hq⟩ : ∃ q, 4 * x + d = q := ⟨_, rfl⟩
      rw [hq] at hcx hbx hsum hsuc
      have hqN : q < N := by omega
      have hqi : (q : Int) < (N : Int) := by omega
      have hqi0 : (0 : Int) ≤ (q : Int) := by omega
      obtain ⟨u, hu⟩ : ∃ u, upT (fun d => onR n m t (wayN m (4 * x + d))) d = u := ⟨_, rfl⟩
      rw [hu] at hle hsuc ⊢
      have HSU := hid hsuc
      have HU := hid hu
      have hui : (u : Int) ≤ 4 := by omega
      have hui0 : (0 : Int) ≤ (u : Int) := by omega
      have HBX := hid hbx
      clear hbx hsuc hu hq hle
      cases bx with
      | true =>
        have HF := hid (HBX.out.1 rfl)
        go_wp2_with fail
        go_roundw
        case rel => exact ⟨d + 1, by omega, by go_num, by rw [HSU.out, HF.out]; rfl, by first | rfl | trivial⟩
        case measure => simp [intOf]; omega
      | false =>
        have hon : onR n m t (wayN m q) = true := by
          cases hb : onR n m t (wayN m q) with
          | true => rfl
          | false => have := HBX.out.2 hb; cases this
        have HF := hid hon
        clear hon
        go_wp2_with fail
        go_roundw
        case rel => exact ⟨d + 1, by omega, by go_num, by rw [HSU.out, HF.out]; go_num, by first | rfl | trivial⟩
        case measure => simp [intOf]; omega
    · obtain rfl : d = 4 := by omega
      have hat : atN n m t x = upT (fun d => onR n m t (wayN m (4 * x + d))) 4 / 2 := rfl
      obtain ⟨u, hu⟩ : ∃ u, upT (fun d => onR n m t (wayN m (4 * x + d))) 4 = u := ⟨_, rfl⟩
      rw [hu] at hle hat ⊢
      have hui0 : (0 : Int) ≤ (u : Int) := by omega
      have hui : (u : Int) ≤ 4 := by omega
      obtain ⟨v, hv⟩ : ∃ v, u / 2 = v := ⟨_, rfl⟩
      have hdiv : (u : Int) / 2 = (v : Int) := by omega
      rw [hv] at hat
      have HA := hid hat
      clear hat hu hv hle
      go_wp2_with fail
      go_ret
      exact ⟨by rw [HA.out]; first | rfl | rw [hdiv], rfl⟩

set_option maxRecDepth 100000 in
set_option maxHeartbeats 2000000 in
theorem specRoundTwice_any (A : Option Addr) (c B : Nat) (ss : List ByteArray) (w : World) (h : Strs w B A ss) (hB : B ≤ w.heap.size) (hn : ss.length ≤ 1048576) (hs : ∀ s ∈ ss, s.size ≤ 1048576) :
    Calls Try.prog 25 #[.slice A ss.length c] w fun e w' => Below w.heap.size w w' ∧ ∃ x ok, e = .returned (.tuple #[.int .i64 x, .bool ok]) ∧ GridOut rtwiceR ss x ok := by
  have HI := hid (specGridIn_any A c B ss w h hn hs)
  have HD := hid h
  clear h hs
  go_enter Try.func25, Try.ntmps25
  go_wp2_with fail
  refine HI.out.mono ?_
  rintro e w' ⟨ok, rfl, hok, d, rfl⟩
  have HO := hid hok
  clear hok
  have HBd := hid (below_drewN' (Below.refl w.heap.size w) d)
  cases ok with
  | false =>
    go_wp2_with fail
    refine bodyPost_ret (results_tmp2 rfl _ _ _) rfl ?_
    exact ⟨HBd.out, 0, false, rfl, .inr ⟨noGrid_of HO.out, rfl, rfl⟩⟩
  | true =>
    obtain ⟨n, m, hg⟩ := HO.out.1 rfl
    have c1 := hid (l3Marks_any A c B n m ss (w.drewN d) (HD.out.drewN d) hB hg)
    have HG := hid hg
    have h25 := hg.le25
    have hn1 := hg.2.1
    have hn5 := hg.2.2.1
    have hm5 := hg.2.2.2.2.1
    have hnl := hg.1
    obtain ⟨b, off, s0, rfl, hb, hk0, _⟩ := HD.out.at_ (k := 0) (by omega)
    have hs0 : s0.size = m := (hg.2.2.2.2.2 s0 (List.mem_of_getElem? hk0)).1
    have hs0i : ((s0.size : Nat) : Int) = (m : Int) := by rw [hs0]
    have hl0 : (0 : Int) < (ss.length : Int) := by omega
    have HK := hid hk0
    obtain ⟨K, hK⟩ : ∃ K, n * m = K := ⟨_, rfl⟩
    have hKi : (n : Int) * (m : Int) = (K : Int) := by rw [← hK]; simp
    obtain ⟨N, hN⟩ : ∃ N, 4 * (n * m) = N := ⟨_, rfl⟩
    have HN := hid hN
    have HKK := hid hK
    have HNL := hid hnl
    have hK25 : (K : Int) ≤ 25 := by omega
    have hK0 : (0 : Int) ≤ (K : Int) := by omega
    rw [hN] at c1
    rw [HNL.out] at hl0 c1 ⊢
    clear hg hk0 hs0 hnl
    go_wp2_with fail
    refine c1.out.mono ?_
    rintro e w1 ⟨g, _, rfl, hma, hb1⟩
    have HB1 := hid (HBd.out.trans hb1)
    have hc0 := ((HD.out.drewN d).below hb1 hB).cell_ HK.out
    rw [Nat.add_zero] at hc0
    have HAT := hid (fun x (hx : x < K) => l3At_any g N n m x (lett m (pad (flat ss))) w1 HN.out (by have := HN.out; omega) (by rw [HKK.out]; exact hx) hma)
    clear hb1 hma hK hN
    go_wp2_with fail
    go_loopw [4, 6] (fun (v i : Value) (wr : World) => ∃ x : Nat, x ≤ K ∧ i = .int .i64 x ∧ v = .int .i64 (((List.range x).countP (fun c => atN n m (lett m (pad (flat ss))) c == 2) : Nat) : Int) ∧ w1 = wr) (fun _ i _ => K - (intOf i).toNat)
    case atStart => exact ⟨0, Nat.zero_le _, rfl, rfl, rfl⟩
    case round =>
      obtain ⟨x, hx, rfl, rfl, rfl⟩ := hrel
      have hle : (List.range x).countP (fun c => atN n m (lett m (pad (flat ss))) c == 2) ≤ x := by
        have := List.countP_le_length (l := List.range x) (p := fun c => atN n m (lett m (pad (flat ss))) c == 2)
        rwa [List.length_range] at this
      have hsuc : (List.range (x + 1)).countP (fun c => atN n m (lett m (pad (flat ss))) c == 2) = (List.range x).countP (fun c => atN n m (lett m (pad (flat ss))) c == 2) + (if (atN n m (lett m (pad (flat ss))) x == 2) = true then 1 else 0) := by
        rw [List.range_succ, List.countP_append]
        simp [List.countP_cons]
      by_cases hlt : x < K
      · have hxi : (x : Int) < (K : Int) := by omega
        have hxi0 : (0 : Int) ≤ (x : Int) := by omega
        have hat := hid (HAT.out x hlt)
        obtain ⟨u, hu⟩ : ∃ u, (List.range x).countP (fun c => atN n m (lett m (pad (flat ss))) c == 2) = u := ⟨_, rfl⟩
        rw [hu] at hle hsuc ⊢
        obtain ⟨v, hv⟩ : ∃ v, atN n m (lett m (pad (flat ss))) x = v := ⟨_, rfl⟩
        rw [hv] at hsuc hat
        have hui : (u : Int) ≤ 25 := by omega
        have hui0 : (0 : Int) ≤ (u : Int) := by omega
        have HSU := hid hsuc
        clear hsuc hu hv hle
        by_cases h2 : v = 2
        · subst h2
          go_wp2_with fail
          refine hat.out.mono ?_
          rintro e w' ⟨rfl, rfl⟩
          go_wp2_with fail
          go_roundw
          case rel => exact ⟨x + 1, by omega, by go_num, by rw [HSU.out]; go_num, by first | rfl | trivial⟩
          case measure => simp [intOf]; omega
        · have hv2 : ((v : Int) == 2) = false := by rw [beq_eq_false_iff_ne]; omega
          have hv2n : (v == 2) = false := by rw [beq_eq_false_iff_ne]; exact h2
          have HV := hid hv2n
          clear h2 hv2n
          go_wp2_with fail
          refine hat.out.mono ?_
          rintro e w' ⟨rfl, rfl⟩
          go_wp2_with fail
          go_roundw
          case rel => exact ⟨x + 1, by omega, by go_num, by rw [HSU.out, HV.out]; rfl, by first | rfl | trivial⟩
          case measure => simp [intOf]; omega
      · obtain rfl : x = K := by omega
        clear hsuc hle
        go_wp2_with fail
        refine bodyPost_ret (results_tmp2 rfl _ _ _) rfl ?_
        exact ⟨HB1.out, _, true, rfl, .inl ⟨n, m, HG.out, by unfold rtwiceR; rw [HKK.out]⟩⟩

set_option maxRecDepth 100000 in
set_option maxHeartbeats 2000000 in
theorem roundsAt_any (n m g N x : Nat) (ls : List UInt8) (w : World) (hl : ls.length = 25) (hn : n ≤ 5) (hm : m ≤ 5) (hN : 4 * (n * m) = N) (hx : x < n * m) (hs : StepsM w g n m (lett m ls) (fun _ => True) N) :
    Calls Try.prog 78 #[.agg (chartC (gcells n m ls) g N), .agg #[.int .i64 ((x / m : Nat) : Int), .int .i64 ((x % m : Nat) : Int)]] w fun e w' => e = .returned (.int .i64 ((atN n m (lett m ls) x : Nat) : Int)) ∧ Below w.heap.size w w' := by
  have hnm25 : n * m ≤ 25 := Nat.mul_le_mul hn hm
  have hz := gcells_size (n := n) (m := m) hl
  have HCS := hid (show (Try.prog.info? 77).map (·.size) = some (chartC (gcells n m ls) g N).size by rw [chartC_size hz]; exact Try.size_chart)
  have HRD := hid (fun d w' (hd : d < 4) hs' => round_any n m g N (4 * x + d) (lett m ls) w' hN (by omega) (by omega) hs')
  have HSP := hid (fun d w' (hd : d < 4) => step_way n m g N ls (wayN m (4 * x + d)) w' hl hn hm (wayN_in (by omega)) (wayN_d _) hN)
  have HWY := hid (fun d (hd : d < 4) => wayN_cell (m := m) (c := x) hd)
  have HS := hid hs
  have HGL := hid (fun d (hd : d < 4) => goL_facts (t := lett m ls) (wayN_d (m := m) (4 * x + d)) (wayN_in (n := n) (m := m) (by omega)))
  generalize lett m ls = t at *
  generalize chartC (gcells n m ls) g N = cc at *
  obtain ⟨qv, hqv⟩ : ∃ qv : Int, ((x / m : Nat) : Int) = qv := ⟨_, rfl⟩
  obtain ⟨rv, hrv⟩ : ∃ rv : Int, ((x % m : Nat) : Int) = rv := ⟨_, rfl⟩
  rw [hqv, hrv] at HWY ⊢
  clear hs hz hqv hrv hl
  have HZ0 := hid (heap_new1 w (.cells cc 77) (.cells #[.int .i64 qv, .int .i64 rv] 83))
  have HZ1 := hid (show ((w.alloc (.cells cc 77)).alloc (.cells #[.int .i64 qv, .int .i64 rv] 83)).heap[w.heap.size + 1]? = some (.cells #[.int .i64 qv, .int .i64 rv] 83 (0, 0)) by
    have := heap_new0 (w.alloc (.cells cc 77)) (.cells #[.int .i64 qv, .int .i64 rv] 83)
    rwa [World.size_alloc] at this)
  have HZB := hid (show Below w.heap.size w ((w.alloc (.cells cc 77)).alloc (.cells #[.int .i64 qv, .int .i64 rv] 83)) from ((Below.refl _ w).alloc (Nat.le_refl _) _).alloc (by simp) _)
  go_enter Try.func78, Try.ntmps78
  go_wp2
  go_loopw [5, 7] (fun (v i : Value) (wr : World) => ∃ d : Nat, d ≤ 4 ∧ i = .int .i64 d ∧ v = .int .i64 ((upT (fun d => onR n m t (wayN m (4 * x + d))) d : Nat) : Int) ∧ Hid (wr.heap[w.heap.size]? = some (.cells cc 77 (0, 0)) ∧ wr.heap[w.heap.size + 1]? = some (.cells #[.int .i64 qv, .int .i64 rv] 83 (0, 0)) ∧ Below w.heap.size w wr)) (fun _ i _ => 4 - (intOf i).toNat)
  case atStart => exact ⟨0, by omega, rfl, rfl, hid ⟨HZ0.out, HZ1.out, HZB.out⟩⟩
  case round =>
    obtain ⟨d, hd, rfl, rfl, HH⟩ := hrel
    have hle := upT_le (fun d => onR n m t (wayN m (4 * x + d))) d
    by_cases hlt : d < 4
    · have hdi : (d : Int) < 4 := by omega
      have hsuc : upT (fun d => onR n m t (wayN m (4 * x + d))) (d + 1) = upT (fun d => onR n m t (wayN m (4 * x + d))) d + (onR n m t (wayN m (4 * x + d))).toNat := rfl
      obtain ⟨u, hu⟩ : ∃ u, upT (fun d => onR n m t (wayN m (4 * x + d))) d = u := ⟨_, rfl⟩
      rw [hu] at hle hsuc ⊢
      have HSU := hid hsuc
      have hui : (u : Int) ≤ 4 := by omega
      have hui0 : (0 : Int) ≤ (u : Int) := by omega
      have hst := hid (HSP.out d wr hlt)
      rw [wcode_way] at hst
      rw [HWY.out d hlt] at hst
      unfold wayV at hst
      have hrd := hid (fun w' hs' => HRD.out d w' hlt hs')
      have hgl := hid (HGL.out d hlt).1
      have HC := hid HH.out.1
      have HP := hid HH.out.2.1
      have HB := hid HH.out.2.2
      clear hsuc hu hle HH
      go_wp2_with (first
        | refine wpList_load_row rfl 77 _ rfl w.heap.size rfl 77 cc (0, 0) _ HC.out Try.underlying77 rfl HCS.out ?_
        | refine wpList_load_row rfl 83 _ rfl (w.heap.size + 1) rfl 83 #[.int .i64 qv, .int .i64 rv] (0, 0) _ HP.out Try.underlying83 rfl Try.size_place ?_)
      refine hst.out.mono ?_
      rintro e w1 ⟨rfl, hb1⟩
      have HC1 := hid ((hb1.block _ (lt_of_block HC.out)).trans HC.out)
      have HP1 := hid ((hb1.block _ (lt_of_block HP.out)).trans HP.out)
      have HB1 := hid (HB.out.trans (hb1.mono HB.out.size))
      clear hb1
      go_wp2_with fail
      refine (hrd.out w1 (HS.out.below HB1.out)).mono ?_
      rintro e w2 ⟨hb2, ⟨hon, v, rfl, hgp⟩ | ⟨hno, rfl⟩⟩
      · obtain ⟨A1, cc1, rfl⟩ := hgp.shape
        have hL := ringN_length n m t (wayN m (4 * x + d))
        obtain ⟨L, hLe⟩ : ∃ L, (ringN n m t (wayN m (4 * x + d))).length = L := ⟨_, rfl⟩
        rw [hLe] at hL ⊢
        have hL0 : (0 : Int) < (L : Int) := by have := hgl.out; omega
        have HON := hid hon
        have HC2 := hid ((hb2.block _ (lt_of_block HC1.out)).trans HC1.out)
        have HP2 := hid ((hb2.block _ (lt_of_block HP1.out)).trans HP1.out)
        have HB2 := hid (HB1.out.trans (hb2.mono HB1.out.size))
        clear hb2 hgp hLe hL hon
        go_wp2_with fail
        go_roundw
        case rel => exact ⟨d + 1, by omega, by go_num, by rw [HSU.out, HON.out]; go_num, hid ⟨HC2.out, HP2.out, HB2.out⟩⟩
        case measure => simp [intOf]; omega
      · have HNO := hid hno
        have HC2 := hid ((hb2.block _ (lt_of_block HC1.out)).trans HC1.out)
        have HP2 := hid ((hb2.block _ (lt_of_block HP1.out)).trans HP1.out)
        have HB2 := hid (HB1.out.trans (hb2.mono HB1.out.size))
        clear hb2 hno
        go_wp2_with fail
        go_roundw
        case rel => exact ⟨d + 1, by omega, by go_num, by rw [HSU.out, HNO.out]; rfl, hid ⟨HC2.out, HP2.out, HB2.out⟩⟩
        case measure => simp [intOf]; omega
    · obtain rfl : d = 4 := by omega
      have hat : atN n m t x = upT (fun d => onR n m t (wayN m (4 * x + d))) 4 / 2 := rfl
      obtain ⟨u, hu⟩ : ∃ u, upT (fun d => onR n m t (wayN m (4 * x + d))) 4 = u := ⟨_, rfl⟩
      rw [hu] at hle hat ⊢
      have hui0 : (0 : Int) ≤ (u : Int) := by omega
      have hui : (u : Int) ≤ 4 := by omega
      obtain ⟨v, hv⟩ : ∃ v, u / 2 = v := ⟨_, rfl⟩
      have hdiv : (u : Int) / 2 = (v : Int) := by omega
      rw [hv] at hat
      have HA := hid hat
      clear hat hu hv hle
      go_wp2_with fail
      go_ret
      exact ⟨by rw [HA.out]; first | rfl | rw [hdiv], HH.out.2.2⟩

/-- How many of these cells only rounds go through. -/
def twos {K : Nat} (n m : Nat) (t : Int → Int → UInt8) (pre : List (Fin K)) : Nat := pre.countP fun x => atN n m t x.val == 2
theorem twos_snoc {K : Nat} (n m : Nat) (t : Int → Int → UInt8) (pre : List (Fin K)) (x : Fin K) : twos n m t (pre ++ [x]) = twos n m t pre + (if (atN n m t x.val == 2) = true then 1 else 0) := by
  simp [twos, List.countP_append, List.countP_cons]
theorem twos_le {K : Nat} (n m : Nat) (t : Int → Int → UInt8) (pre : List (Fin K)) : twos n m t pre ≤ pre.length := List.countP_le_length
theorem twos_all (K n m : Nat) (t : Int → Int → UInt8) : twos n m t (List.finRange K) = (List.range K).countP fun c => atN n m t c == 2 := by
  unfold twos
  have e := upto_val (N := K) (k := K) (Nat.le_refl _)
  rw [upto_all] at e
  rw [← e, List.countP_map]
  rfl

attribute [local go_sem] Oper.semAt_some
set_option maxRecDepth 100000 in
set_option maxHeartbeats 4000000 in
theorem implRoundTwice_any (A : Option Addr) (c : Nat) (ss : List ByteArray) (w : World) (h : Strs w w.heap.size A ss) (hn : ss.length ≤ 1048576) (hs : ∀ s ∈ ss, s.size ≤ 1048576) :
    Calls Try.prog 24 #[.slice A ss.length c] w fun e w' => Below w.heap.size w w' ∧ ∃ x ok, e = .returned (.tuple #[.int .i64 x, .bool ok]) ∧ GridOut rtwiceR ss x ok := by
  have HR := hid (readGrid_any A c ss w h hn hs)
  clear h hs
  refine (callsIn_wide (n := 3)).1 ?_
  refine callsIn_of_wp_marks Try.func24 rfl trivial ?_ rfl
  simp only [Try.ntmps24, List.size_toArray, List.length_cons, List.length_nil, Nat.reduceAdd, Nat.reduceSub, Array.replicate_succ, Array.replicate_zero, List.push_toArray, List.append_toArray, List.nil_append, List.cons_append]
  gi_wp2_with fail
  refine ⟨trivial, callsIn_wide.2 (HR.out.mono ?_)⟩
  rintro e w1 ⟨hbel, ⟨n, m, hg, rfl⟩ | ⟨hno, rfl⟩⟩
  · have HB := hid hbel
    have HGr := hid hg
    have hn5 := hg.2.2.1
    have hm1 := hg.2.2.2.1
    have hm5 := hg.2.2.2.2.1
    have h25 := hg.le25
    have hpl := hg.plen
    have HS := hid (show (Try.prog.info? 54).map (·.size) = some (gcells n m (pad (flat ss))).size by rw [hg.csize]; exact Try.size_grid)
    have HZ := hid (show zeroG.size = (gcells n m (pad (flat ss))).size by rw [hg.csize]; rfl)
    have HL := hid (setRow_heap (w1.alloc (.cells zeroG 54)) w1.heap.size zeroG (gcells n m (pad (flat ss))) 54 (0, 0) (heap_new0 w1 _))
    have HW := hid (HB.out.trans (below_setRow' ((Below.refl _ w1).alloc HB.out.size (.cells zeroG 54)) HB.out.size (gcells n m (pad (flat ss)))))
    obtain ⟨K, hK⟩ : ∃ K, n * m = K := ⟨_, rfl⟩
    obtain ⟨N, hN⟩ : ∃ N, 4 * K = N := ⟨_, rfl⟩
    have HNC := hid (fun w' => newChart_any n m N K (pad (flat ss)) w' hg.plen hn5 hm1 hm5 hK hN)
    have HAT := hid (fun g x w' (hx : x < K) hst => roundsAt_any n m g N x (pad (flat ss)) w' hg.plen hn5 hm5 (by rw [hK]; exact hN) (by rw [hK]; exact hx) hst)
    have HCST := hid (fun Bg w' h => cells_stops 2 Bg n m K hK.symm (pad (flat ss)) hg.plen hn5 hm1 hm5 w' h)
    have HCS := hid (fun g => show (Try.prog.info? 77).map (·.size) = some (chartC (gcells n m (pad (flat ss))) g N).size by rw [chartC_size hg.csize]; exact Try.size_chart)
    have HCO := hid (fun g => chartC_one (gcells_one n m (pad (flat ss))) g N)
    have HCZ := hid (fun g => show zeroK.size = (chartC (gcells n m (pad (flat ss))) g N).size by rw [chartC_size hg.csize]; rfl)
    have HKK := hid hK
    have HONE := hid (gcells_one n m (pad (flat ss)))
    have hK25 : K ≤ 25 := by omega
    generalize gcells n m (pad (flat ss)) = gc at *
    generalize hlet : lett m (pad (flat ss)) = t at *
    have HLET := hid hlet
    clear hbel hg hlet hpl hN h25
    gi_wp2_with (first
      | refine wpListIn_store_row (Open.wide _) rfl 54 _ _ rfl w1.heap.size gc rfl rfl 54 zeroG (heap_new0 w1 _) HS.out HZ.out HONE.out ?_
      | refine wpListIn_load_row (Open.wide _) rfl 54 _ rfl w1.heap.size rfl 54 gc (0, 0) _ HL.out Try.underlying54 rfl HS.out ?_)
    refine ⟨trivial, callsIn_wide.2 ((HNC.out _).mono ?_)⟩
    rintro e w2 ⟨g, hgl, rfl, hst, hb2⟩
    have HB2 := hid (HW.out.trans (hb2.mono HW.out.size))
    have HL2 := hid ((hb2.block _ (lt_of_block HL.out)).trans HL.out)
    have HST2 := hid hst
    clear hb2 hst hgl
    -- the chart lies in a block of its own
    have X0 := setRow_heap (w2.alloc (.cells zeroK 77)) w2.heap.size zeroK (chartC gc g N) 77 (0, 0) (heap_new0 w2 _)
    have hch := fun (k : Nat) (hk : k < w2.heap.size) => show ((w2.alloc (.cells zeroK 77)).setRow w2.heap.size (chartC gc g N)).heap[k]? = w2.heap[k]? by
      rw [setRow_other _ _ _ _ (by omega)]; exact Below.heap_alloc _ _ _ hk
    have XB := HB2.out.trans (below_setRow' ((Below.refl _ w2).alloc HB2.out.size (.cells zeroK 77)) HB2.out.size (chartC gc g N))
    have XL := (hch _ (lt_of_block HL2.out)).trans HL2.out
    have XS := HST2.out.keep (hch _ HST2.out.lt)
    have XZ : ((w2.alloc (.cells zeroK 77)).setRow w2.heap.size (chartC gc g N)).heap.size = w2.heap.size + 1 := by simp
    generalize hX : World.setRow (w2.alloc (.cells zeroK 77)) w2.heap.size (chartC gc g N) = X at X0 XB XL XS XZ
    have HX := hid hX
    have Y0 := hid ((Below.heap_alloc X (.cells #[.int .i64 0] 3) _ (lt_of_block X0)).trans X0)
    have YL := hid ((Below.heap_alloc X (.cells #[.int .i64 0] 3) _ (lt_of_block XL)).trans XL)
    have YS := hid (XS.keep (Below.heap_alloc X (.cells #[.int .i64 0] 3) _ XS.lt))
    have YB := hid (XB.alloc XB.size (.cells #[.int .i64 0] 3))
    have YT := hid (Boxed.new X 3 (.int .i64 0))
    have YZ := hid (show (X.alloc (.cells #[.int .i64 0] 3)).heap.size = w2.heap.size + 2 by rw [World.size_alloc, XZ])
    have HXZ := hid XZ
    have HZN := hid (heap_new0 w2 (.cells zeroK 77))
    clear X0 hch XB XL XS hX
    clear XZ
    gi_wp2_with (first
      | (refine wpListIn_store_row (Open.wide _) rfl 77 _ _ rfl w2.heap.size (chartC gc g N) rfl rfl 77 zeroK HZN.out (HCS.out g) (HCZ.out g) (HCO.out g) ?_; rw [HX.out])
      | refine wpListIn_load_row (Open.wide _) rfl 54 _ rfl w1.heap.size rfl 54 gc (0, 0) _ YL.out Try.underlying54 rfl HS.out ?_)
    refine ⟨trivial, callsIn_wide.2 ((cells_any gc _).mono ?_)⟩
    generalize World.alloc X (.cells #[.int .i64 0] 3) = Y at Y0 YL YS YB YT YZ
    rintro e w3 ⟨rfl, hw3⟩
    have K0 := hid (show w3.heap[w2.heap.size]? = some (.cells (chartC gc g N) 77 (0, 0)) by rw [hw3]; exact (Below.heap_alloc _ _ _ (lt_of_block Y0.out)).trans Y0.out)
    have KS := hid (show StepsM w3 g n m t (fun _ => True) N by rw [hw3]; exact YS.out.below ((Below.refl _ _).alloc (Nat.le_refl _) _))
    have KB := hid (show Below w.heap.size w w3 by rw [hw3]; exact YB.out.alloc YB.out.size _)
    have KT := hid (show Boxed w3 X.heap.size 3 (.int .i64 0) by rw [hw3]; exact YT.out.alloc _)
    have K3 := hid (show w3.heap[Y.heap.size]? = some (.cells gc 54 (0, 0)) by rw [hw3]; exact heap_new0 Y _)
    have KZ := hid (show w3.heap.size = w2.heap.size + 3 by rw [hw3, World.size_alloc, YZ.out])
    have KY := hid YZ.out
    have KX := hid HXZ.out
    obtain ⟨bT, hbT⟩ : ∃ bT, X.heap.size = bT := ⟨_, rfl⟩
    rw [hbT] at KT KX ⊢
    clear hw3 hbT
    gi_wp2
    refine wpIn_rangeFunc_ownH rfl (by omega) (gf := 139) (lb := #[.pointer (some ⟨Y.heap.size, 0, none⟩)]) rfl trivial (enters_of Try.func139 (by kernel_rfl) rfl)
      (HCST.out Y.heap.size w3 K3.out) KeepsAt.trans (keepsAt_b (lt_of_block K3.out)) (Below.refl _ _) (fun _ => rfl)
      (fun pre W => ((W.heap[w2.heap.size]? = some (.cells (chartC gc g N) 77 (0, 0)) ∧ Boxed W bT 3 (.int .i64 ((twos n m t pre : Nat) : Int))) ∧ StepsM W g n m t (fun _ => True) N) ∧ Below w.heap.size w3 W)
      (fun _ _ _ => False)
      (OwnFrom.and (OwnFrom.and (OwnFrom.and (ownFrom_heap _ _ (fun _ => _) (fun _ => rfl)) (Own.from (boxed_own _ _ (fun pre => .int .i64 ((twos n m t pre : Nat) : Int))) _)) (ownFrom_steps _ g n m t (fun _ _ => True) N)) (ownFrom_below KB.out.size KB.out.size))
      (fun _ _ _ _ _ hs _ _ => hs)
      ⟨⟨⟨K0.out, KT.out⟩, KS.out⟩, Below.refl _ _⟩
      (fun x a' W => ∃ Bx, w2.heap.size + 3 ≤ Bx ∧ W.heap[Bx]? = some (.cells #[.int .i64 ((x.val / m : Nat) : Int), .int .i64 ((x.val % m : Nat) : Int)] 83 (0, 0)) ∧ ∃ u0 u1 u2 u3 u4 u5 u9 u10 u11 u12 u13 u14 u15 u16 u17 u18 u19 u20 u21 u22 u23 u24 u25 u26 u27 u28 : Value,
        a' = { tmps := #[u0, u1, u2, u3, u4, u5, .pointer (some ⟨w2.heap.size, 0, none⟩), .pointer (some ⟨bT, 0, none⟩), .pointer (some ⟨Bx, 0, none⟩), u9, u10, u11, u12, u13, u14, u15, u16, u17, u18, u19, u20, u21, u22, u23, u24, u25, u26, u27, u28], defers := [] })
      (fun x a' _ X Y row hs hg hr => by
        obtain ⟨Bx, h1, h2, h3⟩ := hs
        exact ⟨Bx, h1, ownFrom_heap _ Bx (fun (_ : Unit) => Obj.cells #[.int .i64 ((x.val / m : Nat) : Int), .int .i64 ((x.val % m : Nat) : Int)] 83 (0, 0)) (fun _ => rfl) () X Y row h2 hg hr, h3⟩)
      ?assign ?body ?done ?stop
    case assign =>
      rintro l pre x W Kk ⟨⟨⟨i0, i1⟩, i2⟩, i3⟩ hK
      have J0 := hid i0
      have J1 := hid i1
      have J2 := hid i2
      have J3 := hid i3
      have JK := hid hK
      clear i0 i1 i2 i3 hK
      unfold encs
      obtain ⟨qv, hqv⟩ : ∃ qv : Int, ((x.val / m : Nat) : Int) = qv := ⟨_, rfl⟩
      obtain ⟨rv, hrv⟩ : ∃ rv : Int, ((x.val % m : Nat) : Int) = rv := ⟨_, rfl⟩
      rw [hqv, hrv] at JK ⊢
      have hsz : w2.heap.size + 3 ≤ W.heap.size := by rw [← KZ.out]; exact J3.out.size
      have JY := hid KY.out
      gi_wp2
      exact JK.out _ _ ((KeepsOthers.alloc _ _).from _) ⟨by simp, Below.heap_alloc _ _ _ (by have := JY.out; omega)⟩
        ⟨⟨⟨(Below.heap_alloc _ _ _ (lt_of_block J0.out)).trans J0.out, J1.out.alloc _⟩, J2.out.below ((Below.refl _ _).alloc (Nat.le_refl _) _)⟩, J3.out.alloc (by have := HB2.out.size; omega) _⟩
        ⟨W.heap.size, hsz, heap_new0 W _, _, _, _, _, _, _, _, _, _, _, _, _, _, _, _, _, _, _, _, _, _, _, _, _, _, _, rfl⟩
    case body =>
      rintro l pre x a' W hlw ⟨r, hr⟩ ⟨⟨⟨i0, i1⟩, i2⟩, i3⟩ ⟨Bx, hBx, hXx, u0, u1, u2, u3, u4, u5, u9, u10, u11, u12, u13, u14, u15, u16, u17, u18, u19, u20, u21, u22, u23, u24, u25, u26, u27, u28, rfl⟩ hlt
      have hat := hid (HAT.out g x.val W x.isLt i2)
      have hle := twos_le n m t pre
      have hsn := twos_snoc n m t pre x
      obtain ⟨qv, hqv⟩ : ∃ qv : Int, ((x.val / m : Nat) : Int) = qv := ⟨_, rfl⟩
      obtain ⟨rv, hrv⟩ : ∃ rv : Int, ((x.val % m : Nat) : Int) = rv := ⟨_, rfl⟩
      obtain ⟨av, hav⟩ : ∃ av, atN n m t x.val = av := ⟨_, rfl⟩
      rw [hqv, hrv] at hXx hat
      rw [hav] at hat hsn
      obtain ⟨cv, hcv⟩ : ∃ cv, twos n m t pre = cv := ⟨_, rfl⟩
      rw [hcv] at i1 hle hsn
      have J0 := hid i0
      have J1 := hid i1
      have J2 := hid i2
      have J3 := hid i3
      have JX := hid hXx
      have HSN := hid hsn
      have hc25 : (cv : Int) ≤ 25 := by omega
      have hc0 : (0 : Int) ≤ (cv : Int) := by omega
      have JY := hid (show Y.heap.size < W.heap.size by have h1 := i3.size; have := KZ.out; have := KY.out; omega)
      clear i0 i1 i2 i3 hXx hqv hrv hav hcv hr hsn hle hlt
      gi_wp2_with (first
        | refine wpListIn_load_row (Open.round _ l) rfl 77 _ rfl w2.heap.size rfl 77 (chartC gc g N) (0, 0) _ J0.out Try.underlying77 rfl (HCS.out g) ?_
        | refine wpListIn_load_row (Open.round _ l) rfl 83 _ rfl Bx rfl 83 #[.int .i64 qv, .int .i64 rv] (0, 0) _ JX.out Try.underlying83 rfl Try.size_place ?_)
      refine ⟨trivial, CallsIn.inRound l (callsIn_wide.2 (hat.out.mono ?_))⟩
      rintro e w4 ⟨rfl, hb4⟩
      have L0 := hid ((hb4.block _ (lt_of_block J0.out)).trans J0.out)
      have L1 := hid (show Boxed w4 bT 3 (.int .i64 (cv : Int)) from (hb4.block _ (lt_of_block J1.out)).trans J1.out)
      have L2 := hid (J2.out.below hb4)
      have L3 := hid (J3.out.trans (hb4.mono (Nat.le_trans KB.out.size J3.out.size)))
      have LK := hid (keeps_below hb4)
      have LA := hid (show KeepsAt Y.heap.size W w4 from ⟨hb4.size, hb4.block _ JY.out⟩)
      have hcell := L1.out.cell
      have hfr := L1.out.frozen
      clear hb4
      by_cases h2 : av = 2
      · subst h2
        gi_wp2
        refine ⟨(LK.out.trans (KeepsOthers.setCell _ _ _)).from _, LA.out.trans ⟨by simp, Below.heap_setCell _ _ _ _ (show Y.heap.size ≠ bT by have := KX.out; have := KY.out; omega)⟩, ⟨⟨?_, ?_⟩, ?_⟩, ?_⟩
        · exact (Below.heap_setCell _ _ _ _ (show w2.heap.size ≠ bT by have := KX.out; omega)).trans L0.out
        · have hx : twos n m t (pre ++ [x]) = cv + 1 := HSN.out
          rw [hx, Int.natCast_add]
          exact L1.out.set _
        · refine L2.out.keep (Below.heap_setCell _ _ _ _ ?_)
          rintro rfl
          obtain ⟨cs, h1, _⟩ := L2.out
          have h3 := L1.out
          unfold Boxed at h3
          rw [h1] at h3
          simp at h3
        · exact L3.out.setCell (p := ⟨bT, 0, none⟩) (by have := KX.out; have := HB2.out.size; show w.heap.size ≤ bT; omega) _
      · have hv2 : ((av : Int) == 2) = false := by rw [beq_eq_false_iff_ne]; omega
        have hv2n : (av == 2) = false := by rw [beq_eq_false_iff_ne]; exact h2
        have HV := hid hv2n
        clear h2 hv2n
        gi_wp2
        refine ⟨LK.out.from _, LA.out, ⟨⟨L0.out, ?_⟩, L2.out⟩, L3.out⟩
        have hx := HSN.out
        rw [if_neg (by rw [HV.out]; decide), Nat.add_zero] at hx
        rw [hx]
        exact L1.out
    case done =>
      rintro D xs W hD rfl ⟨⟨⟨i0, i1⟩, i2⟩, i3⟩ hK
      rw [twos_all] at i1
      have hcell := i1.cell
      have J3 := hid i3
      have JK := hid hK
      clear i0 i1 i2 i3 hK
      gi_wp2
      refine ⟨by simp, .inl ⟨_, _, rfl, run_takeDeferred JK.out, ?_⟩⟩
      refine ⟨_, results_tmp2 rfl _ _ _, ?_, _, true, rfl, .inl ⟨n, m, HGr.out, ?_⟩⟩
      · exact (KB.out.trans J3.out).trans (belowK_b (w := w) (Nat.le_refl _) _ D _ _ (by have := KZ.out; have := HB2.out.size; omega) JK.out rfl rfl)
      · unfold rtwiceR
        rw [HLET.out, HKK.out]
    case stop =>
      rintro D c pre W _ _ h _
      exact h.elim
  · have HB := hid hbel
    have HGr := hid hno
    clear hbel hno
    gi_wp2_with (refine wpListIn_store_row (Open.wide _) rfl 54 _ _ rfl w1.heap.size zeroG rfl rfl 54 zeroG (heap_new0 w1 _) Try.size_grid rfl (gcells_one 0 0 (pad [])) ?_)
    refine ⟨_, results_tmp2 rfl _ _ _, ?_, 0, false, rfl, .inr ⟨HGr.out, rfl, rfl⟩⟩
    exact HB.out.trans (below_setRow' ((Below.refl _ w1).alloc HB.out.size _) HB.out.size _)

end Go.Proofs.Ytgildagmliadeaa

/- A change of a cell: its number and a closure over boxed values; what the closure makes; the exchange of a mirror; how many paths more come. -/
namespace Go.Proofs.Ytgildagmliadeaa
open Go.RowKit Go.Shelf

theorem Try.size_change : (Try.prog.info? 97).map (·.size) = some 2 := by kernel_rfl
/-- The closure of a change over three blocks. -/
def madeV (g0 g1 g2 : Nat) : Value := .func (.func 168) #[] #[.pointer (some ⟨g0, 0, none⟩), .pointer (some ⟨g1, 0, none⟩), .pointer (some ⟨g2, 0, none⟩)]
/-- The cells of a change. -/
def changeC (c : Int) (g0 g1 g2 : Nat) : Array Value := #[.int .i64 c, madeV g0 g1 g2]
theorem changeC_one (c : Int) (g0 g1 g2 : Nat) : (changeC c g0 g1 g2).all (·.oneCell') = true := by
  rw [Array.all_eq_true_iff_forall_mem]
  intro u hu
  simp [changeC] at hu
  rcases hu with rfl | rfl <;> rfl
/-- The three blocks hold a grid, a place and a letter. -/
def MadeAt (W : World) (n m : Nat) (ls : List UInt8) (x : Wy) (b : UInt8) (g0 g1 g2 : Nat) : Prop :=
  W.heap[g0]? = some (.cells (gcells n m ls) 54 (0, 0)) ∧ W.heap[g1]? = some (.cells #[.int .i64 x.i, .int .i64 x.k] 83 (0, 0)) ∧ W.heap[g2]? = some (.cells #[.int .u8 (b.toNat : Int)] 5 (0, 0))
/-- A change as a value. -/
def ChangeV (W : World) (n m : Nat) (ls : List UInt8) (x : Wy) (b : UInt8) (v : Value) : Prop :=
  ∃ g0 g1 g2, v = .agg (changeC ((cellN m x : Nat) : Int) g0 g1 g2) ∧ MadeAt W n m ls x b g0 g1 g2
theorem MadeAt.below {W W' : World} {n m : Nat} {ls : List UInt8} {x : Wy} {b : UInt8} {g0 g1 g2 : Nat} (h : MadeAt W n m ls x b g0 g1 g2) (hb : Below W.heap.size W W') : MadeAt W' n m ls x b g0 g1 g2 :=
  ⟨(hb.block _ (lt_of_block h.1)).trans h.1, (hb.block _ (lt_of_block h.2.1)).trans h.2.1, (hb.block _ (lt_of_block h.2.2)).trans h.2.2⟩
theorem ChangeV.below {W W' : World} {n m : Nat} {ls : List UInt8} {x : Wy} {b : UInt8} {v : Value} (h : ChangeV W n m ls x b v) (hb : Below W.heap.size W W') : ChangeV W' n m ls x b v := by
  obtain ⟨g0, g1, g2, h1, h2⟩ := h
  exact ⟨g0, g1, g2, h1, h2.below hb⟩

set_option maxRecDepth 100000 in
set_option maxHeartbeats 1000000 in
theorem change_any (n m : Nat) (ls : List UInt8) (x : Wy) (b : UInt8) (w : World) (hl : ls.length = 25) (hn : n ≤ 5) (hm : m ≤ 5) (hx : inG n m x) :
    Calls Try.prog 147 #[.agg (gcells n m ls), .agg #[.int .i64 x.i, .int .i64 x.k], .int .u8 (b.toNat : Int)] w fun e w' => ∃ v, e = .returned v ∧ ChangeV w' n m ls x b v ∧ Below w.heap.size w w' := by
  have h25 : n * m ≤ 25 := Nat.mul_le_mul hn hm
  have HCE := hid (fun w' => cell_cells (gcells n m ls) x.i x.k m (cellN m x) w' (gcells_1 n m _) (Nat.lt_of_lt_of_le (cellN_lt hx) h25) (cellN_int hx) ⟨hx.1, Int.lt_of_lt_of_le hx.2.1 (by omega)⟩ ⟨by omega, by omega⟩)
  have HG := hid (show (Try.prog.info? 54).map (·.size) = some (gcells n m ls).size by rw [gcells_size hl]; exact Try.size_grid)
  unfold ChangeV MadeAt
  generalize gcells n m ls = cs at *
  generalize cellN m x = c at *
  generalize x.i = xi at *
  generalize x.k = xk at *
  generalize ((b.toNat : Nat) : Int) = bv at *
  clear hx hl hn hm h25
  go_enter Try.func147, Try.ntmps147
  go_wp2_with (refine wpList_load_row rfl 54 _ rfl w.heap.size rfl 54 cs (0, 0) _ (heap_new3 w _ _ _ _) Try.underlying54 rfl HG.out ?_)
  have F0 := heap_new3 w (.cells cs 54) (.cells #[.int .i64 xi, .int .i64 xk] 83) (.cells #[.int .u8 bv] 5) (.cells #[.int .i64 0, .nilFunc] 97)
  have F1 := heap_new2 (w.alloc (.cells cs 54)) (.cells #[.int .i64 xi, .int .i64 xk] 83) (.cells #[.int .u8 bv] 5) (.cells #[.int .i64 0, .nilFunc] 97)
  have F2 := heap_new1 ((w.alloc (.cells cs 54)).alloc (.cells #[.int .i64 xi, .int .i64 xk] 83)) (.cells #[.int .u8 bv] 5) (.cells #[.int .i64 0, .nilFunc] 97)
  have F3 := heap_new0 (((w.alloc (.cells cs 54)).alloc (.cells #[.int .i64 xi, .int .i64 xk] 83)).alloc (.cells #[.int .u8 bv] 5)) (.cells #[.int .i64 0, .nilFunc] 97)
  have FB : Below w.heap.size w ((((w.alloc (.cells cs 54)).alloc (.cells #[.int .i64 xi, .int .i64 xk] 83)).alloc (.cells #[.int .u8 bv] 5)).alloc (.cells #[.int .i64 0, .nilFunc] 97)) := ((((Below.refl _ w).alloc (Nat.le_refl _) _).alloc (by simp) _).alloc (by simp; omega) _).alloc (by simp; omega) _
  simp only [World.size_alloc] at F1 F2 F3
  generalize World.alloc (World.alloc (World.alloc (World.alloc w _) _) _) _ = W at F0 F1 F2 F3 FB ⊢
  have G0 := hid F0
  have G1 := hid F1
  have G2 := hid F2
  have G3 := hid F3
  have GB := hid FB
  clear F0 F1 F2 F3 FB
  refine (HCE.out _).mono ?_
  rintro e w1 ⟨rfl, hb⟩
  have K0 := hid ((hb.block _ (lt_of_block G0.out)).trans G0.out)
  have K1 := hid ((hb.block _ (lt_of_block G1.out)).trans G1.out)
  have K2 := hid ((hb.block _ (lt_of_block G2.out)).trans G2.out)
  have K3 := hid ((hb.block _ (lt_of_block G3.out)).trans G3.out)
  have KB := hid (GB.out.trans (hb.mono GB.out.size))
  clear hb
  go_wp2_with (refine wpList_store_row rfl 97 _ _ rfl (w.heap.size + 1 + 1 + 1) (changeC ((c : Nat) : Int) w.heap.size (w.heap.size + 1) (w.heap.size + 1 + 1)) rfl rfl 97 #[.int .i64 0, .nilFunc] K3.out Try.size_change rfl (changeC_one _ _ _ _) ?_)
  have r3 := setRow_heap w1 (w.heap.size + 1 + 1 + 1) #[.int .i64 0, .nilFunc] (changeC ((c : Nat) : Int) w.heap.size (w.heap.size + 1) (w.heap.size + 1 + 1)) 97 (0, 0) K3.out
  refine bodyPost_ret (results_cell_row Try.results147 _ _ (w.heap.size + 1 + 1 + 1) 97 _ (0, 0) _ (by rfl) r3 Try.underlying97 rfl Try.size_change) rfl ?_
  refine ⟨_, rfl, ⟨_, _, _, rfl, ?_, ?_, ?_⟩, below_setRow' KB.out (by omega) _⟩
  · rw [setRow_other _ _ _ _ (by omega)]; exact K0.out
  · rw [setRow_other _ _ _ _ (by omega)]; exact K1.out
  · rw [setRow_other _ _ _ _ (by omega)]; exact K2.out

set_option maxRecDepth 100000 in
set_option maxHeartbeats 1000000 in
/-- What the closure makes: the grid with the letter. -/
theorem made_any (n m : Nat) (ls : List UInt8) (x : Wy) (b : UInt8) (g0 g1 g2 : Nat) (w : World) (hl : ls.length = 25) (hn : n ≤ 5) (hm : m ≤ 5) (hx : inG n m x) (h : MadeAt w n m ls x b g0 g1 g2) :
    Calls Try.prog 168 #[.pointer (some ⟨g0, 0, none⟩), .pointer (some ⟨g1, 0, none⟩), .pointer (some ⟨g2, 0, none⟩)] w fun e w' => e = .returned (.agg (gcells n m (ls.set (cellN m x) b))) ∧ Below w.heap.size w w' := by
  have h25 : n * m ≤ 25 := Nat.mul_le_mul hn hm
  have HW := hid (fun w' => with_any n m ls x.i x.k (cellN m x) b w' hl (Nat.lt_of_lt_of_le (cellN_lt hx) h25) (cellN_int hx) ⟨hx.1, Int.lt_of_lt_of_le hx.2.1 (by omega)⟩ hm)
  have HG := hid (show (Try.prog.info? 54).map (·.size) = some (gcells n m ls).size by rw [gcells_size hl]; exact Try.size_grid)
  have HG2 := hid (show (Try.prog.info? 54).map (·.size) = some (gcells n m (ls.set (cellN m x) b)).size by rw [gcells_size (by simpa using hl)]; exact Try.size_grid)
  have HZ := hid (show zeroG.size = (gcells n m (ls.set (cellN m x) b)).size by rw [gcells_size (by simpa using hl)]; rfl)
  have HO := hid (gcells_one n m (ls.set (cellN m x) b))
  obtain ⟨e0, e1, e2⟩ := h
  have E0 := hid (show (w.alloc (.cells zeroG 54)).heap[g0]? = _ from (Below.heap_alloc _ _ _ (lt_of_block e0)).trans e0)
  have E1 := hid (show (w.alloc (.cells zeroG 54)).heap[g1]? = _ from (Below.heap_alloc _ _ _ (lt_of_block e1)).trans e1)
  have E2 := hid (show (w.alloc (.cells zeroG 54)).heap[g2]? = _ from (Below.heap_alloc _ _ _ (lt_of_block e2)).trans e2)
  have hc0 : (w.alloc (.cells zeroG 54)).cell? ⟨g1, 0, none⟩ = some (.int .i64 x.i) := by rw [cell_of_row _ _ _ _ _ _ E1.out]; rfl
  have hc1 : (w.alloc (.cells zeroG 54)).cell? ⟨g1, 1, none⟩ = some (.int .i64 x.k) := by rw [cell_of_row _ _ _ _ _ _ E1.out]; rfl
  have hc2 : (w.alloc (.cells zeroG 54)).cell? ⟨g2, 0, none⟩ = some (.int .u8 (b.toNat : Int)) := by rw [cell_of_row _ _ _ _ _ _ E2.out]; rfl
  generalize gcells n m ls = cs at *
  generalize gcells n m (ls.set (cellN m x) b) = cs' at *
  generalize ((b.toNat : Nat) : Int) = bv at *
  generalize x.i = xi at *
  generalize x.k = xk at *
  clear hx hl hn hm h25 e0 e1 e2
  go_enter Try.func168, Try.ntmps168
  go_wp2_with (refine wpList_load_row rfl 54 _ rfl g0 rfl 54 cs (0, 0) _ E0.out Try.underlying54 rfl HG.out ?_)
  refine (HW.out _).mono ?_
  rintro e w1 ⟨rfl, hb⟩
  have K := hid (show w1.heap[w.heap.size]? = some (.cells zeroG 54 (0, 0)) from (hb.block _ (by simp)).trans (heap_new0 w _))
  have KB := hid (((Below.refl _ w).alloc (Nat.le_refl _) (.cells zeroG 54)).trans (hb.mono (by simp)))
  clear hb
  go_wp2_with (refine wpList_store_row rfl 54 _ _ rfl w.heap.size cs' rfl rfl 54 zeroG K.out HG2.out HZ.out HO.out ?_)
  refine bodyPost_ret (results_cell_row Try.results168 _ _ w.heap.size 54 _ (0, 0) _ (by rfl) (setRow_heap _ _ _ _ _ _ K.out) Try.underlying54 rfl HG2.out) rfl ?_
  exact ⟨rfl, below_setRow' KB.out (Nat.le_refl _) _⟩

/-- What the operations of the exchange hand back. -/
def exchRel (n m : Nat) (ls : List UInt8) (x : Wy) (b : UInt8) (i : Nat) (v : Value) (W : World) : Prop :=
  match i with
  | 0 => v = .agg (gcells n m ls)
  | 1 => v = .agg #[.int .i64 x.i, .int .i64 x.k]
  | 2 => v = .agg (gcells n m ls)
  | 3 => v = .agg #[.int .i64 x.i, .int .i64 x.k]
  | 4 => v = .int .u8 (b.toNat : Int)
  | 5 => v = .int .u8 ((oth b).toNat : Int)
  | 6 => ChangeV W n m ls x (oth b) v
  | _ => True

set_option maxRecDepth 100000 in
set_option maxHeartbeats 2000000 in
theorem exchange_any (n m : Nat) (ls : List UInt8) (x : Wy) (w : World) (hl : ls.length = 25) (hn : n ≤ 5) (hm : m ≤ 5) (hx : inG n m x) :
    Calls Try.prog 91 #[.agg (gcells n m ls), .agg #[.int .i64 x.i, .int .i64 x.k]] w fun e w' => ∃ v, e = .returned v ∧ ChangeV w' n m ls x (oth (lett m ls x.i x.k)) v ∧ Below w.heap.size w w' := by
  obtain ⟨p, hp, he, hb⟩ := inG_cell hl hn hm hx
  have HG := hid (show (Try.prog.info? 54).map (·.size) = some (gcells n m ls).size by rw [gcells_size hl]; exact Try.size_grid)
  have HAT := hid (show ∀ w', Calls Try.prog 145 #[.agg (gcells n m ls), .agg #[.int .i64 x.i, .int .i64 x.k]] w' fun e w'' => ∃ v, e = .returned v ∧ exchRel n m ls x (lett m ls x.i x.k) 4 v w'' ∧ Below w'.heap.size w' w'' from fun w' => (at_any n m ls x.i x.k p (lett m ls x.i x.k) w' hl hp he ⟨hx.1, Int.lt_of_lt_of_le hx.2.1 (by omega)⟩ hm hb).mono fun e w'' ⟨h1, h2⟩ => ⟨_, h1, rfl, h2⟩)
  have HEX := hid (show ∀ w', Calls Try.prog 129 #[.int .u8 ((lett m ls x.i x.k).toNat : Int)] w' fun e w'' => ∃ v, e = .returned v ∧ exchRel n m ls x (lett m ls x.i x.k) 5 v w'' ∧ Below w'.heap.size w' w'' from fun w' => (exchanged_any (lett m ls x.i x.k) w').mono fun e w'' ⟨h1, h2⟩ => ⟨_, h1, rfl, by subst h2; exact Below.refl _ _⟩)
  have HCH := hid (show ∀ w', Calls Try.prog 147 #[.agg (gcells n m ls), .agg #[.int .i64 x.i, .int .i64 x.k], .int .u8 ((oth (lett m ls x.i x.k)).toNat : Int)] w' fun e w'' => ∃ v, e = .returned v ∧ exchRel n m ls x (lett m ls x.i x.k) 6 v w'' ∧ Below w'.heap.size w' w'' from fun w' => change_any n m ls x (oth (lett m ls x.i x.k)) w' hl hn hm hx)
  generalize lett m ls x.i x.k = b at *
  clear hb he hp hl hn hm hx
  have F0 := heap_new2 w (.cells (gcells n m ls) 54) (.cells #[.int .i64 x.i, .int .i64 x.k] 83) (.cells #[.int .i64 0, .nilFunc] 97)
  have F1 := heap_new1 (w.alloc (.cells (gcells n m ls) 54)) (.cells #[.int .i64 x.i, .int .i64 x.k] 83) (.cells #[.int .i64 0, .nilFunc] 97)
  have F2 := heap_new0 ((w.alloc (.cells (gcells n m ls) 54)).alloc (.cells #[.int .i64 x.i, .int .i64 x.k] 83)) (.cells #[.int .i64 0, .nilFunc] 97)
  have FB : Below w.heap.size w (((w.alloc (.cells (gcells n m ls) 54)).alloc (.cells #[.int .i64 x.i, .int .i64 x.k] 83)).alloc (.cells #[.int .i64 0, .nilFunc] 97)) := (((Below.refl _ w).alloc (Nat.le_refl _) _).alloc (by simp) _).alloc (by simp; omega) _
  simp only [World.size_alloc] at F1 F2
  have G0 := hid F0
  have G1 := hid F1
  have G2 := hid F2
  have GB := hid FB
  clear F0 F1 F2 FB
  go_enter Try.func91, Try.ntmps91
  go_wp2
  generalize World.alloc (World.alloc (World.alloc w _) _) _ = W0 at *
  refine wp_region_rel_tail (by kernel_rfl) 7 (by kernel_rfl) (fun us => { tmps := #[.agg (gcells n m ls), .agg #[.int .i64 x.i, .int .i64 x.k], .pointer (some ⟨w.heap.size, 0, none⟩), .pointer (some ⟨w.heap.size + 1, 0, none⟩), .pointer (some ⟨w.heap.size + 1 + 1, 0, none⟩), us 0, us 1, us 2, us 3, us 4, us 5, us 6], defers := [] }) (fun _ => undef) rfl (exchRel n m ls x b) (fun i v W W' h hb => ?_) (fun i us v hi => ?_) (fun i us W hi hb hd => ?_) (fun us W hb hr => ?_)
  · unfold exchRel at h ⊢
    split at h <;> try exact h
    exact h.below hb
  · match i, hi with
    | 0, _ => rfl
    | 1, _ => rfl
    | 2, _ => rfl
    | 3, _ => rfl
    | 4, _ => rfl
    | 5, _ => rfl
    | 6, _ => rfl
  · have L0 := hid ((hb.block _ (lt_of_block G0.out)).trans G0.out)
    have L1 := hid ((hb.block _ (lt_of_block G1.out)).trans G1.out)
    match i, hi with
    | 0, _ => exact wpOp_val rfl rfl (exec_load_row 54 _ rfl w.heap.size rfl 54 (gcells n m ls) (0, 0) _ L0.out Try.underlying54 rfl HG.out) rfl
    | 1, _ => exact wpOp_val rfl rfl (exec_load_row 83 _ rfl (w.heap.size + 1) rfl 83 #[.int .i64 x.i, .int .i64 x.k] (0, 0) _ L1.out Try.underlying83 rfl Try.size_place) rfl
    | 2, _ => exact wpOp_val rfl rfl (exec_load_row 54 _ rfl w.heap.size rfl 54 (gcells n m ls) (0, 0) _ L0.out Try.underlying54 rfl HG.out) rfl
    | 3, _ => exact wpOp_val rfl rfl (exec_load_row 83 _ rfl (w.heap.size + 1) rfl 83 #[.int .i64 x.i, .int .i64 x.k] (0, 0) _ L1.out Try.underlying83 rfl Try.size_place) rfl
    | 4, _ =>
      have h0 : us 2 = _ := hd _ rfl { on := 2, ground := .data } (by simp) rfl
      have h1 : us 3 = _ := hd _ rfl { on := 3, ground := .data } (by simp) rfl
      rw [h0, h1]
      exact wpOp_call rfl rfl (by go_simp) (HAT.out W)
    | 5, _ =>
      have h0 : us 4 = _ := hd _ rfl { on := 4, ground := .data } (by simp) rfl
      rw [h0]
      exact wpOp_call rfl rfl (by go_simp) (HEX.out W)
    | 6, _ =>
      have h0 : us 0 = _ := hd _ rfl { on := 0, ground := .data } (by simp) rfl
      have h1 : us 1 = _ := hd _ rfl { on := 1, ground := .data } (by simp) rfl
      have h2 : us 5 = _ := hd _ rfl { on := 5, ground := .data } (by simp) rfl
      rw [h0, h1, h2]
      exact wpOp_call rfl rfl (by go_simp) (HCH.out W)
  · obtain ⟨g0, g1, g2, h6, hmade⟩ : ChangeV W n m ls x (oth b) (us 6) := hr 6 (by omega)
    rw [h6]
    have L2 := hid ((hb.block _ (lt_of_block G2.out)).trans G2.out)
    have HB := hid (GB.out.trans (hb.mono GB.out.size))
    have HM := hid hmade
    clear hr hb hmade
    refine wpList_store_row rfl 97 _ _ rfl (w.heap.size + 1 + 1) (changeC ((cellN m x : Nat) : Int) g0 g1 g2) rfl rfl 97 #[.int .i64 0, .nilFunc] L2.out Try.size_change rfl (changeC_one _ _ _ _) ?_
    have r2 := hid (setRow_heap W (w.heap.size + 1 + 1) #[.int .i64 0, .nilFunc] (changeC ((cellN m x : Nat) : Int) g0 g1 g2) 97 (0, 0) L2.out)
    have HB2 := hid (below_setRow' HB.out (show w.heap.size ≤ w.heap.size + 1 + 1 by omega) (changeC ((cellN m x : Nat) : Int) g0 g1 g2))
    have HV := hid (show MadeAt (W.setRow (w.heap.size + 1 + 1) (changeC ((cellN m x : Nat) : Int) g0 g1 g2)) n m ls x (oth b) g0 g1 g2 from by
      have hsz : ∀ {g : Nat} {cs : Array Value} {t : TypeId}, W.heap[g]? = some (.cells cs t (0, 0)) → t ≠ 97 → (W.setRow (w.heap.size + 1 + 1) (changeC ((cellN m x : Nat) : Int) g0 g1 g2)).heap[g]? = some (.cells cs t (0, 0)) := fun {g cs t} h ht => by
        rw [setRow_other _ _ _ _ (fun e => by rw [e, L2.out] at h; cases h; exact ht rfl)]
        exact h
      exact ⟨hsz HM.out.1 (by decide), hsz HM.out.2.1 (by decide), hsz HM.out.2.2 (by decide)⟩)
    go_wp2_with fail
    refine bodyPost_ret (results_cell_row Try.results91 _ _ (w.heap.size + 1 + 1) 97 _ (0, 0) _ (by rfl) r2.out Try.underlying97 rfl Try.size_change) rfl ?_
    exact ⟨_, rfl, ⟨g0, g1, g2, rfl, HV.out⟩, HB2.out⟩

end Go.Proofs.Ytgildagmliadeaa

/- RoundAt of the specification and of the program, by their contracts. -/
namespace Go.Proofs.Ytgildagmliadeaa
open Go.RowKit Go.Shelf

section
variable {P : Program} {ops : Array Oper} {rest : List Oper} {o : Oper} {a : Act} {w : World} {Q : Exit → Act → World → Prop}
theorem wpList_load_row_gA (hw : Region.wanted o (yielded ops a.tmps) = true) (ty : TypeId) (x : Operand) (ho : o.op = .load ty x)
    (g : Nat) (hx : a.eval x = .pointer (some ⟨g, 0, none⟩)) (t : TypeId) (cs : Array Value) (fr : Nat × Nat) (d : TypeDesc) (hg : w.heap[g]? = some (.cells cs t fr))
    (hu : P.underlying ty = some d) (hd : (match d with | .struct _ | .array _ _ => true | _ => false) = true) (hi : (P.info? ty).map (·.size) = some cs.size)
    (h : wpList P ops Q rest (a.put o.dst (.agg cs)) w) : wpList P ops Q (o :: rest) a w := by
  unfold wpList
  rw [if_pos hw]
  refine .inl ?_
  unfold Oper.wp
  rw [exec_load_row ty x ho g hx t cs fr d hg hu hd hi]
  exact h
end

set_option maxHeartbeats 400000 in
theorem hasCellA_any (n m : Nat) (ls : List UInt8) (cell : Int) (w : World) (hl : ls.length = 25) (hn : n ≤ 5) (hm : m ≤ 5) :
    Calls Try.prog 81 #[.agg (gcells n m ls), .int .i64 cell] w fun e w' => e = .returned (.bool (decide (0 ≤ cell ∧ cell < ((n * m : Nat) : Int)))) ∧ Below w.heap.size w w' := by
  have HS := hid (size_any n m ls (w.alloc (.cells (gcells n m ls) 54)) hn hm)
  have HG := hid (show (Try.prog.info? 54).map (·.size) = some (gcells n m ls).size by rw [gcells_size hl]; exact Try.size_grid)
  obtain ⟨Ni, hNi⟩ : ∃ Ni : Int, ((n * m : Nat) : Int) = Ni := ⟨_, rfl⟩
  rw [hNi] at HS ⊢
  clear hNi
  by_cases h0 : 0 ≤ cell
  · have e0 : decide (0 ≤ cell) = true := by simpa using h0
    go_enter Try.func81, Try.ntmps81
    go_wp2_with (refine wpList_load_row_gA (by rfl) 54 _ rfl w.heap.size rfl 54 (gcells n m ls) (0, 0) _ (heap_new0 w _) Try.underlying54 rfl HG.out ?_)
    refine HS.out.mono ?_
    rintro e w2 ⟨rfl, hb⟩
    have HB := hid hb
    clear hb
    go_wp2_with fail
    go_ret
    refine ⟨?_, ((Below.refl _ w).alloc (Nat.le_refl _) _).trans (HB.out.mono (by simp))⟩
    simp [h0]
  · have e0 : decide (0 ≤ cell) = false := by simpa using h0
    have h0' : ¬ (0 ≤ cell) := h0
    go_enter Try.func81, Try.ntmps81
    go_wp2_with fail
    go_ret
    refine ⟨?_, (Below.refl _ w).alloc (Nat.le_refl _) _⟩
    simp

/-- A grid, and a number of one of its cells. -/
def CellIn (ss : List ByteArray) (cell : Int) (n m c : Nat) : Prop := IsGrid n m ss ∧ cell = (c : Int) ∧ c < n * m
/-- What a question on a cell comes to, where the answer is an integer and a bool. -/
def CellOut (R : Nat → Nat → (Int → Int → UInt8) → Nat → Int × Bool) (ss : List ByteArray) (cell : Int) (x : Int) (ok : Bool) : Prop :=
  (∃ n m c, CellIn ss cell n m c ∧ (x, ok) = R n m (lett m (pad (flat ss))) c) ∨ ((∀ n m c, ¬ CellIn ss cell n m c) ∧ x = 0 ∧ ok = false)
theorem CellOut.uniq {R : Nat → Nat → (Int → Int → UInt8) → Nat → Int × Bool} {ss : List ByteArray} {cell x x' : Int} {ok ok' : Bool} (h : CellOut R ss cell x ok) (h' : CellOut R ss cell x' ok') : x' = x ∧ ok' = ok := by
  rcases h with ⟨n, m, c, h1, h2⟩ | ⟨h1, rfl, rfl⟩ <;> rcases h' with ⟨n', m', c', h1', h2'⟩ | ⟨h1', rfl, rfl⟩
  · obtain ⟨rfl, rfl⟩ := h1.1.uniq h1'.1
    obtain rfl : c = c' := by have := h1.2.1.symm.trans h1'.2.1; omega
    have := h2'.trans h2.symm
    cases this
    exact ⟨rfl, rfl⟩
  · exact absurd h1 (h1' _ _ _)
  · exact absurd h1' (h1 _ _ _)
  · exact ⟨rfl, rfl⟩
def atR (n m : Nat) (t : Int → Int → UInt8) (c : Nat) : Int × Bool := (((atN n m t c : Nat) : Int), true)

set_option maxRecDepth 100000 in
set_option maxHeartbeats 2000000 in
theorem specRoundAt_any (A : Option Addr) (c B : Nat) (ss : List ByteArray) (cell : Int) (w : World) (h : Strs w B A ss) (hB : B ≤ w.heap.size) (hn : ss.length ≤ 1048576) (hs : ∀ s ∈ ss, s.size ≤ 1048576) :
    Calls Try.prog 35 #[.slice A ss.length c, .int .i64 cell] w fun e w' => Below w.heap.size w w' ∧ ∃ x ok, e = .returned (.tuple #[.int .i64 x, .bool ok]) ∧ CellOut atR ss cell x ok := by
  have HI := hid (specGridIn_any A c B ss w h hn hs)
  have HD := hid h
  clear h hs
  go_enter Try.func35, Try.ntmps35
  go_wp2_with fail
  refine HI.out.mono ?_
  rintro e w' ⟨ok, rfl, hok, d, rfl⟩
  have HO := hid hok
  clear hok
  have HBd := hid (below_drewN' (Below.refl w.heap.size w) d)
  cases ok with
  | false =>
    go_wp2_with fail
    refine bodyPost_ret (results_tmp2 rfl _ _ _) rfl ?_
    exact ⟨HBd.out, 0, false, rfl, .inr ⟨fun n m c hc => noGrid_of HO.out _ _ hc.1, rfl, rfl⟩⟩
  | true =>
    obtain ⟨n, m, hg⟩ := HO.out.1 rfl
    have c1 := hid (l3Marks_any A c B n m ss (w.drewN d) (HD.out.drewN d) hB hg)
    obtain ⟨b, off, s0, rfl, hb, hk0, hc0⟩ := HD.out.at_ (k := 0) (by have := hg.1; have := hg.2.1; omega)
    rw [Nat.add_zero] at hc0
    have hm0 : s0.size = m := (hg.2.2.2.2.2 s0 (List.mem_of_getElem? hk0)).1
    have hmi : ((s0.size : Nat) : Int) = (m : Int) := by rw [hm0]
    have hl0 : (0 : Int) < (ss.length : Int) := by have := hg.1; have := hg.2.1; omega
    have hle := hg.le25
    obtain ⟨N, hN⟩ : ∃ N, n * m = N := ⟨_, rfl⟩
    have hNi : (ss.length : Int) * (m : Int) = (N : Int) := by rw [hg.1, ← Int.natCast_mul, hN]
    rw [hN] at hle
    have HN := hid hN
    have HG := hid hg
    have g3 := hid (l6In_any cell 0 ((N : Int) - 1))
    clear hg hk0 hm0 hN
    go_wp2_with fail
    refine (g3.out _).mono ?_
    rintro e w' ⟨rfl, rfl⟩
    by_cases hin : 0 ≤ cell ∧ cell ≤ (N : Int) - 1
    · rw [show decide (0 ≤ cell ∧ cell ≤ (N : Int) - 1) = true by simpa using hin]
      obtain ⟨cc, rfl⟩ : ∃ cc : Nat, cell = cc := ⟨cell.toNat, by omega⟩
      have HCC := hid (show cc < n * m by rw [HN.out]; have := hin.2; omega)
      clear hin
      go_wp2_with fail
      refine c1.out.mono ?_
      rintro e w1 ⟨g, _, rfl, hma, hb1⟩
      have hat := hid (l3At_any g (4 * (n * m)) n m cc (lett m (pad (flat ss))) w1 rfl (by have := HN.out; omega) HCC.out hma)
      have HB1 := hid (HBd.out.trans hb1)
      clear hb1 hma
      go_wp2_with fail
      refine hat.out.mono ?_
      rintro e w' ⟨rfl, rfl⟩
      go_wp2_with fail
      refine bodyPost_ret (results_tmp2 rfl _ _ _) rfl ?_
      exact ⟨HB1.out, _, true, rfl, .inl ⟨n, m, cc, ⟨HG.out, rfl, HCC.out⟩, rfl⟩⟩
    · rw [show decide (0 ≤ cell ∧ cell ≤ (N : Int) - 1) = false by simpa using hin]
      have HNo := hid (show ∀ n' m' c', ¬ CellIn ss cell n' m' c' from fun n' m' c' hc => by
        obtain ⟨rfl, rfl⟩ := HG.out.uniq hc.1
        have h2 := hc.2.2
        have h3 := hc.2.1
        rw [HN.out] at h2
        exact hin ⟨by omega, by omega⟩)
      clear hin
      go_wp2_with fail
      refine bodyPost_ret (results_tmp2 rfl _ _ _) rfl ?_
      exact ⟨HBd.out, 0, false, rfl, .inr ⟨HNo.out, rfl, rfl⟩⟩

/-- What the operations of the program's question hand back. -/
def atImplRel (gc : Array Value) (n m N c k : Nat) (t : Int → Int → UInt8) (i : Nat) (v : Value) (W : World) : Prop :=
  match i with
  | 0 => v = .agg gc
  | 1 => ∃ g, v = .agg (chartC gc g N) ∧ StepsM W g n m t (fun _ => True) N
  | 2 => v = .agg gc
  | 3 => v = .int .i64 (c : Int)
  | 4 => v = .agg #[.int .i64 ((c / m : Nat) : Int), .int .i64 ((c % m : Nat) : Int)]
  | 5 => v = .int .i64 (k : Int)
  | 6 => v = .int .i64 (k : Int)
  | 7 => v = .bool true
  | _ => True

set_option maxRecDepth 100000 in
set_option maxHeartbeats 2000000 in
theorem implRoundAt_any (A : Option Addr) (c : Nat) (ss : List ByteArray) (cell : Int) (w : World) (h : Strs w w.heap.size A ss) (hn : ss.length ≤ 1048576) (hs : ∀ s ∈ ss, s.size ≤ 1048576) :
    Calls Try.prog 26 #[.slice A ss.length c, .int .i64 cell] w fun e w' => Below w.heap.size w w' ∧ ∃ x ok, e = .returned (.tuple #[.int .i64 x, .bool ok]) ∧ CellOut atR ss cell x ok := by
  have HR := hid (readGrid_any A c ss w h hn hs)
  clear h hs
  go_enter Try.func26, Try.ntmps26
  go_wp2_with fail
  refine HR.out.mono ?_
  rintro e w1 ⟨hbel, ⟨n, m, hg, rfl⟩ | ⟨hno, rfl⟩⟩
  · have HB := hid hbel
    have HGr := hid hg
    have HS := hid (show (Try.prog.info? 54).map (·.size) = some (gcells n m (pad (flat ss))).size by rw [hg.csize]; exact Try.size_grid)
    have HZ := hid (show zeroG.size = (gcells n m (pad (flat ss))).size by rw [hg.csize]; rfl)
    have HL := hid (setRow_heap (w1.alloc (.cells zeroG 54)) w1.heap.size zeroG (gcells n m (pad (flat ss))) 54 (0, 0) (heap_new0 w1 _))
    have HW := hid (HB.out.trans (below_setRow' ((Below.refl _ w1).alloc HB.out.size (.cells zeroG 54)) HB.out.size (gcells n m (pad (flat ss)))))
    have hn5 := hg.2.2.1
    have hm1 := hg.2.2.2.1
    have hm5 := hg.2.2.2.2.1
    have h25 := hg.le25
    have hpl := hg.plen
    have HHC := hid (fun w' => hasCellA_any n m (pad (flat ss)) cell w' hpl hn5 hm5)
    have HNC := hid (show ∀ c k w', Calls Try.prog 76 #[.agg (gcells n m (pad (flat ss)))] w' fun e w'' => ∃ v, e = .returned v ∧ atImplRel (gcells n m (pad (flat ss))) n m (4 * (n * m)) c k (lett m (pad (flat ss))) 1 v w'' ∧ Below w'.heap.size w' w'' from fun c k w' => (newChart_any n m (4 * (n * m)) (n * m) (pad (flat ss)) w' hpl hn5 hm1 hm5 rfl rfl).mono fun e w'' ⟨g, _, he, hst, hb⟩ => ⟨_, he, ⟨g, rfl, hst⟩, hb⟩)
    have HPL := hid (show ∀ c k w', c < n * m → Calls Try.prog 82 #[.agg (gcells n m (pad (flat ss))), .int .i64 (c : Int)] w' fun e w'' => ∃ v, e = .returned v ∧ atImplRel (gcells n m (pad (flat ss))) n m (4 * (n * m)) c k (lett m (pad (flat ss))) 4 v w'' ∧ Below w'.heap.size w' w'' from fun c k w' hc => (place_any n m c (pad (flat ss)) w' hm1 hm5 (Nat.lt_of_lt_of_le hc h25)).mono fun e w'' ⟨he, hb⟩ => ⟨_, he, rfl, hb⟩)
    have HRA := hid (show ∀ g c k w', c < n * m → atN n m (lett m (pad (flat ss))) c = k → StepsM w' g n m (lett m (pad (flat ss))) (fun _ => True) (4 * (n * m)) → Calls Try.prog 78 #[.agg (chartC (gcells n m (pad (flat ss))) g (4 * (n * m))), .agg #[.int .i64 ((c / m : Nat) : Int), .int .i64 ((c % m : Nat) : Int)]] w' fun e w'' => ∃ v, e = .returned v ∧ atImplRel (gcells n m (pad (flat ss))) n m (4 * (n * m)) c k (lett m (pad (flat ss))) 5 v w'' ∧ Below w'.heap.size w' w'' from fun g c k w' hc hk hst => (roundsAt_any n m g (4 * (n * m)) c (pad (flat ss)) w' hpl hn5 hm5 rfl hc hst).mono fun e w'' ⟨he, hb⟩ => ⟨_, he, by rw [← hk]; exact rfl, hb⟩)
    have HO := hid (gcells_one n m (pad (flat ss)))
    clear hbel hg hpl hn5 hm1 hm5
    generalize gcells n m (pad (flat ss)) = gc at *
    generalize hN : 4 * (n * m) = N at *
    generalize hlet : lett m (pad (flat ss)) = t at *
    have HT := hid hlet
    clear hN hlet
    go_wp2_with (first
      | refine wpList_store_row rfl 54 _ _ rfl w1.heap.size gc rfl rfl 54 zeroG (heap_new0 w1 _) HS.out HZ.out HO.out ?_
      | refine wpList_load_row_gA (by rfl) 54 _ rfl w1.heap.size rfl 54 gc (0, 0) _ HL.out Try.underlying54 rfl HS.out ?_)
    generalize (w1.alloc (.cells zeroG 54)).setRow w1.heap.size gc = w2 at *
    refine (HHC.out w2).mono ?_
    rintro e w3 ⟨rfl, hb3⟩
    have HB3 := hid (HW.out.trans (hb3.mono HW.out.size))
    have HL3 := hid ((hb3.block _ (lt_of_block HL.out)).trans HL.out)
    clear hb3
    by_cases hin : 0 ≤ cell ∧ cell < ((n * m : Nat) : Int)
    · rw [show decide (0 ≤ cell ∧ cell < ((n * m : Nat) : Int)) = true by simpa using hin]
      obtain ⟨cc, rfl⟩ : ∃ cc : Nat, cell = cc := ⟨cell.toNat, by omega⟩
      have hcc : cc < n * m := by have := hin.2; omega
      obtain ⟨k, hk⟩ : ∃ k, atN n m t cc = k := ⟨_, rfl⟩
      have HCC := hid hcc
      have HK := hid hk
      clear hin hcc hk
      go_wp2_with fail
      refine wp_region_rel (by kernel_rfl) (by kernel_rfl) 8 rfl (fun us => { tmps := #[.slice A ss.length c, .int .i64 (cc : Int), undef, undef, us 6, us 7, .pointer (some ⟨w1.heap.size, 0, none⟩), .bool true, .tuple #[.agg gc, .bool true], .slice A ss.length c, .tuple #[.agg gc, .bool true], .agg gc, .bool true, .bool true, .bool false, .bool false, .agg gc, .int .i64 (cc : Int), .bool true, .bool false, .bool false, us 0, us 1, us 2, us 3, us 4, us 5], defers := [] }) (fun k => if k = 6 then .int .i64 0 else if k = 7 then .bool false else undef) rfl (atImplRel gc n m N cc k t) (fun i v W W' h hb => ?_) (fun i us v hi => ?_) (fun i us W hi hb hd => ?_) (fun us W hb hr => ?_)
      · unfold atImplRel at h ⊢
        split at h <;> try exact h
        obtain ⟨g, h1, h2⟩ := h
        exact ⟨g, h1, h2.below hb⟩
      · match i, hi with
        | 0, _ => rfl
        | 1, _ => rfl
        | 2, _ => rfl
        | 3, _ => rfl
        | 4, _ => rfl
        | 5, _ => rfl
        | 6, _ => rfl
        | 7, _ => rfl
      · have HLW := hid ((hb.block _ (lt_of_block HL3.out)).trans HL3.out)
        match i, hi with
        | 0, _ => exact wpOp_val rfl rfl (exec_load_row 54 _ rfl w1.heap.size rfl 54 gc (0, 0) _ HLW.out Try.underlying54 rfl HS.out) rfl
        | 1, _ =>
          have h0 : us 0 = _ := hd _ rfl { on := 0, ground := .data } (by simp) rfl
          rw [h0]
          exact wpOp_call rfl rfl (by go_simp) (HNC.out cc k W)
        | 2, _ => exact wpOp_val rfl rfl (exec_load_row 54 _ rfl w1.heap.size rfl 54 gc (0, 0) _ HLW.out Try.underlying54 rfl HS.out) rfl
        | 3, _ => exact wpOp_val rfl rfl (by go_simp) rfl
        | 4, _ =>
          have h0 : us 2 = _ := hd _ rfl { on := 2, ground := .data } (by simp) rfl
          have h1 : us 3 = _ := hd _ rfl { on := 3, ground := .data } (by simp) rfl
          rw [h0, h1]
          exact wpOp_call rfl rfl (by go_simp) (HPL.out cc k W HCC.out)
        | 5, _ =>
          obtain ⟨g, h0, hst⟩ : ∃ g, us 1 = .agg (chartC gc g N) ∧ StepsM W g n m t (fun _ => True) N := hd _ rfl { on := 1, ground := .data } (by simp) rfl
          have h1 : us 4 = _ := hd _ rfl { on := 4, ground := .data } (by simp) rfl
          rw [h0, h1]
          exact wpOp_call rfl rfl (by go_simp) (HRA.out g cc k W HCC.out HK.out hst)
        | 6, _ =>
          have h0 : us 5 = _ := hd _ rfl { on := 5, ground := .data } (by simp) rfl
          rw [h0]
          exact wpOp_val rfl rfl (by go_simp) rfl
        | 7, _ => exact wpOp_val rfl rfl (by go_simp) rfl
      · have h0 : us 6 = _ := hr 6 (by omega)
        have h1 : us 7 = _ := hr 7 (by omega)
        rw [h0, h1]
        have HB4 := hid (HB3.out.trans (hb.mono HB3.out.size))
        clear hr hb
        go_wp2_with fail
        refine bodyPost_ret (results_tmp2 rfl _ _ _) rfl ?_
        exact ⟨HB4.out, _, true, rfl, .inl ⟨n, m, cc, ⟨HGr.out, rfl, HCC.out⟩, by unfold atR; rw [HT.out, HK.out]⟩⟩
    · rw [show decide (0 ≤ cell ∧ cell < ((n * m : Nat) : Int)) = false by simpa using hin]
      have HNo := hid (show ∀ n' m' c', ¬ CellIn ss cell n' m' c' from fun n' m' c' hc => by
        obtain ⟨rfl, rfl⟩ := HGr.out.uniq hc.1
        have h2 := hc.2.2
        have h3 := hc.2.1
        exact hin ⟨by omega, by omega⟩)
      clear hin
      go_wp2_with fail
      refine bodyPost_ret (results_tmp2 rfl _ _ _) rfl ?_
      exact ⟨HB3.out, 0, false, rfl, .inr ⟨HNo.out, rfl, rfl⟩⟩
  · have HB := hid hbel
    have HGr := hid hno
    clear hbel hno
    go_wp2_with (refine wpList_store_row rfl 54 _ _ rfl w1.heap.size zeroG rfl rfl 54 zeroG (heap_new0 w1 _) Try.size_grid rfl (gcells_one 0 0 (pad [])) ?_)
    refine bodyPost_ret (results_tmp2 rfl _ _ _) rfl ?_
    exact ⟨HB.out.trans (below_setRow' ((Below.refl _ w1).alloc HB.out.size _) HB.out.size _), 0, false, rfl, .inr ⟨fun n m c hc => HGr.out _ _ hc.1, rfl, rfl⟩⟩

end Go.Proofs.Ytgildagmliadeaa

/- How many paths more come by a change; a grid and one of its cells. -/
namespace Go.Proofs.Ytgildagmliadeaa
open Go.RowKit Go.Shelf

/-- What the operations of the difference hand back. -/
def deltaRel (n m : Nat) (ls ls' : List UInt8) (gb g0 g1 g2 : Nat) (a b : Int) (i : Nat) (v : Value) (_ : World) : Prop :=
  match i with
  | 0 => v = .pointer (some ⟨gb, 1, none⟩)
  | 1 => v = madeV g0 g1 g2
  | 2 => v = .agg (gcells n m ls')
  | 3 => v = .int .i64 a
  | 4 => v = .agg (gcells n m ls)
  | 5 => v = .int .i64 b
  | 6 => v = .int .i64 (a - b)
  | 7 => v = .int .i64 (a - b)
  | _ => True

theorem pathsR_le {n m : Nat} {t : Int → Int → UInt8} (hn : n ≤ 5) (hm : m ≤ 5) : 0 ≤ (pathsR n m t).1 ∧ (pathsR n m t).1 ≤ 110 := by
  have h25 : n * m ≤ 5 * 5 := Nat.mul_le_mul hn hm
  have := leadsTo_le (n := n) (m := m) (t := t) (4 * (n * m))
  rw [leadsTo_all] at this
  unfold pathsR
  simp only
  omega

set_option maxRecDepth 100000 in
set_option maxHeartbeats 2000000 in
theorem delta_any (n m : Nat) (ls : List UInt8) (x : Wy) (b : UInt8) (v : Value) (w : World) (hl : ls.length = 25) (hn : n ≤ 5) (hm1 : 1 ≤ m) (hm : m ≤ 5) (hx : inG n m x) (hv : ChangeV w n m ls x b v) :
    Calls Try.prog 90 #[.agg (gcells n m ls), v] w fun e w' => e = .returned (.int .i64 ((pathsR n m (lett m (ls.set (cellN m x) b))).1 - (pathsR n m (lett m ls)).1)) ∧ Below w.heap.size w w' := by
  obtain ⟨g0, g1, g2, rfl, hmade⟩ := hv
  have hl' : (ls.set (cellN m x) b).length = 25 := by simpa using hl
  obtain ⟨pa, hpa⟩ : ∃ pa, (pathsR n m (lett m (ls.set (cellN m x) b))).1 = pa := ⟨_, rfl⟩
  obtain ⟨pb, hpb⟩ : ∃ pb, (pathsR n m (lett m ls)).1 = pb := ⟨_, rfl⟩
  have ba := pathsR_le (n := n) (m := m) (t := lett m (ls.set (cellN m x) b)) hn hm
  have bb := pathsR_le (n := n) (m := m) (t := lett m ls) hn hm
  rw [hpa] at ba
  rw [hpb] at bb
  rw [hpa, hpb]
  have HG := hid (show (Try.prog.info? 54).map (·.size) = some (gcells n m ls).size by rw [gcells_size hl]; exact Try.size_grid)
  have HMK := hid (show ∀ gb W, MadeAt W n m ls x b g0 g1 g2 → Calls Try.prog 168 #[.pointer (some ⟨g0, 0, none⟩), .pointer (some ⟨g1, 0, none⟩), .pointer (some ⟨g2, 0, none⟩)] W fun e w'' => ∃ v, e = .returned v ∧ deltaRel n m ls (ls.set (cellN m x) b) gb g0 g1 g2 pa pb 2 v w'' ∧ Below W.heap.size W w'' from fun gb W h => (made_any n m ls x b g0 g1 g2 W hl hn hm hx h).mono fun e w'' ⟨h1, h2⟩ => ⟨_, h1, rfl, h2⟩)
  have HP1 := hid (show ∀ gb W, Calls Try.prog 146 #[.agg (gcells n m (ls.set (cellN m x) b))] W fun e w'' => ∃ v, e = .returned v ∧ deltaRel n m ls (ls.set (cellN m x) b) gb g0 g1 g2 pa pb 3 v w'' ∧ Below W.heap.size W w'' from fun gb W => (paths_any n m (ls.set (cellN m x) b) W hl' hn hm1 hm).mono fun e w'' ⟨h1, h2⟩ => ⟨_, h1, by rw [hpa]; rfl, h2⟩)
  have HP2 := hid (show ∀ gb W, Calls Try.prog 146 #[.agg (gcells n m ls)] W fun e w'' => ∃ v, e = .returned v ∧ deltaRel n m ls (ls.set (cellN m x) b) gb g0 g1 g2 pa pb 5 v w'' ∧ Below W.heap.size W w'' from fun gb W => (paths_any n m ls W hl hn hm1 hm).mono fun e w'' ⟨h1, h2⟩ => ⟨_, h1, by rw [hpb]; rfl, h2⟩)
  generalize ls.set (cellN m x) b = ls' at *
  have F0 := heap_new1 w (.cells (gcells n m ls) 54) (.cells (changeC ((cellN m x : Nat) : Int) g0 g1 g2) 97)
  have F1 := heap_new0 (w.alloc (.cells (gcells n m ls) 54)) (.cells (changeC ((cellN m x : Nat) : Int) g0 g1 g2) 97)
  have FB : Below w.heap.size w ((w.alloc (.cells (gcells n m ls) 54)).alloc (.cells (changeC ((cellN m x : Nat) : Int) g0 g1 g2) 97)) := ((Below.refl _ w).alloc (Nat.le_refl _) _).alloc (by simp) _
  simp only [World.size_alloc] at F1
  have hM := hmade.below FB
  have G0 := hid F0
  have G1 := hid F1
  have GB := hid FB
  have GM := hid hM
  clear F0 F1 FB hM hmade hpa hpb hl hl' hn hm1 hm hx
  go_enter Try.func90, Try.ntmps90
  go_wp2
  generalize World.alloc (World.alloc w _) _ = W0 at *
  have ba1 := ba.1
  have ba2 := ba.2
  have bb1 := bb.1
  have bb2 := bb.2
  have hw0 : IntKind.i64.wrap (pa - pb) = pa - pb := IntWalk.i64_in _ (by omega)
  refine wp_region_rel (by kernel_rfl) (by kernel_rfl) 8 rfl (fun us => { tmps := #[.agg (gcells n m ls), .agg (changeC ((cellN m x : Nat) : Int) g0 g1 g2), .pointer (some ⟨w.heap.size, 0, none⟩), .pointer (some ⟨w.heap.size + 1, 0, none⟩), us 7, us 0, us 1, us 2, us 3, us 4, us 5, us 6], defers := [] }) (fun k => if k = 7 then .int .i64 0 else undef) rfl (deltaRel n m ls ls' (w.heap.size + 1) g0 g1 g2 pa pb) (fun i v W W' h hb => ?_) (fun i us v hi => ?_) (fun i us W hi hb hd => ?_) (fun us W hb hr => ?_)
  · unfold deltaRel at h ⊢
    exact h
  · match i, hi with
    | 0, _ => rfl
    | 1, _ => rfl
    | 2, _ => rfl
    | 3, _ => rfl
    | 4, _ => rfl
    | 5, _ => rfl
    | 6, _ => rfl
    | 7, _ => rfl
  · have L0 := hid ((hb.block _ (lt_of_block G0.out)).trans G0.out)
    have L1 := hid ((hb.block _ (lt_of_block G1.out)).trans G1.out)
    match i, hi with
    | 0, _ => exact wpOp_val rfl rfl (by go_simp) rfl
    | 1, _ =>
      have h0 : us 0 = _ := hd _ rfl { on := 0, ground := .data } (by simp) rfl
      rw [h0]
      have hc : W.cell? ⟨w.heap.size + 1, 1, none⟩ = some (madeV g0 g1 g2) := by rw [cell_of_row _ _ _ _ _ _ L1.out]; rfl
      exact wpOp_val rfl rfl (by go_simp) rfl
    | 2, _ =>
      have h0 : us 1 = _ := hd _ rfl { on := 1, ground := .data } (by simp) rfl
      rw [h0]
      unfold madeV
      exact wpOp_call rfl rfl (by go_simp) (HMK.out _ W (GM.out.below hb))
    | 3, _ =>
      have h0 : us 2 = _ := hd _ rfl { on := 2, ground := .data } (by simp) rfl
      rw [h0]
      exact wpOp_call rfl rfl (by go_simp) (HP1.out _ W)
    | 4, _ => exact wpOp_val rfl rfl (exec_load_row 54 _ rfl w.heap.size rfl 54 (gcells n m ls) (0, 0) _ L0.out Try.underlying54 rfl HG.out) rfl
    | 5, _ =>
      have h0 : us 4 = _ := hd _ rfl { on := 4, ground := .data } (by simp) rfl
      rw [h0]
      exact wpOp_call rfl rfl (by go_simp) (HP2.out _ W)
    | 6, _ =>
      have h0 : us 3 = _ := hd _ rfl { on := 3, ground := .data } (by simp) rfl
      have h1 : us 5 = _ := hd _ rfl { on := 5, ground := .data } (by simp) rfl
      rw [h0, h1]
      exact wpOp_val rfl rfl (by go_simp) rfl
    | 7, _ =>
      have h0 : us 6 = _ := hd _ rfl { on := 6, ground := .data } (by simp) rfl
      rw [h0]
      exact wpOp_val rfl rfl (by go_simp) rfl
  · have h0 : us 7 = _ := hr 7 (by omega)
    rw [h0]
    have HB2 := hid (GB.out.trans (hb.mono GB.out.size))
    clear hr hb
    go_wp2_with fail
    go_ret
    exact ⟨rfl, HB2.out⟩

section
variable {P : Program} {w : World}
theorem results_cells_tmp {fn : Func} {p q u : Tmp} {ty ty' : TypeId} (h : fn.results = #[.cell p ty, .cell q ty', .tmp u]) (tmps : Array Value) (P : Program) (w : World) :
    (results fn tmps).run P w =
      ((asAddr (tmps.getD p undef)).run P w).andThen fun a w₁ => ((loadVar ty a).run P w₁).andThen fun v w₂ =>
      ((asAddr (tmps.getD q undef)).run P w₂).andThen fun a' w₃ => ((loadVar ty' a').run P w₃).andThen fun v' w₄ => .ok (.tuple #[v, v', tmps.getD u undef]) w₄ := by
  simp only [results, h]
  simp [Sem.run_bind, Result.andThen]
theorem results_rows_tmp {fn : Func} {p q u : Tmp} {ty ty' : TypeId} (h : fn.results = #[.cell p ty, .cell q ty', .tmp u]) (tmps : Array Value) (g g' : Nat) (t t' : TypeId) (cs cs' : Array Value) (fr fr' : Nat × Nat) (d d' : TypeDesc)
    (hp : tmps.getD p undef = .pointer (some ⟨g, 0, none⟩)) (hq : tmps.getD q undef = .pointer (some ⟨g', 0, none⟩)) (hg : w.heap[g]? = some (.cells cs t fr)) (hg' : w.heap[g']? = some (.cells cs' t' fr'))
    (hu : P.underlying ty = some d) (hd : (match d with | .struct _ | .array _ _ => true | _ => false) = true) (hi : (P.info? ty).map (·.size) = some cs.size)
    (hu' : P.underlying ty' = some d') (hd' : (match d' with | .struct _ | .array _ _ => true | _ => false) = true) (hi' : (P.info? ty').map (·.size) = some cs'.size) :
    (results fn tmps).run P w = .ok (.tuple #[.agg cs, .agg cs', tmps.getD u undef]) w := by
  rw [results_cells_tmp h, hp, hq]
  simp [asAddr, run_loadVar_row w g t ty cs fr d hg hu hd hi, run_loadVar_row w g' t' ty' cs' fr' d' hg' hu' hd' hi', Result.andThen]
end

theorem zero2_one : (#[.int .i64 0, .int .i64 0] : Array Value).all (·.oneCell') = true := by
  rw [Array.all_eq_true_iff_forall_mem]
  intro u hu
  simp at hu
  rcases hu with rfl | rfl <;> rfl
/-- What the operations of placeIn's last statement hand back. -/
def placeRel (gc : Array Value) (m c : Nat) (i : Nat) (v : Value) (_ : World) : Prop :=
  match i with
  | 0 => v = .agg gc
  | 1 => v = .agg gc
  | 2 => v = .int .i64 (c : Int)
  | 3 => v = .agg #[.int .i64 ((c / m : Nat) : Int), .int .i64 ((c % m : Nat) : Int)]
  | _ => True
/-- What placeIn comes to: the grid and the place of a cell. -/
def PlaceEnd (ss : List ByteArray) (cell : Int) (w : World) (e : Ending) (w' : World) : Prop :=
  Below w.heap.size w w' ∧ ((∃ n m c, CellIn ss cell n m c ∧ e = .returned (.tuple #[.agg (gcells n m (pad (flat ss))), .agg #[.int .i64 ((c / m : Nat) : Int), .int .i64 ((c % m : Nat) : Int)], .bool true])) ∨
    ((∀ n m c, ¬ CellIn ss cell n m c) ∧ e = .returned (.tuple #[.agg zeroG, .agg #[.int .i64 0, .int .i64 0], .bool false])))

set_option maxRecDepth 100000 in
set_option maxHeartbeats 2000000 in
theorem placeIn_any (A : Option Addr) (c : Nat) (ss : List ByteArray) (cell : Int) (w : World) (h : Strs w w.heap.size A ss) (hn : ss.length ≤ 1048576) (hs : ∀ s ∈ ss, s.size ≤ 1048576) :
    Calls Try.prog 84 #[.slice A ss.length c, .int .i64 cell] w (PlaceEnd ss cell w) := by
  have HR := hid (fun W (hb : Below w.heap.size w W) => readGrid_any A c ss W ((h.below hb (Nat.le_refl _)).more hb.size) hn hs)
  have HB0 := hid (show Below w.heap.size w ((w.alloc (.cells zeroG 54)).alloc (.cells #[.int .i64 0, .int .i64 0] 83)) from ((Below.refl _ w).alloc (Nat.le_refl _) _).alloc (by simp) _)
  have F0 := hid (heap_new1 w (.cells zeroG 54) (.cells #[.int .i64 0, .int .i64 0] 83))
  have F1 := hid (show ((w.alloc (.cells zeroG 54)).alloc (.cells #[.int .i64 0, .int .i64 0] 83)).heap[w.heap.size + 1]? = some (.cells #[.int .i64 0, .int .i64 0] 83 (0, 0)) by have := heap_new0 (w.alloc (.cells zeroG 54)) (.cells #[.int .i64 0, .int .i64 0] 83); rwa [World.size_alloc] at this)
  have FS := hid (show ((w.alloc (.cells zeroG 54)).alloc (.cells #[.int .i64 0, .int .i64 0] 83)).heap.size = w.heap.size + 2 by simp)
  clear h hs
  go_enter Try.func84, Try.ntmps84
  go_wp2_with fail
  generalize World.alloc (World.alloc w _) _ = W0 at *
  refine (HR.out _ HB0.out).mono ?_
  rintro e w1 ⟨hbel, ⟨n, m, hg, rfl⟩ | ⟨hno, rfl⟩⟩
  · have HB := hid (HB0.out.trans (hbel.mono HB0.out.size))
    have H0 := hid ((hbel.block _ (lt_of_block F0.out)).trans F0.out)
    have H1 := hid ((hbel.block _ (lt_of_block F1.out)).trans F1.out)
    have HSZ := hid (show w.heap.size + 2 ≤ w1.heap.size by have := hbel.size; rw [FS.out] at this; exact this)
    have HGr := hid hg
    have HS := hid (show (Try.prog.info? 54).map (·.size) = some (gcells n m (pad (flat ss))).size by rw [hg.csize]; exact Try.size_grid)
    have HZ := hid (show zeroG.size = (gcells n m (pad (flat ss))).size by rw [hg.csize]; rfl)
    have HL := hid (setRow_heap (w1.alloc (.cells zeroG 54)) w1.heap.size zeroG (gcells n m (pad (flat ss))) 54 (0, 0) (heap_new0 w1 _))
    have HW := hid (HB.out.trans (below_setRow' ((Below.refl _ w1).alloc HB.out.size (.cells zeroG 54)) HB.out.size (gcells n m (pad (flat ss)))))
    have H0' := hid (show ((w1.alloc (.cells zeroG 54)).setRow w1.heap.size (gcells n m (pad (flat ss)))).heap[w.heap.size]? = some (.cells zeroG 54 (0, 0)) by
      rw [setRow_other _ _ _ _ (by have := lt_of_block H0.out; omega)]; exact (Below.heap_alloc _ _ _ (lt_of_block H0.out)).trans H0.out)
    have H1' := hid (show ((w1.alloc (.cells zeroG 54)).setRow w1.heap.size (gcells n m (pad (flat ss)))).heap[w.heap.size + 1]? = some (.cells #[.int .i64 0, .int .i64 0] 83 (0, 0)) by
      rw [setRow_other _ _ _ _ (by have := lt_of_block H1.out; omega)]; exact (Below.heap_alloc _ _ _ (lt_of_block H1.out)).trans H1.out)
    have hn5 := hg.2.2.1
    have hm1 := hg.2.2.2.1
    have hm5 := hg.2.2.2.2.1
    have h25 := hg.le25
    have hpl := hg.plen
    have HHC := hid (fun w' => hasCellA_any n m (pad (flat ss)) cell w' hpl hn5 hm5)
    have HPL := hid (fun c w' (hc : c < n * m) => place_any n m c (pad (flat ss)) w' hm1 hm5 (Nat.lt_of_lt_of_le hc h25))
    have HO := hid (gcells_one n m (pad (flat ss)))
    clear hbel hg hpl hn5 hm1 hm5
    generalize hgc : gcells n m (pad (flat ss)) = gc at *
    have HGC := hid hgc
    clear hgc
    go_wp2_with (first
      | refine wpList_store_row rfl 54 _ _ rfl w1.heap.size gc rfl rfl 54 zeroG (heap_new0 w1 _) HS.out HZ.out HO.out ?_
      | refine wpList_load_row_gA (by rfl) 54 _ rfl w1.heap.size rfl 54 gc (0, 0) _ HL.out Try.underlying54 rfl HS.out ?_)
    generalize (w1.alloc (.cells zeroG 54)).setRow w1.heap.size gc = w2 at *
    refine (HHC.out w2).mono ?_
    rintro e w3 ⟨rfl, hb3⟩
    have HB3 := hid (HW.out.trans (hb3.mono HW.out.size))
    have HL3 := hid ((hb3.block _ (lt_of_block HL.out)).trans HL.out)
    have H03 := hid ((hb3.block _ (lt_of_block H0'.out)).trans H0'.out)
    have H13 := hid ((hb3.block _ (lt_of_block H1'.out)).trans H1'.out)
    clear hb3
    by_cases hin : 0 ≤ cell ∧ cell < ((n * m : Nat) : Int)
    · rw [show decide (0 ≤ cell ∧ cell < ((n * m : Nat) : Int)) = true by simpa using hin]
      obtain ⟨cc, rfl⟩ : ∃ cc : Nat, cell = cc := ⟨cell.toNat, by omega⟩
      have hcc : cc < n * m := by have := hin.2; omega
      have HCC := hid hcc
      have HPC := hid (fun w' => HPL.out cc w' hcc)
      clear hin hcc
      go_wp2_with fail
      refine wp_region_rel_tail (by kernel_rfl) 4 (by kernel_rfl) (fun us => { tmps := #[.slice A ss.length c, .int .i64 (cc : Int), undef, undef, .pointer (some ⟨w.heap.size, 0, none⟩), .pointer (some ⟨w.heap.size + 1, 0, none⟩), .bool false, .pointer (some ⟨w1.heap.size, 0, none⟩), .bool true, .tuple #[.agg gc, .bool true], .slice A ss.length c, .tuple #[.agg gc, .bool true], .agg gc, .bool true, .bool true, .bool false, .bool false, .agg gc, .int .i64 (cc : Int), .bool true, .bool false, .bool false, undef, undef, us 0, us 1, us 2, us 3], defers := [] }) (fun _ => undef) rfl (placeRel gc m cc) (fun i v W W' h hb => ?_) (fun i us v hi => ?_) (fun i us W hi hb hd => ?_) (fun us W hb hr => ?_)
      · unfold placeRel at h ⊢
        exact h
      · match i, hi with
        | 0, _ => rfl
        | 1, _ => rfl
        | 2, _ => rfl
        | 3, _ => rfl
      · have HLW := hid ((hb.block _ (lt_of_block HL3.out)).trans HL3.out)
        match i, hi with
        | 0, _ => exact wpOp_val rfl rfl (exec_load_row 54 _ rfl w1.heap.size rfl 54 gc (0, 0) _ HLW.out Try.underlying54 rfl HS.out) rfl
        | 1, _ => exact wpOp_val rfl rfl (exec_load_row 54 _ rfl w1.heap.size rfl 54 gc (0, 0) _ HLW.out Try.underlying54 rfl HS.out) rfl
        | 2, _ => exact wpOp_val rfl rfl (by go_simp) rfl
        | 3, _ =>
          have h0 : us 1 = _ := hd _ rfl { on := 1, ground := .data } (by simp) rfl
          have h1 : us 2 = _ := hd _ rfl { on := 2, ground := .data } (by simp) rfl
          rw [h0, h1]
          exact wpOp_call rfl rfl (by go_simp) ((HPC.out W).mono fun e w'' ⟨he, hb'⟩ => ⟨_, he, rfl, hb'⟩)
      · have h0 : us 0 = _ := hr 0 (by omega)
        have h1 : us 1 = _ := hr 1 (by omega)
        have h2 : us 2 = _ := hr 2 (by omega)
        have h3 : us 3 = _ := hr 3 (by omega)
        rw [h0, h1, h2, h3]
        have K0 := hid ((hb.block _ (lt_of_block H03.out)).trans H03.out)
        have K1 := hid ((hb.block _ (lt_of_block H13.out)).trans H13.out)
        have KB := hid (HB3.out.trans (hb.mono HB3.out.size))
        clear hr hb h0 h1 h2 h3
        have K1' := hid (show (W.setRow w.heap.size gc).heap[w.heap.size + 1]? = some (.cells #[.int .i64 0, .int .i64 0] 83 (0, 0)) by rw [setRow_other _ _ _ _ (by omega)]; exact K1.out)
        obtain ⟨qv, hqv⟩ : ∃ qv : Int, ((cc / m : Nat) : Int) = qv := ⟨_, rfl⟩
        obtain ⟨rv, hrv⟩ : ∃ rv : Int, ((cc % m : Nat) : Int) = rv := ⟨_, rfl⟩
        rw [hqv, hrv]
        have HQ := hid hqv
        have HRV := hid hrv
        clear hqv hrv
        refine wpList_store_row rfl 54 _ _ rfl w.heap.size gc rfl rfl 54 zeroG K0.out HS.out HZ.out HO.out ?_
        refine wpList_store_row rfl 83 _ _ rfl (w.heap.size + 1) #[.int .i64 qv, .int .i64 rv] rfl rfl 83 #[.int .i64 0, .int .i64 0] K1'.out Try.size_place rfl (by rw [Array.all_eq_true_iff_forall_mem]; intro u hu; simp at hu; rcases hu with rfl | rfl <;> rfl) ?_
        have r0 := hid (show ((W.setRow w.heap.size gc).setRow (w.heap.size + 1) #[.int .i64 qv, .int .i64 rv]).heap[w.heap.size]? = some (.cells gc 54 (0, 0)) by
          rw [setRow_other _ _ _ _ (by omega)]; exact setRow_heap _ _ _ _ _ _ K0.out)
        have r1 := hid (setRow_heap (W.setRow w.heap.size gc) (w.heap.size + 1) #[.int .i64 0, .int .i64 0] #[.int .i64 qv, .int .i64 rv] 83 (0, 0) K1'.out)
        have rB := hid (below_setRow' (below_setRow' KB.out (Nat.le_refl _) gc) (show w.heap.size ≤ w.heap.size + 1 by omega) #[.int .i64 qv, .int .i64 rv])
        go_wp2_with fail
        refine bodyPost_ret (results_rows_tmp Try.results84 _ w.heap.size (w.heap.size + 1) 54 83 gc #[.int .i64 qv, .int .i64 rv] (0, 0) (0, 0) _ _ (by rfl) (by rfl) r0.out r1.out Try.underlying54 rfl HS.out Try.underlying83 rfl Try.size_place) rfl ?_
        exact ⟨rB.out, .inl ⟨n, m, cc, ⟨HGr.out, rfl, HCC.out⟩, by rw [HQ.out, HRV.out, HGC.out]; rfl⟩⟩
    · rw [show decide (0 ≤ cell ∧ cell < ((n * m : Nat) : Int)) = false by simpa using hin]
      have HNo := hid (show ∀ n' m' c', ¬ CellIn ss cell n' m' c' from fun n' m' c' hc => by
        obtain ⟨rfl, rfl⟩ := HGr.out.uniq hc.1
        have h2 := hc.2.2
        have h3 := hc.2.1
        exact hin ⟨by omega, by omega⟩)
      clear hin
      have K1' := hid (show (w3.setRow w.heap.size zeroG).heap[w.heap.size + 1]? = some (.cells #[.int .i64 0, .int .i64 0] 83 (0, 0)) by rw [setRow_other _ _ _ _ (by omega)]; exact H13.out)
      have r0 := hid (show ((w3.setRow w.heap.size zeroG).setRow (w.heap.size + 1) #[.int .i64 0, .int .i64 0]).heap[w.heap.size]? = some (.cells zeroG 54 (0, 0)) by
        rw [setRow_other _ _ _ _ (by omega)]; exact setRow_heap _ _ _ _ _ _ H03.out)
      have r1 := hid (setRow_heap (w3.setRow w.heap.size zeroG) (w.heap.size + 1) #[.int .i64 0, .int .i64 0] #[.int .i64 0, .int .i64 0] 83 (0, 0) K1'.out)
      have rB := hid (below_setRow' (below_setRow' HB3.out (Nat.le_refl _) zeroG) (show w.heap.size ≤ w.heap.size + 1 by omega) #[.int .i64 0, .int .i64 0])
      go_wp2_with (first
        | refine wpList_store_row rfl 54 _ _ rfl w.heap.size zeroG rfl rfl 54 zeroG H03.out Try.size_grid rfl (gcells_one 0 0 (pad [])) ?_
        | refine wpList_store_row rfl 83 _ _ rfl (w.heap.size + 1) #[.int .i64 0, .int .i64 0] rfl rfl 83 #[.int .i64 0, .int .i64 0] K1'.out Try.size_place rfl zero2_one ?_)
      refine bodyPost_ret (results_rows_tmp Try.results84 _ w.heap.size (w.heap.size + 1) 54 83 zeroG #[.int .i64 0, .int .i64 0] (0, 0) (0, 0) _ _ (by rfl) (by rfl) r0.out r1.out Try.underlying54 rfl Try.size_grid Try.underlying83 rfl Try.size_place) rfl ?_
      exact ⟨rB.out, .inr ⟨HNo.out, rfl⟩⟩
  · have HB := hid (HB0.out.trans (hbel.mono HB0.out.size))
    have H0 := hid ((hbel.block _ (lt_of_block F0.out)).trans F0.out)
    have H1 := hid ((hbel.block _ (lt_of_block F1.out)).trans F1.out)
    have HSZ := hid (show w.heap.size + 2 ≤ w1.heap.size by have := hbel.size; rw [FS.out] at this; exact this)
    have HGr := hid hno
    have HNo := hid (show ∀ n' m' c', ¬ CellIn ss cell n' m' c' from fun n' m' c' hc => HGr.out _ _ hc.1)
    have HL := hid (setRow_heap (w1.alloc (.cells zeroG 54)) w1.heap.size zeroG zeroG 54 (0, 0) (heap_new0 w1 _))
    have HW := hid (HB.out.trans (below_setRow' ((Below.refl _ w1).alloc HB.out.size (.cells zeroG 54)) HB.out.size zeroG))
    have H03 := hid (show ((w1.alloc (.cells zeroG 54)).setRow w1.heap.size zeroG).heap[w.heap.size]? = some (.cells zeroG 54 (0, 0)) by
      rw [setRow_other _ _ _ _ (by have := lt_of_block H0.out; omega)]; exact (Below.heap_alloc _ _ _ (lt_of_block H0.out)).trans H0.out)
    have H13 := hid (show ((w1.alloc (.cells zeroG 54)).setRow w1.heap.size zeroG).heap[w.heap.size + 1]? = some (.cells #[.int .i64 0, .int .i64 0] 83 (0, 0)) by
      rw [setRow_other _ _ _ _ (by have := lt_of_block H1.out; omega)]; exact (Below.heap_alloc _ _ _ (lt_of_block H1.out)).trans H1.out)
    clear hbel hno
    have K1' := hid (show (((w1.alloc (.cells zeroG 54)).setRow w1.heap.size zeroG).setRow w.heap.size zeroG).heap[w.heap.size + 1]? = some (.cells #[.int .i64 0, .int .i64 0] 83 (0, 0)) by rw [setRow_other _ _ _ _ (by omega)]; exact H13.out)
    have r0 := hid (show ((((w1.alloc (.cells zeroG 54)).setRow w1.heap.size zeroG).setRow w.heap.size zeroG).setRow (w.heap.size + 1) #[.int .i64 0, .int .i64 0]).heap[w.heap.size]? = some (.cells zeroG 54 (0, 0)) by
      rw [setRow_other _ _ _ _ (by omega)]; exact setRow_heap _ _ _ _ _ _ H03.out)
    have r1 := hid (setRow_heap (((w1.alloc (.cells zeroG 54)).setRow w1.heap.size zeroG).setRow w.heap.size zeroG) (w.heap.size + 1) #[.int .i64 0, .int .i64 0] #[.int .i64 0, .int .i64 0] 83 (0, 0) K1'.out)
    have rB := hid (below_setRow' (below_setRow' HW.out (Nat.le_refl _) zeroG) (show w.heap.size ≤ w.heap.size + 1 by omega) #[.int .i64 0, .int .i64 0])
    go_wp2_with (first
      | refine wpList_store_row rfl 54 _ _ rfl w1.heap.size zeroG rfl rfl 54 zeroG (heap_new0 w1 _) Try.size_grid rfl (gcells_one 0 0 (pad [])) ?_
      | refine wpList_store_row rfl 54 _ _ rfl w.heap.size zeroG rfl rfl 54 zeroG H03.out Try.size_grid rfl (gcells_one 0 0 (pad [])) ?_
      | refine wpList_store_row rfl 83 _ _ rfl (w.heap.size + 1) #[.int .i64 0, .int .i64 0] rfl rfl 83 #[.int .i64 0, .int .i64 0] K1'.out Try.size_place rfl zero2_one ?_)
    refine bodyPost_ret (results_rows_tmp Try.results84 _ w.heap.size (w.heap.size + 1) 54 83 zeroG #[.int .i64 0, .int .i64 0] (0, 0) (0, 0) _ _ (by rfl) (by rfl) r0.out r1.out Try.underlying54 rfl Try.size_grid Try.underlying83 rfl Try.size_place) rfl ?_
    exact ⟨rB.out, .inr ⟨HNo.out, rfl⟩⟩
end Go.Proofs.Ytgildagmliadeaa

/- A grid and one of its cells with a mirror, by the contract of mirrorIn. -/
namespace Go.Proofs.Ytgildagmliadeaa
open Go.RowKit Go.Shelf

/-- The place of a cell. -/
def placeN (m c : Nat) : Wy := ⟨((c / m : Nat) : Int), ((c % m : Nat) : Int), 0⟩
theorem placeN_in {n m c : Nat} (h : c < n * m) : inG n m (placeN m c) := by
  have h1 := wayN_in (n := n) (m := m) (c := 4 * c + 0) (by omega)
  rwa [wayN_cell (by decide)] at h1
theorem cellN_place (m c : Nat) : cellN m (placeN m c) = c := by
  have h1 := cellN_way (m := m) (4 * c + 0)
  rw [wayN_cell (by decide)] at h1
  have : (4 * c + 0) / 4 = c := by omega
  rw [this] at h1
  exact h1
/-- A grid, the number of one of its cells, a mirror there. -/
def MirrorIn (ss : List ByteArray) (cell : Int) (n m c : Nat) : Prop := CellIn ss cell n m c ∧ lett m (pad (flat ss)) ((c / m : Nat) : Int) ((c % m : Nat) : Int) ≠ 46
def MirrorEnd (ss : List ByteArray) (cell : Int) (w : World) (e : Ending) (w' : World) : Prop :=
  Below w.heap.size w w' ∧ ((∃ n m c, MirrorIn ss cell n m c ∧ e = .returned (.tuple #[.agg (gcells n m (pad (flat ss))), .agg #[.int .i64 ((c / m : Nat) : Int), .int .i64 ((c % m : Nat) : Int)], .bool true])) ∨
    ((∀ n m c, ¬ MirrorIn ss cell n m c) ∧ e = .returned (.tuple #[.agg zeroG, .agg #[.int .i64 0, .int .i64 0], .bool false])))
theorem CellIn.uniq {ss : List ByteArray} {cell : Int} {n m c n' m' c' : Nat} (h : CellIn ss cell n m c) (h' : CellIn ss cell n' m' c') : n = n' ∧ m = m' ∧ c = c' := by
  obtain ⟨rfl, rfl⟩ := h.1.uniq h'.1
  have := h.2.1.symm.trans h'.2.1
  exact ⟨rfl, rfl, by omega⟩
theorem int2_one (a b : Int) : (#[.int .i64 a, .int .i64 b] : Array Value).all (·.oneCell') = true := by
  rw [Array.all_eq_true_iff_forall_mem]
  intro u hu
  simp at hu
  rcases hu with rfl | rfl <;> rfl
/-- What the operations of mirrorIn's last statement hand back. -/
def mirRel (a b : Nat) (gc : Array Value) (qv rv : Int) (i : Nat) (v : Value) (W : World) : Prop :=
  match i with
  | 0 => v = .agg gc
  | 1 => v = .agg #[.int .i64 qv, .int .i64 rv]
  | 2 => W.heap[a]? = some (.cells gc 54 (0, 0))
  | 3 => W.heap[b]? = some (.cells #[.int .i64 qv, .int .i64 rv] 83 (0, 0))
  | 4 => v = .bool true
  | _ => True

set_option maxRecDepth 100000 in
set_option maxHeartbeats 2000000 in
theorem mirrorIn_any (A : Option Addr) (c : Nat) (ss : List ByteArray) (cell : Int) (w : World) (h : Strs w w.heap.size A ss) (hn : ss.length ≤ 1048576) (hs : ∀ s ∈ ss, s.size ≤ 1048576) :
    Calls Try.prog 89 #[.slice A ss.length c, .int .i64 cell] w (MirrorEnd ss cell w) := by
  have HR := hid (fun W (hb : Below w.heap.size w W) => placeIn_any A c ss cell W ((h.below hb (Nat.le_refl _)).more hb.size) hn hs)
  have HB0 := hid (show Below w.heap.size w ((w.alloc (.cells zeroG 54)).alloc (.cells #[.int .i64 0, .int .i64 0] 83)) from ((Below.refl _ w).alloc (Nat.le_refl _) _).alloc (by simp) _)
  have F0 := hid (heap_new1 w (.cells zeroG 54) (.cells #[.int .i64 0, .int .i64 0] 83))
  have F1 := hid (show ((w.alloc (.cells zeroG 54)).alloc (.cells #[.int .i64 0, .int .i64 0] 83)).heap[w.heap.size + 1]? = some (.cells #[.int .i64 0, .int .i64 0] 83 (0, 0)) by have := heap_new0 (w.alloc (.cells zeroG 54)) (.cells #[.int .i64 0, .int .i64 0] 83); rwa [World.size_alloc] at this)
  have FS := hid (show ((w.alloc (.cells zeroG 54)).alloc (.cells #[.int .i64 0, .int .i64 0] 83)).heap.size = w.heap.size + 2 by simp)
  clear h hs
  go_enter Try.func89, Try.ntmps89
  go_wp2_with fail
  generalize World.alloc (World.alloc w _) _ = W0 at *
  refine (HR.out _ HB0.out).mono ?_
  rintro e w1 ⟨hbel, hcase⟩
  have HB := hid (HB0.out.trans (hbel.mono HB0.out.size))
  have H0 := hid ((hbel.block _ (lt_of_block F0.out)).trans F0.out)
  have H1 := hid ((hbel.block _ (lt_of_block F1.out)).trans F1.out)
  have HSZ := hid (show w.heap.size + 2 ≤ w1.heap.size by have := hbel.size; rw [FS.out] at this; exact this)
  clear hbel
  have mk : ∀ (gc : Array Value) (qv rv : Int), (Try.prog.info? 54).map (·.size) = some gc.size → zeroG.size = gc.size → gc.all (·.oneCell') = true →
      ∃ W, (((w1.alloc (.cells zeroG 54)).alloc (.cells #[.int .i64 0, .int .i64 0] 83)).setRow w1.heap.size gc).setRow (w1.heap.size + 1) #[.int .i64 qv, .int .i64 rv] = W ∧
        Below w.heap.size w W ∧ W.heap[w1.heap.size]? = some (.cells gc 54 (0, 0)) ∧ W.heap[w1.heap.size + 1]? = some (.cells #[.int .i64 qv, .int .i64 rv] 83 (0, 0)) ∧
        W.heap[w.heap.size]? = some (.cells zeroG 54 (0, 0)) ∧ W.heap[w.heap.size + 1]? = some (.cells #[.int .i64 0, .int .i64 0] 83 (0, 0)) := fun gc qv rv h1 h2 h3 => by
    have a0 := heap_new1 w1 (.cells zeroG 54) (.cells #[.int .i64 0, .int .i64 0] 83)
    have a1 := heap_new0 (w1.alloc (.cells zeroG 54)) (.cells #[.int .i64 0, .int .i64 0] 83)
    rw [World.size_alloc] at a1
    have hsz := HSZ.out
    refine ⟨_, rfl, below_setRow' (below_setRow' ((HB.out.alloc HB.out.size _).alloc (by simp; omega) _) (by omega) _) (by omega) _, ?_, ?_, ?_, ?_⟩
    · rw [setRow_other _ _ _ _ (by omega)]; exact setRow_heap _ _ _ _ _ _ a0
    · exact setRow_heap _ _ _ _ _ _ (by rw [setRow_other _ _ _ _ (by omega)]; exact a1)
    · rw [setRow_other _ _ _ _ (by omega), setRow_other _ _ _ _ (by omega), Below.heap_alloc _ _ _ (by simp; omega), Below.heap_alloc _ _ _ (by omega)]; exact H0.out
    · rw [setRow_other _ _ _ _ (by omega), setRow_other _ _ _ _ (by omega), Below.heap_alloc _ _ _ (by simp; omega), Below.heap_alloc _ _ _ (by omega)]; exact H1.out
  have HMK := hid mk
  have HZ1 := hid (show ∀ gc, ((w1.alloc (.cells zeroG 54)).alloc (.cells #[.int .i64 0, .int .i64 0] 83)).heap[w1.heap.size]? = some (.cells zeroG 54 (0, 0)) ∧ (((w1.alloc (.cells zeroG 54)).alloc (.cells #[.int .i64 0, .int .i64 0] 83)).setRow w1.heap.size gc).heap[w1.heap.size + 1]? = some (.cells #[.int .i64 0, .int .i64 0] 83 (0, 0)) from fun gc => by
    have a1 := heap_new0 (w1.alloc (.cells zeroG 54)) (.cells #[.int .i64 0, .int .i64 0] 83)
    rw [World.size_alloc] at a1
    exact ⟨heap_new1 w1 _ _, by rw [setRow_other _ _ _ _ (by omega)]; exact a1⟩)
  clear mk
  -- what both failing ways end with
  have fin : ∀ (W : World), Below w.heap.size w W → W.heap[w.heap.size]? = some (.cells zeroG 54 (0, 0)) → W.heap[w.heap.size + 1]? = some (.cells #[.int .i64 0, .int .i64 0] 83 (0, 0)) →
      (W.setRow w.heap.size zeroG).heap[w.heap.size + 1]? = some (.cells #[.int .i64 0, .int .i64 0] 83 (0, 0)) ∧
      ((W.setRow w.heap.size zeroG).setRow (w.heap.size + 1) #[.int .i64 0, .int .i64 0]).heap[w.heap.size]? = some (.cells zeroG 54 (0, 0)) ∧
      ((W.setRow w.heap.size zeroG).setRow (w.heap.size + 1) #[.int .i64 0, .int .i64 0]).heap[w.heap.size + 1]? = some (.cells #[.int .i64 0, .int .i64 0] 83 (0, 0)) ∧
      Below w.heap.size w ((W.setRow w.heap.size zeroG).setRow (w.heap.size + 1) #[.int .i64 0, .int .i64 0]) := fun W hb h0 h1 => by
    have k : (W.setRow w.heap.size zeroG).heap[w.heap.size + 1]? = some (.cells #[.int .i64 0, .int .i64 0] 83 (0, 0)) := by rw [setRow_other _ _ _ _ (by omega)]; exact h1
    exact ⟨k, by rw [setRow_other _ _ _ _ (by omega)]; exact setRow_heap _ _ _ _ _ _ h0, setRow_heap _ _ _ _ _ _ k, below_setRow' (below_setRow' hb (Nat.le_refl _) _) (by omega) _⟩
  have HFIN := hid fin
  clear fin
  rcases hcase with ⟨n, m, cc, hci, rfl⟩ | ⟨hno, rfl⟩
  · have hg := hci.1
    have HCI := hid hci
    have HS := hid (show (Try.prog.info? 54).map (·.size) = some (gcells n m (pad (flat ss))).size by rw [hg.csize]; exact Try.size_grid)
    have HZ := hid (show zeroG.size = (gcells n m (pad (flat ss))).size by rw [hg.csize]; rfl)
    have HO := hid (gcells_one n m (pad (flat ss)))
    obtain ⟨p, hp, he, hb⟩ := inG_cell hg.plen hg.2.2.1 hg.2.2.2.2.1 (placeN_in hci.2.2)
    have hq5 : ((cc / m : Nat) : Int) < 5 := by have h1 := (placeN_in hci.2.2).2.1; have h2 := hg.2.2.1; unfold placeN at h1; simp only at h1; omega
    have HAT := hid (fun w' => at_any n m (pad (flat ss)) ((cc / m : Nat) : Int) ((cc % m : Nat) : Int) p (lett m (pad (flat ss)) ((cc / m : Nat) : Int) ((cc % m : Nat) : Int)) w' hg.plen hp he ⟨Int.natCast_nonneg _, hq5⟩ hg.2.2.2.2.1 hb)
    have hbq := byte_beq46 (lett m (pad (flat ss)) ((cc / m : Nat) : Int) ((cc % m : Nat) : Int))
    clear hci hg hp he hb hq5
    generalize hgc : gcells n m (pad (flat ss)) = gc at *
    have HGC := hid hgc
    have HL := hid (show lett m (pad (flat ss)) ((cc / m : Nat) : Int) ((cc % m : Nat) : Int) = lett m (pad (flat ss)) ((cc / m : Nat) : Int) ((cc % m : Nat) : Int) from rfl)
    generalize hb : lett m (pad (flat ss)) ((cc / m : Nat) : Int) ((cc % m : Nat) : Int) = b at HAT hbq HL
    have HLB := hid hb
    obtain ⟨qv, hqv⟩ : ∃ qv : Int, ((cc / m : Nat) : Int) = qv := ⟨_, rfl⟩
    obtain ⟨rv, hrv⟩ : ∃ rv : Int, ((cc % m : Nat) : Int) = rv := ⟨_, rfl⟩
    rw [hqv, hrv] at HAT ⊢
    have HQ := hid hqv
    have HRV := hid hrv
    obtain ⟨bv, hbv⟩ : ∃ bv : Int, ((b.toNat : Nat) : Int) = bv := ⟨_, rfl⟩
    rw [hbv] at HAT hbq
    clear hqv hrv hgc hb HL hbv
    obtain ⟨W1, hW1, hB1, hg1, hp1, hz1, hz2⟩ := HMK.out gc qv rv HS.out HZ.out HO.out
    have HW1 := hid hW1
    have HB1 := hid hB1
    have HG1 := hid hg1
    have HP1 := hid hp1
    have HZA := hid hz1
    have HZB := hid hz2
    clear hW1 hB1 hg1 hp1 hz1 hz2
    go_wp2_with (first
      | refine wpList_store_row rfl 54 _ _ rfl w1.heap.size gc rfl rfl 54 zeroG (HZ1.out gc).1 HS.out HZ.out HO.out ?_
      | (refine wpList_store_row rfl 83 _ _ rfl (w1.heap.size + 1) #[.int .i64 qv, .int .i64 rv] rfl rfl 83 #[.int .i64 0, .int .i64 0] (HZ1.out gc).2 Try.size_place rfl (int2_one _ _) ?_; rw [HW1.out])
      | refine wpList_load_row_gA (by rfl) 54 _ rfl w1.heap.size rfl 54 gc (0, 0) _ HG1.out Try.underlying54 rfl HS.out ?_
      | refine wpList_load_row_gA (by rfl) 83 _ rfl (w1.heap.size + 1) rfl 83 #[.int .i64 qv, .int .i64 rv] (0, 0) _ HP1.out Try.underlying83 rfl Try.size_place ?_)
    refine (HAT.out _).mono ?_
    rintro e w3 ⟨rfl, hb3⟩
    have HB3 := hid (HB1.out.trans (hb3.mono HB1.out.size))
    have G3 := hid ((hb3.block _ (lt_of_block HG1.out)).trans HG1.out)
    have P3 := hid ((hb3.block _ (lt_of_block HP1.out)).trans HP1.out)
    have Z3 := hid ((hb3.block _ (lt_of_block HZA.out)).trans HZA.out)
    have Y3 := hid ((hb3.block _ (lt_of_block HZB.out)).trans HZB.out)
    clear hb3
    cases hbb : (b == 46) with
    | true =>
      rw [hbb] at hbq
      have HBB := hid hbb
      clear hbb
      obtain ⟨f1, f2, f3, f4⟩ := HFIN.out w3 HB3.out Z3.out Y3.out
      have R1 := hid f1
      have R2 := hid f2
      have R3 := hid f3
      have R4 := hid f4
      clear f1 f2 f3 f4
      go_wp2_with (first
        | refine wpList_store_row rfl 54 _ _ rfl w.heap.size zeroG rfl rfl 54 zeroG Z3.out Try.size_grid rfl (gcells_one 0 0 (pad [])) ?_
        | refine wpList_store_row rfl 83 _ _ rfl (w.heap.size + 1) #[.int .i64 0, .int .i64 0] rfl rfl 83 #[.int .i64 0, .int .i64 0] R1.out Try.size_place rfl zero2_one ?_)
      refine bodyPost_ret (results_rows_tmp Try.results89 _ w.heap.size (w.heap.size + 1) 54 83 zeroG #[.int .i64 0, .int .i64 0] (0, 0) (0, 0) _ _ (by rfl) (by rfl) R2.out R3.out Try.underlying54 rfl Try.size_grid Try.underlying83 rfl Try.size_place) rfl ?_
      exact ⟨R4.out, .inr ⟨fun n' m' c' hc => by
        obtain ⟨rfl, rfl, rfl⟩ := HCI.out.uniq hc.1
        have h1 := hc.2
        rw [HLB.out] at h1
        exact h1 (beq_iff_eq.1 HBB.out), rfl⟩⟩
    | false =>
      rw [hbb] at hbq
      have HBB := hid hbb
      clear hbb
      go_wp2_with fail
      have hw1 := HSZ.out
      refine wp_region_relT (by kernel_rfl) (by kernel_rfl) 5 rfl (Fill2 w.heap.size (w.heap.size + 1) (.cells zeroG 54 (0, 0)) (.cells #[.int .i64 0, .int .i64 0] 83 (0, 0)) (.cells gc 54 (0, 0)) (.cells #[.int .i64 qv, .int .i64 rv] 83 (0, 0)))
        (fun h k => h.trans k) (.of_below (Below.refl _ _).drew (by have := lt_of_block Z3.out; omega) (by have := lt_of_block Y3.out; omega))
        (fun us => { tmps := #[.slice A ss.length c, .int .i64 cell, undef, undef, .pointer (some ⟨w.heap.size, 0, none⟩), .pointer (some ⟨w.heap.size + 1, 0, none⟩), us 4, .pointer (some ⟨w1.heap.size, 0, none⟩), .pointer (some ⟨w1.heap.size + 1, 0, none⟩), .bool true, .tuple #[.agg gc, .agg #[.int .i64 qv, .int .i64 rv], .bool true], .slice A ss.length c, .int .i64 cell, .tuple #[.agg gc, .agg #[.int .i64 qv, .int .i64 rv], .bool true], .agg gc, .agg #[.int .i64 qv, .int .i64 rv], .bool true, .bool true, .bool false, .bool false, .agg gc, .agg #[.int .i64 qv, .int .i64 rv], .int .u8 bv, .bool false, .bool false, undef, undef, us 0, us 1], defers := [] }) (fun k => if k = 4 then .bool false else undef) rfl (mirRel w.heap.size (w.heap.size + 1) gc qv rv) (fun i v W W' h hb => ?_) (fun i us v hi => ?_) (fun i us W hi hb hd => ?_) (fun us W hb hr => ?_)
      · unfold mirRel at h ⊢
        split at h <;> try exact h
        · exact hb.2.2.2.1 h
        · exact hb.2.2.2.2.2 h
      · match i, hi with
        | 0, _ => rfl
        | 1, _ => rfl
        | 2, _ => rfl
        | 3, _ => rfl
        | 4, _ => rfl
      · have L0 := hid ((hb.2.1 _ (lt_of_block G3.out) (by omega) (by omega)).trans G3.out)
        have L1 := hid ((hb.2.1 _ (lt_of_block P3.out) (by omega) (by omega)).trans P3.out)
        have lt0 : w.heap.size < W.heap.size := Nat.lt_of_lt_of_le (lt_of_block Z3.out) hb.1.2.2.2
        have lt1 : w.heap.size + 1 < W.heap.size := Nat.lt_of_lt_of_le (lt_of_block Y3.out) hb.1.2.2.2
        match i, hi with
        | 0, _ => exact wpOp_valT rfl rfl (exec_load_row 54 _ rfl w1.heap.size rfl 54 gc (0, 0) _ L0.out Try.underlying54 rfl HS.out) rfl (.of_below (Below.refl _ _) lt0 lt1)
        | 1, _ => exact wpOp_valT rfl rfl (exec_load_row 83 _ rfl (w1.heap.size + 1) rfl 83 #[.int .i64 qv, .int .i64 rv] (0, 0) _ L1.out Try.underlying83 rfl Try.size_place) rfl (.of_below (Below.refl _ _) lt0 lt1)
        | 2, _ =>
          have h0 : us 0 = _ := hd _ rfl { on := 0, ground := .data } (by simp) rfl
          rw [h0]
          have hold := hb.2.2.1 Z3.out
          obtain ⟨old, ho1, ho2⟩ : ∃ old, W.heap[w.heap.size]? = some (.cells old 54 (0, 0)) ∧ old.size = gc.size := by
            rcases hold with h | h
            · exact ⟨_, h, HZ.out⟩
            · exact ⟨_, h, rfl⟩
          exact wpOp_skipT rfl rfl (exec_store_row 54 _ _ rfl w.heap.size gc rfl rfl 54 old ho1 HS.out ho2 HO.out) (setRow_heap _ _ _ _ _ _ ho1) (.set0 hold (by omega))
        | 3, _ =>
          have h0 : us 1 = _ := hd _ rfl { on := 1, ground := .data } (by simp) rfl
          rw [h0]
          have hold := hb.2.2.2.2.1 Y3.out
          obtain ⟨old, ho1, ho2⟩ : ∃ old, W.heap[w.heap.size + 1]? = some (.cells old 83 (0, 0)) ∧ old.size = (#[.int .i64 qv, .int .i64 rv] : Array Value).size := by
            rcases hold with h | h
            · exact ⟨_, h, rfl⟩
            · exact ⟨_, h, rfl⟩
          exact wpOp_skipT rfl rfl (exec_store_row 83 _ _ rfl (w.heap.size + 1) #[.int .i64 qv, .int .i64 rv] rfl rfl 83 old ho1 Try.size_place ho2 (int2_one _ _)) (setRow_heap _ _ _ _ _ _ ho1) (.set1 hold (by omega))
        | 4, _ => exact wpOp_valT rfl rfl (by go_simp) rfl (.of_below (Below.refl _ _) lt0 lt1)
      · have h4 : us 4 = _ := hr 4 (by omega)
        have r0 := hid (show W.heap[w.heap.size]? = some (.cells gc 54 (0, 0)) from hr 2 (by omega))
        have r1 := hid (show W.heap[w.heap.size + 1]? = some (.cells #[.int .i64 qv, .int .i64 rv] 83 (0, 0)) from hr 3 (by omega))
        have rB := hid (hb.below HB3.out HB3.out.size (Nat.le_refl _) (by omega))
        rw [h4]
        clear hr hb h4
        go_wp2_with fail
        refine bodyPost_ret (results_rows_tmp Try.results89 _ w.heap.size (w.heap.size + 1) 54 83 gc #[.int .i64 qv, .int .i64 rv] (0, 0) (0, 0) _ _ (by rfl) (by rfl) r0.out r1.out Try.underlying54 rfl HS.out Try.underlying83 rfl Try.size_place) rfl ?_
        refine ⟨rB.out, .inl ⟨n, m, cc, ⟨HCI.out, ?_⟩, by rw [HQ.out, HRV.out, HGC.out]; rfl⟩⟩
        rw [HLB.out]
        exact beq_eq_false_iff_ne.1 HBB.out
  · have HNo := hid hno
    clear hno
    obtain ⟨W1, hW1, hB1, hg1, hp1, hz1, hz2⟩ := HMK.out zeroG 0 0 Try.size_grid rfl (gcells_one 0 0 (pad []))
    have HW1 := hid hW1
    have HB1 := hid hB1
    have HZA := hid hz1
    have HZB := hid hz2
    obtain ⟨f1, f2, f3, f4⟩ := HFIN.out W1 hB1 hz1 hz2
    have R1 := hid f1
    have R2 := hid f2
    have R3 := hid f3
    have R4 := hid f4
    clear f1 f2 f3 f4 hW1 hB1 hg1 hp1 hz1 hz2
    go_wp2_with (first
      | refine wpList_store_row rfl 54 _ _ rfl w1.heap.size zeroG rfl rfl 54 zeroG (HZ1.out zeroG).1 Try.size_grid rfl (gcells_one 0 0 (pad [])) ?_
      | (refine wpList_store_row rfl 83 _ _ rfl (w1.heap.size + 1) #[.int .i64 0, .int .i64 0] rfl rfl 83 #[.int .i64 0, .int .i64 0] (HZ1.out zeroG).2 Try.size_place rfl (int2_one _ _) ?_; rw [HW1.out])
      | refine wpList_store_row rfl 54 _ _ rfl w.heap.size zeroG rfl rfl 54 zeroG HZA.out Try.size_grid rfl (gcells_one 0 0 (pad [])) ?_
      | refine wpList_store_row rfl 83 _ _ rfl (w.heap.size + 1) #[.int .i64 0, .int .i64 0] rfl rfl 83 #[.int .i64 0, .int .i64 0] R1.out Try.size_place rfl zero2_one ?_)
    refine bodyPost_ret (results_rows_tmp Try.results89 _ w.heap.size (w.heap.size + 1) 54 83 zeroG #[.int .i64 0, .int .i64 0] (0, 0) (0, 0) _ _ (by rfl) (by rfl) R2.out R3.out Try.underlying54 rfl Try.size_grid Try.underlying83 rfl Try.size_place) rfl ?_
    exact ⟨R4.out, .inr ⟨fun n' m' c' hc => HNo.out _ _ _ hc.1, rfl⟩⟩
end Go.Proofs.Ytgildagmliadeaa

/- RoundMany, RoundLeast of the program, by their contracts. -/
namespace Go.Proofs.Ytgildagmliadeaa
open Go.RowKit Go.Shelf

theorem RoundsOf.slice {w : World} {base g n m x : Nat} {t : Int → Int → UInt8} {v : Value} (h : RoundsOf w base g n m t x v) : ∃ A c, v = .slice A (leadsTo n m t x).length c := by
  obtain ⟨vs, h1, h2, _⟩ := h
  rw [← h2]
  rcases h1.2 with ⟨rfl, h0⟩ | ⟨b, cap, cur, rfl, _⟩
  · rw [h0]; exact ⟨_, _, rfl⟩
  · exact ⟨_, _, rfl⟩
/-- The first round, and its first step. -/
theorem RoundsOf.first {w : World} {base g n m x c : Nat} {t : Int → Int → UInt8} {v : Value} (h : RoundsOf w base g n m t x v) (hc : (leadsTo n m t x).head? = some c) :
    ∃ b cap b2 l2 cap2, v = .slice (some ⟨b, 0, none⟩) (leadsTo n m t x).length cap ∧ 0 < l2 ∧ w.cell? ⟨b, 0, none⟩ = some (.slice (some ⟨b2, 0, none⟩) l2 cap2) ∧ w.cell? ⟨b2, 0, none⟩ = some (.pointer (some ⟨g, 5 * c, none⟩)) := by
  have hlead := (leadsTo_mem (List.mem_of_mem_head? hc)).2
  have hlt := (leadsTo_mem (List.mem_of_mem_head? hc)).1
  obtain ⟨vs, h1, h2, h3⟩ := h
  rw [List.head?_eq_getElem?] at hc
  obtain ⟨u, h4, b2, cap2, rfl, _, _, h5⟩ := h3 0 c hc
  have hpos : 0 < vs.length := (List.getElem?_eq_some_iff.1 h4).1
  rcases h1.2 with ⟨_, h0⟩ | ⟨b, cap, cur, rfl, _, hg, _, _, _, ht⟩
  · omega
  · have hon := (lead_iff.1 hlead).1
    have hL : 0 < (ringN n m t (wayN m c)).length := by
      rw [ringN_length]
      unfold goL
      rw [if_pos hon]
      exact (rlen_facts (wayN_d c) hon).1
    refine ⟨b, cap, b2, _, cap2, by rw [h2], hL, ?_, h5 0 c ?_⟩
    · rw [cell_of_row _ _ _ _ _ _ hg]
      rw [← ht, List.getElem?_take_of_lt (by omega)] at h4
      rw [← Array.getElem?_toList, h4]
    · unfold ringN
      rw [ringN_length] at hL
      rw [List.getElem?_map, List.getElem?_range hL]
      simp [iter, wcode_way]

set_option maxRecDepth 100000 in
set_option maxHeartbeats 2000000 in
theorem implRoundMany_any (A : Option Addr) (c : Nat) (ss : List ByteArray) (w : World) (h : Strs w w.heap.size A ss) (hn : ss.length ≤ 1048576) (hs : ∀ s ∈ ss, s.size ≤ 1048576) :
    Calls Try.prog 53 #[.slice A ss.length c] w fun e w' => Below w.heap.size w w' ∧ ∃ x ok, e = .returned (.tuple #[.int .i64 x, .bool ok]) ∧ GridOut manyR ss x ok := by
  have HR := hid (readGrid_any A c ss w h hn hs)
  clear h hs
  go_enter Try.func53, Try.ntmps53
  go_wp2_with fail
  refine HR.out.mono ?_
  rintro e w1 ⟨hbel, ⟨n, m, hg, rfl⟩ | ⟨hno, rfl⟩⟩
  · have HB := hid hbel
    have HGr := hid hg
    have HS := hid (show (Try.prog.info? 54).map (·.size) = some (gcells n m (pad (flat ss))).size by rw [hg.csize]; exact Try.size_grid)
    have HZ := hid (show zeroG.size = (gcells n m (pad (flat ss))).size by rw [hg.csize]; rfl)
    have HL := hid (setRow_heap (w1.alloc (.cells zeroG 54)) w1.heap.size zeroG (gcells n m (pad (flat ss))) 54 (0, 0) (heap_new0 w1 _))
    have HW := hid (HB.out.trans (below_setRow' ((Below.refl _ w1).alloc HB.out.size (.cells zeroG 54)) HB.out.size (gcells n m (pad (flat ss)))))
    have HNC := hid (fun w' => newChart_any n m (4 * (n * m)) (n * m) (pad (flat ss)) w' hg.plen hg.2.2.1 hg.2.2.2.1 hg.2.2.2.2.1 rfl rfl)
    have HRS := hid (fun g w' hst => rounds_any n m g (4 * (n * m)) (pad (flat ss)) w' hg.plen hg.2.2.1 hg.2.2.2.2.1 rfl hst)
    clear hbel hg
    go_wp2_with (first
      | refine wpList_store_row rfl 54 _ _ rfl w1.heap.size (gcells n m (pad (flat ss))) rfl rfl 54 zeroG (heap_new0 w1 _) HS.out HZ.out (gcells_one _ _ _) ?_
      | refine wpList_load_row rfl 54 _ rfl w1.heap.size rfl 54 (gcells n m (pad (flat ss))) (0, 0) _ HL.out Try.underlying54 rfl HS.out ?_)
    refine (HNC.out _).mono ?_
    rintro e w2 ⟨g, _, rfl, hst, hb2⟩
    have HRR := hid (HRS.out g w2 hst)
    have HB2 := hid (HW.out.trans (hb2.mono HW.out.size))
    clear hb2 hst
    go_wp2_with fail
    refine HRR.out.mono ?_
    rintro e w3 ⟨v, rfl, hro, hb3⟩
    obtain ⟨A1, cc, rfl⟩ := hro.slice
    have HB3 := hid (HB2.out.trans (hb3.mono HB2.out.size))
    clear hb3 hro
    go_wp2_with fail
    refine bodyPost_ret (results_tmp2 rfl _ _ _) rfl ?_
    exact ⟨HB3.out, _, true, rfl, .inl ⟨n, m, HGr.out, rfl⟩⟩
  · have HB := hid hbel
    have HGr := hid hno
    clear hbel hno
    go_wp2_with (refine wpList_store_row rfl 54 _ _ rfl w1.heap.size zeroG rfl rfl 54 zeroG (heap_new0 w1 _) Try.size_grid rfl (gcells_one 0 0 (pad [])) ?_)
    refine bodyPost_ret (results_tmp2 rfl _ _ _) rfl ?_
    exact ⟨HB.out.trans (below_setRow' ((Below.refl _ w1).alloc HB.out.size _) HB.out.size _), 0, false, rfl, .inr ⟨HGr.out, rfl, rfl⟩⟩

set_option maxRecDepth 100000 in
set_option maxHeartbeats 2000000 in
theorem implRoundLeast_any (A : Option Addr) (c : Nat) (ss : List ByteArray) (w : World) (h : Strs w w.heap.size A ss) (hn : ss.length ≤ 1048576) (hs : ∀ s ∈ ss, s.size ≤ 1048576) :
    Calls Try.prog 39 #[.slice A ss.length c] w fun e w' => Below w.heap.size w w' ∧ ∃ x ok, e = .returned (.tuple #[.int .i64 x, .bool ok]) ∧ GridOut leastR ss x ok := by
  have HR := hid (readGrid_any A c ss w h hn hs)
  clear h hs
  go_enter Try.func39, Try.ntmps39
  go_wp2_with fail
  refine HR.out.mono ?_
  rintro e w1 ⟨hbel, ⟨n, m, hg, rfl⟩ | ⟨hno, rfl⟩⟩
  · have HB := hid hbel
    have HGr := hid hg
    have HS := hid (show (Try.prog.info? 54).map (·.size) = some (gcells n m (pad (flat ss))).size by rw [hg.csize]; exact Try.size_grid)
    have HZ := hid (show zeroG.size = (gcells n m (pad (flat ss))).size by rw [hg.csize]; rfl)
    have HL := hid (setRow_heap (w1.alloc (.cells zeroG 54)) w1.heap.size zeroG (gcells n m (pad (flat ss))) 54 (0, 0) (heap_new0 w1 _))
    have HW := hid (HB.out.trans (below_setRow' ((Below.refl _ w1).alloc HB.out.size (.cells zeroG 54)) HB.out.size (gcells n m (pad (flat ss)))))
    have HNC := hid (fun w' => newChart_any n m (4 * (n * m)) (n * m) (pad (flat ss)) w' hg.plen hg.2.2.1 hg.2.2.2.1 hg.2.2.2.2.1 rfl rfl)
    have HRS := hid (fun g w' hst => rounds_any n m g (4 * (n * m)) (pad (flat ss)) w' hg.plen hg.2.2.1 hg.2.2.2.2.1 rfl hst)
    have HCE := hid (fun q w' (hq : inG n m q) => cell_cells (gcells n m (pad (flat ss))) q.i q.k m (cellN m q) w' (gcells_1 n m _) (Nat.lt_of_lt_of_le (cellN_lt hq) hg.le25) (cellN_int hq) ⟨hq.1, Int.lt_of_lt_of_le hq.2.1 (by have := hg.2.2.1; omega)⟩ ⟨by omega, by have := hg.2.2.2.2.1; omega⟩)
    clear hbel hg
    go_wp2_with (first
      | refine wpList_store_row rfl 54 _ _ rfl w1.heap.size (gcells n m (pad (flat ss))) rfl rfl 54 zeroG (heap_new0 w1 _) HS.out HZ.out (gcells_one _ _ _) ?_
      | refine wpList_load_row rfl 54 _ rfl w1.heap.size rfl 54 (gcells n m (pad (flat ss))) (0, 0) _ HL.out Try.underlying54 rfl HS.out ?_)
    refine (HNC.out _).mono ?_
    rintro e w2 ⟨g, _, rfl, hst, hb2⟩
    have HRR := hid (HRS.out g w2 hst)
    have HST := hid hst
    have HB2 := hid (HW.out.trans (hb2.mono HW.out.size))
    have HL2 := hid ((hb2.block _ (lt_of_block HL.out)).trans HL.out)
    clear hb2 hst
    go_wp2_with fail
    refine HRR.out.mono ?_
    rintro e w3 ⟨v, rfl, hro, hb3⟩
    have HB3 := hid (HB2.out.trans (hb3.mono HB2.out.size))
    have HL3 := hid ((hb3.block _ (lt_of_block HL2.out)).trans HL2.out)
    have HST3 := hid (HST.out.below hb3)
    clear hb3
    cases hhd : (leads n m (lett m (pad (flat ss)))).head? with
    | none =>
      have hnil := List.head?_eq_none_iff.1 hhd
      obtain ⟨A1, cc, rfl⟩ := hro.slice
      rw [leadsTo_all, hnil]
      have HH := hid hhd
      clear hro hhd hnil
      go_wp2_with fail
      refine bodyPost_ret (results_tmp2 rfl _ _ _) rfl ?_
      exact ⟨HB3.out, 0, false, rfl, .inl ⟨n, m, HGr.out, by unfold leastR; rw [HH.out]⟩⟩
    | some l =>
      obtain ⟨b, cap, b2, l2, cap2, rfl, hl2, hcb, hcb2⟩ := hro.first (c := l) (by rw [leadsTo_all]; exact hhd)
      have hlm := leads_lt (List.mem_of_mem_head? hhd)
      have hxin := wayN_in hlm.1
      have hway := HST3.out.way hlm.1
      have hcn := cellN_way (m := m) l
      have HC4 := hid (fun w' => HCE.out (wayN m l) w' hxin)
      rw [hcn] at HC4
      have hlen0 : (((leads n m (lett m (pad (flat ss)))).length : Int) == 0) = false := by
        rw [beq_eq_false_iff_ne]
        intro e
        have h0 : leads n m (lett m (pad (flat ss))) = [] := List.eq_nil_of_length_eq_zero (by omega)
        rw [h0] at hhd
        cases hhd
      have hlpos : (0 : Int) < ((leads n m (lett m (pad (flat ss)))).length : Int) := by
        rw [beq_eq_false_iff_ne] at hlen0; omega
      have hl2i : (0 : Int) < (l2 : Int) := by omega
      rw [leadsTo_all]
      have HH := hid hhd
      have HWY := hid (show ∀ w', Cls w3 w' → w'.rangeAt g (5 * l) (#[.int .i64 (wayN m l).i, .int .i64 (wayN m l).k] : Array Value).toList from fun w' hw j v hj => by
        have h1 := (HST3.out.below hw).way hlm.1
        refine h1 j v ?_
        match j, hj with
        | 0, hj => exact hj
        | 1, hj => exact hj
        | j + 2, hj => simp at hj)
      have hb1 : b < w3.heap.size := World.block_lt_of_cell? w3 _ hcb
      have hb2 : b2 < w3.heap.size := World.block_lt_of_cell? w3 _ hcb2
      have HCB := hid (fun w' (hw : Cls w3 w') => (hw.cell (p := ⟨b, 0, none⟩) hb1).trans hcb)
      have HCB2 := hid (fun w' (hw : Cls w3 w') => (hw.cell (p := ⟨b2, 0, none⟩) hb2).trans hcb2)
      have HLL := hid (fun w' (hw : Cls w3 w') => (hw.block _ (lt_of_block HL3.out)).trans HL3.out)
      clear hro hhd hlm hxin hway hcn hcb hcb2 hb1 hb2
      generalize hll : (leads n m (lett m (pad (flat ss)))).length = K at hlen0 hlpos ⊢
      clear hll
      have hK0 : 0 < K := by omega
      go_wp2_with fail
      refine wp_region_quiet (C := Cls w3) (by kernel_rfl) (by kernel_rfl) (Below.refl _ w3).drew ?_
      refine wpQuiet_load_row rfl 54 _ rfl w1.heap.size rfl 54 (gcells n m (pad (flat ss))) (0, 0) _ HLL.out Try.underlying54 rfl HS.out ?_
      quiet_step ((intro _; rfl))
      quiet_step ((intro _; rfl))
      refine wpQuiet_value rfl (.slice (some ⟨b2, 0, none⟩) l2 cap2) (fun w' hw => by have hc := HCB.out w' hw; go_simp) ?_
      quiet_step ((intro _; rfl))
      refine wpQuiet_value rfl (.pointer (some ⟨g, 5 * l, none⟩)) (fun w' hw => by have hc := HCB2.out w' hw; go_simp) ?_
      quiet_step ((intro _; rfl))
      quiet_step ((intro _; rfl))
      quiet_step ((intro _; rfl))
      refine wpQuiet_load_mid rfl 83 _ rfl g (5 * l) rfl #[.int .i64 (wayN m l).i, .int .i64 (wayN m l).k] _ HWY.out Try.underlying83 rfl Try.size_place ?_
      refine wpQuiet_call rfl 99 #[.agg (gcells n m (pad (flat ss))), .agg #[.int .i64 (wayN m l).i, .int .i64 (wayN m l).k]] (.int .i64 ((l / 4 : Nat) : Int)) (fun w _ => by go_simp) (fun w' hw => (HC4.out w').mono fun e w'' ⟨he, hb'⟩ => ⟨he, hw.trans (hb'.mono hw.size)⟩) ?_
      quiet_step ((intro _; rfl))
      quiet_step ((intro _; rfl))
      refine wpQuiet_nil ?_
      intro w4 hw4
      have HB4 := hid (HB3.out.trans (hw4.mono HB3.out.size))
      clear hw4
      go_wp2_with fail
      refine bodyPost_ret (results_tmp2 rfl _ _ _) rfl ?_
      exact ⟨HB4.out, _, true, rfl, .inl ⟨n, m, HGr.out, by unfold leastR; rw [HH.out]; rfl⟩⟩
  · have HB := hid hbel
    have HGr := hid hno
    clear hbel hno
    go_wp2_with (refine wpList_store_row rfl 54 _ _ rfl w1.heap.size zeroG rfl rfl 54 zeroG (heap_new0 w1 _) Try.size_grid rfl (gcells_one 0 0 (pad [])) ?_)
    refine bodyPost_ret (results_tmp2 rfl _ _ _) rfl ?_
    exact ⟨HB.out.trans (below_setRow' ((Below.refl _ w1).alloc HB.out.size _) HB.out.size _), 0, false, rfl, .inr ⟨HGr.out, rfl, rfl⟩⟩

end Go.Proofs.Ytgildagmliadeaa
