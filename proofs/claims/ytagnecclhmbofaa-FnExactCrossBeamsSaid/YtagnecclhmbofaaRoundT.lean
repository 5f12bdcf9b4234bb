/- How often rounds go through a cell; RoundTwice of the specification and of the program. -/
import Derived.Test.YtagnecclhmbofaaBunF
import Derived.Test.YtagnecclhmbofaaBunH
import Derived.Test.YtagnecclhmbofaaBunC
import Derived.Test.YtagnecclhmbofaaBunD
namespace Go.Proofs.Ytagnecclhmbofaa
open Go.RowKit Go.Shelf

def rtwiceR (n m : Nat) (t : Int → Int → UInt8) : Int × Bool := ((((List.range (n * m)).countP fun c => atN n m t c == 2 : Nat) : Int), true)

set_option maxRecDepth 100000 in
set_option maxHeartbeats 1000000 in
theorem l3At_any (g N n m x : Nat) (t : Int → Int → UInt8) (w : World) (hN : 4 * (n * m) = N) (hN100 : N ≤ 100) (hx : x < n * m) (hm : MarksAt w g N (fun c => onR n m t (wayN m c) = false)) :
    Calls Try.prog 65 #[.slice (some ⟨g, 0, none⟩) N N, .int .i64 (x : Int)] w fun e w' => e = .returned (.int .i64 ((atN n m t x : Nat) : Int)) ∧ w = w' := by
  have HM := hid hm
  have hx4 : 4 * x + 3 < N := by omega
  clear hm
  go_enter Try.func65, Try.ntmps65
  go_wp2
  go_loopw [5, 6] (fun (v i : Value) (wr : World) => ∃ d : Nat, d ≤ 4 ∧ i = .int .i64 d ∧ v = .int .i64 ((upT (fun d => onR n m t (wayN m (4 * x + d))) d : Nat) : Int) ∧ w = wr) (fun _ i _ => 4 - (intOf i).toNat)
  case atStart => exact ⟨0, by omega, rfl, rfl, rfl⟩
  case round =>
    obtain ⟨d, hd, rfl, rfl, rfl⟩ := hrel
    have hle := upT_le (fun d => onR n m t (wayN m (4 * x + d))) d
    by_cases hlt : d < 4
    · obtain ⟨bx, hcx, hbx, _⟩ := HM.out.cell (c := 4 * x + d) (by omega)
      have hdi : (d : Int) < 4 := by omega
      have hsum : 4 * (x : Int) + (d : Int) = ((4 * x + d : Nat) : Int) := by omega
      have hsuc : upT (fun d => onR n m t (wayN m (4 * x + d))) (d + 1) = upT (fun d => onR n m t (wayN m (4 * x + d))) d + (onR n m t (wayN m (4 * x + d))).toNat := rfl
      obtain ⟨q, hq⟩ : ∃ q, 4 * x + d = q := ⟨_, rfl⟩
      rw [hq] at hcx hbx hsum hsuc
      have hqN : q < N := by omega
      have hqi : (q : Int) < (N : Int) := by omega
      have hqi0 : (0 : Int) ≤ (q : Int) := by omega
      obtain ⟨u, hu⟩ : ∃ u, upT (fun d => onR n m t (wayN m (4 * x + d))) d = u := ⟨_, rfl⟩
      rw [hu] at hle hsuc ⊢
      have HSU := hid hsuc
      have HU := hid hu
      have hui : (u : Int) ≤ 4 := by omega
      have hui0 : (0 : Int) ≤ (u : Int) := by omega
      have HBX := hid hbx
      clear hbx hsuc hu hq hle
      cases bx with
      | true =>
        have HF := hid (HBX.out.1 rfl)
        go_wp2_with fail
        go_roundw
        case rel => exact ⟨d + 1, by omega, by go_num, by rw [HSU.out, HF.out]; rfl, by first | rfl | trivial⟩
        case measure => simp [intOf]; omega
      | false =>
        have hon : onR n m t (wayN m q) = true := by
          cases hb : onR n m t (wayN m q) with
          | true => rfl
          | false => have := HBX.out.2 hb; cases this
        have HF := hid hon
        clear hon
        go_wp2_with fail
        go_roundw
        case rel => exact ⟨d + 1, by omega, by go_num, by rw [HSU.out, HF.out]; go_num, by first | rfl | trivial⟩
        case measure => simp [intOf]; omega
    · obtain rfl : d = 4 := by omega
      have hat : atN n m t x = upT (fun d => onR n m t (wayN m (4 * x + d))) 4 / 2 := rfl
      obtain ⟨u, hu⟩ : ∃ u, upT (fun d => onR n m t (wayN m (4 * x + d))) 4 = u := ⟨_, rfl⟩
      rw [hu] at hle hat ⊢
      have hui0 : (0 : Int) ≤ (u : Int) := by omega
      have hui : (u : Int) ≤ 4 := by omega
      obtain ⟨v, hv⟩ : ∃ v, u / 2 = v := ⟨_, rfl⟩
      have hdiv : (u : Int) / 2 = (v : Int) := by omega
      rw [hv] at hat
      have HA := hid hat
      clear hat hu hv hle
      go_wp2_with fail
      go_ret
      exact ⟨by rw [HA.out]; first | rfl | rw [hdiv], rfl⟩

set_option maxRecDepth 100000 in
set_option maxHeartbeats 2000000 in
theorem roundsAt_any (n m g N x : Nat) (ls : List UInt8) (w : World) (hl : ls.length = 25) (hn : n ≤ 5) (hm : m ≤ 5) (hN : 4 * (n * m) = N) (hx : x < n * m) (hs : StepsM w g n m (lett m ls) (fun _ => True) N) :
    Calls Try.prog 87 #[.agg (chartC (gcells n m ls) g N), .agg #[.int .i64 ((x / m : Nat) : Int), .int .i64 ((x % m : Nat) : Int)]] w fun e w' => e = .returned (.int .i64 ((atN n m (lett m ls) x : Nat) : Int)) ∧ Below w.heap.size w w' := by
  have hnm25 : n * m ≤ 25 := Nat.mul_le_mul hn hm
  have hz := gcells_size (n := n) (m := m) hl
  have HCS := hid (show (Try.prog.info? 109).map (·.size) = some (chartC (gcells n m ls) g N).size by rw [chartC_size hz]; exact Try.size_chart)
  have HRD := hid (fun d w' (hd : d < 4) hs' => round_any n m g N (4 * x + d) (lett m ls) w' hN (by omega) (by omega) hs')
  have HSP := hid (fun d w' (hd : d < 4) => step_way n m g N ls (wayN m (4 * x + d)) w' hl hn hm (wayN_in (by omega)) (wayN_d _) hN)
  have HWY := hid (fun d (hd : d < 4) => wayN_cell (m := m) (c := x) hd)
  have HS := hid hs
  have HGL := hid (fun d (hd : d < 4) => goL_facts (t := lett m ls) (wayN_d (m := m) (4 * x + d)) (wayN_in (n := n) (m := m) (by omega)))
  generalize lett m ls = t at *
  generalize chartC (gcells n m ls) g N = cc at *
  obtain ⟨qv, hqv⟩ : ∃ qv : Int, ((x / m : Nat) : Int) = qv := ⟨_, rfl⟩
  obtain ⟨rv, hrv⟩ : ∃ rv : Int, ((x % m : Nat) : Int) = rv := ⟨_, rfl⟩
  rw [hqv, hrv] at HWY ⊢
  clear hs hz hqv hrv hl
  have HZ0 := hid (heap_new1 w (.cells cc 109) (.cells #[.int .i64 qv, .int .i64 rv] 90))
  have HZ1 := hid (show ((w.alloc (.cells cc 109)).alloc (.cells #[.int .i64 qv, .int .i64 rv] 90)).heap[w.heap.size + 1]? = some (.cells #[.int .i64 qv, .int .i64 rv] 90 (0, 0)) by
    have := heap_new0 (w.alloc (.cells cc 109)) (.cells #[.int .i64 qv, .int .i64 rv] 90)
    rwa [World.size_alloc] at this)
  have HZB := hid (show Below w.heap.size w ((w.alloc (.cells cc 109)).alloc (.cells #[.int .i64 qv, .int .i64 rv] 90)) from ((Below.refl _ w).alloc (Nat.le_refl _) _).alloc (by simp) _)
  go_enter Try.func87, Try.ntmps87
  go_wp2
  go_loopw [5, 7] (fun (v i : Value) (wr : World) => ∃ d : Nat, d ≤ 4 ∧ i = .int .i64 d ∧ v = .int .i64 ((upT (fun d => onR n m t (wayN m (4 * x + d))) d : Nat) : Int) ∧ Hid (wr.heap[w.heap.size]? = some (.cells cc 109 (0, 0)) ∧ wr.heap[w.heap.size + 1]? = some (.cells #[.int .i64 qv, .int .i64 rv] 90 (0, 0)) ∧ Below w.heap.size w wr)) (fun _ i _ => 4 - (intOf i).toNat)
  case atStart => exact ⟨0, by omega, rfl, rfl, hid ⟨HZ0.out, HZ1.out, HZB.out⟩⟩
  case round =>
    obtain ⟨d, hd, rfl, rfl, HH⟩ := hrel
    have hle := upT_le (fun d => onR n m t (wayN m (4 * x + d))) d
    by_cases hlt : d < 4
    · have hdi : (d : Int) < 4 := by omega
      have hsuc : upT (fun d => onR n m t (wayN m (4 * x + d))) (d + 1) = upT (fun d => onR n m t (wayN m (4 * x + d))) d + (onR n m t (wayN m (4 * x + d))).toNat := rfl
      obtain ⟨u, hu⟩ : ∃ u, upT (fun d => onR n m t (wayN m (4 * x + d))) d = u := ⟨_, rfl⟩
      rw [hu] at hle hsuc ⊢
      have HSU := hid hsuc
      have hui : (u : Int) ≤ 4 := by omega
      have hui0 : (0 : Int) ≤ (u : Int) := by omega
      have hst := hid (HSP.out d wr hlt)
      rw [wcode_way] at hst
      rw [HWY.out d hlt] at hst
      unfold wayV at hst
      have hrd := hid (fun w' hs' => HRD.out d w' hlt hs')
      have hgl := hid (HGL.out d hlt).1
      have HC := hid HH.out.1
      have HP := hid HH.out.2.1
      have HB := hid HH.out.2.2
      clear hsuc hu hle HH
      go_wp2_with (first
        | refine wpList_load_row rfl 109 _ rfl w.heap.size rfl 109 cc (0, 0) _ HC.out Try.underlying109 rfl HCS.out ?_
        | refine wpList_load_row rfl 90 _ rfl (w.heap.size + 1) rfl 90 #[.int .i64 qv, .int .i64 rv] (0, 0) _ HP.out Try.underlying90 rfl Try.size_place ?_)
      refine hst.out.mono ?_
      rintro e w1 ⟨rfl, hb1⟩
      have HC1 := hid ((hb1.block _ (lt_of_block HC.out)).trans HC.out)
      have HP1 := hid ((hb1.block _ (lt_of_block HP.out)).trans HP.out)
      have HB1 := hid (HB.out.trans (hb1.mono HB.out.size))
      clear hb1
      go_wp2_with fail
      refine (hrd.out w1 (HS.out.below HB1.out)).mono ?_
      rintro e w2 ⟨hb2, ⟨hon, v, rfl, hgp⟩ | ⟨hno, rfl⟩⟩
      · obtain ⟨A1, cc1, rfl⟩ := hgp.shape
        have hL := ringN_length n m t (wayN m (4 * x + d))
        obtain ⟨L, hLe⟩ : ∃ L, (ringN n m t (wayN m (4 * x + d))).length = L := ⟨_, rfl⟩
        rw [hLe] at hL ⊢
        have hL0 : (0 : Int) < (L : Int) := by have := hgl.out; omega
        have HON := hid hon
        have HC2 := hid ((hb2.block _ (lt_of_block HC1.out)).trans HC1.out)
        have HP2 := hid ((hb2.block _ (lt_of_block HP1.out)).trans HP1.out)
        have HB2 := hid (HB1.out.trans (hb2.mono HB1.out.size))
        clear hb2 hgp hLe hL hon
        go_wp2_with fail
        go_roundw
        case rel => exact ⟨d + 1, by omega, by go_num, by rw [HSU.out, HON.out]; go_num, hid ⟨HC2.out, HP2.out, HB2.out⟩⟩
        case measure => simp [intOf]; omega
      · have HNO := hid hno
        have HC2 := hid ((hb2.block _ (lt_of_block HC1.out)).trans HC1.out)
        have HP2 := hid ((hb2.block _ (lt_of_block HP1.out)).trans HP1.out)
        have HB2 := hid (HB1.out.trans (hb2.mono HB1.out.size))
        clear hb2 hno
        go_wp2_with fail
        go_roundw
        case rel => exact ⟨d + 1, by omega, by go_num, by rw [HSU.out, HNO.out]; rfl, hid ⟨HC2.out, HP2.out, HB2.out⟩⟩
        case measure => simp [intOf]; omega
    · obtain rfl : d = 4 := by omega
      have hat : atN n m t x = upT (fun d => onR n m t (wayN m (4 * x + d))) 4 / 2 := rfl
      obtain ⟨u, hu⟩ : ∃ u, upT (fun d => onR n m t (wayN m (4 * x + d))) 4 = u := ⟨_, rfl⟩
      rw [hu] at hle hat ⊢
      have hui0 : (0 : Int) ≤ (u : Int) := by omega
      have hui : (u : Int) ≤ 4 := by omega
      obtain ⟨v, hv⟩ : ∃ v, u / 2 = v := ⟨_, rfl⟩
      have hdiv : (u : Int) / 2 = (v : Int) := by omega
      rw [hv] at hat
      have HA := hid hat
      clear hat hu hv hle
      go_wp2_with fail
      go_ret
      exact ⟨by rw [HA.out]; first | rfl | rw [hdiv], HH.out.2.2⟩

/-- How many of these cells only rounds go through. -/
def twos {K : Nat} (n m : Nat) (t : Int → Int → UInt8) (pre : List (Fin K)) : Nat := pre.countP fun x => atN n m t x.val == 2
theorem twos_snoc {K : Nat} (n m : Nat) (t : Int → Int → UInt8) (pre : List (Fin K)) (x : Fin K) : twos n m t (pre ++ [x]) = twos n m t pre + (if (atN n m t x.val == 2) = true then 1 else 0) := by
  simp [twos, List.countP_append, List.countP_cons]
theorem twos_le {K : Nat} (n m : Nat) (t : Int → Int → UInt8) (pre : List (Fin K)) : twos n m t pre ≤ pre.length := List.countP_le_length
theorem twos_all (K n m : Nat) (t : Int → Int → UInt8) : twos n m t (List.finRange K) = (List.range K).countP fun c => atN n m t c == 2 := by
  unfold twos
  have e := upto_val (N := K) (k := K) (Nat.le_refl _)
  rw [upto_all] at e
  rw [← e, List.countP_map]
  rfl

attribute [local go_sem] Oper.semAt_some
end Go.Proofs.Ytagnecclhmbofaa
