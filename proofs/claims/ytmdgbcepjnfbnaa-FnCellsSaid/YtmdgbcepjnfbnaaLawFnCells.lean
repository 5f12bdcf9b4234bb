/- For every code, the drawn round comes back from each of its cells, its length is among those of all rounds, and the program's and the specification's answers are the same: the law FnCells returns true, and its argument reads as it did. No condition. -/
import Derived.Test.YtmdgbcepjnfbnaaBunA
import Derived.Test.YtmdgbcepjnfbnaaHead
import Derived.Test.YtmdgbcepjnfbnaaRoundC
import Derived.Test.YtmdgbcepjnfbnaaBunF
import Derived.Test.YtmdgbcepjnfbnaaLensI
import Derived.Test.YtmdgbcepjnfbnaaCellsM
import Derived.Test.YtmdgbcepjnfbnaaCode
import Derived.Test.YtmdgbcepjnfbnaaIntsK
namespace Go.Proofs.Ytmdgbcepjnfbnaa.lawFnCells
open Go.ChangeShapes Go.WideShapes Go.ChangeAt Go.RowKit
open Go.ChangeMaps (open_string shut_string)

set_option maxRecDepth 100000 in
set_option maxHeartbeats 2000000 in
theorem draw_any (A : Option Addr) (len cap : Nat) (w : World) (h : CodeAt w A len) (hl : len ≤ 1048576) (hc : len ≤ cap) (hc2 : cap ≤ 9223372036854775807) :
    Calls Try.prog 21 #[.slice A len cap] w fun e w' => (∃ A c ts x y, e = .returned (.tuple #[.slice A ts.length c, .int .i64 x, .int .i64 y]) ∧ Strs w' w'.heap.size A ts ∧ Drawn 4 4 ts) ∧ Below w.heap.size w w' := by
  have HOP := hid (l6Open_any A len cap w (by omega) hc hc2)
  have HRD := hid (fun len' (h1 : len' ≤ len) (h2 : len' ≤ 2000) => open_rd (cap := cap) h h1 h2)
  have HSO := hid (fun W (hr : Rd W w.heap.size 0) => l91Some_any w.heap.size 0 4 4 W hr (by omega) (by omega) (by omega) (by omega) (by omega))
  clear h
  go_enter Try.func21, Try.ntmps21
  go_wp2_with fail
  refine HOP.out.mono ?_
  rintro e w1 ⟨rfl, len', h1, h2, _, rfl⟩
  have HS := hid (HSO.out _ (HRD.out len' h1 h2))
  go_wp2_with fail
  refine HS.out.mono ?_
  rintro e w2 ⟨⟨gb, c1, ts, rfl, hgb, hrow, h3, h4, h5⟩, hrd, hgw⟩
  have HD := hid (show Drawn 4 4 ts from ⟨h3, h4, h5⟩)
  have HGB := hid (show gb ≠ w.heap.size by simp at hgb; omega)
  have HB2 := hid (((Below.refl _ w).alloc (Nat.le_refl _) (.cells #[.slice A len' cap, .int .i64 0] 124)).grown hgw (by simp) (fun k e => by cases e; exact Nat.le_refl _))
  have HN := hid (show ts.length ≤ 1048576 by omega)
  have HNS := hid (show ∀ s ∈ ts, s.size ≤ 1048576 from fun s hs => by have := (h5 s hs).2; omega)
  have HAT := hid (fun p W (hr : Rd W w.heap.size p) (hp : p ≤ 90000) (hs : Row9 W gb ts) => l91At_any w.heap.size p c1 W.heap.size (some ⟨gb, 0, none⟩) ts W hr (hs.strs hs.lt) HD.out hp)
  have HPK := hid (fun p q W (hr : Rd W w.heap.size p) (hp : p ≤ 99999) (hq : 1 ≤ q) (hq2 : q ≤ 1000) => pick_rd w.heap.size p q W hr hp hq hq2)
  have HRW := hid hrow
  have HR2 := hid hrd
  have HLE := hid (specRoundLeast_any (some ⟨gb, 0, none⟩) c1 w2.heap.size ts w2 (hrow.strs hrow.lt) (Nat.le_refl _) HN.out HNS.out)
  clear hgb hrow h3 h4 h5 hrd hgw
  go_wp2_with fail
  refine HLE.out.mono ?_
  rintro e w3 ⟨hb3, x, ok, rfl, _⟩
  have HB3 := hid (HB2.out.trans (hb3.mono HB2.out.size))
  have HR3 := hid (HRW.out.below hb3 HRW.out.lt)
  have HRD3 := hid (HR2.out.below hb3)
  clear hb3 HLE
  cases ok with
  | true =>
    have HP := hid (HPK.out _ 3 w3 HRD3.out (by omega) (by omega) (by omega))
    go_wp2_with fail
    refine HP.out.mono ?_
    rintro e w4 ⟨⟨q, hq, rfl⟩, hrd, hgw, hsz⟩
    have HRD4 := hid hrd
    have HR4 := hid (HR3.out.kept hgw HGB.out)
    have HB4 := hid (HB3.out.grown hgw HB3.out.size (fun k e => by cases e; exact Nat.le_refl _))
    clear hrd hgw hsz HP
    by_cases hq0 : 0 < q
    · have hqi : (0 : Int) < (q : Int) := by omega
      have HP4 := hid (HPK.out _ 4 w4 HRD4.out (by omega) (by omega) (by omega))
      go_wp2_with fail
      refine HP4.out.mono ?_
      rintro e w5 ⟨⟨q2, hq2, rfl⟩, hrd, hgw, hsz⟩
      have HR5 := hid (HR4.out.kept hgw HGB.out)
      have HB5 := hid (HB4.out.grown hgw HB4.out.size (fun k e => by cases e; exact Nat.le_refl _))
      clear hrd hgw hsz HP4
      go_wp2_with fail
      refine bodyPost_ret (results_tmp3 rfl _ _ _) rfl ?_
      exact ⟨⟨_, c1, ts, _, _, rfl, HR5.out.strs HR5.out.lt, HD.out⟩, HB5.out⟩
    · have hqi : ¬ ((0 : Int) < (q : Int)) := by omega
      have HA := hid (HAT.out _ w4 HRD4.out (by omega) HR4.out)
      go_wp2_with fail
      refine HA.out.mono ?_
      rintro e v5 ⟨⟨y, hy0, hy1, rfl⟩, hrd, hgw, hsz⟩
      have HRD5 := hid hrd
      have HR5 := hid (HR4.out.kept hgw HGB.out)
      have HB5 := hid (HB4.out.grown hgw HB4.out.size (fun k e => by cases e; exact Nat.le_refl _))
      clear hrd hgw hsz HA
      have HP5 := hid (HPK.out _ 4 v5 HRD5.out (by omega) (by omega) (by omega))
      go_wp2_with fail
      refine HP5.out.mono ?_
      rintro e v6 ⟨⟨q2, hq2, rfl⟩, hrd, hgw, hsz⟩
      have HRD6 := hid hrd
      have HR6 := hid (HR5.out.kept hgw HGB.out)
      have HB6 := hid (HB5.out.grown hgw HB5.out.size (fun k e => by cases e; exact Nat.le_refl _))
      clear hrd hgw hsz HP5
      have HP6 := hid (HPK.out _ 24 v6 HRD6.out (by omega) (by omega) (by omega))
      go_wp2_with fail
      refine HP6.out.mono ?_
      rintro e v7 ⟨⟨q3, hq3, rfl⟩, hrd, hgw, hsz⟩
      have HR7 := hid (HR6.out.kept hgw HGB.out)
      have HB7 := hid (HB6.out.grown hgw HB6.out.size (fun k e => by cases e; exact Nat.le_refl _))
      obtain ⟨q4, hq4, hd4⟩ : ∃ q4 : Nat, q4 ≤ 1 ∧ (q3 : Int) / 23 = (q4 : Int) := ⟨q3 / 23, by omega, by omega⟩
      clear hrd hgw hsz HP6
      go_wp2_with fail
      refine bodyPost_ret (results_tmp3 rfl _ _ _) rfl ?_
      exact ⟨⟨_, c1, ts, _, _, rfl, HR7.out.strs HR7.out.lt, HD.out⟩, HB7.out⟩
  | false =>
    have HA := hid (HAT.out _ w3 HRD3.out (by omega) HR3.out)
    go_wp2_with fail
    refine HA.out.mono ?_
    rintro e v5 ⟨⟨y, hy0, hy1, rfl⟩, hrd, hgw, hsz⟩
    have HRD5 := hid hrd
    have HR5 := hid (HR3.out.kept hgw HGB.out)
    have HB5 := hid (HB3.out.grown hgw HB3.out.size (fun k e => by cases e; exact Nat.le_refl _))
    clear hrd hgw hsz HA
    have HP5 := hid (HPK.out _ 4 v5 HRD5.out (by omega) (by omega) (by omega))
    go_wp2_with fail
    refine HP5.out.mono ?_
    rintro e v6 ⟨⟨q2, hq2, rfl⟩, hrd, hgw, hsz⟩
    have HRD6 := hid hrd
    have HR6 := hid (HR5.out.kept hgw HGB.out)
    have HB6 := hid (HB5.out.grown hgw HB5.out.size (fun k e => by cases e; exact Nat.le_refl _))
    clear hrd hgw hsz HP5
    have HP6 := hid (HPK.out _ 24 v6 HRD6.out (by omega) (by omega) (by omega))
    go_wp2_with fail
    refine HP6.out.mono ?_
    rintro e v7 ⟨⟨q3, hq3, rfl⟩, hrd, hgw, hsz⟩
    have HR7 := hid (HR6.out.kept hgw HGB.out)
    have HB7 := hid (HB6.out.grown hgw HB6.out.size (fun k e => by cases e; exact Nat.le_refl _))
    obtain ⟨q4, hq4, hd4⟩ : ∃ q4 : Nat, q4 ≤ 1 ∧ (q3 : Int) / 23 = (q4 : Int) := ⟨q3 / 23, by omega, by omega⟩
    clear hrd hgw hsz HP6
    go_wp2_with fail
    refine bodyPost_ret (results_tmp3 rfl _ _ _) rfl ?_
    exact ⟨⟨_, c1, ts, _, _, rfl, HR7.out.strs HR7.out.lt, HD.out⟩, HB7.out⟩
theorem ring_facts {ss : List ByteArray} {cell d : Int} {n m c dd : Nat} (h : DirIn ss cell d n m c dd) :
    ∃ L : Nat, 1 ≤ L ∧ L ≤ 100 ∧ (ringI n m (lett m (pad (flat ss))) c dd).length = L ∧ ((L : Nat) : Int) ∈ lensR n m (lett m (pad (flat ss))) ∧ (ringI n m (lett m (pad (flat ss))) c dd)[0]? = some cell ∧
      ∀ j, j < L → ∃ a b : Nat, a ≤ 25 ∧ b ≤ 25 ∧ (ringI n m (lett m (pad (flat ss))) c dd)[j]? = some (a : Int) ∧ (ringI n m (lett m (pad (flat ss))) c dd)[(j + 1) % L]? = some (b : Int) ∧ Beside m a b := by
  obtain ⟨hg, rfl, hc, rfl, hdd, hon⟩ := h
  have h25 := hg.le25
  have hin := wayN_in (n := n) (m := m) (c := 4 * c + dd) (by omega)
  have f1 := goL_facts (t := lett m (pad (flat ss))) (wayN_d (m := m) (4 * c + dd)) hin
  have hL : goL n m (lett m (pad (flat ss))) (wayN m (4 * c + dd)) ≤ 4 * (n * m) := f1.2.1
  have e0 : cellN m (wayN m (4 * c + dd)) = c := by rw [cellN_way]; omega
  refine ⟨goL n m (lett m (pad (flat ss))) (wayN m (4 * c + dd)), f1.1, by omega, cellsI_length _ _ _, goL_mem (wayN_d _) hon, ?_, fun j hj => ?_⟩
  · unfold ringI cellsI
    rw [List.getElem?_map, List.getElem?_range (by have := f1.1; omega)]
    show some (((cellN m (wayN m (4 * c + dd)) : Nat) : Int)) = some ((c : Nat) : Int)
    rw [e0]
  · obtain ⟨a, b, h1, h2, h3, h4, h5⟩ := ring_beside (wayN_d _) hon hj
    exact ⟨a, b, by omega, by omega, h3, h4, h5⟩

section
variable {P : Program} {ops : Array Oper} {C : World → Prop} {Q : Act → Prop} {rest : List Oper} {o : Oper} {a : Act}
theorem wpQuiet_val (v : Value) (hw : Region.wanted o (yielded ops a.tmps) = true) (h : ∀ w, C w → (execOp a.eval o).run P w = .ok (.value v) w) (hk : wpQuiet P ops C Q rest (a.put o.dst v)) : wpQuiet P ops C Q (o :: rest) a := by
  unfold wpQuiet
  rw [if_pos hw]
  refine ⟨v, fun w hc => ?_, hk⟩
  unfold Oper.quietAt
  rw [h w hc]
  simp [Oper.quietUpon]
end

set_option maxRecDepth 100000 in
set_option maxHeartbeats 4000000 in
theorem walk (v : Value) (w : World) (hc : CameB w v) :
    Calls Try.prog 4 #[v] w fun e w' => e = .returned (.bool true) ∧ Below w.heap.size w w' := by
  obtain ⟨A, len, cap, rfl, hcode, hlc, hcap⟩ := hc
  have HCD := hid hcode
  clear hcode
  go_enter Try.func4, Try.ntmps4
  by_cases hbig : 1048576 < len
  · have hbi : (1048576 : Int) < (len : Int) := by omega
    go_wp2_with fail
    go_ret
    exact ⟨rfl, Below.refl _ _⟩
  have hbi : ¬ (1048576 : Int) < (len : Int) := by omega
  have HDR := hid (draw_any A len cap w HCD.out (by omega) hlc hcap)
  go_wp2_with fail
  refine HDR.out.mono ?_
  rintro e w1 ⟨⟨A1, c1, ts, x, y, rfl, hst, hd⟩, hb1⟩
  have HB1 := hid hb1
  have HST := hid hst
  have HN := hid (show ts.length ≤ 1048576 by have := hd.2.1; omega)
  have HNS := hid (show ∀ s ∈ ts, s.size ≤ 1048576 from fun s hs => by have := (hd.2.2 s hs).2; omega)
  have HI := hid (implRoundCells_any A1 c1 ts x y w1 hst HN.out HNS.out)
  clear hst hb1 HDR hd
  go_wp2_with fail
  refine HI.out.mono ?_
  rintro e w2 ⟨hb2, A2, c2, l, ok, rfl, hout, hown⟩
  have HO := hid hout
  have HW2 := hid hown
  have HB2 := hid (HB1.out.trans (hb2.mono HB1.out.size))
  have HT2 := hid ((HST.out.below hb2 (Nat.le_refl _)).more hb2.size)
  have HSP := hid (specRoundCells_any A1 c1 w2.heap.size ts x y w2 HT2.out (Nat.le_refl _) HN.out HNS.out)
  clear hb2 hout hown HI
  go_wp2_with fail
  refine HSP.out.mono ?_
  rintro e w3 ⟨hb3, A3, c3, l', ok', rfl, hout, hint⟩
  obtain ⟨rfl, rfl⟩ := HO.out.uniq hout
  have HW3 := hid (HW2.out.below hb3)
  have HI3 := hid hint
  have HB3 := hid (HB2.out.trans (hb3.mono HB2.out.size))
  have HT3 := hid ((HT2.out.below hb3 (Nat.le_refl _)).more hb3.size)
  have HLN := hid (show l'.length ≤ 1048576 by
    rcases hout with ⟨n, m, c, dd, h1, h2, h3, h4⟩ | ⟨h1, rfl, h3⟩
    · omega
    · decide)
  clear hb3 hout hint HSP
  have HSI0 := hid (sameInts_same A2 A3 c2 c3 w3.heap.size l' w3 HW3.out.ints HI3.out HLN.out)
  have HSI := hid (fun d => sameInts_same A2 A3 c2 c3 w3.heap.size l' (w3.drewN d) (HW3.out.ints.drewN d) (HI3.out.drewN d) HLN.out)
  rcases HO.out with ⟨n, m, cc, dd, hdi, hll, _, rfl⟩ | ⟨_, hnil, rfl⟩
  · obtain ⟨L, hL1, hL100, hlen, hmem, h0, hbs⟩ := ring_facts hdi
    rw [← hll] at hlen h0 hbs
    have hg := hdi.1
    have HG := hid hg
    have hm1 := hg.2.2.2.1
    have hm5 := hg.2.2.2.2.1
    have hts0 : 0 < ts.length := by rw [hg.1]; exact hg.2.1
    have HME := hid hmem
    have H0 := hid h0
    have HBS := hid hbs
    have HLE := hid hlen
    have hsi := HSI0.out
    rw [hlen] at hsi ⊢
    have HS0 := hid hsi
    clear hdi hll hlen hmem h0 hbs hg hsi
    go_wp2_with fail
    refine HS0.out.mono ?_
    rintro e w4 ⟨rfl, d4, rfl⟩
    have HT4 := hid (HT3.out.drewN d4)
    have HW4 := hid (HW3.out.below (below_drewN' (Below.refl _ w3) d4))
    have HB4 := hid (below_drewN' HB3.out d4)
    obtain ⟨w4, hw4⟩ : ∃ w4, w3.drewN d4 = w4 := ⟨_, rfl⟩
    have HZ4 := hid (show w3.heap.size = w4.heap.size by rw [← hw4]; rfl)
    rw [hw4] at HT4 HW4 HB4
    rw [hw4]
    clear hw4 HS0
    have HRL := hid (implRoundLengths_any A1 c1 ts w4 (by rw [HZ4.out] at HT4; exact HT4.out) HN.out HNS.out)
    go_wp2_with fail
    refine HRL.out.mono ?_
    rintro e w5 ⟨hb5, A5, c5, ll, p, rfl, hout, hown⟩
    obtain ⟨rfl, rfl⟩ : ll = lensR n m (lett m (pad (flat ts))) ∧ p = true := by
      rcases hout with ⟨n', m', h1, h2, h3⟩ | ⟨h1, _⟩
      · obtain ⟨rfl, rfl⟩ := HG.out.uniq h1
        exact ⟨h2, h3⟩
      · exact absurd HG.out (h1 _ _)
    have HL5 := hid hown
    have HW5 := hid (HW4.out.below hb5)
    have HB5 := hid (HB4.out.trans (hb5.mono HB4.out.size))
    have HT5 := hid ((HT4.out.below hb5 (Nat.le_of_eq HZ4.out)).more (Nat.le_trans (Nat.le_of_eq HZ4.out) hb5.size))
    have HKL := hid (hout.len)
    clear hb5 hout hown HRL
    generalize lensR n m (lett m (pad (flat ts))) = ll at *
    obtain ⟨K, hK⟩ : ∃ K, ll.length = K := ⟨_, rfl⟩
    have HKE := hid hK
    have hKb : ((K : Nat) : Int) ≤ 1048576 := by have := HKL.out; omega
    rw [hK]
    clear hK
    go_wp2_with fail
    go_loopw [12, 13] (fun (v iv : Value) (wr : World) => ∃ k : Nat, k ≤ K ∧ iv = .int .i64 k ∧ v = .bool ((ll.take k).any fun z => z == (L : Int)) ∧ ∃ d, wr = w5.drewN d) (fun _ iv _ => K - (intOf iv).toNat)
    case atStart => exact ⟨0, Nat.zero_le _, rfl, rfl, 0, rfl⟩
    case round =>
      obtain ⟨k, hk, rfl, rfl, d, rfl⟩ := hrel
      by_cases hlt : k < K
      · obtain ⟨z, hz⟩ : ∃ z, ll[k]? = some z := ⟨_, List.getElem?_eq_getElem (by rw [HKE.out]; exact hlt)⟩
        have HTK := hid (show (ll.take (k + 1)).any (fun z => z == (L : Int)) = ((ll.take k).any (fun z => z == (L : Int)) || (z == (L : Int))) by
          obtain ⟨h1, h2⟩ := List.getElem?_eq_some_iff.1 hz
          rw [List.take_succ_eq_append_getElem h1, List.any_append, h2]
          simp)
        have hki : (k : Int) < (K : Int) := by omega
        have hki0 : (0 : Int) ≤ (k : Int) := by omega
        cases hany : (ll.take k).any (fun z => z == (L : Int)) with
        | true =>
          have HT := hid (HTK.out.trans (by rw [hany, Bool.true_or]))
          clear hany hz
          go_wp2_with fail
          go_roundw
          case rel => exact ⟨k + 1, by omega, by go_num, by rw [HT.out], _, rfl⟩
          case measure => simp [intOf]; omega
        | false =>
          have HT := hid (HTK.out.trans (by rw [hany, Bool.false_or]))
          obtain ⟨b5, o5, z', rfl, _, hz', hc5⟩ := (HL5.out.ints).at_ (k := k) (by rw [HKE.out]; exact hlt)
          obtain rfl : z = z' := by rw [hz] at hz'; exact Option.some.inj hz'
          clear hany hz hz'
          go_wp2_with fail
          go_roundw
          case rel => exact ⟨k + 1, by omega, by go_num, by rw [HT.out], _, rfl⟩
          case measure => simp [intOf]; omega
      · obtain rfl : k = K := by omega
        have hany : (ll.take k).any (fun z => z == (L : Int)) = true := by
          rw [List.take_of_length_le (Nat.le_of_eq HKE.out), List.any_eq_true]
          exact ⟨_, HME.out, by simp⟩
        rw [hany]
        obtain ⟨b1, o1, s0, rfl, _, hk0, hc1⟩ := (HT5.out.drewN d).at_ (k := 0) hts0
        rw [Nat.add_zero] at hc1
        have hs0 : s0.size = m := (HG.out.2.2.2.2.2 s0 (List.mem_of_getElem? hk0)).1
        have hsi : ((s0.size : Nat) : Int) = (m : Int) := by rw [hs0]
        have htsi : (0 : Int) < (ts.length : Int) := by omega
        clear hany hk0 hs0
        go_wp2_with fail
        go_loopw [15] (fun (iv : Value) (wr : World) => ∃ i : Nat, i ≤ L ∧ iv = .int .i64 i ∧ ∃ d, wr = w5.drewN d) (fun iv _ => L - (intOf iv).toNat)
        case atStart => exact ⟨0, Nat.zero_le _, rfl, d, rfl⟩
        case round =>
          obtain ⟨i, hi, rfl, dw, rfl⟩ := hrel
          obtain ⟨bo, oo, hA2, _, hco⟩ := HW5.out.ints (by rw [HLE.out]; omega)
          by_cases hil : i < L
          · obtain ⟨a, b, ha25, hb25, ha, hb, hbe⟩ := HBS.out i hil
            have hca := hco i _ ha
            have hcb := hco _ _ hb
            obtain ⟨j, hj⟩ : ∃ j, (i + 1) % L = j := ⟨_, rfl⟩
            rw [hj] at hcb
            have hjL : j < L := by rw [← hj]; exact Nat.mod_lt _ (by omega)
            have hji : ((i : Int) + 1) % (L : Int) = (j : Int) := by rw [← hj]; rfl
            have hii : (i : Int) < (L : Int) := by omega
            have hjl : (j : Int) < (L : Int) := by omega
            have hi0 : (0 : Int) ≤ (i : Int) := by omega
            have hj0 : (0 : Int) ≤ (j : Int) := by omega
            have hLz : ((L : Int) == 0) = false := by simp; omega
            obtain ⟨qa, hqa⟩ : ∃ qa, a / m = qa := ⟨_, rfl⟩
            obtain ⟨qb, hqb⟩ : ∃ qb, b / m = qb := ⟨_, rfl⟩
            obtain ⟨ra, hra⟩ : ∃ ra, a % m = ra := ⟨_, rfl⟩
            obtain ⟨rb, hrb⟩ : ∃ rb, b % m = rb := ⟨_, rfl⟩
            have hqai : (a : Int) / (m : Int) = (qa : Int) := by rw [← hqa]; rfl
            have hqbi : (b : Int) / (m : Int) = (qb : Int) := by rw [← hqb]; rfl
            have hrai : (a : Int) % (m : Int) = (ra : Int) := by rw [← hra]; rfl
            have hrbi : (b : Int) % (m : Int) = (rb : Int) := by rw [← hrb]; rfl
            have hqa25 : qa ≤ 25 := by rw [← hqa]; exact Nat.le_trans (Nat.div_le_self _ _) ha25
            have hqb25 : qb ≤ 25 := by rw [← hqb]; exact Nat.le_trans (Nat.div_le_self _ _) hb25
            have hra25 : ra ≤ 25 := by rw [← hra]; exact Nat.le_trans (Nat.mod_le _ _) ha25
            have hrb25 : rb ≤ 25 := by rw [← hrb]; exact Nat.le_trans (Nat.mod_le _ _) hb25
            have ha0 : (0 : Int) ≤ (a : Int) := by omega
            have hb0 : (0 : Int) ≤ (b : Int) := by omega
            have hmi1 : (1 : Int) ≤ (m : Int) := by omega
            have hmz : ((m : Int) == 0) = false := by simp; omega
            have hmz' : ¬ m = 0 := by omega
            have hbe' : (qa = qb ∧ (ra + 1 = rb ∨ rb + 1 = ra)) ∨ (ra = rb ∧ (qa + 1 = qb ∨ qb + 1 = qa)) := by
              unfold Beside at hbe
              rw [hqa, hqb, hra, hrb] at hbe
              exact hbe
            obtain ⟨X1, hX1⟩ : ∃ X1 : Int, max ((qa : Int) - (qb : Int)) ((qb : Int) - (qa : Int)) = X1 := ⟨_, rfl⟩
            obtain ⟨X2, hX2⟩ : ∃ X2 : Int, max ((ra : Int) - (rb : Int)) ((rb : Int) - (ra : Int)) = X2 := ⟨_, rfl⟩
            have hX0 : 0 ≤ X1 ∧ X1 ≤ 1 ∧ 0 ≤ X2 ∧ X2 ≤ 1 ∧ X1 + X2 = 1 := by
              rw [← hX1, ← hX2]
              omega
            obtain ⟨hX10, hX11, hX20, hX21, hX12⟩ := hX0
            have HX1 := hid hX1
            have HX2 := hid hX2
            subst hA2
            clear hqa hqb hra hrb hbe' hX1 hX2
            clear ha hb hj hco hbe
            go_wp2_with fail
            have HTA := hid (show (a : Int).tmod (m : Int) = (ra : Int) by rw [Int.tmod_eq_emod_of_nonneg ha0, hrai])
            have HTB := hid (show (b : Int).tmod (m : Int) = (rb : Int) by rw [Int.tmod_eq_emod_of_nonneg hb0, hrbi])
            have HWR := hid (show ∀ u v : Nat, u ≤ 25 → v ≤ 25 → IntKind.i64.wrap ((u : Nat) : Int) = (u : Int) ∧ IntKind.i64.wrap ((u : Int) - (v : Int)) = (u : Int) - (v : Int) from fun u v hu hv => ⟨IntWalk.i64_in _ (by omega), IntWalk.i64_in _ (by omega)⟩)
            refine wp_region_quiet_lit (by kernel_rfl) (by kernel_rfl) ?_
            iterate 14 (quiet_step (fail))
            refine wpQuiet_val (.int .i64 X1) rfl (fun W hW => by
              go_simp
              simp only [(HWR.out qa qb hqa25 hqb25).1, (HWR.out qa qb hqa25 hqb25).2, (HWR.out qb qa hqb25 hqa25).1, (HWR.out qb qa hqb25 hqa25).2]
              exact HX1.out) ?_
            quiet_step (fail)
            refine wpQuiet_nil ?_
            intro _ hw'
            obtain ⟨n1, hw''⟩ := hw'
            subst hw''
            go_wp2_with fail
            refine wp_region_quiet_lit (by kernel_rfl) (by kernel_rfl) ?_
            iterate 14 (quiet_step (fail))
            refine wpQuiet_val (.int .i64 X2) rfl (fun W hW => by
              go_simp
              rw [HTA.out, HTB.out, (HWR.out ra rb hra25 hrb25).2, (HWR.out rb ra hrb25 hra25).2]
              exact HX2.out) ?_
            quiet_step (fail)
            refine wpQuiet_nil ?_
            intro _ hw'
            obtain ⟨n2, hw''⟩ := hw'
            subst hw''
            go_wp2_with fail
            go_roundw
            case rel => exact ⟨i + 1, by omega, by go_num, _, rfl⟩
            case measure => simp [intOf]; omega
          · obtain rfl : i = L := by omega
            have h0c := hco 0 _ H0.out
            rw [Nat.add_zero] at h0c
            have HBF := hid (below_drewN' HB5.out dw)
            have hL0 : (0 : Int) < (i : Int) := by omega
            subst hA2
            clear hco
            go_wp2_with fail
            go_ret
            exact ⟨rfl, HBF.out⟩
  · subst hnil
    have HSA := hid HSI0.out
    go_wp2_with fail
    refine HSA.out.mono ?_
    rintro e w4 ⟨rfl, d4, rfl⟩
    go_wp2_with fail
    refine (HSI.out _).mono ?_
    rintro e w5 ⟨rfl, d5, rfl⟩
    have HB5 := hid (below_drewN' HB3.out (d4 + d5))
    go_wp2_with fail
    go_ret
    exact ⟨rfl, HB5.out⟩

set_option maxRecDepth 100000 in
theorem lifted (os : Os) (started : os.Started) (H : Type) (enc : TypeId × Value → H) :
    ReturnsInHanded {} Try.checked os 4 .any (Rows.fnCellsSpec.pre6 enc Try.prog Try.f4 Rows.fnCellsRow.domain false) (Rows.fnCellsSpec.post enc Try.prog Try.f4 false true false false) := by
  refine returnsInHanded_of_change (C := Try.checked) Try.own started (by kernel_rfl) Try.func4
    (ChangeSpec.witness6 (enc := enc) (C := Try.checked) false ⟨#[], #[.slice none 0 0], []⟩ 8 (by kernel_rfl) (by kernel_rfl) (by kernel_rfl) (by kernel_rfl)) ?_
  intro W base args ds gs before hval0 hW hcnd _
  have hval : ∀ (j : Nat) t v, Try.f4.params[j]? = some t → args[j]? = some v → Value.okWide Try.prog W .any base t v := hval0
  have hW' := hW
  obtain ⟨p, q, hA0, hV, rfl, hfz, hnd⟩ := hW
  have hA : DataW.TrodAll enc Try.prog W 0 (fun _ => true) true Try.f4.params.toList args.toList ds p := hA0
  rw [Try.params4] at hA hval
  obtain ⟨v0, vs0, d0, ds0, p0, q0, hargs, rfl, rfl, h0, r0⟩ := trodAll_cons hA
  obtain ⟨rfl, rfl, rfl⟩ := trodAll_nil r0
  obtain rfl : args = #[v0] := by cases args; simp_all
  obtain ⟨rfl, rfl⟩ := trodVars_none hV
  have k0 := h0
  have lt0 : ∀ x ∈ p0, x.block < W.heap.size := by obtain ⟨m, hm⟩ := k0; exact DataW.trod_lt m _ _ _ hm
  have c0 := cameB_of (hval 0 22 v0 rfl rfl) h0
  clear hA0 hval0
  refine (walk v0 W c0).mono fun e W' ⟨he, bel⟩ => ?_
  subst he
  exact ⟨_, rfl, _, _, _, [], _, [], hW', trodAll_mk1 (shut_bool Try.underlying4 _), (trodAll_cons_mk (Below.trod Try.laidOut (by kernel_rfl) (of_decide_eq_true (by kernel_rfl)) k0 bel lt0) trodAll_mk0), rfl, bel.frame _, fun h => by cases h⟩

theorem closed : joinedFacts Try.pinned.checked.prog 4 Try.f4 Rows.fnCellsSpec Rows.fnCellsRow = true := by
  unfold joinedFacts
  exact and8 (by as_aux_lemma => kernel_rfl) head_enter head_lifts head_make (by as_aux_lemma => kernel_rfl) (by as_aux_lemma => kernel_rfl) (by as_aux_lemma => kernel_rfl) (by as_aux_lemma => kernel_rfl)

theorem proved : Rows.FnCellsSaid :=
  OpenClaim.holds_of_wide 4 Try.f4 rfl rfl rfl rfl rfl rfl rfl ⟨rfl, rfl, rfl, rfl, rfl⟩ rfl rfl rfl rfl rfl (by kernel_rfl) Try.func4 closed
    (of_decide_eq_true (by kernel_rfl)) (by unfold Func.isWrapper; first | (rw [if_pos (by decide +kernel)]; kernel_rfl) | (rw [if_neg (by decide +kernel)]; exact ⟨rfl, rfl⟩))
    (fun os started H enc _ => lifted os started H enc)
#print axioms proved

end Go.Proofs.Ytmdgbcepjnfbnaa.lawFnCells
