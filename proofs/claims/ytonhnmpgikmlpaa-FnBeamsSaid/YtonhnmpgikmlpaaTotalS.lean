/- CrossTotal and CrossRounds of the specification, by their contracts. -/
import Derived.Test.YtonhnmpgikmlpaaCrossJ
import Derived.Test.YtonhnmpgikmlpaaBunR
namespace Go.Proofs.Ytonhnmpgikmlpaa
open Go.RowKit Go.Shelf

/-- A path goes through its cell once or twice. -/
theorem pathL_one {n m c : Nat} {t : Int → Int → UInt8} (hc : c < n * m) : 1 ≤ (pathL n m t c).count ((c : Nat) : Int) ∧ (pathL n m t c).count ((c : Nat) : Int) ≤ 2 := by
  have hx := placeN_in hc
  have hd : (placeN m c).d < 4 := Nat.zero_lt_succ 3
  have g1 := goL_facts (t := t) (x := placeN m c) hd hx
  have g2 := goL_facts (t := t) (x := rev t (placeN m c)) (rev_d _) (rev_in.2 hx)
  have c1 := count_cellsP (bw := iter t (placeN m c)) hc g1.2.2.1
  have c2 := count_cellsP (bw := iter t (rev t (placeN m c))) hc g2.2.2.1
  have r1 := (cntAt_ret (t := t) (i := (placeN m c).i) (k := (placeN m c).k) hd hx ⟨rfl, rfl⟩).1
  unfold cntAt at r1
  unfold pathL
  cases hon : onR n m t (placeN m c) with
  | true =>
    rw [if_pos rfl, c1]
    have r2 := cnt_round (t := t) (i := (placeN m c).i) (k := (placeN m c).k) hd hx
    unfold cntAt at r2
    exact ⟨r1, r2⟩
  | false =>
    rw [if_neg (by decide), List.count_append, c1]
    have h3 : (cellsI m (iter t (rev t (placeN m c))) (goL n m t (rev t (placeN m c)))).count ((c : Nat) : Int) = 1 + ((cellsI m (iter t (rev t (placeN m c))) (goL n m t (rev t (placeN m c)))).drop 1).count ((c : Nat) : Int) := by
      obtain ⟨L, hL⟩ : ∃ L, goL n m t (rev t (placeN m c)) = L + 1 := ⟨goL n m t (rev t (placeN m c)) - 1, by have := g2.1; omega⟩
      have h0 : (cellsI m (iter t (rev t (placeN m c))) (L + 1)) = ((c : Nat) : Int) :: (cellsI m (iter t (rev t (placeN m c))) (L + 1)).drop 1 := by
        have e0 : ((cellN m (iter t (rev t (placeN m c)) 0) : Nat) : Int) = ((c : Nat) : Int) := by
          have : cellN m (iter t (rev t (placeN m c)) 0) = c := cellN_place m c
          rw [this]
        unfold cellsI
        rw [List.range_succ_eq_map, List.map_cons, e0]
        rfl
      rw [hL]
      conv => lhs; rw [h0]
      rw [List.count_cons]
      simp
      omega
    rw [c2] at h3
    have r3 := cnt_beam (t := t) (i := (placeN m c).i) (k := (placeN m c).k) (Nat.zero_lt_succ 3) hx hon
    unfold cntAt at r3
    have e : (⟨(placeN m c).i, (placeN m c).k, 0⟩ : Wy) = placeN m c := rfl
    rw [e] at r3
    omega
theorem totalR_eq (n m : Nat) (t : Int → Int → UInt8) (c : Nat) : crossC n m t [0, 1, 2] c = (emptyC m t c && !selfB n m t (placeN m c).i (placeN m c).k) := by
  have h := atN_le (n := n) (m := m) (t := t) c
  have hm : decide (((atN n m t c : Nat) : Int) ∈ ([0, 1, 2] : List Int)) = true := by
    rw [decide_eq_true_iff]
    simp only [List.mem_cons, List.mem_nil_iff, or_false]
    omega
  unfold crossC
  rw [hm, Bool.and_true]
theorem roundsR_eq (n m : Nat) (t : Int → Int → UInt8) (c : Nat) : crossC n m t [2] c = (emptyC m t c && ((atN n m t c == 2) && !selfB n m t (placeN m c).i (placeN m c).k)) := by
  have hm : decide (((atN n m t c : Nat) : Int) ∈ ([2] : List Int)) = (atN n m t c == 2) := by
    rw [Bool.eq_iff_iff, decide_eq_true_iff, beq_iff_eq]
    simp only [List.mem_cons, List.mem_nil_iff, or_false]
    omega
  unfold crossC
  rw [hm, Bool.and_comm (!_)]

set_option maxRecDepth 100000 in
set_option maxHeartbeats 2000000 in
theorem specCrossTotal_any (A : Option Addr) (c B : Nat) (ss : List ByteArray) (w : World) (h : Strs w B A ss) (hB : B ≤ w.heap.size) (hn : ss.length ≤ 1048576) (hs : ∀ s ∈ ss, s.size ≤ 1048576) :
    Calls Try.prog 21 #[.slice A ss.length c] w fun e w' => Below w.heap.size w w' ∧ ∃ x ok, e = .returned (.tuple #[.int .i64 x, .bool ok]) ∧ GridOut (crossR [0, 1, 2]) ss x ok := by
  have HI := hid (specGridIn_any A c B ss w h hn hs)
  have HD := hid h
  clear h hs
  go_enter Try.func21, Try.ntmps21
  go_wp2_with fail
  refine HI.out.mono ?_
  rintro e w' ⟨ok, rfl, hok, d, rfl⟩
  have HO := hid hok
  clear hok
  have HBd := hid (below_drewN' (Below.refl w.heap.size w) d)
  cases ok with
  | false =>
    go_wp2_with fail
    refine bodyPost_ret (results_tmp2 rfl _ _ _) rfl ?_
    exact ⟨HBd.out, 0, false, rfl, .inr ⟨noGrid_of HO.out, rfl, rfl⟩⟩
  | true =>
    obtain ⟨n, m, hg⟩ := HO.out.1 rfl
    have HG := hid hg
    have h25 := hg.le25
    have hn1 := hg.2.1
    have hn5 := hg.2.2.1
    have hm5 := hg.2.2.2.2.1
    have hnl := hg.1
    obtain ⟨b, off, s0, rfl, hb, hk0, _⟩ := HD.out.at_ (k := 0) (by omega)
    have hs0 : s0.size = m := (hg.2.2.2.2.2 s0 (List.mem_of_getElem? hk0)).1
    have hs0i : ((s0.size : Nat) : Int) = (m : Int) := by rw [hs0]
    have hl0 : (0 : Int) < (ss.length : Int) := by omega
    have HK := hid hk0
    obtain ⟨K, hK⟩ : ∃ K, n * m = K := ⟨_, rfl⟩
    have hKi : (n : Int) * (m : Int) = (K : Int) := by rw [← hK]; simp
    obtain ⟨N, hN⟩ : ∃ N, 4 * (n * m) = N := ⟨_, rfl⟩
    have HN := hid hN
    have HKK := hid hK
    have HNL := hid hnl
    have hK25 : (K : Int) ≤ 25 := by omega
    have hK0 : (0 : Int) ≤ (K : Int) := by omega
    have HST := hid (fun W (hb : Below w.heap.size w W) => HD.out.below hb hB)
    have HCE := hid (show ∀ (x : Nat) (W : World), x < K → Below w.heap.size w W → ∃ bt : UInt8, emptyC m (lett m (pad (flat ss))) x = (bt == 46) ∧ ((bt.toNat : Int) == 46) = (bt == 46) ∧ Calls Try.prog 75 #[.slice (some ⟨b, off, none⟩) ss.length c, .int .i64 (x : Int)] W fun e w' => e = .returned (.int .u8 bt.toNat) ∧ ∃ d', w' = W.drewN d' from fun x W hx hbW => by
      obtain ⟨bt, h1, h2, h3⟩ := flat_empty hg (c := x) (by rw [hK]; exact hx)
      exact ⟨bt, h2, h3, l2Cell_any _ c B n m x ss bt W (HST.out W hbW) hg (by rw [hK]; exact hx) h1⟩)
    have HPA := hid (fun (x : Nat) (W : World) (hx : x < K) (hbW : Below w.heap.size w W) => l4Path_any _ c B n m x ss W (HST.out W hbW) (Nat.le_trans hB hbW.size) hg (by rw [hK]; exact hx))
    have HONE := hid (fun (x : Nat) (hx : x < K) => pathL_one (n := n) (m := m) (c := x) (t := lett m (pad (flat ss))) (by rw [hK]; exact hx))
    have HTWO := hid (fun (x : Nat) (hx : x < K) => pathL_two (n := n) (m := m) (c := x) (t := lett m (pad (flat ss))) (by rw [hK]; exact hx))
    have HLEN := hid (show ∀ (x : Nat), x < K → (pathL n m (lett m (pad (flat ss))) x).length ≤ 200 from fun x hx => by
      have := pathL_len (n := n) (m := m) (c := x) (t := lett m (pad (flat ss))) (by rw [hK]; exact hx)
      omega)
    have HCR := hid (fun x => totalR_eq n m (lett m (pad (flat ss))) x)
    have HRX := hid (show ∀ K', n * m = K' → ((((List.range K').countP (crossC n m (lett m (pad (flat ss))) [0, 1, 2]) : Nat) : Int), true) = crossR [0, 1, 2] n m (lett m (pad (flat ss))) from fun K' h => by rw [← h]; rfl)
    rw [HNL.out] at hl0 HCE HPA ⊢
    clear hg hk0 hs0 hnl hK hN
    go_wp2_with fail
    go_loopw [4, 5] (fun (v i : Value) (wr : World) => ∃ x : Nat, x ≤ K ∧ i = .int .i64 x ∧ v = .int .i64 (((List.range x).countP (crossC n m (lett m (pad (flat ss))) [0, 1, 2]) : Nat) : Int) ∧ Below w.heap.size w wr) (fun _ i _ => K - (intOf i).toNat)
    case atStart => exact ⟨0, Nat.zero_le _, rfl, rfl, HBd.out⟩
    case round =>
      obtain ⟨x, hx, rfl, rfl, hbx⟩ := hrel
      have HBX := hid hbx
      clear hbx
      have hle : (List.range x).countP (crossC n m (lett m (pad (flat ss))) [0, 1, 2]) ≤ x := by
        have := List.countP_le_length (l := List.range x) (p := crossC n m (lett m (pad (flat ss))) [0, 1, 2])
        rwa [List.length_range] at this
      have hsuc : (List.range (x + 1)).countP (crossC n m (lett m (pad (flat ss))) [0, 1, 2]) = (List.range x).countP (crossC n m (lett m (pad (flat ss))) [0, 1, 2]) + (if crossC n m (lett m (pad (flat ss))) [0, 1, 2] x = true then 1 else 0) := by
        rw [List.range_succ, List.countP_append]
        simp [List.countP_cons]
      obtain ⟨u, hu⟩ : ∃ u, (List.range x).countP (crossC n m (lett m (pad (flat ss))) [0, 1, 2]) = u := ⟨_, rfl⟩
      have HUU := hid hu
      rw [hu] at hle hsuc ⊢
      clear hu
      have hc0 := (HST.out wr HBX.out).cell_ HK.out
      rw [Nat.add_zero] at hc0
      by_cases hlt : x < K
      · have hxi : (x : Int) < (K : Int) := by omega
        have hxi0 : (0 : Int) ≤ (x : Int) := by omega
        have hui : (u : Int) ≤ 25 := by omega
        have hui0 : (0 : Int) ≤ (u : Int) := by omega
        obtain ⟨bt, he, h46, hcell⟩ := HCE.out x wr hlt HBX.out
        have hcr := HCR.out x
        have hone := HONE.out x hlt
        have htwo := HTWO.out x hlt
        have hlen := HLEN.out x hlt
        have HP := hid (fun W hb => HPA.out x W hlt hb)
        rw [he] at hcr
        rw [← htwo] at hcr
        generalize pathL n m (lett m (pad (flat ss))) x = pl at *
        have HLN := hid hlen
        obtain ⟨k, hk⟩ : ∃ k, pl.count ((x : Nat) : Int) = k := ⟨_, rfl⟩
        have HKC := hid hk
        rw [hk] at hone hcr
        have HCELL := hid hcell
        have HSU := hid hsuc
        have HCRX := hid hcr
        clear hsuc hk hcell hcr he hlen htwo
        cases hbt : (bt == 46) with
        | false =>
          rw [hbt] at h46
          have hcf : crossC n m (lett m (pad (flat ss))) [0, 1, 2] x = false := by rw [HCRX.out, hbt]; rfl
          have HX := hid (show (List.range (x + 1)).countP (crossC n m (lett m (pad (flat ss))) [0, 1, 2]) = u by rw [HSU.out, if_neg (by rw [hcf]; decide), Nat.add_zero])
          clear hbt hcf
          go_wp2_with fail
          refine HCELL.out.mono ?_
          rintro e w2 ⟨rfl, d2, rfl⟩
          go_wp2_with fail
          go_roundw
          case rel => exact ⟨x + 1, by omega, by go_num, by rw [HX.out], below_drewN' HBX.out d2⟩
          case measure => simp [intOf]; omega
        | true =>
          rw [hbt] at h46
          have HBT := hid hbt
          clear hbt
          obtain hk1 | hk2 : k = 1 ∨ k = 2 := by omega
          · have hcf : crossC n m (lett m (pad (flat ss))) [0, 1, 2] x = true := by rw [HCRX.out, HBT.out, hk1]; rfl
            have HX := hid (show (List.range (x + 1)).countP (crossC n m (lett m (pad (flat ss))) [0, 1, 2]) = u + 1 by rw [HSU.out, if_pos hcf])
            have HK1 := hid hk1
            clear hcf hk1 hone
            go_wp2_with fail
            refine HCELL.out.mono ?_
            rintro e w2 ⟨rfl, d2, rfl⟩
            have HB2 := hid (below_drewN' HBX.out d2)
            go_wp2_with fail
            refine (HP.out _ HB2.out).mono ?_
            rintro e w3 ⟨⟨A1, c1, rfl, hi1⟩, hb3⟩
            have HB3 := hid (HB2.out.trans (hb3.mono HB2.out.size))
            have HOF := hid (l2Often_any A1 c1 w3.heap.size pl ((x : Nat) : Int) w3 hi1 (by have := HLN.out; omega))
            rw [HKC.out, HK1.out] at HOF
            clear hi1 hb3
            go_wp2_with fail
            refine HOF.out.mono ?_
            rintro e w4 ⟨rfl, d4, rfl⟩
            go_wp2_with fail
            go_roundw
            case rel => exact ⟨x + 1, by omega, by go_num, by rw [HX.out]; go_num, below_drewN' HB3.out d4⟩
            case measure => simp [intOf]; omega
          · have hcf : crossC n m (lett m (pad (flat ss))) [0, 1, 2] x = false := by rw [HCRX.out, HBT.out, hk2]; rfl
            have HX := hid (show (List.range (x + 1)).countP (crossC n m (lett m (pad (flat ss))) [0, 1, 2]) = u by rw [HSU.out, if_neg (by rw [hcf]; decide), Nat.add_zero])
            have HK1 := hid hk2
            clear hcf hk2 hone
            go_wp2_with fail
            refine HCELL.out.mono ?_
            rintro e w2 ⟨rfl, d2, rfl⟩
            have HB2 := hid (below_drewN' HBX.out d2)
            go_wp2_with fail
            refine (HP.out _ HB2.out).mono ?_
            rintro e w3 ⟨⟨A1, c1, rfl, hi1⟩, hb3⟩
            have HB3 := hid (HB2.out.trans (hb3.mono HB2.out.size))
            have HOF := hid (l2Often_any A1 c1 w3.heap.size pl ((x : Nat) : Int) w3 hi1 (by have := HLN.out; omega))
            rw [HKC.out, HK1.out] at HOF
            clear hi1 hb3
            go_wp2_with fail
            refine HOF.out.mono ?_
            rintro e w4 ⟨rfl, d4, rfl⟩
            go_wp2_with fail
            go_roundw
            case rel => exact ⟨x + 1, by omega, by go_num, by rw [HX.out], below_drewN' HB3.out d4⟩
            case measure => simp [intOf]; omega
      · obtain rfl : x = K := by omega
        have HRX2 := hid (show (((u : Nat) : Int), true) = crossR [0, 1, 2] n m (lett m (pad (flat ss))) by rw [← HUU.out]; exact HRX.out x HKK.out)
        clear hsuc hle
        go_wp2_with fail
        refine bodyPost_ret (results_tmp2 rfl _ _ _) rfl ?_
        exact ⟨HBX.out, _, true, rfl, .inl ⟨n, m, HG.out, HRX2.out⟩⟩
end Go.Proofs.Ytonhnmpgikmlpaa
