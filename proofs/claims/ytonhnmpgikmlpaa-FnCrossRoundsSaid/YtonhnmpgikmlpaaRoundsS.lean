/- CrossRounds of the specification, by its contract. -/
import Derived.Test.YtonhnmpgikmlpaaTotalS
namespace Go.Proofs.Ytonhnmpgikmlpaa
open Go.RowKit Go.Shelf

set_option maxRecDepth 100000 in
set_option maxHeartbeats 2000000 in
theorem specCrossRounds_any (A : Option Addr) (c B : Nat) (ss : List ByteArray) (w : World) (h : Strs w B A ss) (hB : B ≤ w.heap.size) (hn : ss.length ≤ 1048576) (hs : ∀ s ∈ ss, s.size ≤ 1048576) :
    Calls Try.prog 31 #[.slice A ss.length c] w fun e w' => Below w.heap.size w w' ∧ ∃ x ok, e = .returned (.tuple #[.int .i64 x, .bool ok]) ∧ GridOut (crossR [2]) ss x ok := by
  have HI := hid (specGridIn_any A c B ss w h hn hs)
  have HD := hid h
  clear h hs
  go_enter Try.func31, Try.ntmps31
  go_wp2_with fail
  refine HI.out.mono ?_
  rintro e w' ⟨ok, rfl, hok, d, rfl⟩
  have HO := hid hok
  clear hok
  have HBd := hid (below_drewN' (Below.refl w.heap.size w) d)
  cases ok with
  | false =>
    go_wp2_with fail
    refine bodyPost_ret (results_tmp2 rfl _ _ _) rfl ?_
    exact ⟨HBd.out, 0, false, rfl, .inr ⟨noGrid_of HO.out, rfl, rfl⟩⟩
  | true =>
    obtain ⟨n, m, hg⟩ := HO.out.1 rfl
    have c1 := hid (l3Marks_any A c B n m ss (w.drewN d) (HD.out.drewN d) hB hg)
    have HG := hid hg
    have h25 := hg.le25
    have hn1 := hg.2.1
    have hn5 := hg.2.2.1
    have hm5 := hg.2.2.2.2.1
    have hnl := hg.1
    obtain ⟨b, off, s0, rfl, hb, hk0, _⟩ := HD.out.at_ (k := 0) (by omega)
    have hs0 : s0.size = m := (hg.2.2.2.2.2 s0 (List.mem_of_getElem? hk0)).1
    have hs0i : ((s0.size : Nat) : Int) = (m : Int) := by rw [hs0]
    have hl0 : (0 : Int) < (ss.length : Int) := by omega
    have HK := hid hk0
    obtain ⟨K, hK⟩ : ∃ K, n * m = K := ⟨_, rfl⟩
    have hKi : (n : Int) * (m : Int) = (K : Int) := by rw [← hK]; simp
    obtain ⟨N, hN⟩ : ∃ N, 4 * (n * m) = N := ⟨_, rfl⟩
    have HN := hid hN
    have HKK := hid hK
    have HNL := hid hnl
    have hK25 : (K : Int) ≤ 25 := by omega
    have hK0 : (0 : Int) ≤ (K : Int) := by omega
    have HST := hid (fun W (hb : Below w.heap.size w W) => HD.out.below hb hB)
    have HCE := hid (show ∀ (x : Nat) (W : World), x < K → Below w.heap.size w W → ∃ bt : UInt8, emptyC m (lett m (pad (flat ss))) x = (bt == 46) ∧ ((bt.toNat : Int) == 46) = (bt == 46) ∧ Calls Try.prog 75 #[.slice (some ⟨b, off, none⟩) ss.length c, .int .i64 (x : Int)] W fun e w' => e = .returned (.int .u8 bt.toNat) ∧ ∃ d', w' = W.drewN d' from fun x W hx hbW => by
      obtain ⟨bt, h1, h2, h3⟩ := flat_empty hg (c := x) (by rw [hK]; exact hx)
      exact ⟨bt, h2, h3, l2Cell_any _ c B n m x ss bt W (HST.out W hbW) hg (by rw [hK]; exact hx) h1⟩)
    have HPA := hid (fun (x : Nat) (W : World) (hx : x < K) (hbW : Below w.heap.size w W) => l4Path_any _ c B n m x ss W (HST.out W hbW) (Nat.le_trans hB hbW.size) hg (by rw [hK]; exact hx))
    have HONE := hid (fun (x : Nat) (hx : x < K) => pathL_one (n := n) (m := m) (c := x) (t := lett m (pad (flat ss))) (by rw [hK]; exact hx))
    have HTWO := hid (fun (x : Nat) (hx : x < K) => pathL_two (n := n) (m := m) (c := x) (t := lett m (pad (flat ss))) (by rw [hK]; exact hx))
    have HLEN := hid (show ∀ (x : Nat), x < K → (pathL n m (lett m (pad (flat ss))) x).length ≤ 200 from fun x hx => by
      have := pathL_len (n := n) (m := m) (c := x) (t := lett m (pad (flat ss))) (by rw [hK]; exact hx)
      omega)
    have HCR := hid (fun x => roundsR_eq n m (lett m (pad (flat ss))) x)
    have HRX := hid (show ∀ K', n * m = K' → ((((List.range K').countP (crossC n m (lett m (pad (flat ss))) [2]) : Nat) : Int), true) = crossR [2] n m (lett m (pad (flat ss))) from fun K' h => by rw [← h]; rfl)
    rw [HNL.out] at hl0 HCE HPA ⊢
    rw [hN] at c1
    rw [HNL.out] at c1
    clear hg hk0 hs0 hnl
    go_wp2_with fail
    refine c1.out.mono ?_
    rintro e w1 ⟨g, _, rfl, hma, hb1⟩
    have HB1 := hid (HBd.out.trans hb1)
    have HAT := hid (fun x W (hx : x < K) (hb : Below w1.heap.size w1 W) => l3At_any g N n m x (lett m (pad (flat ss))) W HN.out (by have := HN.out; omega) (by rw [HKK.out]; exact hx) (hma.below hb))
    clear hb1 hma hK hN
    have HW1 := hid (Below.refl w1.heap.size w1)
    go_wp2_with fail
    go_loopw [4, 6] (fun (v i : Value) (wr : World) => ∃ x : Nat, x ≤ K ∧ i = .int .i64 x ∧ v = .int .i64 (((List.range x).countP (crossC n m (lett m (pad (flat ss))) [2]) : Nat) : Int) ∧ Below w.heap.size w wr ∧ Below w1.heap.size w1 wr) (fun _ i _ => K - (intOf i).toNat)
    case atStart => exact ⟨0, Nat.zero_le _, rfl, rfl, HB1.out, HW1.out⟩
    case round =>
      obtain ⟨x, hx, rfl, rfl, hbx, hbx1⟩ := hrel
      have HBX := hid hbx
      have HBX1 := hid hbx1
      clear hbx hbx1
      have hle : (List.range x).countP (crossC n m (lett m (pad (flat ss))) [2]) ≤ x := by
        have := List.countP_le_length (l := List.range x) (p := crossC n m (lett m (pad (flat ss))) [2])
        rwa [List.length_range] at this
      have hsuc : (List.range (x + 1)).countP (crossC n m (lett m (pad (flat ss))) [2]) = (List.range x).countP (crossC n m (lett m (pad (flat ss))) [2]) + (if crossC n m (lett m (pad (flat ss))) [2] x = true then 1 else 0) := by
        rw [List.range_succ, List.countP_append]
        simp [List.countP_cons]
      obtain ⟨u, hu⟩ : ∃ u, (List.range x).countP (crossC n m (lett m (pad (flat ss))) [2]) = u := ⟨_, rfl⟩
      have HUU := hid hu
      rw [hu] at hle hsuc ⊢
      clear hu
      have hc0 := (HST.out wr HBX.out).cell_ HK.out
      rw [Nat.add_zero] at hc0
      by_cases hlt : x < K
      · have hxi : (x : Int) < (K : Int) := by omega
        have hxi0 : (0 : Int) ≤ (x : Int) := by omega
        have hui : (u : Int) ≤ 25 := by omega
        have hui0 : (0 : Int) ≤ (u : Int) := by omega
        obtain ⟨bt, he, h46, hcell⟩ := HCE.out x wr hlt HBX.out
        have hcr := HCR.out x
        have hone := HONE.out x hlt
        have htwo := HTWO.out x hlt
        have hlen := HLEN.out x hlt
        have HP := hid (fun W hb => HPA.out x W hlt hb)
        rw [he] at hcr
        rw [← htwo] at hcr
        generalize pathL n m (lett m (pad (flat ss))) x = pl at *
        have HLN := hid hlen
        obtain ⟨k, hk⟩ : ∃ k, pl.count ((x : Nat) : Int) = k := ⟨_, rfl⟩
        have HKC := hid hk
        rw [hk] at hone hcr
        have HCELL := hid hcell
        have HATX := hid (fun W hb => HAT.out x W hlt hb)
        obtain ⟨av, hav⟩ : ∃ av, atN n m (lett m (pad (flat ss))) x = av := ⟨_, rfl⟩
        rw [hav] at hcr HATX
        clear hav
        have HSU := hid hsuc
        have HCRX := hid hcr
        clear hsuc hk hcell hcr he hlen htwo
        cases hbt : (bt == 46) with
        | false =>
          rw [hbt] at h46
          have hcf : crossC n m (lett m (pad (flat ss))) [2] x = false := by rw [HCRX.out, hbt]; rfl
          have HX := hid (show (List.range (x + 1)).countP (crossC n m (lett m (pad (flat ss))) [2]) = u by rw [HSU.out, if_neg (by rw [hcf]; decide), Nat.add_zero])
          clear hbt hcf
          go_wp2_with fail
          refine HCELL.out.mono ?_
          rintro e w2 ⟨rfl, d2, rfl⟩
          go_wp2_with fail
          go_roundw
          case rel => exact ⟨x + 1, by omega, by go_num, by rw [HX.out], below_drewN' HBX.out d2, below_drewN' HBX1.out d2⟩
          case measure => simp [intOf]; omega
        | true =>
          rw [hbt] at h46
          have HBT := hid hbt
          clear hbt
          by_cases hav : av = 2
          · obtain hk1 | hk2 : k = 1 ∨ k = 2 := by omega
            · have hcf : crossC n m (lett m (pad (flat ss))) [2] x = true := by rw [HCRX.out, HBT.out, hk1, hav]; rfl
              have HX := hid (show (List.range (x + 1)).countP (crossC n m (lett m (pad (flat ss))) [2]) = u + 1 by rw [HSU.out, if_pos hcf])
              have HK1 := hid hk1
              rw [hav] at HATX
              clear hcf hk1 hone hav
              go_wp2_with fail
              refine HCELL.out.mono ?_
              rintro e w2 ⟨rfl, d2, rfl⟩
              have HB2 := hid (below_drewN' HBX.out d2)
              have HB21 := hid (below_drewN' HBX1.out d2)
              go_wp2_with fail
              refine (HATX.out _ HB21.out).mono ?_
              rintro e w3 ⟨rfl, rfl⟩
              go_wp2_with fail
              refine (HP.out _ HB2.out).mono ?_
              rintro e w3 ⟨⟨A1, c1, rfl, hi1⟩, hb3⟩
              have HB3 := hid (HB2.out.trans (hb3.mono HB2.out.size))
              have HB31 := hid (HB21.out.trans (hb3.mono HB21.out.size))
              have HOF := hid (l2Often_any A1 c1 w3.heap.size pl ((x : Nat) : Int) w3 hi1 (by have := HLN.out; omega))
              rw [HKC.out, HK1.out] at HOF
              clear hi1 hb3
              go_wp2_with fail
              refine HOF.out.mono ?_
              rintro e w4 ⟨rfl, d4, rfl⟩
              go_wp2_with fail
              go_roundw
              case rel => exact ⟨x + 1, by omega, by go_num, by rw [HX.out]; go_num, below_drewN' HB3.out d4, below_drewN' HB31.out d4⟩
              case measure => simp [intOf]; omega
            · have hcf : crossC n m (lett m (pad (flat ss))) [2] x = false := by rw [HCRX.out, HBT.out, hk2]; simp
              have HX := hid (show (List.range (x + 1)).countP (crossC n m (lett m (pad (flat ss))) [2]) = u by rw [HSU.out, if_neg (by rw [hcf]; decide), Nat.add_zero])
              have HK1 := hid hk2
              rw [hav] at HATX
              clear hcf hk2 hone hav
              go_wp2_with fail
              refine HCELL.out.mono ?_
              rintro e w2 ⟨rfl, d2, rfl⟩
              have HB2 := hid (below_drewN' HBX.out d2)
              have HB21 := hid (below_drewN' HBX1.out d2)
              go_wp2_with fail
              refine (HATX.out _ HB21.out).mono ?_
              rintro e w3 ⟨rfl, rfl⟩
              go_wp2_with fail
              refine (HP.out _ HB2.out).mono ?_
              rintro e w3 ⟨⟨A1, c1, rfl, hi1⟩, hb3⟩
              have HB3 := hid (HB2.out.trans (hb3.mono HB2.out.size))
              have HB31 := hid (HB21.out.trans (hb3.mono HB21.out.size))
              have HOF := hid (l2Often_any A1 c1 w3.heap.size pl ((x : Nat) : Int) w3 hi1 (by have := HLN.out; omega))
              rw [HKC.out, HK1.out] at HOF
              clear hi1 hb3
              go_wp2_with fail
              refine HOF.out.mono ?_
              rintro e w4 ⟨rfl, d4, rfl⟩
              go_wp2_with fail
              go_roundw
              case rel => exact ⟨x + 1, by omega, by go_num, by rw [HX.out], below_drewN' HB3.out d4, below_drewN' HB31.out d4⟩
              case measure => simp [intOf]; omega
          · have hav2 : (av == 2) = false := beq_eq_false_iff_ne.2 hav
            have hav2i : ((av : Int) == 2) = false := by rw [beq_eq_false_iff_ne]; omega
            have hcf : crossC n m (lett m (pad (flat ss))) [2] x = false := by rw [HCRX.out, HBT.out, hav2]; rfl
            have HX := hid (show (List.range (x + 1)).countP (crossC n m (lett m (pad (flat ss))) [2]) = u by rw [HSU.out, if_neg (by rw [hcf]; decide), Nat.add_zero])
            clear hcf hone hav hav2
            go_wp2_with fail
            refine HCELL.out.mono ?_
            rintro e w2 ⟨rfl, d2, rfl⟩
            have HB2 := hid (below_drewN' HBX.out d2)
            have HB21 := hid (below_drewN' HBX1.out d2)
            go_wp2_with fail
            refine (HATX.out _ HB21.out).mono ?_
            rintro e w3 ⟨rfl, rfl⟩
            go_wp2_with fail
            go_roundw
            case rel => exact ⟨x + 1, by omega, by go_num, by rw [HX.out], HB2.out, HB21.out⟩
            case measure => simp [intOf]; omega
      · obtain rfl : x = K := by omega
        have HRX2 := hid (show (((u : Nat) : Int), true) = crossR [2] n m (lett m (pad (flat ss))) by rw [← HUU.out]; exact HRX.out x HKK.out)
        clear hsuc hle
        go_wp2_with fail
        refine bodyPost_ret (results_tmp2 rfl _ _ _) rfl ?_
        exact ⟨HBX.out, _, true, rfl, .inl ⟨n, m, HG.out, HRX2.out⟩⟩
end Go.Proofs.Ytonhnmpgikmlpaa
