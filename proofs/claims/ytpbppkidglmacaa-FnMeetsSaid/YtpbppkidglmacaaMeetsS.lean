/- BeamMeets of the specification, by its contract. -/
import Derived.Test.YtpbppkidglmacaaMeetsM
import Derived.Test.YtpbppkidglmacaaSpecEnd
namespace Go.Proofs.Ytpbppkidglmacaa
open Go.RowKit Go.Shelf

def MtRel (g : Nat → Bool) (N : Nat) (w : World) (nv iv : Value) (wr : World) : Prop :=
  ∃ k : Nat, k ≤ N ∧ nv = .int .i64 (((List.range k).countP g : Nat) : Int) ∧ iv = .int .i64 (k : Int) ∧ ∃ d, wr = w.drewN d
theorem range_snoc (g : Nat → Bool) (k : Nat) : (List.range (k + 1)).countP g = (List.range k).countP g + (if g k = true then 1 else 0) := by
  rw [List.range_succ, List.countP_append, List.countP_cons, List.countP_nil, Nat.zero_add]

set_option maxRecDepth 100000 in
set_option maxHeartbeats 4000000 in
theorem specBeamMeets_any (A : Option Addr) (c B : Nat) (ss : List ByteArray) (p q : Int) (w : World) (h : Strs w B A ss) (hB : B ≤ w.heap.size) (hn : ss.length ≤ 1048576) (hs : ∀ s ∈ ss, s.size ≤ 1048576) :
    Calls Try.prog 42 #[.slice A ss.length c, .int .i64 p, .int .i64 q] w fun e w' => Below w.heap.size w w' ∧ ∃ x ok, e = .returned (.tuple #[.int .i64 x, .bool ok]) ∧ MeetOut ss p q x ok := by
  have HI := hid (l2Given_any A c B ss p w h hn hs)
  have HI2 := hid (fun d => l2Given_any A c B ss q (w.drewN d) (h.drewN d) hn hs)
  have HD := hid h
  clear h hs
  go_enter Try.func42, Try.ntmps42
  go_wp2_with fail
  refine HI.out.mono ?_
  rintro e w' ⟨ok, rfl, hok, d, rfl⟩
  have HBd := hid (below_drewN' (Below.refl w.heap.size w) d)
  rcases hok with ⟨rfl, n, m, a, ha⟩ | ⟨rfl, hno⟩
  · have HA := hid ha
    clear ha
    go_wp2_with fail
    refine (HI2.out d).mono ?_
    rintro e w' ⟨ok, rfl, hok, d2, rfl⟩
    have HBd2 := hid (below_drewN' HBd.out d2)
    rcases hok with ⟨rfl, n', m', b, hb⟩ | ⟨rfl, hno⟩
    · obtain ⟨rfl, rfl⟩ := HA.out.1.uniq hb.1
      have HBq := hid hb
      clear hb
      have hpa := HA.out.2.1
      have hqb := HBq.out.2.1
      subst hpa
      subst hqb
      have hg := HA.out.1
      have HD2 := hid ((HD.out.drewN d).drewN d2)
      have hBs : B ≤ ((w.drewN d).drewN d2).heap.size := hB
      generalize (w.drewN d).drewN d2 = w0 at *
      have c1 := hid (l2Way_port A c B n m a ss w0 HD2.out hBs hg HA.out.2.2)
      have c2 := hid (fun (w' : World) (hb : Below w0.heap.size w0 w') => l2Way_port A c B n m b ss w' (HD2.out.below hb hBs) (Nat.le_trans hBs hb.size) hg HBq.out.2.2)
      have HCA := hid (count_cells n m (lett m (pad (flat ss))) a)
      have HCB := hid (count_cells n m (lett m (pad (flat ss))) b)
      have HLA := hid (show (cellsI m (bway n m (lett m (pad (flat ss))) a) (blen n m (lett m (pad (flat ss))) a)).length ≤ 100 by
        rw [cellsI_length]
        have h1 := blen_lt (t := lett m (pad (flat ss))) HA.out.2.2
        have h2 := hg.le25
        omega)
      have HLB := hid (show (cellsI m (bway n m (lett m (pad (flat ss))) b) (blen n m (lett m (pad (flat ss))) b)).length ≤ 100 by
        rw [cellsI_length]
        have h1 := blen_lt (t := lett m (pad (flat ss))) HBq.out.2.2
        have h2 := hg.le25
        omega)
      have HGA := hid (show ∀ c, goesC n m (lett m (pad (flat ss))) a c = decide (0 < (bcells n m (lett m (pad (flat ss))) a).count c) from fun _ => rfl)
      have HGB := hid (show ∀ c, goesC n m (lett m (pad (flat ss))) b c = decide (0 < (bcells n m (lett m (pad (flat ss))) b).count c) from fun _ => rfl)
      have HMN := hid (show meetN n m (lett m (pad (flat ss))) a b = (List.range (n * m)).countP fun c => goesC n m (lett m (pad (flat ss))) a c && goesC n m (lett m (pad (flat ss))) b c from rfl)
      have HCL := hid (fun x => (show (bcells n m (lett m (pad (flat ss))) a).count x ≤ 2 from count_le2 HA.out.2.2 hg.2.2.2.1))
      have HCL2 := hid (fun x => (show (bcells n m (lett m (pad (flat ss))) b).count x ≤ 2 from count_le2 HBq.out.2.2 hg.2.2.2.1))
      have HN25 := hid hg.le25
      have hnl := hg.1
      have hn1 := hg.2.1
      have hn5 := hg.2.2.1
      have hm5 := hg.2.2.2.2.1
      obtain ⟨bk, off, s0, rfl, hbk, hk0, hc0'⟩ := HD2.out.at_ (k := 0) (by omega)
      have hs0 : s0.size = m := (hg.2.2.2.2.2 s0 (List.mem_of_getElem? hk0)).1
      have HKs := hid hk0
      have HS0 := hid (show ((s0.size : Nat) : Int) = (m : Int) by rw [hs0])
      have HNL := hid (show ((ss.length : Nat) : Int) = (n : Int) by rw [hnl])
      have HL0 := hid (show (0 : Int) < (ss.length : Int) by omega)
      clear hk0 hc0' hs0 hnl hg
      go_wp2_with fail
      refine c1.out.mono ?_
      rintro e w1 ⟨v, v', rfl, hv, _, hb1⟩
      obtain ⟨A1, cc1, rfl, hint1⟩ := hv.ints
      have HB1 := hid hb1
      have HI1 := hid hint1
      clear hb1 hv hint1
      generalize hEA : bend_ n m (lett m (pad (flat ss))) a = ea
      have HEA := hid hEA
      clear hEA
      go_wp2_with fail
      refine (c2.out w1 HB1.out).mono ?_
      rintro e w2 ⟨v2, v2', rfl, hv2, _, hb2⟩
      obtain ⟨A2, cc2, rfl, hint2⟩ := hv2.ints
      have HB2 := hid (HB1.out.trans (hb2.mono HB1.out.size))
      have HIa := hid (show Ints w2 w2.heap.size A1 (cellsI m (bway n m (lett m (pad (flat ss))) a) (blen n m (lett m (pad (flat ss))) a)) from (HI1.out.below hb2 (Nat.le_refl _)).more hb2.size)
      have HIb := hid hint2
      have HSt := hid (HD2.out.below HB2.out hBs)
      clear hb2 hv2 hint2
      generalize bend_ n m (lett m (pad (flat ss))) b = eb
      generalize cellsI m (bway n m (lett m (pad (flat ss))) a) (blen n m (lett m (pad (flat ss))) a) = ca at *
      generalize cellsI m (bway n m (lett m (pad (flat ss))) b) (blen n m (lett m (pad (flat ss))) b) = cb at *
      generalize bcells n m (lett m (pad (flat ss))) a = ba at *
      generalize bcells n m (lett m (pad (flat ss))) b = bb at *
      by_cases hab : a = b
      · have HSm := hid (meet_none_same HA.out HBq.out (.inl hab))
        have hab' : (a : Int) = (b : Int) := by omega
        subst hab
        go_wp2_with fail
        refine bodyPost_ret (results_tmp2 rfl _ _ _) rfl ?_
        exact ⟨HBd2.out.trans (HB2.out.mono HBd2.out.size), 0, false, rfl, .inr ⟨HSm.out, rfl, rfl⟩⟩
      · have hab' : ¬ (a : Int) = (b : Int) := by omega
        by_cases heb : ea = b
        · have HSm := hid (meet_none_same HA.out HBq.out (.inr (by rw [HEA.out]; exact heb)))
          subst heb
          go_wp2_with fail
          refine bodyPost_ret (results_tmp2 rfl _ _ _) rfl ?_
          exact ⟨HBd2.out.trans (HB2.out.mono HBd2.out.size), 0, false, rfl, .inr ⟨HSm.out, rfl, rfl⟩⟩
        · have heb' : ¬ (ea : Int) = (b : Int) := by omega
          have HMI := hid (show MeetIn ss a b n m a b from ⟨HA.out, HBq.out, hab, by rw [HEA.out]; exact heb⟩)
          have HOA := hid (fun (x : Int) (w' : World) (h : Ints w' w2.heap.size A1 ca) => l2Often_any A1 cc1 w2.heap.size ca x w' h (by have := HLA.out; omega))
          have HOB := hid (fun (x : Int) (w' : World) (h : Ints w' w2.heap.size A2 cb) => l2Often_any A2 cc2 w2.heap.size cb x w' h (by have := HLB.out; omega))
          have HPR := hid (show (n : Int) * (m : Int) = ((n * m : Nat) : Int) by rw [Int.natCast_mul])
          generalize n * m = N at *
          generalize goesC n m (lett m (pad (flat ss))) a = ga at *
          generalize goesC n m (lett m (pad (flat ss))) b = gb at *
          have hbe1 : ((a : Int) == (b : Int)) = false := beq_eq_false_iff_ne.2 hab'
          have hbe2 : ((ea : Int) == (b : Int)) = false := beq_eq_false_iff_ne.2 heb'
          go_wp2_with fail
          go_loopw [14, 15] (MtRel (fun c => ga c && gb c) N w2) (fun _ i _ => N - (intOf i).toNat)
          case atStart => exact ⟨0, Nat.zero_le _, rfl, rfl, 0, rfl⟩
          case round =>
            obtain ⟨k, hk, rfl, rfl, d3, rfl⟩ := hrel
            have hcl : (List.range k).countP (fun c => ga c && gb c) ≤ k := Nat.le_trans List.countP_le_length (by simp)
            have hsn := range_snoc (fun c => ga c && gb c) k
            obtain ⟨tk, htk⟩ : ∃ tk, (List.range k).countP (fun c => ga c && gb c) = tk := ⟨_, rfl⟩
            rw [htk] at hcl hsn ⊢
            have HTK := hid htk
            clear htk
            have HSN := hid hsn
            clear hsn
            have hst := HSt.out.drewN d3
            have hc0 := hst.cell_ HKs.out
            rw [Nat.add_zero] at hc0
            have hl0 := HL0.out
            have hs0 := HS0.out
            have hnl := HNL.out
            have hpr := HPR.out
            have hn25 := HN25.out
            clear hst
            by_cases hlt : k < N
            · have hki : (k : Int) < (N : Int) := by omega
              have hoa := hid (HOA.out (k : Int) (w2.drewN d3) (HIa.out.drewN d3))
              have hob := hid (fun d4 => HOB.out (k : Int) (w2.drewN d4) (HIb.out.drewN d4))
              rw [HCA.out] at hoa
              rw [HCB.out] at hob
              have hxa := HCL.out k
              have hxb := HCL2.out k
              have hga := HGA.out k
              have hgb := HGB.out k
              generalize ba.count k = xa at *
              generalize bb.count k = xb at *
              by_cases ha0 : 0 < xa
              · have ha0' : (0 : Int) < (xa : Int) := by omega
                rw [decide_eq_true ha0] at hga
                have HGAk := hid hga
                clear hga
                by_cases hb0 : 0 < xb
                · have hb0' : (0 : Int) < (xb : Int) := by omega
                  rw [decide_eq_true hb0] at hgb
                  have HSX := hid (show (List.range (k + 1)).countP (fun c => ga c && gb c) = tk + 1 by rw [HSN.out, HGAk.out, hgb]; rfl)
                  clear hgb
                  go_wp2_with fail
                  refine hoa.out.mono ?_
                  rintro e w3 ⟨rfl, d4, rfl⟩
                  go_wp2_with fail
                  refine (hob.out _).mono ?_
                  rintro e w3 ⟨rfl, d5, rfl⟩
                  go_wp2_with fail
                  go_roundw
                  case rel => exact ⟨k + 1, by omega, by rw [HSX.out]; go_num, by go_num, _, rfl⟩
                  case measure => simp [intOf]; omega
                · have hb0' : ¬ (0 : Int) < (xb : Int) := by omega
                  rw [decide_eq_false hb0] at hgb
                  have HSX := hid (show (List.range (k + 1)).countP (fun c => ga c && gb c) = tk by rw [HSN.out, HGAk.out, hgb]; rfl)
                  clear hgb
                  go_wp2_with fail
                  refine hoa.out.mono ?_
                  rintro e w3 ⟨rfl, d4, rfl⟩
                  go_wp2_with fail
                  refine (hob.out _).mono ?_
                  rintro e w3 ⟨rfl, d5, rfl⟩
                  go_wp2_with fail
                  go_roundw
                  case rel => exact ⟨k + 1, by omega, by rw [HSX.out], by go_num, _, rfl⟩
                  case measure => simp [intOf]; omega
              · have ha0' : ¬ (0 : Int) < (xa : Int) := by omega
                rw [decide_eq_false ha0] at hga
                have HSX := hid (show (List.range (k + 1)).countP (fun c => ga c && gb c) = tk by rw [HSN.out, hga]; rfl)
                clear hga
                go_wp2_with fail
                refine hoa.out.mono ?_
                rintro e w3 ⟨rfl, d4, rfl⟩
                go_wp2_with fail
                go_roundw
                case rel => exact ⟨k + 1, by omega, by rw [HSX.out], by go_num, _, rfl⟩
                case measure => simp [intOf]; omega
            · obtain rfl : k = N := by omega
              have hki : ¬ (k : Int) < (k : Int) := by omega
              go_wp2_with fail
              refine bodyPost_ret (results_tmp2 rfl _ _ _) rfl ?_
              refine ⟨below_drewN' (HBd2.out.trans (HB2.out.mono HBd2.out.size)) _, (tk : Int), .inr ⟨rfl, .inl ⟨n, m, a, b, HMI.out, ?_, rfl⟩⟩⟩
              rw [HMN.out, HTK.out]
    · have HNo := hid (meet_none_q (p := p) hno)
      clear hno
      go_wp2_with fail
      refine bodyPost_ret (results_tmp2 rfl _ _ _) rfl ?_
      exact ⟨below_drewN' (Below.refl w.heap.size w) _, 0, false, rfl, .inr ⟨HNo.out, rfl, rfl⟩⟩
  · have HNo := hid (meet_none_p (q := q) hno)
    clear hno
    go_wp2_with fail
    refine bodyPost_ret (results_tmp2 rfl _ _ _) rfl ?_
    exact ⟨HBd.out, 0, false, rfl, .inr ⟨HNo.out, rfl, rfl⟩⟩
end Go.Proofs.Ytpbppkidglmacaa
