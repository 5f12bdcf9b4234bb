/- CrossBetween of the specification, by its contract. -/
import Derived.Test.YtonhnmpgikmlpaaBunU
import Derived.Test.YtonhnmpgikmlpaaBunJ
import Derived.Test.YtonhnmpgikmlpaaBunO
namespace Go.Proofs.Ytonhnmpgikmlpaa
open Go.RowKit Go.Shelf

set_option maxRecDepth 100000 in
set_option maxHeartbeats 4000000 in
theorem specCrossBetween_any (A : Option Addr) (c B : Nat) (ss : List ByteArray) (p q : Int) (w : World) (h : Strs w B A ss) (hB : B ≤ w.heap.size) (hn : ss.length ≤ 1048576) (hs : ∀ s ∈ ss, s.size ≤ 1048576) :
    Calls Try.prog 17 #[.slice A ss.length c, .int .i64 p, .int .i64 q] w fun e w' => Below w.heap.size w w' ∧ ∃ x ok, e = .returned (.tuple #[.int .i64 x, .bool ok]) ∧ BothOut ss p q x ok := by
  have HI := hid (l2Given_any A c B ss p w h hn hs)
  have HI2 := hid (fun d => l2Given_any A c B ss q (w.drewN d) (h.drewN d) hn hs)
  have HD := hid h
  clear h hs
  go_enter Try.func17, Try.ntmps17
  go_wp2_with fail
  refine HI.out.mono ?_
  rintro e w' ⟨ok, rfl, hok, d, rfl⟩
  have HBd := hid (below_drewN' (Below.refl w.heap.size w) d)
  rcases hok with ⟨rfl, n, m, a, ha⟩ | ⟨rfl, hno⟩
  · have HA := hid ha
    clear ha
    go_wp2_with fail
    refine (HI2.out d).mono ?_
    rintro e w' ⟨ok, rfl, hok, d2, rfl⟩
    have HBd2 := hid (below_drewN' HBd.out d2)
    rcases hok with ⟨rfl, n', m', b, hb⟩ | ⟨rfl, hno⟩
    · obtain ⟨rfl, rfl⟩ := HA.out.1.uniq hb.1
      have HBq := hid hb
      clear hb
      have hpa := HA.out.2.1
      have hqb := HBq.out.2.1
      subst hpa
      subst hqb
      have hg := HA.out.1
      have HD2 := hid ((HD.out.drewN d).drewN d2)
      have hBs : B ≤ ((w.drewN d).drewN d2).heap.size := hB
      generalize (w.drewN d).drewN d2 = w0 at *
      have hn1 := hg.2.1
      have hm1 := hg.2.2.2.1
      have c1 := hid (l2Way_port A c B n m a ss w0 HD2.out hBs hg HA.out.2.2)
      have c2 := hid (fun (w' : World) (hb : Below w0.heap.size w0 w') => l2Way_port A c B n m b ss w' (HD2.out.below hb hBs) (Nat.le_trans hBs hb.size) hg HBq.out.2.2)
      rw [cellsI_nat] at c1 c2
      have HLA := hid (show (bcells n m (lett m (pad (flat ss))) a).length ≤ 100 by
        rw [bcells_length]
        have h1 := blen_lt (t := lett m (pad (flat ss))) HA.out.2.2
        have h2 := hg.le25
        omega)
      have HLB := hid (show (bcells n m (lett m (pad (flat ss))) b).length ≤ 100 by
        rw [bcells_length]
        have h1 := blen_lt (t := lett m (pad (flat ss))) HBq.out.2.2
        have h2 := hg.le25
        omega)
      have HBOT := hid (fun A1 c1 A2 c2 w' (hb : Below w0.heap.size w0 w') (hi1 : Ints w' w'.heap.size A1 (natI (bcells n m (lett m (pad (flat ss))) a))) (hi2 : Ints w' w'.heap.size A2 (natI (bcells n m (lett m (pad (flat ss))) b))) => l5Both_any A c B n m ss A1 c1 w'.heap.size (bcells n m (lett m (pad (flat ss))) a) w' (HD2.out.below hb hBs) hg hi1 A2 c2 w'.heap.size (bcells n m (lett m (pad (flat ss))) b) hi2 HLB.out bcells_lt HLA.out (fun c => count_le2 (n := n) (m := m) (c := c) HBq.out.2.2 hm1))
      have HALL := hid (fun (h1 : a ≠ b) (h2 : bend_ n m (lett m (pad (flat ss))) a ≠ b) => show bothE m (lett m (pad (flat ss))) (bcells n m (lett m (pad (flat ss))) a) (bcells n m (lett m (pad (flat ss))) b) (bcells n m (lett m (pad (flat ss))) a).length = bothN n m (lett m (pad (flat ss))) a b by
        rw [bcells_length]
        exact bothE_all hn1 hm1 HA.out.2.2 HBq.out.2.2 h1 h2 (fun e => h2 (by rw [e]; exact (back_facts hn1 hm1 HBq.out.2.2).2)))
      clear hg hn1 hm1
      go_wp2_with fail
      refine c1.out.mono ?_
      rintro e w1 ⟨v, v', rfl, hv, _, hb1⟩
      obtain ⟨A1, cc1, rfl, hint1⟩ := hv.ints
      rw [natI_length]
      have HB1 := hid hb1
      have HI1 := hid hint1
      clear hb1 hv hint1
      generalize hEA : bend_ n m (lett m (pad (flat ss))) a = ea
      have HEA := hid hEA
      clear hEA
      go_wp2_with fail
      refine (c2.out w1 HB1.out).mono ?_
      rintro e w2 ⟨v2, v2', rfl, hv2, _, hb2⟩
      obtain ⟨A2, cc2, rfl, hint2⟩ := hv2.ints
      rw [natI_length]
      have HB2 := hid (HB1.out.trans (hb2.mono HB1.out.size))
      have HIa := hid (show Ints w2 w2.heap.size A1 (natI (bcells n m (lett m (pad (flat ss))) a)) from (HI1.out.below hb2 (Nat.le_refl _)).more hb2.size)
      have HIb := hid hint2
      have HCB := hid (HBOT.out A1 cc1 A2 cc2 w2 HB2.out HIa.out HIb.out)
      clear hb2 hv2 hint2
      generalize bend_ n m (lett m (pad (flat ss))) b = eb
      generalize bcells n m (lett m (pad (flat ss))) a = ba at *
      generalize bcells n m (lett m (pad (flat ss))) b = bb at *
      by_cases hab : a = b
      · have HSm := hid (meet_none_same HA.out HBq.out (.inl hab))
        have hab' : (a : Int) = (b : Int) := by omega
        subst hab
        go_wp2_with fail
        refine bodyPost_ret (results_tmp2 rfl _ _ _) rfl ?_
        exact ⟨HBd2.out.trans (HB2.out.mono HBd2.out.size), 0, false, rfl, .inr ⟨HSm.out, rfl, rfl⟩⟩
      · have hab' : ¬ (a : Int) = (b : Int) := by omega
        by_cases heb : ea = b
        · have HSm := hid (meet_none_same HA.out HBq.out (.inr (by rw [HEA.out]; exact heb)))
          subst heb
          go_wp2_with fail
          refine bodyPost_ret (results_tmp2 rfl _ _ _) rfl ?_
          exact ⟨HBd2.out.trans (HB2.out.mono HBd2.out.size), 0, false, rfl, .inr ⟨HSm.out, rfl, rfl⟩⟩
        · have heb' : ¬ (ea : Int) = (b : Int) := by omega
          have HMI := hid (show MeetIn ss a b n m a b from ⟨HA.out, HBq.out, hab, by rw [HEA.out]; exact heb⟩)
          have HAL := hid (HALL.out hab (by rw [HEA.out]; exact heb))
          have hbe1 : ((a : Int) == (b : Int)) = false := beq_eq_false_iff_ne.2 hab'
          have hbe2 : ((ea : Int) == (b : Int)) = false := beq_eq_false_iff_ne.2 heb'
          go_wp2_with fail
          refine HCB.out.mono ?_
          rintro e w3 ⟨rfl, d3, rfl⟩
          go_wp2_with fail
          refine bodyPost_ret (results_tmp2 rfl _ _ _) rfl ?_
          exact ⟨below_drewN' (HBd2.out.trans (HB2.out.mono HBd2.out.size)) _, _, true, rfl, .inl ⟨n, m, a, b, HMI.out, by rw [HAL.out], rfl⟩⟩
    · have HNo := hid (meet_none_q (p := p) hno)
      clear hno
      go_wp2_with fail
      refine bodyPost_ret (results_tmp2 rfl _ _ _) rfl ?_
      exact ⟨below_drewN' (Below.refl w.heap.size w) _, 0, false, rfl, .inr ⟨HNo.out, rfl, rfl⟩⟩
  · have HNo := hid (meet_none_p (q := q) hno)
    clear hno
    go_wp2_with fail
    refine bodyPost_ret (results_tmp2 rfl _ _ _) rfl ?_
    exact ⟨HBd.out, 0, false, rfl, .inr ⟨HNo.out, rfl, rfl⟩⟩
end Go.Proofs.Ytonhnmpgikmlpaa
