/- GridPart of the specification, by its contract. -/
import Derived.Test.YtonhnmpgikmlpaaBunW
namespace Go.Proofs.Ytonhnmpgikmlpaa
open Go.RowKit Go.Shelf

def OutPart (n1 m1 a : Nat) (f : Nat → Nat → UInt8) (w : World) (v i : Value) (wr : World) : Prop :=
  ∃ r : Nat, r ≤ n1 ∧ i = .int .i64 ((a + r : Nat) : Int) ∧ GrowS wr w.heap.size v ((ruleG n1 m1 f).take r) ∧ Below w.heap.size w wr
theorem cut_row {n m a l m1 r : Nat} {ss : List ByteArray} {s : ByteArray} (h : IsGrid n m ss) (hs : ss[a + r]? = some s) (h2 : l + m1 ≤ m) : s.extract l (l + m1) = ⟨(ruleL m1 (partF m a l (flat ss) r)).toArray⟩ := by
  have hsz : s.size = m := (h.2.2.2.2.2 s (List.mem_of_getElem? hs)).1
  have e : (s.extract l (l + m1)).data.toList = ruleL m1 (partF m a l (flat ss) r) := by
    rw [Lib.extract_data, Nat.add_sub_cancel_left]
    apply List.ext_getElem?
    intro q
    by_cases hq : q < m1
    · have e2 := flat_at ss (a + r) (l + q) s (fun i t _ ht => (h.2.2.2.2.2 t (List.mem_of_getElem? ht)).1) hs (by omega)
      have hl : l + q < s.data.toList.length := by rw [← Lib.size_eq]; omega
      rw [List.getElem?_take_of_lt hq, List.getElem?_drop, List.getElem?_eq_getElem hl]
      rw [List.getElem?_eq_getElem hl] at e2
      simp only [ruleL, partF, List.getElem?_map, List.getElem?_range hq, Option.map_some, List.getD_eq_getElem?_getD, e2, Option.getD_some]
    · rw [List.getElem?_eq_none (by rw [List.length_take]; omega), List.getElem?_eq_none (by rw [ruleL_length]; omega)]
  rw [← e]

set_option maxRecDepth 100000 in
set_option maxHeartbeats 2000000 in
theorem specGridPart_any (A : Option Addr) (c B : Nat) (ss : List ByteArray) (t lo le ri : Int) (w : World) (h : Strs w B A ss) (hB : B ≤ w.heap.size) (hn : ss.length ≤ 1048576) (hs : ∀ s ∈ ss, s.size ≤ 1048576) :
    Calls Try.prog 56 #[.slice A ss.length c, .int .i64 t, .int .i64 lo, .int .i64 le, .int .i64 ri] w fun e w' => Below w.heap.size w w' ∧ ∃ A c res ok, e = .returned (.tuple #[.slice A res.length c, .bool ok]) ∧ PartOut ss t lo le ri ok res ∧ Strs w' w'.heap.size A res := by
  have HI := hid (specGridIn_any A c B ss w h hn hs)
  have HD := hid h
  have HBB := hid hB
  clear h hs hB
  go_enter Try.func56, Try.ntmps56
  go_wp2_with fail
  refine HI.out.mono ?_
  rintro e w' ⟨ok, rfl, hok, d, rfl⟩
  have HO := hid hok
  clear hok
  have HBd := hid (below_drewN' (Below.refl w.heap.size w) d)
  cases ok with
  | false =>
    have HNo := hid (show ∀ n m a n1 l m1, ¬ PartIn ss t lo le ri n m a n1 l m1 from fun n m a n1 l m1 h => noGrid_of HO.out _ _ h.1)
    go_wp2_with fail
    refine (l1None_any _).mono ?_
    rintro e w1 ⟨⟨A1, c1, rfl⟩, hb1⟩
    have HB1 := hid (HBd.out.trans hb1)
    clear hb1
    go_wp2_with fail
    refine bodyPost_ret (results_tmp2 rfl _ _ _) rfl ?_
    exact ⟨HB1.out, A1, c1, [], false, rfl, .inr ⟨HNo.out, rfl, rfl⟩, Strs.nil_ _ _ _⟩
  | true =>
    obtain ⟨n, m, hg⟩ := HO.out.1 rfl
    obtain ⟨b, off, s0, rfl, hb, hk0, hc0⟩ := HD.out.at_ (k := 0) (by have := hg.1; have := hg.2.1; omega)
    rw [Nat.add_zero] at hc0
    have hm0 : s0.size = m := (hg.2.2.2.2.2 s0 (List.mem_of_getElem? hk0)).1
    have hmi : ((s0.size : Nat) : Int) = (m : Int) := by rw [hm0]
    have hn5 := hg.2.2.1
    have hm5 := hg.2.2.2.2.1
    have hnl := hg.1
    have hl0 : (0 : Int) < (n : Int) := by have := hg.2.1; omega
    have HG := hid hg
    have HNL := hid hnl
    rw [hnl]
    clear hg hk0 hm0 hnl
    have g1 := hid (fun w => l6In_any t 0 ((n : Int) - 1) w)
    have g2 := hid (fun w => l6In_any lo t ((n : Int) - 1) w)
    have g3 := hid (fun w => l6In_any le 0 ((m : Int) - 1) w)
    have g4 := hid (fun w => l6In_any ri le ((m : Int) - 1) w)
    go_wp2_with fail
    refine (g1.out _).mono ?_
    rintro e w' ⟨rfl, rfl⟩
    by_cases h1 : 0 ≤ t ∧ t ≤ (n : Int) - 1
    · rw [show decide (0 ≤ t ∧ t ≤ (n : Int) - 1) = true by simpa using h1]
      have H1 := hid h1
      clear h1
      go_wp2_with fail
      refine (g2.out _).mono ?_
      rintro e w' ⟨rfl, rfl⟩
      by_cases h2 : t ≤ lo ∧ lo ≤ (n : Int) - 1
      · rw [show decide (t ≤ lo ∧ lo ≤ (n : Int) - 1) = true by simpa using h2]
        have H2 := hid h2
        clear h2
        go_wp2_with fail
        refine (g3.out _).mono ?_
        rintro e w' ⟨rfl, rfl⟩
        by_cases h3 : 0 ≤ le ∧ le ≤ (m : Int) - 1
        · rw [show decide (0 ≤ le ∧ le ≤ (m : Int) - 1) = true by simpa using h3]
          have H3 := hid h3
          clear h3
          go_wp2_with fail
          refine (g4.out _).mono ?_
          rintro e w' ⟨rfl, rfl⟩
          by_cases h4 : le ≤ ri ∧ ri ≤ (m : Int) - 1
          · rw [show decide (le ≤ ri ∧ ri ≤ (m : Int) - 1) = true by simpa using h4]
            have H4 := hid h4
            clear h4
            obtain ⟨a, rfl⟩ : ∃ a : Nat, t = a := ⟨t.toNat, by have := H1.out.1; omega⟩
            obtain ⟨l, rfl⟩ : ∃ l : Nat, le = l := ⟨le.toNat, by have := H3.out.1; omega⟩
            obtain ⟨n1, hn1⟩ : ∃ n1 : Nat, lo = ((a + n1 : Nat) : Int) - 1 := ⟨(lo - a + 1).toNat, by have := H2.out; omega⟩
            obtain ⟨m1, hm1⟩ : ∃ m1 : Nat, ri = ((l + m1 : Nat) : Int) - 1 := ⟨(ri - l + 1).toNat, by have := H4.out; omega⟩
            have q1 : 1 ≤ n1 := by have := H2.out; omega
            have q2 : a + n1 ≤ n := by have := H2.out; omega
            have q3 : 1 ≤ m1 := by have := H4.out; omega
            have q4 : l + m1 ≤ m := by have := H4.out; omega
            have HYes := hid (show PartIn ss a lo l ri n m a n1 l m1 from ⟨HG.out, rfl, hn1, rfl, hm1, q1, q2, q3, q4⟩)
            obtain ⟨lm, hlm⟩ : ∃ lm, l + m1 = lm := ⟨_, rfl⟩
            have hri : ri + 1 = (lm : Int) := by omega
            have hri2 : ri ≤ 5 ∧ 0 ≤ ri := by omega
            obtain ⟨hri3, hri4⟩ := hri2
            have hlo1 : lo ≤ 5 := by omega
            have hll : (l : Int) ≤ (lm : Int) := by omega
            have hlmm : lm ≤ m := by omega
            have HLM := hid hlm
            have HQ4 := hid q4
            have HLO := hid hn1
            clear hn1 hm1 hlm
            go_wp2_with fail
            go_loopw [12, 13] (OutPart n1 m1 a (partF m a l (flat ss)) w) (fun _ i _ => a + n1 - (intOf i).toNat)
            case atStart => exact ⟨0, Nat.zero_le _, rfl, growS_new (w.drewN d) w.heap.size (Nat.le_refl _), HBd.out.alloc (Nat.le_refl _) _⟩
            case round =>
              obtain ⟨r, hr, rfl, hgs, hbel⟩ := hrel
              have HGS := hid hgs
              have HB2 := hid hbel
              clear hgs hbel hc0
              obtain ⟨ai, hai⟩ : ∃ ai, a + r = ai := ⟨_, rfl⟩
              have hain : ai ≤ n := by omega
              rw [hai]
              by_cases hlt : r < n1
              · have hlo2 : (ai : Int) ≤ lo := by have := HLO.out; omega
                obtain ⟨b2, off2, s, hA2, _, hks, hc⟩ := (HD.out.below HB2.out HBB.out).at_ (k := ai) (by rw [HNL.out]; omega)
                obtain ⟨rfl, rfl⟩ : b = b2 ∧ off = off2 := by cases hA2; exact ⟨rfl, rfl⟩
                have hsm : s.size = m := (HG.out.2.2.2.2.2 s (List.mem_of_getElem? hks)).1
                have hsmi : ((s.size : Nat) : Int) = (m : Int) := by rw [hsm]
                have hls : lm ≤ s.size := by rw [hsm]; exact hlmm
                have hlsi : (lm : Int) ≤ (m : Int) := by omega
                have hcut := cut_row (l := l) (m1 := m1) HG.out (by rw [hai]; exact hks) HQ4.out
                rw [HLM.out] at hcut
                have HCut := hid hcut
                have hain2 : (ai : Int) < (n : Int) := by omega
                have HAI := hid hai
                clear hA2 hks hsm hcut hai
                go_wp2_with (at_builtin; refine wpList_appendS rfl _ _ rfl w.heap.size u12 ((ruleG n1 m1 (partF m a l (flat ss))).take r) rfl (HGS.out.alloc _) wr.heap.size 1 rfl (s.extract l lm) (cell_new wr _) ?c3 (Nat.le_trans HB2.out.size (by simp)) ?_)
                case c3 => rw [List.length_take, ruleG_length]; omega
                intro v' w' hgr hgw
                have HGR := hid hgr
                have HGW := hid hgw
                clear hgr hgw hc
                go_wp2
                go_roundw
                case rel =>
                  refine ⟨r + 1, by omega, by rw [← Nat.add_assoc, HAI.out]; go_num, ?_, (HB2.out.alloc HB2.out.size _).grown HGW.out (Nat.le_trans HB2.out.size (by simp)) (fun k e => (ownBlock_lt HGS.out k e).1)⟩
                  rw [ruleG, range_take n1 r _ hlt, ← HCut.out]
                  exact HGR.out
                case measure => have := HAI.out; simp [intOf]; omega
              · obtain rfl : r = n1 := by omega
                have hlo2 : ¬ ((ai : Int) ≤ lo) := by have := HLO.out; omega
                have hlo3 : lo < (ai : Int) := by omega
                have HS' := HGS.out
                rw [List.take_of_length_le (by rw [ruleG_length]; exact Nat.le_refl _)] at HS'
                have HSS := hid HS'
                clear HS'
                go_wp2_with fail
                obtain ⟨A1, cc, hv, hst⟩ := HSS.out.strs
                subst hv
                refine bodyPost_ret (results_tmp2 rfl _ _ _) rfl ?_
                exact ⟨HB2.out, A1, cc, ruleG r m1 (partF m a l (flat ss)), .inr ⟨rfl, .inl ⟨n, m, a, r, l, m1, HYes.out, rfl, rfl⟩, hst⟩⟩
          · rw [show decide (le ≤ ri ∧ ri ≤ (m : Int) - 1) = false by simpa using h4]
            have HNo := hid (show ∀ n m a n1 l m1, ¬ PartIn ss t lo le ri n m a n1 l m1 from fun n' m' a n1 l m1 h => by
              obtain ⟨k1, k2, k3, k4, k5, k6, k7, k8, k9⟩ := h
              obtain ⟨rfl, rfl⟩ := HG.out.uniq k1
              exact h4 ⟨by omega, by omega⟩)
            clear h4
            go_wp2_with fail
            refine (l1None_any _).mono ?_
            rintro e w1 ⟨⟨A1, c1, rfl⟩, hb1⟩
            have HB1 := hid (HBd.out.trans hb1)
            clear hb1
            go_wp2_with fail
            refine bodyPost_ret (results_tmp2 rfl _ _ _) rfl ?_
            exact ⟨HB1.out, A1, c1, [], false, rfl, .inr ⟨HNo.out, rfl, rfl⟩, Strs.nil_ _ _ _⟩
        · rw [show decide (0 ≤ le ∧ le ≤ (m : Int) - 1) = false by simpa using h3]
          have HNo := hid (show ∀ n m a n1 l m1, ¬ PartIn ss t lo le ri n m a n1 l m1 from fun n' m' a n1 l m1 h => by
            obtain ⟨k1, k2, k3, k4, k5, k6, k7, k8, k9⟩ := h
            obtain ⟨rfl, rfl⟩ := HG.out.uniq k1
            exact h3 ⟨by omega, by omega⟩)
          clear h3
          go_wp2_with fail
          refine (l1None_any _).mono ?_
          rintro e w1 ⟨⟨A1, c1, rfl⟩, hb1⟩
          have HB1 := hid (HBd.out.trans hb1)
          clear hb1
          go_wp2_with fail
          refine bodyPost_ret (results_tmp2 rfl _ _ _) rfl ?_
          exact ⟨HB1.out, A1, c1, [], false, rfl, .inr ⟨HNo.out, rfl, rfl⟩, Strs.nil_ _ _ _⟩
      · rw [show decide (t ≤ lo ∧ lo ≤ (n : Int) - 1) = false by simpa using h2]
        have HNo := hid (show ∀ n m a n1 l m1, ¬ PartIn ss t lo le ri n m a n1 l m1 from fun n' m' a n1 l m1 h => by
          obtain ⟨k1, k2, k3, k4, k5, k6, k7, k8, k9⟩ := h
          obtain ⟨rfl, rfl⟩ := HG.out.uniq k1
          exact h2 ⟨by omega, by omega⟩)
        clear h2
        go_wp2_with fail
        refine (l1None_any _).mono ?_
        rintro e w1 ⟨⟨A1, c1, rfl⟩, hb1⟩
        have HB1 := hid (HBd.out.trans hb1)
        clear hb1
        go_wp2_with fail
        refine bodyPost_ret (results_tmp2 rfl _ _ _) rfl ?_
        exact ⟨HB1.out, A1, c1, [], false, rfl, .inr ⟨HNo.out, rfl, rfl⟩, Strs.nil_ _ _ _⟩
    · rw [show decide (0 ≤ t ∧ t ≤ (n : Int) - 1) = false by simpa using h1]
      have HNo := hid (show ∀ n m a n1 l m1, ¬ PartIn ss t lo le ri n m a n1 l m1 from fun n' m' a n1 l m1 h => by
        obtain ⟨k1, k2, k3, k4, k5, k6, k7, k8, k9⟩ := h
        obtain ⟨rfl, rfl⟩ := HG.out.uniq k1
        exact h1 ⟨by omega, by omega⟩)
      clear h1
      go_wp2_with fail
      refine (l1None_any _).mono ?_
      rintro e w1 ⟨⟨A1, c1, rfl⟩, hb1⟩
      have HB1 := hid (HBd.out.trans hb1)
      clear hb1
      go_wp2_with fail
      refine bodyPost_ret (results_tmp2 rfl _ _ _) rfl ?_
      exact ⟨HB1.out, A1, c1, [], false, rfl, .inr ⟨HNo.out, rfl, rfl⟩, Strs.nil_ _ _ _⟩

end Go.Proofs.Ytonhnmpgikmlpaa
