/- GridBeside of the specification, by its contract. -/
import Derived.Test.YtonhnmpgikmlpaaSpecBeside
namespace Go.Proofs.Ytonhnmpgikmlpaa
open Go.RowKit Go.Shelf

theorem beside_grid {n m m' : Nat} {ss tt : List ByteArray} (h : IsGrid n m ss) (h' : IsGrid n m' tt) : (∃ a b, IsGrid a b (ruleG n (m + m') (besideF m m' (flat ss) (flat tt)))) ↔ m + m' ≤ 5 := by
  constructor
  · rintro ⟨a, b, hg⟩
    have h0 := rule_at (n := n) (m := m + m') (f := besideF m m' (flat ss) (flat tt)) (r := 0) h.2.1
    have hz := (hg.2.2.2.2.2 _ (List.mem_of_getElem? h0)).1
    rw [Lib.size_eq] at hz
    simp only [ruleL_length] at hz
    have := hg.2.2.2.2.1
    omega
  · intro h5
    refine ⟨n, m + m', rule_grid h.2.1 h.2.2.1 (by have := h.2.2.2.1; omega) h5 fun r hr q hq => ?_⟩
    unfold besideF
    split
    · exact flat_let h hr (by assumption)
    · exact flat_let h' hr (by omega)

set_option maxRecDepth 100000 in
set_option maxHeartbeats 2000000 in
theorem specGridBeside_any (A A' : Option Addr) (c c' B : Nat) (ss tt : List ByteArray) (w : World) (h : Strs w B A ss) (h' : Strs w B A' tt) (hB : B ≤ w.heap.size) (hn : ss.length ≤ 1048576) (hs : ∀ s ∈ ss, s.size ≤ 1048576) (hn' : tt.length ≤ 1048576) (hs' : ∀ s ∈ tt, s.size ≤ 1048576) :
    Calls Try.prog 52 #[.slice A ss.length c, .slice A' tt.length c'] w fun e w' => Below w.heap.size w w' ∧ ∃ A c res ok, e = .returned (.tuple #[.slice A res.length c, .bool ok]) ∧ BesideOut ss tt ok res ∧ Strs w' w'.heap.size A res := by
  have HI := hid (specGridIn_any A c B ss w h hn hs)
  have HI2 := hid (fun d => specGridIn_any A' c' B tt (w.drewN d) (h'.drewN d) hn' hs')
  have HD := hid h
  have HD' := hid h'
  clear h hs h' hs'
  go_enter Try.func52, Try.ntmps52
  go_wp2_with fail
  refine HI.out.mono ?_
  rintro e w' ⟨ok, rfl, hok, d, rfl⟩
  have HO := hid hok
  clear hok
  have HBd := hid (below_drewN' (Below.refl w.heap.size w) d)
  cases ok with
  | false =>
    have HNo := hid (show ∀ n m n' m', ¬ BesideIn ss tt n m n' m' from fun n m n' m' h => noGrid_of HO.out _ _ h.1)
    go_wp2_with fail
    refine (l1None_any _).mono ?_
    rintro e w1 ⟨⟨A1, c1, rfl⟩, hb1⟩
    have HB1 := hid (HBd.out.trans hb1)
    clear hb1
    go_wp2_with fail
    refine bodyPost_ret (results_tmp2 rfl _ _ _) rfl ?_
    exact ⟨HB1.out, A1, c1, [], false, rfl, .inr ⟨HNo.out, rfl, rfl⟩, Strs.nil_ _ _ _⟩
  | true =>
    have HY := hid (HO.out.1 rfl)
    go_wp2_with fail
    refine (HI2.out d).mono ?_
    rintro e w' ⟨ok, rfl, hok, d2, rfl⟩
    have HO2 := hid hok
    clear hok
    have HBd2 := hid (below_drewN' (Below.refl w.heap.size w) (d + d2))
    cases ok with
    | false =>
      have HNo := hid (show ∀ n m n' m', ¬ BesideIn ss tt n m n' m' from fun n m n' m' h => noGrid_of HO2.out _ _ h.2.1)
      go_wp2_with fail
      refine (l1None_any _).mono ?_
      rintro e w1 ⟨⟨A1, c1, rfl⟩, hb1⟩
      have HB1 := hid (HBd2.out.trans hb1)
      clear hb1
      go_wp2_with fail
      refine bodyPost_ret (results_tmp2 rfl _ _ _) rfl ?_
      exact ⟨HB1.out, A1, c1, [], false, rfl, .inr ⟨HNo.out, rfl, rfl⟩, Strs.nil_ _ _ _⟩
    | true =>
      obtain ⟨n, m, hg⟩ := HY.out
      obtain ⟨n', m', hg'⟩ := HO2.out.1 rfl
      have HG := hid hg
      have HG' := hid hg'
      have hl := hg.1
      have hl' := hg'.1
      clear hg hg'
      by_cases hsame : n = n'
      · subst hsame
        have hne : ((ss.length : Int) != (tt.length : Int)) = false := by rw [bne_eq_false_iff_eq]; omega
        have HL1 := hid (l1Beside_any A A' c c' B n m m' ss tt (w.drewN (d + d2)) (HD.out.drewN (d + d2)) (HD'.out.drewN (d + d2)) hB HG.out HG'.out)
        have HLL := hid hl
        clear hl hl'
        go_wp2_with fail
        refine HL1.out.mono ?_
        rintro e w1 ⟨⟨v, rfl, hgr⟩, hb1⟩
        obtain ⟨A1, c1, rfl, hst⟩ := hgr.strs
        have HB1 := hid (HBd2.out.trans hb1)
        have HST := hid hst
        have HLD := hid (l1Done_any A1 c1 w1.heap.size _ w1 hst (by rw [ruleG_length]; have := HG.out.2.2.1; omega) (fun s hs => by
          obtain ⟨r, hr, rfl⟩ := List.mem_map.1 hs
          rw [Lib.size_eq]
          simp only [ruleL_length]
          have := HG.out.2.2.2.2.1; have := HG'.out.2.2.2.2.1; omega))
        have HBG := hid (beside_grid HG.out HG'.out)
        have HSM := hid (fun h5 => beside_same HG.out HG'.out h5)
        clear hb1 hgr hst
        generalize ruleG n (m + m') (besideF m m' (flat ss) (flat tt)) = res at *
        go_wp2_with fail
        refine HLD.out.mono ?_
        rintro e w2 ⟨hb2, ⟨hyes, rfl⟩ | ⟨hno, A2, c2, rfl⟩⟩
        · have HB2 := hid (HB1.out.trans (hb2.mono HB1.out.size))
          have HS2 := hid ((HST.out.below hb2 (Nat.le_refl _)).more hb2.size)
          have HIn := hid (HBG.out.1 hyes)
          clear hb2 hyes
          go_wp2_with fail
          refine bodyPost_ret (results_tmp2 rfl _ _ _) rfl ?_
          exact ⟨HB2.out, A1, c1, res, true, rfl, .inl ⟨n, m, n, m', ⟨HG.out, HG'.out, rfl, HIn.out⟩, rfl, (HSM.out HIn.out).symm⟩, HS2.out⟩
        · have HB2 := hid (HB1.out.trans (hb2.mono HB1.out.size))
          have HNo := hid (show ∀ a b a' b', ¬ BesideIn ss tt a b a' b' from fun a b a' b' hh => by
            obtain ⟨rfl, rfl⟩ := HG.out.uniq hh.1
            obtain ⟨rfl, rfl⟩ := HG'.out.uniq hh.2.1
            exact hno (HBG.out.2 hh.2.2.2))
          clear hb2 hno
          go_wp2_with fail
          refine bodyPost_ret (results_tmp2 rfl _ _ _) rfl ?_
          exact ⟨HB2.out, A2, c2, [], false, rfl, .inr ⟨HNo.out, rfl, rfl⟩, Strs.nil_ _ _ _⟩
      · have hne : ((ss.length : Int) != (tt.length : Int)) = true := by rw [bne_iff_ne]; omega
        have HNo := hid (show ∀ a b a' b', ¬ BesideIn ss tt a b a' b' from fun a b a' b' hh => by
          obtain ⟨rfl, rfl⟩ := HG.out.uniq hh.1
          obtain ⟨rfl, rfl⟩ := HG'.out.uniq hh.2.1
          exact hsame hh.2.2.1)
        clear hsame hl hl'
        go_wp2_with fail
        refine (l1None_any _).mono ?_
        rintro e w1 ⟨⟨A1, c1, rfl⟩, hb1⟩
        have HB1 := hid (HBd2.out.trans hb1)
        clear hb1
        go_wp2_with fail
        refine bodyPost_ret (results_tmp2 rfl _ _ _) rfl ?_
        exact ⟨HB1.out, A1, c1, [], false, rfl, .inr ⟨HNo.out, rfl, rfl⟩, Strs.nil_ _ _ _⟩

end Go.Proofs.Ytonhnmpgikmlpaa
