/- GridOther of the specification, by its contract. -/
import Derived.Test.YtcomaodpnhoeaaaSpecTF
namespace Go.Proofs.Ytcomaodpnhoeaaa
open Go.RowKit Go.Shelf

/-- The inner loop, upwards. -/
def InUp (K L r : Nat) (f : Nat → Nat → UInt8) (w wo : World) (ov : Value) (v i : Value) (wr : World) : Prop :=
  ∃ p : Nat, p ≤ L ∧ i = .int .i64 p ∧ GrowB wr wo.heap.size v ((ruleL L (f r)).take p) ∧ GrowS wr w.heap.size ov ((ruleG K L f).take r) ∧ Below w.heap.size w wr ∧ wo.heap.size ≤ wr.heap.size

set_option maxRecDepth 100000 in
set_option maxHeartbeats 2000000 in
theorem specGridOther_any (A : Option Addr) (c B : Nat) (ss : List ByteArray) (w : World) (h : Strs w B A ss) (hB : B ≤ w.heap.size) (hn : ss.length ≤ 1048576) (hs : ∀ s ∈ ss, s.size ≤ 1048576) :
    Calls Try.prog 39 #[.slice A ss.length c] w (SpecEnd otherG ss w) := by
  have HB0 := hid ((Below.refl w.heap.size w).alloc (Nat.le_refl _) (.cells #[] 9))
  have HI := hid (specGridIn_any A c B ss (w.alloc (.cells #[] 9)) (h.below HB0.out hB) hn hs)
  have HH := hid h
  have HBB := hid hB
  clear h hs hB
  go_enter Try.func39, Try.ntmps39
  go_wp2_with fail
  refine HI.out.mono ?_
  rintro e w' ⟨ok, rfl, hok, d, rfl⟩
  have HO := hid hok
  clear hok
  have HBd := hid (below_drewN' HB0.out d)
  cases ok with
  | false =>
    go_wp2_with fail
    refine bodyPost_ret (results_tmp2 rfl _ _ _) rfl ?_
    exact ⟨HBd.out, .inr ⟨noGrid_of HO.out, _, _, rfl⟩⟩
  | true =>
    obtain ⟨n, m, hg⟩ := HO.out.1 rfl
    have hn5 := hg.2.2.1
    have hm1 := hg.2.2.2.1
    have hm5 := hg.2.2.2.2.1
    have hnl := hg.1
    have HG := hid hg
    have HNL := hid hnl
    obtain ⟨f, hf⟩ : ∃ f, f = otherF m (flat ss) := ⟨_, rfl⟩
    have HF := hid hf
    rw [hnl]
    clear hg hnl hf
    go_wp2_with fail
    go_loopw [4, 5] (OutG n m f w) (fun _ i _ => n - (intOf i).toNat)
    case atStart => exact ⟨0, Nat.zero_le _, rfl, growS_new w _ (Nat.le_refl _), HBd.out⟩
    case round =>
      obtain ⟨r, hr, rfl, hgs, hbel⟩ := hrel
      have HS := hid hgs
      have HB := hid hbel
      clear hgs hbel
      by_cases hlt : r < n
      · obtain ⟨b', off', s, rfl, hb', hks, _⟩ := HH.out.at_ (by rw [HNL.out]; exact hlt)
        have hsm : s.size = m := (HG.out.2.2.2.2.2 s (List.mem_of_getElem? hks)).1
        have hsmi : ((s.size : Nat) : Int) = (m : Int) := by rw [hsm]
        have hc := (HH.out.below (HB.out.alloc HB.out.size (.cells #[] 5)) HBB.out).cell_ hks
        have HKs := hid hks
        have HSm := hid hsm
        obtain ⟨wo, rfl⟩ : ∃ wo : World, wo = wr := ⟨_, rfl⟩
        obtain ⟨ov, rfl⟩ : ∃ ov : Value, ov = u4 := ⟨_, rfl⟩
        clear hks hsm
        go_wp2_with fail
        go_loopw [6, 7] (InUp n m r f w wo ov) (fun _ i _ => m - (intOf i).toNat)
        case atStart =>
          exact ⟨0, Nat.zero_le _, rfl, by rw [List.take_zero]; exact growB_new wo _ (Nat.le_refl _), HS.out.alloc _, HB.out.alloc HB.out.size _, by simp⟩
        case round =>
          obtain ⟨p, hp, rfl, hgB, hgS, hbel, hsz⟩ := hrel
          have HGB := hid hgB
          have HGS := hid hgS
          have HB2 := hid hbel
          have HZ := hid hsz
          clear hgB hgS hbel hsz hc
          have hc := (HH.out.below HB2.out HBB.out).cell_ HKs.out
          by_cases hlp : p < m
          · have hps : p < s.size := by rw [HSm.out]; exact hlp
            obtain ⟨bt, hbt⟩ : ∃ bt, s.data.toList[p]? = some bt := ⟨_, List.getElem?_eq_getElem (by rw [← Lib.size_eq]; exact hps)⟩
            have hbyte : s[p] = bt := byte_of hbt hps
            have hl1 := hid (l1Other_any bt)
            have HBT := hid hbt
            clear hbt
            go_wp2_with fail
            refine (hl1.out _).mono ?_
            rintro e w' ⟨rfl, rfl⟩
            go_wp2_with (at_builtin; refine wpList_appendB rfl _ _ rfl wo.heap.size u6 ((ruleL m (f r)).take p) rfl (HGB.out.alloc _) wr.heap.size 1 rfl (oth bt) (cell_newB wr _) ?c3 (Nat.le_trans HZ.out (by simp)) ?_)
            case c3 => rw [List.length_take, ruleL_length]; omega
            intro v' w' hgr hgw
            have HGR := hid hgr
            have HGW := hid hgw
            clear hgr hgw hc
            go_wp2
            go_roundw
            case rel =>
              refine ⟨p + 1, by omega, by go_num, ?_, ?_, ?_, ?_⟩
              · rw [ruleL, range_take m p _ hlp]
                have e : f r p = oth bt := by
                  rw [HF.out]
                  unfold otherF
                  have e2 := flat_at ss r p s (fun i t _ ht => (HG.out.2.2.2.2.2 t (List.mem_of_getElem? ht)).1) HKs.out hps
                  rw [HBT.out] at e2
                  rw [List.getD_eq_getElem?_getD, e2]; rfl
                rw [e]
                exact HGR.out
              · exact grown_other (World.ownsRow.alloc HGS.out _) (World.ownsRow.alloc HGB.out _) (fun k e => (ownBlock_lt HS.out k e).2) (Nat.le_refl _) HGW.out
              · exact (HB2.out.alloc HB2.out.size _).grown HGW.out (Nat.le_trans HB2.out.size (by simp)) (fun k e => Nat.le_trans HB.out.size (World.ownsRow.lt HGB.out k e).1)
              · exact Nat.le_trans (Nat.le_trans HZ.out (by simp)) HGW.out.size
            case measure => simp [intOf]; omega
          · obtain rfl : p = m := by omega
            have hcv := growB_text HGB.out (by rw [List.take_of_length_le (by rw [ruleL_length]; exact Nat.le_refl _), ruleL_length]; exact hm1)
            rw [List.take_of_length_le (by rw [ruleL_length]; exact Nat.le_refl _)] at hcv
            obtain ⟨tx, htx⟩ : ∃ tx : ByteArray, (⟨(ruleL p (f r)).toArray⟩ : ByteArray) = tx := ⟨_, rfl⟩
            rw [htx] at hcv
            have HTX := hid htx
            clear htx
            go_wp2_with (at_builtin; refine wpList_appendS rfl _ _ rfl w.heap.size ov ((ruleG n p f).take r) rfl (HGS.out.alloc _) wr.heap.size 1 rfl tx (cell_new wr tx) ?c3 (Nat.le_trans HB2.out.size (by simp)) ?_)
            case c3 => rw [List.length_take, ruleG_length]; omega
            intro v' w' hgr hgw
            have HGR := hid hgr
            have HGW := hid hgw
            clear hgr hgw hc
            go_wp2
            go_roundw
            case rel =>
              refine ⟨r + 1, by omega, by go_num, ?_, (HB2.out.alloc HB2.out.size _).grown HGW.out (Nat.le_trans HB2.out.size (by simp)) (fun k e => (ownBlock_lt HGS.out k e).1)⟩
              rw [ruleG, range_take n r _ hlt, HTX.out]
              exact HGR.out
            case measure => simp [intOf]; omega
      · obtain rfl : r = n := by omega
        have HS' := HS.out
        rw [List.take_of_length_le (by rw [ruleG_length]; exact Nat.le_refl _)] at HS'
        have HSS := hid HS'
        clear HS'
        go_wp2_with fail
        obtain ⟨A1, cc, hv, hst⟩ := HSS.out.strs
        subst hv
        refine bodyPost_ret (results_tmp2 rfl _ _ _) rfl ?_
        have e : ruleG r m f = otherG r m (pad (flat ss)) := by rw [other_same HG.out, HF.out]
        rw [e] at hst ⊢
        exact ⟨HB.out, .inl ⟨r, m, A1, cc, HG.out, hst, rfl⟩⟩

end Go.Proofs.Ytcomaodpnhoeaaa
