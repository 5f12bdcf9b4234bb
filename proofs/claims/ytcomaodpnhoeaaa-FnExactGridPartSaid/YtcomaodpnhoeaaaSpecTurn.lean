/- l1Turn of the specification, by its contract. -/
import Derived.Test.YtcomaodpnhoeaaaSpecFlip
namespace Go.Proofs.Ytcomaodpnhoeaaa
open Go.RowKit Go.Shelf

set_option maxRecDepth 100000 in
set_option maxHeartbeats 2000000 in
theorem l1Turn_any (A : Option Addr) (c B n m : Nat) (ss : List ByteArray) (w : World) (h : Strs w B A ss) (hB : B ≤ w.heap.size) (hg : IsGrid n m ss) (f : Nat → Nat → UInt8) (hf : ∀ r q, f r q = oth ((flat ss).getD ((n - 1 - q) * m + r) 0)) :
    Calls Try.prog 89 #[.slice A ss.length c] w fun e w' => (∃ v, e = .returned v ∧ GrowS w' w.heap.size v (ruleG m n f)) ∧ Below w.heap.size w w' := by
  have hn5 := hg.2.2.1
  have hm1 := hg.2.2.2.1
  have hn1 := hg.2.1
  have hm5 := hg.2.2.2.2.1
  have hnl := hg.1
  have HG := hid hg
  have HH := hid h
  have HBB := hid hB
  have HNL := hid hnl
  have HF := hid hf
  rw [hnl]
  clear hg h hB hnl hf
  go_enter Try.func89, Try.ntmps89
  go_wp2
  go_loopw [3, 4] (OutG m n f w) (fun _ i _ => m - (intOf i).toNat)
  case atStart => exact ⟨0, Nat.zero_le _, rfl, growS_new w _ (Nat.le_refl _), (Below.refl _ w).alloc (Nat.le_refl _) _⟩
  case round =>
    obtain ⟨r, hr, rfl, hgs, hbel⟩ := hrel
    have HS := hid hgs
    have HB := hid hbel
    clear hgs hbel
    obtain ⟨b', off', s0, rfl, hb', hk0, _⟩ := HH.out.at_ (k := 0) (by rw [HNL.out]; omega)
    have hs0 : s0.size = m := (HG.out.2.2.2.2.2 s0 (List.mem_of_getElem? hk0)).1
    have hs0i : ((s0.size : Nat) : Int) = (m : Int) := by rw [hs0]
    have hni : (0 : Int) < (n : Int) := by omega
    have hc0 := (HH.out.below HB.out HBB.out).cell_ hk0
    rw [Nat.add_zero] at hc0
    have HK0 := hid hk0
    have HS0 := hid hs0
    clear hk0 hs0
    by_cases hlt : r < m
    · obtain ⟨wo, rfl⟩ : ∃ wo : World, wo = wr := ⟨_, rfl⟩
      obtain ⟨ov, rfl⟩ : ∃ ov : Value, ov = u3 := ⟨_, rfl⟩
      go_wp2_with fail
      go_loopw [5, 6] (InDown m n r f w wo ov) (fun _ i _ => (intOf i + 1).toNat)
      case atStart =>
        exact ⟨n, Nat.le_refl _, rfl, by rw [Nat.sub_self, List.take_zero]; exact growB_new wo _ (Nat.le_refl _), HS.out.alloc _, HB.out.alloc HB.out.size _, by simp⟩
      case round =>
        obtain ⟨p, hp, rfl, hgB, hgS, hbel, hsz⟩ := hrel
        have HGB := hid hgB
        have HGS := hid hgS
        have HB2 := hid hbel
        have HZ := hid hsz
        clear hgB hgS hbel hsz hc0
        cases p with
        | zero =>
          have hcv := growB_text HGB.out (by rw [Nat.sub_zero, List.take_of_length_le (by rw [ruleL_length]; exact Nat.le_refl _), ruleL_length]; exact hn1)
          rw [Nat.sub_zero, List.take_of_length_le (by rw [ruleL_length]; exact Nat.le_refl _)] at hcv
          obtain ⟨tx, htx⟩ : ∃ tx : ByteArray, (⟨(ruleL n (f r)).toArray⟩ : ByteArray) = tx := ⟨_, rfl⟩
          rw [htx] at hcv
          have HTX := hid htx
          clear htx
          go_wp2_with (at_builtin; refine wpList_appendS rfl _ _ rfl w.heap.size ov ((ruleG m n f).take r) rfl (HGS.out.alloc _) wr.heap.size 1 rfl tx (cell_new wr tx) ?c3 (Nat.le_trans HB2.out.size (by simp)) ?_)
          case c3 => rw [List.length_take, ruleG_length]; omega
          intro v' w' hgr hgw
          have HGR := hid hgr
          have HGW := hid hgw
          clear hgr hgw
          go_wp2
          go_roundw
          case rel =>
            refine ⟨r + 1, by omega, by go_num, ?_, (HB2.out.alloc HB2.out.size _).grown HGW.out (Nat.le_trans HB2.out.size (by simp)) (fun k e => (ownBlock_lt HGS.out k e).1)⟩
            rw [ruleG, range_take m r _ hlt, HTX.out]
            exact HGR.out
          case measure => simp [intOf]; omega
        | succ p =>
          have hpi : (((p + 1 : Nat) : Int) - 1) = (p : Int) := by omega
          rw [hpi]
          obtain ⟨b2, off2, s, hA2, _, hks, hc⟩ := (HH.out.below HB2.out HBB.out).at_ (k := p) (by rw [HNL.out]; exact hp)
          obtain ⟨rfl, rfl⟩ : b' = b2 ∧ off' = off2 := by cases hA2; exact ⟨rfl, rfl⟩
          have hsm : s.size = m := (HG.out.2.2.2.2.2 s (List.mem_of_getElem? hks)).1
          have hps : r < s.size := by rw [hsm]; exact hlt
          obtain ⟨bt, hbt⟩ : ∃ bt, s.data.toList[r]? = some bt := ⟨_, List.getElem?_eq_getElem (by rw [← Lib.size_eq]; exact hps)⟩
          have hbyte : s[r] = bt := byte_of hbt hps
          have HKs := hid hks
          clear hA2 hks hsm
          have hl1 := hid (l1Other_any bt)
          have HBT := hid hbt
          clear hbt
          go_wp2_with fail
          refine (hl1.out _).mono ?_
          rintro e w' ⟨rfl, rfl⟩
          go_wp2_with (at_builtin; refine wpList_appendB rfl _ _ rfl wo.heap.size u5 ((ruleL n (f r)).take (n - (p + 1))) rfl (HGB.out.alloc _) wr.heap.size 1 rfl (oth bt) (cell_newB wr _) ?c3 (Nat.le_trans HZ.out (by simp)) ?_)
          case c3 => rw [List.length_take, ruleL_length]; omega
          intro v' w' hgr hgw
          have HGR := hid hgr
          have HGW := hid hgw
          clear hgr hgw
          go_wp2
          go_roundw
          case rel =>
            refine ⟨p, by omega, rfl, ?_, ?_, ?_, ?_⟩
            · rw [show n - p = (n - (p + 1)) + 1 by omega, ruleL, range_take n (n - (p + 1)) _ (by omega)]
              have e : f r (n - (p + 1)) = oth bt := by
                rw [HF.out, show n - 1 - (n - (p + 1)) = p by omega]
                have e2 := flat_at ss p r s (fun i t _ ht => (HG.out.2.2.2.2.2 t (List.mem_of_getElem? ht)).1) HKs.out hps
                rw [HBT.out] at e2
                rw [List.getD_eq_getElem?_getD, e2]; rfl
              rw [e]
              exact HGR.out
            · exact grown_other (World.ownsRow.alloc HGS.out _) (World.ownsRow.alloc HGB.out _) (fun k e => (ownBlock_lt HS.out k e).2) (Nat.le_refl _) HGW.out
            · exact (HB2.out.alloc HB2.out.size _).grown HGW.out (Nat.le_trans HB2.out.size (by simp)) (fun k e => Nat.le_trans HB.out.size (World.ownsRow.lt HGB.out k e).1)
            · exact Nat.le_trans (Nat.le_trans HZ.out (by simp)) HGW.out.size
          case measure => simp [intOf]
    · obtain rfl : r = m := by omega
      have HS' := HS.out
      rw [List.take_of_length_le (by rw [ruleG_length]; exact Nat.le_refl _)] at HS'
      have HSS := hid HS'
      clear HS'
      go_wp2_with fail
      go_ret
      exact ⟨⟨_, rfl, HSS.out⟩, HB.out⟩

end Go.Proofs.Ytcomaodpnhoeaaa
