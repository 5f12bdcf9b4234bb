/- l1Flip of the specification, by its contract. -/
import Derived.Test.YtmdgbcepjnfbnaaGrow
namespace Go.Proofs.Ytmdgbcepjnfbnaa
open Go.RowKit Go.Shelf

theorem Strs.cell_ {w : World} {B b off k : Nat} {ss : List ByteArray} {s : ByteArray} (h : Strs w B (some ⟨b, off, none⟩) ss) (hk : ss[k]? = some s) : w.cell? ⟨b, off + k, none⟩ = some (.string s) := by
  obtain ⟨b', off', e, _, hc⟩ := h (by have := (List.getElem?_eq_some_iff.1 hk).1; omega)
  cases e
  exact hc k s hk
theorem cell_new (w : World) (t : ByteArray) : (w.alloc (.cells #[.string t] 9)).cell? ⟨w.heap.size, 0, none⟩ = some (.string t) := by
  rw [cell_of_row _ _ _ _ _ _ (heap_new0 w _)]; rfl
theorem cell_newB (w : World) (b : UInt8) : (w.alloc (.cells #[.int .u8 b.toNat] 5)).cell? ⟨w.heap.size, 0, none⟩ = some (.int .u8 b.toNat) := by
  rw [cell_of_row _ _ _ _ _ _ (heap_new0 w _)]; rfl
/-- A row: L letters by a rule. -/
def ruleL (L : Nat) (f : Nat → UInt8) : List UInt8 := (List.range L).map f
/-- A grid: K rows by a rule. -/
def ruleG (K L : Nat) (f : Nat → Nat → UInt8) : List ByteArray := (List.range K).map fun r => ⟨(ruleL L (f r)).toArray⟩
theorem ruleL_length (L : Nat) (f : Nat → UInt8) : (ruleL L f).length = L := by simp [ruleL]
theorem ruleG_length (K L : Nat) (f : Nat → Nat → UInt8) : (ruleG K L f).length = K := by simp [ruleG]
/-- The outer loop: so many rows are there. -/
def OutG (K L : Nat) (f : Nat → Nat → UInt8) (w : World) (v i : Value) (wr : World) : Prop :=
  ∃ r : Nat, r ≤ K ∧ i = .int .i64 r ∧ GrowS wr w.heap.size v ((ruleG K L f).take r) ∧ Below w.heap.size w wr
/-- The inner loop, downwards: p letters are still to come. -/
def InDown (K L r : Nat) (f : Nat → Nat → UInt8) (w wo : World) (ov : Value) (v i : Value) (wr : World) : Prop :=
  ∃ p : Nat, p ≤ L ∧ i = .int .i64 ((p : Int) - 1) ∧ GrowB wr wo.heap.size v ((ruleL L (f r)).take (L - p)) ∧ GrowS wr w.heap.size ov ((ruleG K L f).take r) ∧ Below w.heap.size w wr ∧ wo.heap.size ≤ wr.heap.size
theorem ownBlock_lt {w : World} {base : Nat} {v : Value} {l : List ByteArray} (h : GrowS w base v l) : ∀ k, v.ownBlock = some k → base ≤ k ∧ k < w.heap.size := h.lt
/-- The row has grown by a letter; the texts lie as they lay. -/
theorem grown_other {w1 w2 : World} {base base2 : Nat} {ov v : Value} {ls : List ByteArray} {l : List UInt8} {N : Nat} (hS : GrowS w1 base ov ls) (hB : GrowB w1 base2 v l) (hov : ∀ k, ov.ownBlock = some k → k < N) (hN : N ≤ base2) (hg : w1.grownBy w2 v.ownBlock) : GrowS w2 base ov ls := by
  refine World.ownsRow.kept hS hg ?_
  cases h : ov.ownBlock with
  | none => exact .inl rfl
  | some k =>
    refine .inr fun e => ?_
    have h1 := hov k h
    have h2 := (World.ownsRow.lt hB k e.symm).1
    omega

set_option maxRecDepth 100000 in
set_option maxHeartbeats 2000000 in
theorem l1Flip_any (A : Option Addr) (c B n m : Nat) (ss : List ByteArray) (w : World) (h : Strs w B A ss) (hB : B ≤ w.heap.size) (hg : IsGrid n m ss) (f : Nat → Nat → UInt8) (hf : ∀ r q, f r q = oth ((flat ss).getD (r * m + (m - 1 - q)) 0)) :
    Calls Try.prog 60 #[.slice A ss.length c] w fun e w' => (∃ v, e = .returned v ∧ GrowS w' w.heap.size v (ruleG n m f)) ∧ Below w.heap.size w w' := by
  have hn5 := hg.2.2.1
  have hm1 := hg.2.2.2.1
  have hm5 := hg.2.2.2.2.1
  have hnl := hg.1
  have HG := hid hg
  have HH := hid h
  have HBB := hid hB
  have HNL := hid hnl
  have HF := hid hf
  rw [hnl]
  clear hg h hB hnl hf
  go_enter Try.func60, Try.ntmps60
  go_wp2
  go_loopw [3, 4] (OutG n m f w) (fun _ i _ => n - (intOf i).toNat)
  case atStart => exact ⟨0, Nat.zero_le _, rfl, growS_new w _ (Nat.le_refl _), (Below.refl _ w).alloc (Nat.le_refl _) _⟩
  case round =>
    obtain ⟨r, hr, rfl, hgs, hbel⟩ := hrel
    have HS := hid hgs
    have HB := hid hbel
    clear hgs hbel
    by_cases hlt : r < n
    · obtain ⟨b', off', s, rfl, hb', hks, _⟩ := HH.out.at_ (by rw [HNL.out]; exact hlt)
      have hsm : s.size = m := (HG.out.2.2.2.2.2 s (List.mem_of_getElem? hks)).1
      have hsmi : ((s.size : Nat) : Int) = (m : Int) := by rw [hsm]
      have hc := (HH.out.below (HB.out.alloc HB.out.size (.cells #[] 5)) HBB.out).cell_ hks
      have HKs := hid hks
      have HSm := hid hsm
      obtain ⟨wo, rfl⟩ : ∃ wo : World, wo = wr := ⟨_, rfl⟩
      obtain ⟨ov, rfl⟩ : ∃ ov : Value, ov = u3 := ⟨_, rfl⟩
      clear hks hsm
      go_wp2_with fail
      go_loopw [5, 6] (InDown n m r f w wo ov) (fun _ i _ => (intOf i + 1).toNat)
      case atStart =>
        exact ⟨m, Nat.le_refl _, rfl, by rw [Nat.sub_self, List.take_zero]; exact growB_new wo _ (Nat.le_refl _), HS.out.alloc _, HB.out.alloc HB.out.size _, by simp⟩
      case round =>
        obtain ⟨p, hp, rfl, hgB, hgS, hbel, hsz⟩ := hrel
        have HGB := hid hgB
        have HGS := hid hgS
        have HB2 := hid hbel
        have HZ := hid hsz
        clear hgB hgS hbel hsz hc
        have hc := (HH.out.below HB2.out HBB.out).cell_ HKs.out
        cases p with
        | zero =>
          have hcv := growB_text HGB.out (by rw [Nat.sub_zero, List.take_of_length_le (by rw [ruleL_length]; exact Nat.le_refl _), ruleL_length]; exact hm1)
          rw [Nat.sub_zero, List.take_of_length_le (by rw [ruleL_length]; exact Nat.le_refl _)] at hcv
          obtain ⟨tx, htx⟩ : ∃ tx : ByteArray, (⟨(ruleL m (f r)).toArray⟩ : ByteArray) = tx := ⟨_, rfl⟩
          rw [htx] at hcv
          have HTX := hid htx
          clear htx
          go_wp2_with (at_builtin; refine wpList_appendS rfl _ _ rfl w.heap.size ov ((ruleG n m f).take r) rfl (HGS.out.alloc _) wr.heap.size 1 rfl tx (cell_new wr tx) ?c3 (Nat.le_trans HB2.out.size (by simp)) ?_)
          case c3 => rw [List.length_take, ruleG_length]; omega
          intro v' w' hgr hgw
          have HGR := hid hgr
          have HGW := hid hgw
          clear hgr hgw hc
          go_wp2
          go_roundw
          case rel =>
            refine ⟨r + 1, by omega, by go_num, ?_, (HB2.out.alloc HB2.out.size _).grown HGW.out (Nat.le_trans HB2.out.size (by simp)) (fun k e => (ownBlock_lt HGS.out k e).1)⟩
            rw [ruleG, range_take n r _ hlt, HTX.out]
            exact HGR.out
          case measure => simp [intOf]; omega
        | succ p =>
          have hpi : (((p + 1 : Nat) : Int) - 1) = (p : Int) := by omega
          rw [hpi]
          have hps : p < s.size := by rw [HSm.out]; exact hp
          obtain ⟨bt, hbt⟩ : ∃ bt, s.data.toList[p]? = some bt := ⟨_, List.getElem?_eq_getElem (by rw [← Lib.size_eq]; exact hps)⟩
          have hbyte : s[p] = bt := byte_of hbt hps
          have hl1 := hid (l1Other_any bt)
          have HBT := hid hbt
          clear hbt
          go_wp2_with fail
          refine (hl1.out _).mono ?_
          rintro e w' ⟨rfl, rfl⟩
          go_wp2_with (at_builtin; refine wpList_appendB rfl _ _ rfl wo.heap.size u5 ((ruleL m (f r)).take (m - (p + 1))) rfl (HGB.out.alloc _) wr.heap.size 1 rfl (oth bt) (cell_newB wr _) ?c3 (Nat.le_trans HZ.out (by simp)) ?_)
          case c3 => rw [List.length_take, ruleL_length]; omega
          intro v' w' hgr hgw
          have HGR := hid hgr
          have HGW := hid hgw
          clear hgr hgw hc
          go_wp2
          go_roundw
          case rel =>
            refine ⟨p, by omega, rfl, ?_, ?_, ?_, ?_⟩
            · rw [show m - p = (m - (p + 1)) + 1 by omega, ruleL, range_take m (m - (p + 1)) _ (by omega)]
              have e : f r (m - (p + 1)) = oth bt := by
                rw [HF.out, show m - 1 - (m - (p + 1)) = p by omega]
                have e2 := flat_at ss r p s (fun i t _ ht => (HG.out.2.2.2.2.2 t (List.mem_of_getElem? ht)).1) HKs.out hps
                rw [HBT.out] at e2
                rw [List.getD_eq_getElem?_getD, e2]; rfl
              rw [e]
              exact HGR.out
            · exact grown_other (World.ownsRow.alloc HGS.out _) (World.ownsRow.alloc HGB.out _) (fun k e => (ownBlock_lt HS.out k e).2) (Nat.le_refl _) HGW.out
            · exact (HB2.out.alloc HB2.out.size _).grown HGW.out (Nat.le_trans HB2.out.size (by simp)) (fun k e => Nat.le_trans HB.out.size (World.ownsRow.lt HGB.out k e).1)
            · exact Nat.le_trans (Nat.le_trans HZ.out (by simp)) HGW.out.size
          case measure => simp [intOf]
    · obtain rfl : r = n := by omega
      have HS' := HS.out
      rw [List.take_of_length_le (by rw [ruleG_length]; exact Nat.le_refl _)] at HS'
      have HSS := hid HS'
      clear HS'
      go_wp2_with fail
      go_ret
      exact ⟨⟨_, rfl, HSS.out⟩, HB.out⟩

end Go.Proofs.Ytmdgbcepjnfbnaa
