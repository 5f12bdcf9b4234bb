/- ChangeSelf of the specification: the cells of a path, by their contracts. -/
import Derived.Test.YtagnecclhmbofaaDeltaS
import Derived.Test.YtagnecclhmbofaaSelfI
import Derived.Test.YtagnecclhmbofaaOften
import Derived.Test.YtagnecclhmbofaaApp
namespace Go.Proofs.Ytagnecclhmbofaa
open Go.RowKit Go.Shelf

/-- How often a cell's number stands among cells. -/
theorem count_cellsP {n m c L : Nat} {bw : Nat → Wy} (hc : c < n * m) (hin : ∀ j, j < L → inG n m (bw j)) : (cellsI m bw L).count ((c : Nat) : Int) = (List.range L).countP fun j => decide (atC (placeN m c).i (placeN m c).k (bw j)) := by
  have hm : 0 < m := by
    rcases Nat.eq_zero_or_pos m with h0 | h0
    · subst h0; simp at hc
    · exact h0
  unfold cellsI
  rw [List.count, List.countP_map]
  refine List.countP_congr fun j hj => ?_
  have h1 := cellN_iff (i := c / m) (hin j (List.mem_range.1 hj)) (Nat.mod_lt c hm)
  rw [show c / m * m + c % m = c by rw [Nat.mul_comm]; exact Nat.div_add_mod c m] at h1
  simp only [Function.comp, decide_eq_true_iff, beq_iff_eq]
  rw [Int.ofNat_inj, h1]
  rfl
/-- The cells of a path: of the way on, and of the way back if it is no round. -/
def pathL (n m : Nat) (t : Int → Int → UInt8) (c : Nat) : List Int :=
  if onR n m t (placeN m c) = true then cellsI m (iter t (placeN m c)) (goL n m t (placeN m c))
  else cellsI m (iter t (placeN m c)) (goL n m t (placeN m c)) ++ (cellsI m (iter t (rev t (placeN m c))) (goL n m t (rev t (placeN m c)))).drop 1
theorem pathL_len {n m c : Nat} {t : Int → Int → UInt8} (hc : c < n * m) : (pathL n m t c).length ≤ 8 * (n * m) := by
  have hx := placeN_in hc
  have h1 := (goL_facts (t := t) (x := placeN m c) (Nat.zero_lt_succ 3) hx).2.1
  have h2 := (goL_facts (t := t) (x := rev t (placeN m c)) (rev_d _) (rev_in.2 hx)).2.1
  unfold pathL
  split
  · rw [cellsI_length]; omega
  · rw [List.length_append, List.length_drop, cellsI_length, cellsI_length]; omega
theorem pathL_two {n m c : Nat} {t : Int → Int → UInt8} (hc : c < n * m) : ((pathL n m t c).count ((c : Nat) : Int) == 2) = selfB n m t (placeN m c).i (placeN m c).k := by
  have hx := placeN_in hc
  have hd : (placeN m c).d < 4 := Nat.zero_lt_succ 3
  have g1 := goL_facts (t := t) (x := placeN m c) hd hx
  have g2 := goL_facts (t := t) (x := rev t (placeN m c)) (rev_d _) (rev_in.2 hx)
  have c1 := count_cellsP (bw := iter t (placeN m c)) hc g1.2.2.1
  have c2 := count_cellsP (bw := iter t (rev t (placeN m c))) hc g2.2.2.1
  unfold pathL
  cases hon : onR n m t (placeN m c) with
  | true =>
    rw [if_pos rfl, c1]
    exact self_round hx hon
  | false =>
    rw [if_neg (by decide), List.count_append, c1]
    have h3 : (cellsI m (iter t (rev t (placeN m c))) (goL n m t (rev t (placeN m c)))).count ((c : Nat) : Int) = 1 + ((cellsI m (iter t (rev t (placeN m c))) (goL n m t (rev t (placeN m c)))).drop 1).count ((c : Nat) : Int) := by
      obtain ⟨L, hL⟩ : ∃ L, goL n m t (rev t (placeN m c)) = L + 1 := ⟨goL n m t (rev t (placeN m c)) - 1, by have := g2.1; omega⟩
      have h0 : (cellsI m (iter t (rev t (placeN m c))) (L + 1)) = ((c : Nat) : Int) :: (cellsI m (iter t (rev t (placeN m c))) (L + 1)).drop 1 := by
        have e0 : ((cellN m (iter t (rev t (placeN m c)) 0) : Nat) : Int) = ((c : Nat) : Int) := by
          have : cellN m (iter t (rev t (placeN m c)) 0) = c := cellN_place m c
          rw [this]
        unfold cellsI
        rw [List.range_succ_eq_map, List.map_cons, e0]
        rfl
      rw [hL]
      conv => lhs; rw [h0]
      rw [List.count_cons]
      simp; omega
    have h4 : (cntAt n m t (placeN m c).i (placeN m c).k (placeN m c) + cntAt n m t (placeN m c).i (placeN m c).k (rev t (placeN m c)) - 1 == 2) = selfB n m t (placeN m c).i (placeN m c).k := self_beam (t := t) (i := (placeN m c).i) (k := (placeN m c).k) hx hon
    rw [← h4]
    rw [c2] at h3
    have e1 : (List.range (goL n m t (placeN m c))).countP (fun j => decide (atC (placeN m c).i (placeN m c).k (iter t (placeN m c) j))) = cntAt n m t (placeN m c).i (placeN m c).k (placeN m c) := rfl
    have e2 : (List.range (goL n m t (rev t (placeN m c)))).countP (fun j => decide (atC (placeN m c).i (placeN m c).k (iter t (rev t (placeN m c)) j))) = cntAt n m t (placeN m c).i (placeN m c).k (rev t (placeN m c)) := rfl
    rw [e1]
    rw [e2] at h3
    rw [h3]
    congr 1
    omega

/-- What the operations on the way back hand back. -/
def pathRelA (A : Option Addr) (nl c cc base b2 o2 L1 c2 : Nat) (bt : UInt8) (on2 : Bool) (l2 : List Int) (i : Nat) (v : Value) (W : World) : Prop :=
  match i with
  | 0 => v = .slice A nl c
  | 1 => v = .int .i64 (cc : Int)
  | 2 => v = .slice A nl c
  | 3 => v = .int .i64 (cc : Int)
  | 4 => v = .int .u8 (bt.toNat : Int)
  | 5 => v = .slice (some ⟨b2, o2, none⟩) L1 c2
  | 6 => v = .pointer (some ⟨b2, o2, none⟩)
  | 7 => v = .int .i64 0
  | 8 => v = .int .i64 ((bend bt 0 : Nat) : Int)
  | 9 => v = .int .i64 ((opp (bend bt 0) : Nat) : Int)
  | 10 => ∃ v1 v2, v = .tuple #[v1, v2, .bool on2] ∧ GrowI W base v1 l2
  | 11 => ∃ v1 v2, v = .tuple #[v1, v2, .bool on2] ∧ GrowI W base v1 l2
  | 12 => GrowI W base v l2
  | 15 => GrowI W base v l2
  | _ => True
/-- What the operations of the two appends hand back, up to the last one. -/
def pathRelB (A1 : Option Addr) (L1 c1 base g cap L2 : Nat) (l1 l2 : List Int) (i : Nat) (v : Value) (W : World) : Prop :=
  match i with
  | 0 => ∃ h, v = .slice (some ⟨h, 0, none⟩) 0 0
  | 1 => v = .slice A1 L1 c1
  | 2 => GrowI W base v l1
  | 3 => v = .slice (some ⟨g, 0, none⟩) L2 cap
  | 4 => ∃ ad c', v = .slice (some ad) (L2 - 1) c' ∧ CellsAt W ad (intsV (l2.drop 1))
  | _ => True

set_option maxRecDepth 100000 in
set_option maxHeartbeats 4000000 in
theorem l4Path_any (A : Option Addr) (c B n m cc : Nat) (ss : List ByteArray) (w : World) (h : Strs w B A ss) (hB : B ≤ w.heap.size) (hg : IsGrid n m ss) (hcc : cc < n * m) :
    Calls Try.prog 58 #[.slice A ss.length c, .int .i64 cc, .int .i64 0] w fun e w' => (∃ A' c', e = .returned (.slice A' (pathL n m (lett m (pad (flat ss))) cc).length c') ∧ Ints w' w'.heap.size A' (pathL n m (lett m (pad (flat ss))) cc)) ∧ Below w.heap.size w w' := by
  have hx := placeN_in hcc
  have hC1 := hid (l3Close_any A c B n m cc 0 ss w h hB hg hcc (by decide))
  have HC2 := hid (fun W (hb : Below w.heap.size w W) => l3Close_any A c B n m cc (opp (bend (lett m (pad (flat ss)) (placeN m cc).i (placeN m cc).k) 0)) ss W (h.below hb hB) (Nat.le_trans hB hb.size) hg hcc (opp_lt _))
  have HCE := hid (fun W (hb : Below w.heap.size w W) => l2Cell_any A c B n m cc ss _ W (h.below hb hB) hg hcc (lett_cell hg hcc))
  have HBD := hid (fun W => l2Bend_any (lett m (pad (flat ss)) (placeN m cc).i (placeN m cc).k) 0 (by decide) W)
  have HXO := hid (xor_opp (bend_lt (lett m (pad (flat ss)) (placeN m cc).i (placeN m cc).k) (d := 0) (by decide)))
  have hpl : (⟨((cc / m : Nat) : Int), ((cc % m : Nat) : Int), 0⟩ : Wy) = placeN m cc := rfl
  have hrv : (⟨((cc / m : Nat) : Int), ((cc % m : Nat) : Int), opp (bend (lett m (pad (flat ss)) (placeN m cc).i (placeN m cc).k) 0)⟩ : Wy) = rev (lett m (pad (flat ss))) (placeN m cc) := rfl
  rw [hpl] at hC1
  rw [hrv] at HC2
  have HP1 := hid (show onR n m (lett m (pad (flat ss))) (placeN m cc) = true → pathL n m (lett m (pad (flat ss))) cc = cellsI m (iter (lett m (pad (flat ss))) (placeN m cc)) (goL n m (lett m (pad (flat ss))) (placeN m cc)) from fun h => if_pos h)
  have HP2 := hid (show onR n m (lett m (pad (flat ss))) (placeN m cc) = false → pathL n m (lett m (pad (flat ss))) cc = cellsI m (iter (lett m (pad (flat ss))) (placeN m cc)) (goL n m (lett m (pad (flat ss))) (placeN m cc)) ++ (cellsI m (iter (lett m (pad (flat ss))) (rev (lett m (pad (flat ss))) (placeN m cc))) (goL n m (lett m (pad (flat ss))) (rev (lett m (pad (flat ss))) (placeN m cc)))).drop 1 from fun h => if_neg (by rw [h]; decide))
  have hCE : ∀ W, Below w.heap.size w W → Calls Try.prog 57 #[.slice A ss.length c, .int .i64 cc] W fun e w' => e = .returned (.int .u8 (lett m (pad (flat ss)) (placeN m cc).i (placeN m cc).k).toNat) ∧ ∃ d, w' = W.drewN d := HCE.out
  have HCE2 := hid hCE
  have hl1 := (goL_facts (t := lett m (pad (flat ss))) (x := placeN m cc) (Nat.zero_lt_succ 3) hx).1
  have hl1u := (goL_facts (t := lett m (pad (flat ss))) (x := placeN m cc) (Nat.zero_lt_succ 3) hx).2.1
  have hl2 := (goL_facts (t := lett m (pad (flat ss))) (x := rev (lett m (pad (flat ss))) (placeN m cc)) (rev_d _) (rev_in.2 hx)).1
  have hl2u := (goL_facts (t := lett m (pad (flat ss))) (x := rev (lett m (pad (flat ss))) (placeN m cc)) (rev_d _) (rev_in.2 hx)).2.1
  have h25 := hg.le25
  have hh0 : (headsI (iter (lett m (pad (flat ss))) (placeN m cc)) (goL n m (lett m (pad (flat ss))) (placeN m cc)))[0]? = some 0 := by
    unfold headsI
    rw [List.getElem?_map, List.getElem?_range (by omega)]
    rfl
  have hHL := headsI_length (iter (lett m (pad (flat ss))) (placeN m cc)) (goL n m (lett m (pad (flat ss))) (placeN m cc))
  have hCL1 := cellsI_length m (iter (lett m (pad (flat ss))) (placeN m cc)) (goL n m (lett m (pad (flat ss))) (placeN m cc))
  have hCL2 := cellsI_length m (iter (lett m (pad (flat ss))) (rev (lett m (pad (flat ss))) (placeN m cc))) (goL n m (lett m (pad (flat ss))) (rev (lett m (pad (flat ss))) (placeN m cc)))
  have HBD2 := hid (show ∀ W, Calls Try.prog 68 #[.int .u8 (lett m (pad (flat ss)) (placeN m cc).i (placeN m cc).k).toNat, .int .i64 0] W fun e w' => e = .returned (.int .i64 ((bend (lett m (pad (flat ss)) (placeN m cc).i (placeN m cc).k) 0 : Nat) : Int)) ∧ W = w' from HBD.out)
  unfold CloseEnd at hC1 HC2
  have hC1' := hid (show Calls Try.prog 83 #[.slice A ss.length c, .int .i64 cc, .int .i64 0] w _ from hC1.out)
  generalize pathL n m (lett m (pad (flat ss))) cc = pl at *
  generalize cellsI m (iter (lett m (pad (flat ss))) (placeN m cc)) (goL n m (lett m (pad (flat ss))) (placeN m cc)) = l1 at *
  generalize headsI (iter (lett m (pad (flat ss))) (placeN m cc)) (goL n m (lett m (pad (flat ss))) (placeN m cc)) = hl at *
  generalize cellsI m (iter (lett m (pad (flat ss))) (rev (lett m (pad (flat ss))) (placeN m cc))) (goL n m (lett m (pad (flat ss))) (rev (lett m (pad (flat ss))) (placeN m cc))) = l2 at *
  generalize headsI (iter (lett m (pad (flat ss))) (rev (lett m (pad (flat ss))) (placeN m cc))) (goL n m (lett m (pad (flat ss))) (rev (lett m (pad (flat ss))) (placeN m cc))) = hl2 at *
  generalize onR n m (lett m (pad (flat ss))) (rev (lett m (pad (flat ss))) (placeN m cc)) = on2 at *
  generalize hon : onR n m (lett m (pad (flat ss))) (placeN m cc) = on at *
  generalize goL n m (lett m (pad (flat ss))) (placeN m cc) = L1 at *
  generalize goL n m (lett m (pad (flat ss))) (rev (lett m (pad (flat ss))) (placeN m cc)) = L2 at *
  generalize lett m (pad (flat ss)) (placeN m cc).i (placeN m cc).k = bt at *
  have hl1b : L1 ≤ 100 := by omega
  have hl2b : L2 ≤ 100 := by omega
  have HH0 := hid hh0
  have HHL := hid hHL
  have HL1 := hid hCL1
  have HL2 := hid hCL2
  clear hh0 hHL hCL1 hCL2 hon h hg hcc hx hpl hrv hC1 HBD HCE hCE h25 hl1u hl2u
  go_enter Try.func58, Try.ntmps58
  go_wp2_with fail
  refine hC1'.out.mono ?_
  rintro e w1 ⟨v1, v2, rfl, hv1, hv2, hb1⟩
  have HB1 := hid hb1
  have HV1 := hid hv1
  obtain ⟨A1, c1, rfl, hi1⟩ := hv1.ints
  obtain ⟨A2, c2, rfl, hi2⟩ := hv2.ints
  have HI1 := hid hi1
  rw [HL1.out, HHL.out]
  obtain ⟨b2, o2, x2, rfl, hb2, hx2, hc2⟩ := hi2.at_ (k := 0) (by rw [HHL.out]; omega)
  rw [HH0.out] at hx2
  cases hx2
  rw [Nat.add_zero] at hc2
  have HC2c := hid hc2
  clear hb1 hv1 hv2 hi1 hi2 hc2
  cases on with
  | true =>
    have HPE := hid (HP1.out rfl)
    go_wp2_with fail
    go_ret
    exact ⟨⟨A1, c1, by rw [HPE.out, HL1.out]; rfl, by rw [HPE.out]; exact HI1.out⟩, HB1.out⟩
  | false =>
    have HPL := hid (HP2.out rfl)
    go_wp2_with fail
    have HC1W := hid (fun W (hb : Below w1.heap.size w1 W) => (hb.cell (p := ⟨b2, o2, none⟩) hb2).trans HC2c.out)
    refine wp_region_rel2 (by kernel_rfl) (by kernel_rfl) 18 rfl (fun us => { tmps := #[.slice A ss.length c, .int .i64 (cc : Int), .int .i64 0, undef, undef, undef, .slice none 0 0, .slice A1 L1 c1, .slice (some ⟨b2, o2, none⟩) L1 c2, .bool false, us 15, us 16, us 17,
      .tuple #[.slice A1 L1 c1, .slice (some ⟨b2, o2, none⟩) L1 c2, .bool false], .slice A ss.length c, .int .i64 (cc : Int), .int .i64 0, .tuple #[.slice A1 L1 c1, .slice (some ⟨b2, o2, none⟩) L1 c2, .bool false], .slice A1 L1 c1, .slice (some ⟨b2, o2, none⟩) L1 c2, .bool false, .bool false,
      undef, us 11, us 0, us 1, us 2, us 3, us 4, us 5, us 6, us 7, us 8, us 9, us 10, us 12, us 13, us 14, undef, undef, undef, undef, undef, undef], defers := [] }) (fun _ => undef) rfl (pathRelA A ss.length c cc w.heap.size b2 o2 L1 c2 bt on2 l2) (fun i v W W' h hb => ?_) (fun i us v hi => ?_) (fun i us W hi hb hd => ?_) (fun us W hb hr => ?_)
    · unfold pathRelA at h ⊢
      split at h <;> try exact h
      · obtain ⟨v1, v2, h1, h2⟩ := h
        exact ⟨v1, v2, h1, h2.belowC hb⟩
      · obtain ⟨v1, v2, h1, h2⟩ := h
        exact ⟨v1, v2, h1, h2.belowC hb⟩
      · exact h.belowC hb
      · exact h.belowC hb
    · match i, hi with
      | 0, _ => rfl
      | 1, _ => rfl
      | 2, _ => rfl
      | 3, _ => rfl
      | 4, _ => rfl
      | 5, _ => rfl
      | 6, _ => rfl
      | 7, _ => rfl
      | 8, _ => rfl
      | 9, _ => rfl
      | 10, _ => rfl
      | 11, _ => rfl
      | 12, _ => rfl
      | 13, _ => rfl
      | 14, _ => rfl
      | 15, _ => rfl
      | 16, _ => rfl
      | 17, _ => rfl
      | k + 18, hk => exact absurd hk (by omega)
    · have HBW := hid (HB1.out.trans (hb.mono HB1.out.size))
      match i, hi with
      | 0, _ => exact wpOp_val rfl rfl (by go_simp) rfl
      | 1, _ => exact wpOp_val rfl rfl (by go_simp) rfl
      | 2, _ => exact wpOp_val rfl rfl (by go_simp) rfl
      | 3, _ => exact wpOp_val rfl rfl (by go_simp) rfl
      | 4, _ =>
        have h0 : us 2 = _ := hd _ rfl { on := 2, ground := .data } (by simp) rfl
        have h1 : us 3 = _ := hd _ rfl { on := 3, ground := .data } (by simp) rfl
        rw [h0, h1]
        exact wpOp_call rfl rfl (by go_simp) ((HCE2.out W HBW.out).mono fun e w'' ⟨he, d, hw⟩ => ⟨_, he, rfl, by rw [hw]; exact below_drewN' (Below.refl _ _) d⟩)
      | 5, _ => exact wpOp_val rfl rfl (by go_simp) rfl
      | 6, _ =>
        have h0 : us 5 = _ := hd _ rfl { on := 5, ground := .data } (by simp) rfl
        rw [h0]
        have hp0 : (0 : Int) < (L1 : Int) := by omega
        have hn0 : ¬ L1 = 0 := by omega
        exact wpOp_val (u := .pointer (some ⟨b2, o2, none⟩)) rfl rfl (by go_simp) rfl
      | 7, _ =>
        have h0 : us 6 = _ := hd _ rfl { on := 6, ground := .data } (by simp) rfl
        rw [h0]
        have hc := HC1W.out W hb
        exact wpOp_val rfl rfl (by go_simp) rfl
      | 8, _ =>
        have h0 : us 4 = _ := hd _ rfl { on := 4, ground := .data } (by simp) rfl
        have h1 : us 7 = _ := hd _ rfl { on := 7, ground := .data } (by simp) rfl
        rw [h0, h1]
        exact wpOp_call rfl rfl (by go_simp) ((HBD2.out W).mono fun e w'' ⟨he, hw⟩ => ⟨_, he, rfl, by rw [← hw]; exact Below.refl _ _⟩)
      | 9, _ =>
        have h0 : us 8 = _ := hd _ rfl { on := 8, ground := .data } (by simp) rfl
        rw [h0]
        have hxo := HXO.out
        exact wpOp_val (u := .int .i64 ((opp (bend bt 0) : Nat) : Int)) rfl rfl (by go_simp) rfl
      | 10, _ =>
        have h0 : us 0 = _ := hd _ rfl { on := 0, ground := .data } (by simp) rfl
        have h1 : us 1 = _ := hd _ rfl { on := 1, ground := .data } (by simp) rfl
        have h2 : us 9 = _ := hd _ rfl { on := 9, ground := .data } (by simp) rfl
        rw [h0, h1, h2]
        exact wpOp_call rfl rfl (by go_simp) ((HC2.out W HBW.out).mono fun e w'' ⟨x1, x2, he, hg1, _, hb'⟩ => ⟨_, he, ⟨x1, x2, rfl, hg1.lower HBW.out.size⟩, hb'⟩)
      | 11, _ =>
        have h0 : pathRelA A ss.length c cc w.heap.size b2 o2 L1 c2 bt on2 l2 10 (us 10) W := hd _ rfl { on := 10, ground := .data } (by simp) rfl
        exact wpOp_val rfl rfl (by go_simp) h0
      | 12, _ =>
        obtain ⟨x1, x2, e0, hx⟩ : pathRelA A ss.length c cc w.heap.size b2 o2 L1 c2 bt on2 l2 11 (us 11) W := hd _ rfl { on := 11, ground := .data } (by simp) rfl
        rw [e0]
        exact wpOp_val (u := x1) rfl rfl (by go_simp) hx
      | 13, _ =>
        obtain ⟨x1, x2, e0, hx⟩ : pathRelA A ss.length c cc w.heap.size b2 o2 L1 c2 bt on2 l2 11 (us 11) W := hd _ rfl { on := 11, ground := .data } (by simp) rfl
        rw [e0]
        exact wpOp_val (u := x2) rfl rfl (by go_simp) trivial
      | 14, _ =>
        obtain ⟨x1, x2, e0, hx⟩ : pathRelA A ss.length c cc w.heap.size b2 o2 L1 c2 bt on2 l2 11 (us 11) W := hd _ rfl { on := 11, ground := .data } (by simp) rfl
        rw [e0]
        exact wpOp_val (u := .bool on2) rfl rfl (by go_simp) trivial
      | 15, _ =>
        have h0 : pathRelA A ss.length c cc w.heap.size b2 o2 L1 c2 bt on2 l2 12 (us 12) W := hd _ rfl { on := 12, ground := .data } (by simp) rfl
        exact wpOp_val rfl rfl (by go_simp) h0
      | 16, _ => exact wpOp_val (u := us 13) rfl rfl (by go_simp) trivial
      | 17, _ => exact wpOp_val (u := us 14) rfl rfl (by go_simp) trivial
      | k + 18, hk => exact absurd hk (by omega)
    · have h15 : GrowI W w.heap.size (us 15) l2 := hr 15 (by omega)
      have HB2 := hid (HB1.out.trans (hb.mono HB1.out.size))
      have HI1W := hid (HI1.out.below hb (Nat.le_refl _))
      have HSZ1 := hid hb.size
      obtain ⟨g, cap, e15, hcap, hcl⟩ := h15.head (by rw [HL2.out]; omega)
      rw [e15, HL2.out]
      rw [HL2.out] at hcap
      have HCL := hid hcl
      clear hr hb h15 e15 hcl
      obtain ⟨q0, hq0⟩ : ∃ x, us 0 = x := ⟨_, rfl⟩
      obtain ⟨q1, hq1⟩ : ∃ x, us 1 = x := ⟨_, rfl⟩
      obtain ⟨q2, hq2⟩ : ∃ x, us 2 = x := ⟨_, rfl⟩
      obtain ⟨q3, hq3⟩ : ∃ x, us 3 = x := ⟨_, rfl⟩
      obtain ⟨q4, hq4⟩ : ∃ x, us 4 = x := ⟨_, rfl⟩
      obtain ⟨q5, hq5⟩ : ∃ x, us 5 = x := ⟨_, rfl⟩
      obtain ⟨q6, hq6⟩ : ∃ x, us 6 = x := ⟨_, rfl⟩
      obtain ⟨q7, hq7⟩ : ∃ x, us 7 = x := ⟨_, rfl⟩
      obtain ⟨q8, hq8⟩ : ∃ x, us 8 = x := ⟨_, rfl⟩
      obtain ⟨q9, hq9⟩ : ∃ x, us 9 = x := ⟨_, rfl⟩
      obtain ⟨q10, hq10⟩ : ∃ x, us 10 = x := ⟨_, rfl⟩
      obtain ⟨q11, hq11⟩ : ∃ x, us 11 = x := ⟨_, rfl⟩
      obtain ⟨q12, hq12⟩ : ∃ x, us 12 = x := ⟨_, rfl⟩
      obtain ⟨q13, hq13⟩ : ∃ x, us 13 = x := ⟨_, rfl⟩
      obtain ⟨q14, hq14⟩ : ∃ x, us 14 = x := ⟨_, rfl⟩
      obtain ⟨q16, hq16⟩ : ∃ x, us 16 = x := ⟨_, rfl⟩
      obtain ⟨q17, hq17⟩ : ∃ x, us 17 = x := ⟨_, rfl⟩
      rw [hq0, hq1, hq2, hq3, hq4, hq5, hq6, hq7, hq8, hq9, hq10, hq11, hq12, hq13, hq14, hq16, hq17]
      clear hq0 hq1 hq2 hq3 hq4 hq5 hq6 hq7 hq8 hq9 hq10 hq11 hq12 hq13 hq14 hq16 hq17
      go_wp2_with fail
      refine wp_region_rel_tail (by kernel_rfl) 5 (by kernel_rfl) (fun us => { tmps := #[.slice A ss.length c, .int .i64 (cc : Int), .int .i64 0, undef, undef, undef, .slice none 0 0, .slice A1 L1 c1, .slice (some ⟨b2, o2, none⟩) L1 c2, .bool false, .slice (some ⟨g, 0, none⟩) L2 cap, q16, q17,
        .tuple #[.slice A1 L1 c1, .slice (some ⟨b2, o2, none⟩) L1 c2, .bool false], .slice A ss.length c, .int .i64 (cc : Int), .int .i64 0, .tuple #[.slice A1 L1 c1, .slice (some ⟨b2, o2, none⟩) L1 c2, .bool false], .slice A1 L1 c1, .slice (some ⟨b2, o2, none⟩) L1 c2, .bool false, .bool false,
        undef, q11, q0, q1, q2, q3, q4, q5, q6, q7, q8, q9, q10, q12, q13, q14, us 0, us 1, us 2, us 3, us 4, undef], defers := [] }) (fun _ => undef) rfl (pathRelB A1 L1 c1 w.heap.size g cap L2 l1 l2) (fun i v W W' h hb => ?_) (fun i us v hi => ?_) (fun i us W' hi hb hd => ?_) (fun us W' hb hr => ?_)
      · unfold pathRelB at h ⊢
        split at h <;> try exact h
        · exact h.belowC hb
        · obtain ⟨ad, c', h1, h2⟩ := h
          exact ⟨ad, c', h1, h2.below hb⟩
      · match i, hi with
        | 0, _ => rfl
        | 1, _ => rfl
        | 2, _ => rfl
        | 3, _ => rfl
        | 4, _ => rfl
      · match i, hi with
        | 0, _ => exact wpOp_make (u := .slice (some ⟨W'.heap.size, 0, none⟩) 0 0) (w' := W'.alloc (.cells #[] 3)) rfl rfl (by go_simp) ⟨_, rfl⟩ ((Below.refl _ W').alloc (Nat.le_refl _) _)
        | 1, _ => exact wpOp_val rfl rfl (by go_simp) rfl
        | 2, _ =>
          obtain ⟨h, h0⟩ : ∃ h, us 0 = .slice (some ⟨h, 0, none⟩) 0 0 := hd _ rfl { on := 0, ground := .data } (by simp) rfl
          have h1 : us 1 = _ := hd _ rfl { on := 1, ground := .data } (by simp) rfl
          have hiw := HI1W.out.below hb HSZ1.out
          obtain ⟨bb, oo, rfl, _, hcc⟩ := hiw (by rw [HL1.out]; omega)
          rw [h0, h1]
          refine wpOp_appendI rfl rfl _ _ rfl h ⟨bb, oo, none⟩ c1 l1 rfl (by rw [HL1.out]; rfl) (fun j u hj => ?_) (by rw [HL1.out]; omega) (by rw [HL1.out]; omega) (fun v' w' hgr _ => hgr.lower (Nat.le_trans HB2.out.size hb.size))
          unfold intsV at hj
          rw [List.getElem?_map] at hj
          cases hlj : l1[j]? with
          | none => rw [hlj] at hj; cases hj
          | some x =>
            rw [hlj] at hj
            cases hj
            have e : (Addr.add ⟨bb, oo, none⟩ j : Addr) = ⟨bb, oo + j, none⟩ := by unfold Addr.add; split <;> simp_all
            rw [e]
            exact hcc j x hlj
        | 3, _ => exact wpOp_val rfl rfl (by go_simp) rfl
        | 4, _ =>
          have h0 : us 3 = _ := hd _ rfl { on := 3, ground := .data } (by simp) rfl
          rw [h0]
          have hL2i : (1 : Int) ≤ (L2 : Int) := by omega
          have hct := HCL.out.below hb
          by_cases hc1 : cap = 1
          · subst hc1
            obtain rfl : L2 = 1 := by omega
            have hnil : l2.drop 1 = [] := List.drop_eq_nil_of_le (by rw [HL2.out]; exact Nat.le_refl _)
            exact wpOp_val (u := .slice (some ⟨g, 0, none⟩) 0 0) rfl rfl (by go_simp) ⟨_, _, rfl, by rw [hnil]; exact ⟨.inl rfl, fun j u hj => by simp [intsV] at hj⟩⟩
          · exact wpOp_val (u := .slice (some ⟨g, 1, none⟩) (L2 - 1) (cap - 1)) rfl rfl (by go_simp) ⟨_, _, rfl, hct.tail⟩
      · obtain ⟨ad, c', h4, hc4⟩ : ∃ ad c', us 4 = .slice (some ad) (L2 - 1) c' ∧ CellsAt W' ad (intsV (l2.drop 1)) := hr 4 (by omega)
        have h2 : GrowI W' w.heap.size (us 2) l1 := hr 2 (by omega)
        have HB3 := hid (HB2.out.trans (hb.mono HB2.out.size))
        rw [h4]
        obtain ⟨i0, hi, hz0, hz1, hz2⟩ := info_parts Try.info_int
        have hlen : (l2.drop 1).length = L2 - 1 := by rw [List.length_drop, HL2.out]
        generalize us 2 = v2' at *
        generalize us 0 = x0 at *
        generalize us 1 = x1 at *
        generalize us 3 = x3 at *
        have h2L : GrowI W' w.heap.size v2' l1 := h2
        unfold GrowI at h2
        rw [HL1.out] at h2
        refine wpList_append_own _ rfl _ _ 31 rfl w.heap.size 3 i0 (.int .i64 0) 1 8 Try.underlying31 hi hz0 hz1 hz2 rfl (by decide) v2' L1 (intsV l1) rfl h2 ad (L2 - 1) c' (intsV (l2.drop 1)) rfl (by rw [intsV, List.length_map, hlen, Nat.mul_one]) hc4.2 (intsV_one _) (by unfold maxLen; omega) (by omega) HB3.out.size ?_
        intro v' w' hown hgw _
        have HB4 := hid (HB3.out.grown hgw HB3.out.size (fun k e => (World.ownsRow.lt h2 k e).1))
        have HG4 := hid (show GrowI w' w.heap.size v' (l1 ++ l2.drop 1) by
          unfold GrowI
          rw [List.length_append, hlen, HL1.out]
          unfold intsV at hown ⊢
          rw [List.map_append]
          exact hown)
        obtain ⟨A9, c9, rfl, hi9⟩ := HG4.out.ints
        have HI9 := hid hi9
        clear hown hgw h2 h2L hi9 hr hb hc4
        go_wp2_with fail
        go_ret
        exact ⟨⟨A9, c9, by rw [HPL.out, List.length_append, List.length_drop]; rfl, by rw [HPL.out]; exact HI9.out⟩, HB4.out⟩

end Go.Proofs.Ytagnecclhmbofaa
