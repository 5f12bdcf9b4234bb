/- l3Close of the specification, by its contract. -/
import Derived.Test.YtmdgbcepjnfbnaaSpecPort
import Derived.Test.YtmdgbcepjnfbnaaRoundN
namespace Go.Proofs.Ytmdgbcepjnfbnaa
open Go.RowKit Go.Shelf

/-- What l3Close comes to. -/
def CloseEnd (n m : Nat) (t : Int → Int → UInt8) (x : Wy) (w : World) (e : Ending) (w' : World) : Prop :=
  ∃ v v', e = .returned (.tuple #[v, v', .bool (onR n m t x)]) ∧ GrowI w' w.heap.size v (cellsI m (iter t x) (goL n m t x)) ∧ GrowI w' w.heap.size v' (headsI (iter t x) (goL n m t x)) ∧ Below w.heap.size w w'
def CSRel (m : Nat) (bw : Nat → Wy) (L : Nat) (w : World) (d i k v v' : Value) (wr : World) : Prop :=
  ∃ j : Nat, j < L ∧ i = .int .i64 (bw j).i ∧ k = .int .i64 (bw j).k ∧ d = .int .i64 (((bw j).d : Nat) : Int) ∧
    GrowI wr w.heap.size v ((cellsI m bw L).take j) ∧ GrowI wr w.heap.size v' ((headsI bw L).take j) ∧ Apart v v' ∧ Below w.heap.size w wr

set_option maxRecDepth 100000 in
set_option maxHeartbeats 4000000 in
theorem l3Close_any (A : Option Addr) (c B n m p d0 : Nat) (ss : List ByteArray) (w : World) (h : Strs w B A ss) (hB : B ≤ w.heap.size) (hg : IsGrid n m ss) (hp : p < n * m) (hd0 : d0 < 4) :
    Calls Try.prog 75 #[.slice A ss.length c, .int .i64 (p : Int), .int .i64 (d0 : Int)] w (CloseEnd n m (lett m (pad (flat ss))) ⟨((p / m : Nat) : Int), ((p % m : Nat) : Int), d0⟩ w) := by
  have hn1 := hg.2.1
  have hn5 := hg.2.2.1
  have hm1 := hg.2.2.2.1
  have hm5 := hg.2.2.2.2.1
  have hnl := hg.1
  have hx : inG n m ⟨((p / m : Nat) : Int), ((p % m : Nat) : Int), d0⟩ := by
    have h2 : p / m < n := by rw [Nat.div_lt_iff_lt_mul (by omega)]; exact hp
    have h3 : p % m < m := Nat.mod_lt _ (by omega)
    exact ⟨Int.natCast_nonneg _, Int.ofNat_lt.2 h2, Int.natCast_nonneg _, Int.ofNat_lt.2 h3⟩
  have hpm : p / m * m + p % m = p := by rw [Nat.mul_comm]; exact Nat.div_add_mod p m
  have hdiv : (p : Int) / (m : Int) = ((p / m : Nat) : Int) := rfl
  have hmod : (p : Int) % (m : Int) = ((p % m : Nat) : Int) := rfl
  have hmlt : p % m < m := Nat.mod_lt _ (by omega)
  obtain ⟨r0, hr0⟩ : ∃ r0, p / m = r0 := ⟨_, rfl⟩
  obtain ⟨q0, hq0⟩ : ∃ q0, p % m = q0 := ⟨_, rfl⟩
  rw [hr0] at hx hpm hdiv
  rw [hq0] at hx hpm hmod hmlt
  rw [hr0, hq0]
  clear hr0 hq0
  have hnm : n * m ≤ 5 * 5 := Nat.mul_le_mul hn5 hm5
  have hp25 : p < 25 := by omega
  obtain ⟨f1, f2, f3, f4, f5, f6⟩ := goL_facts (t := lett m (pad (flat ss))) (show (⟨(r0 : Int), (q0 : Int), d0⟩ : Wy).d < 4 from hd0) hx
  have f7 := fun j => goL_back (t := lett m (pad (flat ss))) (j := j) (show (⟨(r0 : Int), (q0 : Int), d0⟩ : Wy).d < 4 from hd0) hx
  have f8 := fun j => iter_d (t := lett m (pad (flat ss))) (show (⟨(r0 : Int), (q0 : Int), d0⟩ : Wy).d < 4 from hd0) j
  have f9 : ∀ j, iter (lett m (pad (flat ss))) ⟨(r0 : Int), (q0 : Int), d0⟩ (j + 1) = nxt (lett m (pad (flat ss))) (iter (lett m (pad (flat ss))) ⟨(r0 : Int), (q0 : Int), d0⟩ j) := fun j => rfl
  have f0 : iter (lett m (pad (flat ss))) ⟨(r0 : Int), (q0 : Int), d0⟩ 0 = ⟨(r0 : Int), (q0 : Int), d0⟩ := rfl
  unfold CloseEnd
  generalize goL n m (lett m (pad (flat ss))) ⟨(r0 : Int), (q0 : Int), d0⟩ = L at *
  generalize onR n m (lett m (pad (flat ss))) ⟨(r0 : Int), (q0 : Int), d0⟩ = on at *
  generalize iter (lett m (pad (flat ss))) ⟨(r0 : Int), (q0 : Int), d0⟩ = bw at *
  have hpos := f1
  have hL100 : L ≤ 100 := by omega
  have HNE := hid f4
  have HIN := hid f3
  have HON := hid (fun h => (f5 h).1)
  have HOUT := hid f6
  have HBK := hid f7
  have HD := hid f8
  have HST := hid f9
  have HZ := hid f0
  have HLE := hid (fun t y w' hd hi ho => l2Leave_out n m t y hd hi ho hn5 hm5 w')
  obtain ⟨b, off, s0, rfl, hb, hk0, hc0⟩ := h.at_ (k := 0) (by omega)
  rw [Nat.add_zero] at hc0
  have hs0 : s0.size = m := (hg.2.2.2.2.2 s0 (List.mem_of_getElem? hk0)).1
  have hs0i : ((s0.size : Nat) : Int) = (m : Int) := by rw [hs0]
  have hl0 : (0 : Int) < (ss.length : Int) := by omega
  have hr05 : (r0 : Int) < 5 := by have := hx.2.1; simp only at this; omega
  have hq05 : (q0 : Int) < 5 := by omega
  have hmz : ((m : Int) == 0) = false := by simp; omega
  have HG := hid hg
  have HH := hid h
  have HBB := hid hB
  have HNL := hid hnl
  have HPM := hid hpm
  have HX0 := hid hx
  clear hk0 h hB hnl hs0 hg f1 f2 f3 f4 f5 f6 f7 f8 f9 f0 hnm hpm hx
  rw [HNL.out] at hl0 ⊢
  go_enter Try.func75, Try.ntmps75
  go_wp2_with fail
  try rw [hmod]
  try rw [hdiv]
  clear hmod hdiv
  go_loopw [2, 11, 12, 13, 14] (CSRel m bw L w) (fun d i k _ _ _ => L - idxW bw (L - 1) ⟨intOf i, intOf k, (intOf d).toNat⟩)
  case atStart =>
    refine ⟨0, hpos, by rw [HZ.out], by rw [HZ.out], by rw [HZ.out], ?_, ?_, ?_, ?_⟩
    · exact World.ownsRow.alloc (growI_new w _ (Nat.le_refl _)) _
    · have := growI_new (w.alloc (.cells #[] 3)) w.heap.size (by simp)
      rwa [World.size_alloc] at this
    · intro b b' e e'
      simp [Value.ownBlock] at e e'
      omega
    · exact ((Below.refl _ w).alloc (Nat.le_refl _) _).alloc (by simp) _
  case round =>
    obtain ⟨j, hj, rfl, rfl, rfl, hv1, hv2, hap, hbel⟩ := hrel
    have HV1 := hid hv1
    have HV2 := hid hv2
    have HAP := hid hap
    have HB := hid hbel
    clear hv1 hv2 hap hbel
    have hin := HIN.out j hj
    have hd4 := HD.out j
    have hd41 := HD.out (j + 1)
    have hst := HST.out j
    have hcl := cellN_int hin
    have hcl2 := cellN_lt hin
    have hc1 : (cellsI m bw L).take (j + 1) = (cellsI m bw L).take j ++ [((cellN m (bw j) : Nat) : Int)] := range_take L j _ hj
    have hc2 : (headsI bw L).take (j + 1) = (headsI bw L).take j ++ [(((bw j).d : Nat) : Int)] := range_take L j _ hj
    rw [← hcl] at hc1
    have hidx := idxW_eq (W := bw) (L := L - 1) (j := j) (by omega) (fun a b h1 h2 => HNE.out a b h1 (by omega))
    have HLI := hid (show ∀ w', inG n m (bw (j + 1)) → Calls Try.prog 119 #[.int .i64 n, .int .i64 m, .int .i64 (bw (j + 1)).i, .int .i64 (bw (j + 1)).k] w' fun e w'' => e = .returned (.int .i64 (-1)) ∧ w' = w'' from fun w' h => l2Leave_in n m (bw (j + 1)) h w')
    have HLO := hid (show ∀ w', ¬ inG n m (bw (j + 1)) → Calls Try.prog 119 #[.int .i64 n, .int .i64 m, .int .i64 (bw (j + 1)).i, .int .i64 (bw (j + 1)).k] w' fun e w'' => e = .returned (.int .i64 (leav n m (bw (j + 1)))) ∧ w' = w'' from fun w' ho => by
      rw [hst] at ho ⊢
      exact HLE.out _ _ w' hd4 hin ho)
    have HLB := hid (show ¬ inG n m (bw (j + 1)) → 0 ≤ leav n m (bw (j + 1)) from fun ho => by
      rw [hst] at ho ⊢
      exact (leav_entr hd4 hin ho).1)
    have HI1 := hid (show j + 1 < L → inG n m (bw (j + 1)) ∧ bw (j + 1) ≠ ⟨(r0 : Int), (q0 : Int), d0⟩ ∧ idxW bw (L - 1) (bw (j + 1)) = j + 1 from fun h => ⟨HIN.out _ h, HBK.out (j + 1) (by omega) h, idxW_eq (by omega) (fun a b h1 h2 => HNE.out a b h1 (by omega))⟩)
    have HI2 := hid (show j + 1 = L → on = true → bw (j + 1) = ⟨(r0 : Int), (q0 : Int), d0⟩ from fun h ho => by rw [h]; exact HON.out ho)
    have HI3 := hid (show j + 1 = L → on = false → ¬ inG n m (bw (j + 1)) from fun h ho => by rw [h]; exact HOUT.out ho)
    obtain ⟨x, hx⟩ : ∃ x, bw j = x := ⟨_, rfl⟩
    obtain ⟨x1, hx1⟩ : ∃ x, bw (j + 1) = x := ⟨_, rfl⟩
    rw [hx] at hin hd4 hst hcl hc1 hc2 hidx hcl2 ⊢
    rw [hx1] at hst HLI HLO HLB HI1 HI2 HI3 hd41
    have HX1 := hid hx1
    obtain ⟨iv, kv, d⟩ := x
    obtain ⟨i1, k1, d1⟩ := x1
    obtain ⟨g1, g2, g3, g4⟩ := hin
    simp only at g1 g2 g3 g4 hd4 hcl hc1 hc2 hidx HLI HLO HLB hcl2 hd41 ⊢
    obtain ⟨r, rfl⟩ : ∃ r : Nat, iv = r := ⟨iv.toNat, by omega⟩
    obtain ⟨q, rfl⟩ : ∃ q : Nat, kv = q := ⟨kv.toNat, by omega⟩
    have hrn : r < n := by omega
    have hqm : q < m := by omega
    obtain ⟨b', off', s, hA, hb', hks, _⟩ := HH.out.at_ (by rw [HNL.out]; exact hrn)
    obtain ⟨rfl, rfl⟩ : b = b' ∧ off = off' := by cases hA; exact ⟨rfl, rfl⟩
    have hsm : s.size = m := (HG.out.2.2.2.2.2 s (List.mem_of_getElem? hks)).1
    have hps : q < s.size := by omega
    obtain ⟨bt, hbt⟩ : ∃ bt, s.data.toList[q]? = some bt := ⟨_, List.getElem?_eq_getElem (by rw [← Lib.size_eq]; exact hps)⟩
    have hbyte : s[q] = bt := byte_of hbt hps
    have hlett : lett m (pad (flat ss)) r q = bt := by
      have e2 := flat_at ss r q s (fun i t _ ht => (HG.out.2.2.2.2.2 t (List.mem_of_getElem? ht)).1) hks hps
      unfold lett
      rw [show ((r : Int) * (m : Int) + (q : Int)).toNat = r * m + q by omega, pad_getD _ _ (by rw [HG.out.flen]; exact parts_lt hrn hqm), List.getD_eq_getElem?_getD, e2, hbt]
      rfl
    unfold nxt at hst
    simp only [hlett] at hst
    obtain ⟨t1, t2, t3⟩ : i1 = stepI r (bend bt d) ∧ k1 = stepK q (bend bt d) ∧ d1 = bend bt d := by cases hst; exact ⟨rfl, rfl, rfl⟩
    have HBD := hid (show ∀ w', Calls Try.prog 117 #[.int .u8 bt.toNat, .int .i64 d] w' fun e w'' => e = .returned (.int .i64 ((d1 : Nat) : Int)) ∧ w' = w'' from fun w' => by rw [t3]; exact l2Bend_any bt d hd4 w')
    have HSP := hid (show ∀ w', Calls Try.prog 118 #[.int .i64 r, .int .i64 q, .int .i64 d1] w' fun e w'' => e = .returned (.tuple #[.int .i64 i1, .int .i64 k1]) ∧ w' = w'' from fun w' => by
      rw [t1, t2, t3]; exact l2Step_any r q _ (bend_lt bt hd4) ⟨by omega, by omega⟩ ⟨by omega, by omega⟩ w')
    have hr1 : (r : Int) < (n : Int) := by omega
    have hq1 : (q : Int) < ((s.size : Nat) : Int) := by omega
    have hmul1 : 0 ≤ (r : Int) * (m : Int) := Int.mul_nonneg (by omega) (by omega)
    have hmul2 : (r : Int) * (m : Int) ≤ 25 := by
      have : (r : Int) * (m : Int) ≤ 5 * 5 := Int.mul_le_mul (by omega) (by omega) (by omega) (by omega)
      omega
    have HC1 := hid hc1
    have HC2 := hid hc2
    have HIX := hid hidx
    have HKs := hid hks
    clear hst hlett t1 t2 t3 hbt hks hA hx hx1 hc1 hc2 hidx hcl hcl2 g1 g2 g3 g4 hd4
    go_wp2_with (at_builtin; refine wpList_appendI rfl _ _ rfl w.heap.size u13 ((cellsI m bw L).take j) rfl (World.ownsRow.alloc HV1.out _) wr.heap.size 1 rfl ((r : Int) * (m : Int) + (q : Int)) (cell_newI wr _) ?c3 (Nat.le_trans HB.out.size (by simp)) ?_)
    case c3 => rw [List.length_take, cellsI_length]; omega
    intro v1 w1 hgr1 hgw1 hlo1
    have HR1 := hid hgr1
    have HR2 := hid (grown_apart (World.ownsRow.alloc HV2.out _) hgw1 HAP.out)
    have HA1 := hid (Apart.grown HAP.out HV2.out (by omega) hlo1)
    have HB1 := hid ((HB.out.alloc HB.out.size _).grown hgw1 (Nat.le_trans HB.out.size (by simp)) (fun k e => (World.ownsRow.lt HV1.out k e).1))
    clear hgr1 hgw1 hlo1
    go_wp2_with (at_builtin; refine wpList_appendI rfl _ _ rfl w.heap.size u14 ((headsI bw L).take j) rfl (World.ownsRow.alloc HR2.out _) w1.heap.size 1 rfl ((d : Nat) : Int) (cell_newI w1 _) ?c4 (Nat.le_trans HB1.out.size (by simp)) ?_)
    case c4 => rw [List.length_take, headsI_length]; omega
    intro v2 w2 hgr2 hgw2 hlo2
    have HS2 := hid hgr2
    have HS1 := hid (grown_apart (World.ownsRow.alloc HR1.out _) hgw2 HA1.out.symm)
    have HA2 := hid (Apart.grown HA1.out.symm HR1.out (by omega) hlo2)
    have HB2 := hid ((HB1.out.alloc HB1.out.size _).grown hgw2 (Nat.le_trans HB1.out.size (by simp)) (fun k e => (World.ownsRow.lt HR2.out k e).1))
    clear hgr2 hgw2 hlo2
    have hc := (HH.out.below HB2.out HBB.out).cell_ HKs.out
    go_wp2_with fail
    refine (HBD.out _).mono ?_
    rintro e w' ⟨rfl, rfl⟩
    go_wp2_with fail
    refine (HSP.out _).mono ?_
    rintro e w' ⟨rfl, rfl⟩
    go_wp2_with fail
    by_cases hout : j + 1 = L ∧ on = false
    · have ho := HI3.out hout.1 hout.2
      have hlb := HLB.out ho
      have HEq := hid hout
      refine (HLO.out _ ho).mono ?_
      rintro e w' ⟨rfl, rfl⟩
      clear ho hout
      go_wp2_with fail
      go_ret3
      refine ⟨v1, v2, ?_, ?_, ?_, HB2.out⟩
      · rw [HEq.out.2]; rfl
      · have := HS1.out
        rwa [← HC1.out, List.take_of_length_le (by rw [cellsI_length]; have := HEq.out.1; omega)] at this
      · have := HS2.out
        rwa [← HC2.out, List.take_of_length_le (by rw [headsI_length]; have := HEq.out.1; omega)] at this
    · have hin1 : inG n m ⟨i1, k1, d1⟩ := by
        by_cases hlast : j + 1 < L
        · exact (HI1.out hlast).1
        · have hjL : j + 1 = L := by omega
          have hon : on = true := by
            cases on with
            | true => rfl
            | false => exact absurd ⟨hjL, rfl⟩ hout
          rw [HI2.out hjL hon]; exact HX0.out
      refine (HLI.out _ hin1).mono ?_
      rintro e w' ⟨rfl, rfl⟩
      obtain ⟨y1, y2, y3, y4⟩ := hin1
      simp only at y1 y2 y3 y4
      obtain ⟨r1, rfl⟩ : ∃ r : Nat, i1 = r := ⟨i1.toNat, by omega⟩
      obtain ⟨q1, rfl⟩ : ∃ q : Nat, k1 = q := ⟨k1.toNat, by omega⟩
      have hmul3 : 0 ≤ (r1 : Int) * (m : Int) := Int.mul_nonneg (by omega) (by omega)
      have hmul4 : (r1 : Int) * (m : Int) ≤ 25 := by
        have : (r1 : Int) * (m : Int) ≤ 5 * 5 := Int.mul_le_mul (by omega) (by omega) (by omega) (by omega)
        omega
      have hcell : (r1 : Int) * (m : Int) + (q1 : Int) = (p : Int) ↔ r1 = r0 ∧ q1 = q0 := by
        have e1 : (r1 : Int) * (m : Int) + (q1 : Int) = ((r1 * m + q1 : Nat) : Int) := by rw [Int.natCast_add, Int.natCast_mul]
        rw [e1, ← HPM.out]
        constructor
        · intro e
          exact parts_inj (by omega) (by omega) hmlt
        · rintro ⟨rfl, rfl⟩; rfl
      have HCE := hid hcell
      clear hcell
      by_cases hlast : j + 1 < L
      · obtain ⟨_, hne, hid1⟩ := HI1.out hlast
        have HID := hid hid1
        have hfin : ¬ (((r1 : Int) * (m : Int) + (q1 : Int) = (p : Int)) ∧ d1 = d0) := fun hh => by
          obtain ⟨e1, e2⟩ := HCE.out.1 hh.1
          exact hne (by rw [e1, e2, hh.2])
        clear hne hid1
        by_cases hce : (r1 : Int) * (m : Int) + (q1 : Int) = (p : Int)
        · have hdne : (((d1 : Nat) : Int) == ((d0 : Nat) : Int)) = false := by rw [beq_eq_false_iff_ne]; intro e; exact hfin ⟨hce, by omega⟩
          have hceq : ((r1 : Int) * (m : Int) + (q1 : Int) == (p : Int)) = true := beq_iff_eq.2 hce
          clear hfin hce
          go_wp2_with fail
          go_roundw
          case rel => exact ⟨j + 1, hlast, by rw [HX1.out], by rw [HX1.out], by rw [HX1.out], by rw [HC1.out]; exact HS1.out, by rw [HC2.out]; exact HS2.out, HA2.out.symm, HB2.out⟩
          case measure =>
            simp only [intOf, Int.toNat_natCast]
            rw [HIX.out, HID.out]
            omega
        · have hceq : ((r1 : Int) * (m : Int) + (q1 : Int) == (p : Int)) = false := beq_eq_false_iff_ne.2 hce
          clear hfin hce
          go_wp2_with fail
          go_roundw
          case rel => exact ⟨j + 1, hlast, by rw [HX1.out], by rw [HX1.out], by rw [HX1.out], by rw [HC1.out]; exact HS1.out, by rw [HC2.out]; exact HS2.out, HA2.out.symm, HB2.out⟩
          case measure =>
            simp only [intOf, Int.toNat_natCast]
            rw [HIX.out, HID.out]
            omega
      · have hjL : j + 1 = L := by omega
        have hon : on = true := by
          cases on with
          | true => rfl
          | false => exact absurd ⟨hjL, rfl⟩ hout
        have hback := HI2.out hjL hon
        have HEq := hid hjL
        have HOn := hid hon
        obtain ⟨e1, e2, rfl⟩ : (r1 : Int) = (r0 : Int) ∧ (q1 : Int) = (q0 : Int) ∧ d1 = d0 := by cases hback; exact ⟨rfl, rfl, rfl⟩
        have hce := HCE.out.2 ⟨by omega, by omega⟩
        have hceq : ((r1 : Int) * (m : Int) + (q1 : Int) == (p : Int)) = true := beq_iff_eq.2 hce
        clear hjL hon hlast hback e1 e2 hout hce
        go_wp2_with fail
        go_ret3
        refine ⟨v1, v2, ?_, ?_, ?_, HB2.out⟩
        · rw [HOn.out]; rfl
        · have := HS1.out
          rwa [← HC1.out, List.take_of_length_le (by rw [cellsI_length]; have := HEq.out; omega)] at this
        · have := HS2.out
          rwa [← HC2.out, List.take_of_length_le (by rw [headsI_length]; have := HEq.out; omega)] at this

end Go.Proofs.Ytmdgbcepjnfbnaa
