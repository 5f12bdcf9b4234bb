/- l3Rounds of the specification, by its contract. -/
import Derived.Test.YtmdgbcepjnfbnaaSpecMarks
namespace Go.Proofs.Ytmdgbcepjnfbnaa
open Go.RowKit Go.Shelf

/-- The lengths of the rounds of the leading numbers below x. -/
def lensTo (n m : Nat) (t : Int → Int → UInt8) (x : Nat) : List Int := (leadsTo n m t x).map fun l => ((rlen n m t (wayN m l) : Nat) : Int)
theorem lensTo_le (n m : Nat) (t : Int → Int → UInt8) (x : Nat) : (lensTo n m t x).length ≤ x := by
  unfold lensTo
  rw [List.length_map]; exact leadsTo_le x
def ROut (n m : Nat) (t : Int → Int → UInt8) (N g : Nat) (w : World) (v i : Value) (wr : World) : Prop :=
  ∃ x : Nat, x ≤ N ∧ i = .int .i64 x ∧ GrowI wr w.heap.size v (lensTo n m t x) ∧ (∀ b, v.ownBlock = some b → b ≠ g) ∧ MarksAt wr g N (Mk n m t x) ∧ Below w.heap.size w wr
def RIn (m L : Nat) (t : Int → Int → UInt8) (bw : Nat → Wy) (M : Nat → Prop) (N g : Nat) (wo : World) (i : Value) (wr : World) : Prop :=
  ∃ j : Nat, j ≤ L ∧ i = .int .i64 j ∧ MarksAt wr g N (fun c => M c ∨ ∃ i, i < j ∧ (c = wcode m (bw i) ∨ c = wcode m (rev t (bw i)))) ∧ But g wo wr
theorem xor_opp {d : Nat} (h : d < 4) : bits .xor .i64 (d : Int) 2 = ((opp d : Nat) : Int) := by
  rcases four h with rfl | rfl | rfl | rfl <;> decide
theorem but_grown {g : Nat} {w w' : World} (h : But g w w') : w.grownBy w' (some g) := ⟨h.os, h.tape, h.output, h.size, fun k hk hne => h.block k hk (fun e => hne (by rw [e]))⟩
theorem GrowI.but {w w' : World} {base g : Nat} {v : Value} {l : List Int} (h : GrowI w base v l) (hb : But g w w') (hn : ∀ b, v.ownBlock = some b → b ≠ g) : GrowI w' base v l := by
  refine World.ownsRow.kept h (but_grown hb) ?_
  cases hv : v.ownBlock with
  | none => exact .inl rfl
  | some k => exact .inr (fun e => by cases e; exact hn g hv rfl)
theorem GrowI.below3 {w w' : World} {base : Nat} {v : Value} {l : List Int} (h : GrowI w base v l) (hb : Below w.heap.size w w') : GrowI w' base v l := by
  refine World.ownsRow.kept h (Cls.grown hb) ?_
  cases v.ownBlock with
  | none => exact .inl rfl
  | some k => exact .inr (fun e => by cases e)

set_option maxRecDepth 100000 in
set_option maxHeartbeats 4000000 in
theorem l3Rounds_any (A : Option Addr) (c B n m : Nat) (ss : List ByteArray) (w : World) (h : Strs w B A ss) (hB : B ≤ w.heap.size) (hg : IsGrid n m ss) :
    Calls Try.prog 85 #[.slice A ss.length c] w fun e w' => ∃ v, e = .returned v ∧ GrowI w' w.heap.size v (lensTo n m (lett m (pad (flat ss))) (4 * (n * m))) ∧ Below w.heap.size w w' := by
  have hn1 := hg.2.1
  have hn5 := hg.2.2.1
  have hm1 := hg.2.2.2.1
  have hm5 := hg.2.2.2.2.1
  have h25 := hg.le25
  have HMK := hid (fun w' (hst : Strs w' B A ss) hB' => l3Marks_any A c B n m ss w' hst hB' hg)
  have HCL := hid (fun p d0 w' (hst : Strs w' B A ss) hB' hp hd => l3Close_any A c B n m p d0 ss w' hst hB' hg hp hd)
  have HCE := hid (fun p bt w' (hst : Strs w' B A ss) hp hf => l2Cell_any A c B n m p ss bt w' hst hg hp hf)
  have HLT := hid (fun x (hx : inG n m x) => lett_flat hg hx)
  have HH := hid h
  have HBB := hid hB
  clear h hB hg
  generalize lett m (pad (flat ss)) = t at *
  obtain ⟨N, hN⟩ : ∃ N, 4 * (n * m) = N := ⟨_, rfl⟩
  have hN100 : N ≤ 100 := by omega
  have HNN := hid hN
  rw [hN] at HMK ⊢
  clear hN
  have hst0 := hid (HH.out.below ((Below.refl w.heap.size w).alloc (Nat.le_refl _) (.cells #[] 3)) HBB.out)
  have HM0 := hid (HMK.out _ hst0.out (Nat.le_trans HBB.out (by simp)))
  go_enter Try.func85, Try.ntmps85
  go_wp2_with fail
  refine HM0.out.mono ?_
  rintro e w0 ⟨g, hgl, rfl, hma, hb0⟩
  have hgl2 : w.heap.size < g := by simp at hgl; omega
  have HGL := hid hgl2
  have HMA0 := hid (hma.congr fun c hc => (mk_zero (n := n) (m := m) (t := t) (c := c)).symm)
  have HB0 := hid (((Below.refl w.heap.size w).alloc (Nat.le_refl _) (.cells #[] 3)).trans (hb0.mono (by simp)))
  have HG0 := hid ((growI_new w w.heap.size (Nat.le_refl _)).below3 hb0)
  clear hgl hgl2 hma hb0 hst0 HM0 HMK
  go_wp2_with fail
  go_loopw [3, 5] (ROut n m t N g w) (fun _ i _ => N - (intOf i).toNat)
  case atStart => exact ⟨0, Nat.zero_le _, rfl, HG0.out, fun b e => (by cases e; exact Nat.ne_of_lt HGL.out), HMA0.out, HB0.out⟩
  case round =>
    obtain ⟨x, hx, rfl, hgr, hap, hma, hbel⟩ := hrel
    have HGR := hid hgr
    have HAP := hid hap
    have HMA := hid hma
    have HB := hid hbel
    clear hgr hap hma hbel
    by_cases hlt : x < N
    · obtain ⟨bx, hcx, hbx, _⟩ := HMA.out.cell hlt
      have hxi : (x : Int) < (N : Int) := by omega
      have hxi0 : (0 : Int) ≤ (x : Int) := by omega
      cases bx with
      | true =>
        have hno := mk_not (hbx.1 rfl)
        have HNO := hid hno
        clear hbx hno
        go_wp2_with fail
        go_roundw
        case rel =>
          refine ⟨x + 1, by omega, by go_num, ?_, HAP.out, HMA.out.congr fun c _ => (mk_no HNO.out).symm, HB.out⟩
          unfold lensTo
          rw [leadsTo_no HNO.out]
          exact HGR.out
        case measure => simp [intOf]; omega
      | false =>
        have hyes := mk_lead (fun hm => by have := hbx.2 hm; cases this)
        have hon := (lead_iff.1 hyes).1
        have HYES := hid hyes
        have hx4 : x < 4 * (n * m) := by rw [HNN.out]; exact hlt
        have hp : x / 4 < n * m := by omega
        have hd4 : x % 4 < 4 := Nat.mod_lt _ (by decide)
        obtain ⟨p4, hp4⟩ : ∃ p4, x / 4 = p4 := ⟨_, rfl⟩
        obtain ⟨r4, hr4⟩ : ∃ r4, x % 4 = r4 := ⟨_, rfl⟩
        have hdiv : (x : Int) / 4 = (p4 : Int) := by omega
        have hmod : (x : Int) % 4 = (r4 : Int) := by omega
        have hway : (⟨((p4 / m : Nat) : Int), ((p4 % m : Nat) : Int), r4⟩ : Wy) = wayN m x := by rw [← hp4, ← hr4]; rfl
        rw [hp4] at hp
        rw [hr4] at hd4
        have hcl := hid (HCL.out p4 r4 wr (HH.out.below HB.out HBB.out) (Nat.le_trans HBB.out HB.out.size) hp hd4)
        rw [hway] at hcl
        obtain ⟨k1, k2, k3, k4⟩ := rlen_facts (wayN_d (m := m) x) hon
        have HRM := hid (fun c => ring_marks (m := m) (n := n) (t := t) (x := x) (c := c) hyes)
        have HIN := hid (fun j => onR_all (wayN_d (m := m) x) hon j)
        have HDD := hid (fun j => iter_d (t := t) (wayN_d (m := m) x) j)
        have hgo : goL n m t (wayN m x) = rlen n m t (wayN m x) := by unfold goL; rw [if_pos hon]
        have HLEN := hid (show lensTo n m t (x + 1) = lensTo n m t x ++ [((rlen n m t (wayN m x) : Nat) : Int)] by unfold lensTo; rw [leadsTo_yes hyes, List.map_append]; rfl)
        unfold CloseEnd at hcl
        rw [hgo, hon] at hcl
        generalize rlen n m t (wayN m x) = L at *
        generalize iter t (wayN m x) = bw at hcl HRM HIN HDD
        have hL100 : L ≤ 100 := by omega
        have HLL := hid k1
        have hq25 : (p4 : Int) < 25 := by omega
        have hr4i : (r4 : Int) < 4 := by omega
        clear hbx hyes hon hway k1 k2 k3 k4 hgo hp hd4 hp4 hr4
        go_wp2_with fail
        refine hcl.out.mono ?_
        rintro e w1 ⟨v, v', rfl, hv1, hv2, hb1⟩
        obtain ⟨A1, c1, rfl, ho1⟩ := hv1.own
        obtain ⟨A2, c2, rfl, ho2⟩ := hv2.own
        rw [cellsI_length, headsI_length]
        have HO1 := hid ho1
        have HO2 := hid ho2
        have HM1 := hid (HMA.out.below hb1)
        have HG1 := hid (HGR.out.below3 hb1)
        have HB1 := hid (HB.out.trans (hb1.mono HB.out.size))
        have HGW := hid HMA.out.lt
        clear hv1 hv2 ho1 ho2 hb1 hcl hcx
        go_wp2_with fail
        go_loopw [9] (RIn m L t bw (Mk n m t x) N g w1) (fun i _ => L - (intOf i).toNat)
        case atStart => exact ⟨0, Nat.zero_le _, rfl, HM1.out.congr fun c _ => ⟨.inl, fun h => h.resolve_right (fun ⟨i, hi, _⟩ => by omega)⟩, But.refl _ _⟩
        case round =>
          obtain ⟨j, hj, rfl, hma, hbut⟩ := hrel
          have HMJ := hid hma
          have HBT := hid hbut
          clear hma hbut
          by_cases hjl : j < L
          · have i1 := (HO1.out.but HBT.out HGW.out).ints
            have i2 := (HO2.out.but HBT.out HGW.out).ints
            obtain ⟨b1, off1, x1, rfl, hbb1, hx1, hcx1⟩ := i1.at_ (k := j) (by rw [cellsI_length]; exact hjl)
            obtain ⟨b2, off2, x2, rfl, hbb2, hx2, hcx2⟩ := i2.at_ (k := j) (by rw [headsI_length]; exact hjl)
            rw [cellsI_at hjl] at hx1
            rw [headsI_at' hjl] at hx2
            obtain rfl := Option.some.inj hx1
            obtain rfl := Option.some.inj hx2
            have hin := HIN.out j
            have hd4 := HDD.out j
            have hcn := wcode_cell (m := m) (bw j)
            have hcl := wcode_lt hin hd4
            have hcn2 := wcode_cell (m := m) (rev t (bw j))
            have hcl2 := wcode_lt (rev_in (t := t).2 hin) (rev_d (t := t) (bw j))
            rw [HNN.out] at hcl hcl2
            have hcc : cellN m (rev t (bw j)) = cellN m (bw j) := rfl
            have hrd : (rev t (bw j)).d = opp (bend (t (bw j).i (bw j).k) (bw j).d) := rfl
            rw [hcc, hrd] at hcn2
            have hclt := cellN_lt hin
            have hfl := HLT.out (bw j) hin
            have hbd := bend_lt (t (bw j).i (bw j).k) hd4
            have hxo := xor_opp hbd
            have hopl := opp_lt (bend (t (bw j).i (bw j).k) (bw j).d)
            obtain ⟨bt, hbt⟩ : ∃ bt, t (bw j).i (bw j).k = bt := ⟨_, rfl⟩
            rw [hbt] at hcn2 hfl hbd hxo hopl
            obtain ⟨cv, hcv⟩ : ∃ cv, cellN m (bw j) = cv := ⟨_, rfl⟩
            obtain ⟨dv, hdv⟩ : ∃ dv, (bw j).d = dv := ⟨_, rfl⟩
            obtain ⟨q, hq⟩ : ∃ q, wcode m (bw j) = q := ⟨_, rfl⟩
            obtain ⟨q2, hq2⟩ : ∃ q, wcode m (rev t (bw j)) = q := ⟨_, rfl⟩
            rw [hcv, hdv, hq] at hcn
            rw [hcv, hdv, hq2] at hcn2
            rw [hq] at hcl
            rw [hq2] at hcl2
            rw [hcv] at hcx1 hclt hfl
            rw [hdv] at hcx2 hd4 hbd hxo hopl
            obtain ⟨ev, hev⟩ : ∃ ev, bend bt dv = ev := ⟨_, rfl⟩
            rw [hev] at hbd hxo hcn2 hopl
            have HBD := hid (show ∀ w', Calls Try.prog 117 #[.int .u8 bt.toNat, .int .i64 dv] w' fun e w'' => e = .returned (.int .i64 ((ev : Nat) : Int)) ∧ w' = w'' from fun w' => by rw [← hev]; exact l2Bend_any bt dv hd4 w')
            obtain ⟨ov, hov⟩ : ∃ ov, opp ev = ov := ⟨_, rfl⟩
            rw [hov] at hxo hcn2 hopl
            have HQ := hid hq
            have HQ2 := hid hq2
            obtain ⟨bq, hcq, _, hfq⟩ := HMJ.out.cell hcl
            have hidx : 4 * (cv : Int) + (dv : Int) = (q : Int) := by omega
            have hw1 : IntKind.i64.wrap (4 * (cv : Int)) = 4 * (cv : Int) := IntWalk.i64_in _ (by omega)
            have hw2 : IntKind.i64.wrap (q : Int) = (q : Int) := IntWalk.i64_in _ (by omega)
            have hqi : (q : Int) < (N : Int) := by omega
            have hq0 : 0 ≤ (q : Int) := by omega
            have hji : (j : Int) < (L : Int) := by omega
            have hji0 : (0 : Int) ≤ (j : Int) := by omega
            have hcv4 : 4 * (cv : Int) ≤ 100 := by omega
            have hcv0 : 0 ≤ (cv : Int) := by omega
            have hov4 : (ov : Int) < 4 := by omega
            have hidx2 : 4 * (cv : Int) + (ov : Int) = (q2 : Int) := by omega
            have HI1 := hid (show ∀ w', But g w1 w' → w'.cell? ⟨b1, off1 + j, none⟩ = some (.int .i64 (cv : Int)) from fun w' hb => by
              obtain ⟨b1', off1', x1, hA, _, hx1, hcx1⟩ := (HO1.out.but hb HGW.out).ints.at_ (k := j) (by rw [cellsI_length]; exact hjl)
              obtain ⟨rfl, rfl⟩ : b1 = b1' ∧ off1 = off1' := by cases hA; exact ⟨rfl, rfl⟩
              rw [cellsI_at hjl, hcv] at hx1
              obtain rfl := Option.some.inj hx1
              exact hcx1)
            have HI2 := hid (show ∀ w', But g w1 w' → w'.cell? ⟨b2, off2 + j, none⟩ = some (.int .i64 (dv : Int)) from fun w' hb => by
              obtain ⟨b1', off1', x1, hA, _, hx1, hcx1⟩ := (HO2.out.but hb HGW.out).ints.at_ (k := j) (by rw [headsI_length]; exact hjl)
              obtain ⟨rfl, rfl⟩ : b2 = b1' ∧ off2 = off1' := by cases hA; exact ⟨rfl, rfl⟩
              rw [headsI_at' hjl, hdv] at hx1
              obtain rfl := Option.some.inj hx1
              exact hcx1)
            have HCC := hid (fun w' (hw : Below w.heap.size w w') => HCE.out cv bt w' (HH.out.below hw HBB.out) hclt hfl)
            clear hx1 hx2 i1 i2 hin hcv hdv hq hq2 hcn hcn2 hcc hrd hbt hfl hev hov hclt
            go_wp2_with fail
            go_still_tail 12, (by kernel_rfl)
            go_wp2_with fail
            have HMX := hid ((MarksAt.set (c := q) HMJ.out).keep (w' := World.drew (World.setCell _ ⟨g, q, none⟩ (.bool true))) rfl)
            have HBX := hid ((HBT.out.trans (But.setCell _ q (.bool true))).trans (But.of_below (Below.refl _ _).drew))
            generalize World.drew (World.setCell _ _ _) = X at HMX HBX ⊢
            have HC1 := hid (show ∀ w', Cls X w' → w'.cell? ⟨b1, off1 + j, none⟩ = some (.int .i64 (cv : Int)) from fun w' hw => HI1.out w' (HBX.out.trans (But.of_below hw)))
            have HC2 := hid (show ∀ w', Cls X w' → w'.cell? ⟨b2, off2 + j, none⟩ = some (.int .i64 (dv : Int)) from fun w' hw => HI2.out w' (HBX.out.trans (But.of_below hw)))
            have HBW := hid (show Below w.heap.size w X from HB1.out.trans (HBX.out.below (Nat.le_of_lt HGL.out) HB1.out.size))
            clear hcx1 hcx2 hcq hfq
            refine wp_region_quiet (C := Cls X) (by kernel_rfl) (by kernel_rfl) (Below.refl _ X).drew ?_
            quiet_step ((intro _; rfl))
            quiet_step ((intro _; rfl))
            quiet_step ((intro _; rfl))
            quiet_step ((intro _; rfl))
            refine wpQuiet_value rfl (.int .i64 (cv : Int)) (fun w' hw => by have hc := HC1.out w' hw; go_simp) ?_
            refine wpQuiet_call rfl 122 #[.slice A ss.length c, .int .i64 (cv : Int)] (.int .u8 bt.toNat) (fun w _ => by go_simp) (fun w' hw => (HCC.out w' (HBW.out.trans (hw.mono HBW.out.size))).mono fun e w'' ⟨he, d, hb'⟩ => ⟨he, by rw [hb']; exact below_drewN' hw d⟩) ?_
            quiet_step ((intro _; rfl))
            quiet_step ((intro _; rfl))
            quiet_step ((intro _; rfl))
            refine wpQuiet_value rfl (.int .i64 (dv : Int)) (fun w' hw => by have hc := HC2.out w' hw; go_simp) ?_
            refine wpQuiet_call rfl 117 #[.int .u8 bt.toNat, .int .i64 (dv : Int)] (.int .i64 ((ev : Nat) : Int)) (fun w _ => by go_simp) (fun w' hw => (HBD.out w').mono fun e w'' ⟨he, hb'⟩ => ⟨he, by rw [← hb']; exact hw⟩) ?_
            quiet_step ((intro _; rfl))
            quiet_step ((intro _; rfl))
            refine wpQuiet_nil ?_
            intro w2 hw2
            have hcx := HC1.out w2 hw2
            have HM2 := hid (HMX.out.below hw2)
            have HBT2 := hid (HBX.out.trans (But.of_below hw2))
            obtain ⟨bq2, hcq2, _, hfq2⟩ := HM2.out.cell hcl2
            have hq2i : (q2 : Int) < (N : Int) := by omega
            have hq20 : 0 ≤ (q2 : Int) := by omega
            clear hw2 HMX HBX
            go_wp2_with fail
            go_roundw
            case rel =>
              refine ⟨j + 1, by omega, by go_num, ?_, HBT2.out.trans (But.setCell _ _ _)⟩
              refine (MarksAt.set (c := q2) HM2.out).congr fun c _ => ?_
              constructor
              · rintro (((h | ⟨i, hi, h⟩) | h) | h)
                · exact .inl h
                · exact .inr ⟨i, by omega, h⟩
                · exact .inr ⟨j, by omega, .inl (by rw [HQ.out]; exact h.symm)⟩
                · exact .inr ⟨j, by omega, .inr (by rw [HQ2.out]; exact h.symm)⟩
              · rintro (h | ⟨i, hi, h⟩)
                · exact .inl (.inl (.inl h))
                · rcases Nat.lt_or_ge i j with h1 | h1
                  · exact .inl (.inl (.inr ⟨i, h1, h⟩))
                  · obtain rfl : i = j := by omega
                    rcases h with h | h
                    · exact .inl (.inr (by rw [← HQ.out]; exact h.symm))
                    · exact .inr (by rw [← HQ2.out]; exact h.symm)
            case measure => simp [intOf]; omega
          · obtain rfl : j = L := by omega
            have HG2 := hid (HG1.out.but HBT.out HAP.out)
            have HB2 := hid (HB1.out.trans (HBT.out.below (Nat.le_of_lt HGL.out) HB1.out.size))
            go_wp2_with (at_builtin; refine wpList_appendI rfl _ _ rfl w.heap.size u3 (lensTo n m t x) rfl (World.ownsRow.alloc HG2.out _) _ 1 rfl ((j : Nat) : Int) (cell_newI _ _) ?c3 (Nat.le_trans HB2.out.size (by simp)) ?_)
            case c3 => have := lensTo_le n m t x; omega
            intro v3 w3 hgr3 hgw3 hlo3
            have HG3 := hid hgr3
            have HB3 := hid ((HB2.out.alloc HB2.out.size _).grown hgw3 (Nat.le_trans HB2.out.size (by simp)) (fun k e => (World.ownsRow.lt HG2.out k e).1))
            have HMZ := hid (show MarksAt w3 g N (Mk n m t (x + 1)) from by
              have h1 := HMJ.out.congr (M' := Mk n m t (x + 1)) (fun c _ => by
                rw [mk_yes HYES.out, ← HRM.out c])
              refine (h1.below (w' := World.alloc _ _) ((Below.refl _ _).alloc (Nat.le_refl _) _)).keep (hgw3.block g (by rw [World.size_alloc]; have := h1.lt; omega) (fun e => ?_))
              exact HAP.out g e.symm rfl)
            have HAP3 := hid (show ∀ b, v3.ownBlock = some b → b ≠ g from fun b e => by
              rcases hlo3 with h1 | h1
              · exact HAP.out b (h1 ▸ e)
              · rw [h1] at e
                cases e
                have := HMJ.out.lt
                first | omega | (simp only [World.size_alloc]; omega))
            clear hgr3 hgw3 hlo3
            go_wp2_with fail
            go_roundw
            case rel => exact ⟨x + 1, by omega, by go_num, by rw [HLEN.out]; exact HG3.out, HAP3.out, HMZ.out, HB3.out⟩
            case measure => simp [intOf]; omega
    · obtain rfl : x = N := by omega
      go_wp2_with fail
      go_ret
      exact ⟨_, rfl, HGR.out, HB.out⟩

end Go.Proofs.Ytmdgbcepjnfbnaa
