/- l3Marks of the specification, by its contract; blocks of bools. -/
import Derived.Test.YtmdgbcepjnfbnaaClose
import Derived.Test.YtmdgbcepjnfbnaaHeldI
import Derived.StillTailTactics
namespace Go.Proofs.Ytmdgbcepjnfbnaa
open Go.RowKit Go.Shelf

theorem Try.info_bool : (Try.prog.info? 4).map (fun i => (i.zero, i.size, i.bytes)) = some (some (.bool false), 1, 1) := by kernel_rfl
/-- Block g holds N bools, told by M. -/
def MarksAt (w : World) (g N : Nat) (M : Nat → Prop) : Prop :=
  ∃ cs : Array Value, w.heap[g]? = some (.cells cs 4 (0, 0)) ∧ cs.size = N ∧ ∀ c, c < N → ∃ b : Bool, cs[c]? = some (.bool b) ∧ (b = true ↔ M c)
theorem MarksAt.lt {w : World} {g N : Nat} {M : Nat → Prop} (h : MarksAt w g N M) : g < w.heap.size := by
  obtain ⟨cs, h, _⟩ := h
  exact lt_of_block h
theorem MarksAt.keep {w w' : World} {g N : Nat} {M : Nat → Prop} (h : MarksAt w g N M) (hb : w'.heap[g]? = w.heap[g]?) : MarksAt w' g N M := by
  obtain ⟨cs, h, hr⟩ := h
  exact ⟨cs, hb.trans h, hr⟩
theorem MarksAt.below {w w' : World} {g N : Nat} {M : Nat → Prop} (h : MarksAt w g N M) (hb : Below w.heap.size w w') : MarksAt w' g N M := h.keep (hb.block g h.lt)
theorem MarksAt.congr {w : World} {g N : Nat} {M M' : Nat → Prop} (h : MarksAt w g N M) (e : ∀ c, c < N → (M c ↔ M' c)) : MarksAt w g N M' := by
  obtain ⟨cs, h, hs, hr⟩ := h
  refine ⟨cs, h, hs, fun c hc => ?_⟩
  obtain ⟨b, h1, h2⟩ := hr c hc
  exact ⟨b, h1, h2.trans (e c hc)⟩
theorem MarksAt.cell {w : World} {g N c : Nat} {M : Nat → Prop} (h : MarksAt w g N M) (hc : c < N) : ∃ b : Bool, w.cell? ⟨g, c, none⟩ = some (.bool b) ∧ (b = true ↔ M c) ∧ w.frozen? ⟨g, c, none⟩ = false := by
  obtain ⟨cs, h, hs, hr⟩ := h
  obtain ⟨b, h1, h2⟩ := hr c hc
  exact ⟨b, by rw [cell_of_row _ _ _ _ _ _ h]; exact h1, h2, frozen_of_row _ _ _ _ _ h⟩
theorem MarksAt.set {w : World} {g N c : Nat} {M : Nat → Prop} (h : MarksAt w g N M) : MarksAt (w.setCell ⟨g, c, none⟩ (.bool true)) g N (fun c' => M c' ∨ c = c') := by
  obtain ⟨cs, h, hs, hr⟩ := h
  refine ⟨_, heap_setCell_same _ _ c _ _ (.bool true) h, by simp [hs], fun c' hc' => ?_⟩
  by_cases e : c = c'
  · subst e
    exact ⟨true, by rw [Array.getElem?_setIfInBounds_self_of_lt (by omega)], by simp⟩
  · rw [Array.getElem?_setIfInBounds_ne e]
    obtain ⟨b, h1, h2⟩ := hr c' hc'
    exact ⟨b, h1, h2.trans ⟨.inl, fun h => h.resolve_right e⟩⟩
theorem MarksAt.made {w : World} {g N : Nat} (h : w.heap[g]? = some (.cells (madeCells #[.bool false] N) 4 (0, 0))) (M : Nat → Prop) (hM : ∀ c, ¬ M c) : MarksAt w g N M :=
  ⟨_, h, size_madeCells _ _, fun c hc => ⟨false, by simp [madeCells, hc, Nat.mod_one], by simpa using hM c⟩⟩

def MOut (n m : Nat) (t : Int → Int → UInt8) (N g : Nat) (w : World) (i : Value) (wr : World) : Prop :=
  ∃ k : Nat, k ≤ 2 * (n + m) ∧ i = .int .i64 k ∧ MarksAt wr g N (fun c => ∃ p, p < k ∧ ∃ j, j < blen n m t p ∧ wcode m (bway n m t p j) = c) ∧ Below w.heap.size w wr
def MIn (m L : Nat) (bw : Nat → Wy) (M : Nat → Prop) (N g : Nat) (wo : World) (i : Value) (wr : World) : Prop :=
  ∃ j : Nat, j ≤ L ∧ i = .int .i64 j ∧ MarksAt wr g N (fun c => M c ∨ ∃ i, i < j ∧ wcode m (bw i) = c) ∧ But g wo wr
theorem cellsI_at {m L j : Nat} {bw : Nat → Wy} (h : j < L) : (cellsI m bw L)[j]? = some ((cellN m (bw j) : Nat) : Int) := by simp [cellsI, h]
theorem headsI_at' {L j : Nat} {bw : Nat → Wy} (h : j < L) : (headsI bw L)[j]? = some (((bw j).d : Nat) : Int) := by simp [headsI, h]

set_option maxRecDepth 100000 in
set_option maxHeartbeats 2000000 in
theorem l3Marks_any (A : Option Addr) (c B n m : Nat) (ss : List ByteArray) (w : World) (h : Strs w B A ss) (hB : B ≤ w.heap.size) (hg : IsGrid n m ss) :
    Calls Try.prog 111 #[.slice A ss.length c] w fun e w' => ∃ g, w.heap.size ≤ g ∧ e = .returned (.slice (some ⟨g, 0, none⟩) (4 * (n * m)) (4 * (n * m))) ∧
      MarksAt w' g (4 * (n * m)) (fun c => onR n m (lett m (pad (flat ss))) (wayN m c) = false) ∧ Below w.heap.size w w' := by
  have hn1 := hg.2.1
  have hn5 := hg.2.2.1
  have hm1 := hg.2.2.2.1
  have hm5 := hg.2.2.2.2.1
  have h25 := hg.le25
  have hnl := hg.1
  obtain ⟨b, off, s0, rfl, hb, hk0, hc0⟩ := h.at_ (k := 0) (by omega)
  rw [Nat.add_zero] at hc0
  have hs0 : s0.size = m := (hg.2.2.2.2.2 s0 (List.mem_of_getElem? hk0)).1
  have hs0i : ((s0.size : Nat) : Int) = (m : Int) := by rw [hs0]
  have hl0 : (0 : Int) < (ss.length : Int) := by omega
  have HP := hid (fun w => l2Ports_any n m w hn5 hm5)
  have HW := hid (fun q w' (hst : Strs w' B (some ⟨b, off, none⟩) ss) hB' hq => l2Way_port (some ⟨b, off, none⟩) c B n m q ss w' hst hB' hg hq)
  have HBM := hid (fun c hc => beam_marks (t := lett m (pad (flat ss))) (c := c) hn1 hm1 hc)
  have HBL := hid (fun q hq => blen_lt (n := n) (m := m) (t := lett m (pad (flat ss))) (p := q) hq)
  have HIN := hid (fun q j hj => blen_in (n := n) (m := m) (t := lett m (pad (flat ss))) (p := q) (j := j) hj)
  have HDD := hid (fun q j => bway_d (n := n) (m := m) (t := lett m (pad (flat ss))) q j)
  have HH := hid h
  have HBB := hid hB
  have HKs := hid hk0
  have HNL := hid hnl
  clear hs0 hk0 h hB hg
  generalize lett m (pad (flat ss)) = t at *
  rw [HNL.out] at hl0 HW ⊢
  clear hnl
  obtain ⟨N, hN⟩ : ∃ N, 4 * (n * m) = N := ⟨_, rfl⟩
  have hN100 : N ≤ 100 := by omega
  have hNi : 4 * (n : Int) * (m : Int) = (N : Int) := by rw [← hN]; simp [Int.mul_assoc]
  have hN4 : 4 * ((n : Int) * (m : Int)) = (N : Int) := by rw [← Int.mul_assoc]; exact hNi
  have hNn : 0 ≤ (N : Int) := Int.natCast_nonneg _
  have hn4 : 4 * (n : Int) ≤ 20 := by omega
  have HNN := hid hN
  rw [hN] at HBM HBL ⊢
  have hmk := run_make_row' (P := Try.prog) 125 4 (.bool false) 1 Try.underlying125 Try.info_bool rfl .i64 .i64 N (by omega) (by omega)
  clear hN h25 hN4
  go_enter Try.func111, Try.ntmps111
  go_wp2_with fail
  have HX0 := hid (MarksAt.made (heap_new0 w (.cells (madeCells #[.bool false] N) 4)) (fun c => ∃ p, p < 0 ∧ ∃ j, j < blen n m t p ∧ wcode m (bway n m t p j) = c) (fun c hc => by obtain ⟨p, hp, _⟩ := hc; omega))
  have HXB := hid (show Below w.heap.size w (w.alloc (.cells (madeCells #[.bool false] N) 4)) from (Below.refl _ w).alloc (Nat.le_refl _) _)
  go_loopw [5] (MOut n m t N w.heap.size w) (fun i _ => 2 * (n + m) - (intOf i).toNat)
  case atStart => exact ⟨0, Nat.zero_le _, rfl, HX0.out, HXB.out⟩
  case round =>
    obtain ⟨k, hk, rfl, hma, hbel⟩ := hrel
    have HMA := hid hma
    have HB := hid hbel
    have hst := hid (HH.out.below hbel HBB.out)
    have hc0 := hst.out.cell_ HKs.out
    rw [Nat.add_zero] at hc0
    clear hma hbel
    have hkN : k ≤ 2 * (n + m) := hk
    go_wp2_with fail
    refine (HP.out _).mono ?_
    rintro e w' ⟨rfl, rfl⟩
    by_cases hlt : k < 2 * (n + m)
    · have hli : (k : Int) < 2 * ((n : Int) + (m : Int)) := by omega
      have hway := hid (HW.out k wr hst.out (Nat.le_trans HBB.out HB.out.size) hlt)
      have hL := HBL.out k hlt
      have HI := hid (fun j hj => HIN.out k j hj)
      have HD := hid (fun j => HDD.out k j)
      have HSU := hid (show ∀ c, (∃ p, p < k + 1 ∧ ∃ j, j < blen n m t p ∧ wcode m (bway n m t p j) = c) ↔ ((∃ p, p < k ∧ ∃ j, j < blen n m t p ∧ wcode m (bway n m t p j) = c) ∨ ∃ j, j < blen n m t k ∧ wcode m (bway n m t k j) = c) from fun c => by
        constructor
        · rintro ⟨p, hp, hr⟩
          rcases Nat.lt_or_ge p k with h1 | h1
          · exact .inl ⟨p, h1, hr⟩
          · obtain rfl : p = k := by omega
            exact .inr hr
        · rintro (⟨p, hp, hr⟩ | hr)
          · exact ⟨p, by omega, hr⟩
          · exact ⟨k, by omega, hr⟩)
      generalize hM : (fun c => ∃ p, p < k ∧ ∃ j, j < blen n m t p ∧ wcode m (bway n m t p j) = c) = M at HMA
      have HMM := hid hM
      clear hM
      generalize blen n m t k = L at hway hL HI HSU
      generalize bway n m t k = bw at hway HI HD HSU
      clear hc0
      go_wp2_with fail
      refine hway.out.mono ?_
      rintro e w1 ⟨v, v', rfl, hv1, hv2, hb1⟩
      obtain ⟨A1, c1, rfl, ho1⟩ := hv1.own
      obtain ⟨A2, c2, rfl, ho2⟩ := hv2.own
      rw [cellsI_length, headsI_length]
      have HO1 := hid ho1
      have HO2 := hid ho2
      have HM1 := hid (HMA.out.below hb1)
      have HB1 := hid (HB.out.trans (hb1.mono HB.out.size))
      have HGL := hid HMA.out.lt
      clear hv1 hv2 ho1 ho2 hb1 hway
      go_wp2_with fail
      go_loopw [9] (MIn m L bw M N w.heap.size w1) (fun i _ => L - (intOf i).toNat)
      case atStart => exact ⟨0, Nat.zero_le _, rfl, HM1.out.congr fun c _ => ⟨.inl, fun h => h.resolve_right (fun ⟨i, hi, _⟩ => by omega)⟩, But.refl _ _⟩
      case round =>
        obtain ⟨j, hj, rfl, hma, hbut⟩ := hrel
        have HMJ := hid hma
        have HBT := hid hbut
        clear hma hbut
        by_cases hjl : j < L
        · have i1 := (HO1.out.but HBT.out HGL.out).ints
          have i2 := (HO2.out.but HBT.out HGL.out).ints
          obtain ⟨b1, off1, x1, rfl, hbb1, hx1, hcx1⟩ := i1.at_ (k := j) (by rw [cellsI_length]; exact hjl)
          obtain ⟨b2, off2, x2, rfl, hbb2, hx2, hcx2⟩ := i2.at_ (k := j) (by rw [headsI_length]; exact hjl)
          rw [cellsI_at hjl] at hx1
          rw [headsI_at' hjl] at hx2
          obtain rfl := Option.some.inj hx1
          obtain rfl := Option.some.inj hx2
          have hin := HI.out j hjl
          have hd4 := HD.out j
          have hcn := wcode_cell (m := m) (bw j)
          have hcl := wcode_lt hin hd4
          rw [HNN.out] at hcl
          obtain ⟨cv, hcv⟩ : ∃ cv, cellN m (bw j) = cv := ⟨_, rfl⟩
          obtain ⟨dv, hdv⟩ : ∃ dv, (bw j).d = dv := ⟨_, rfl⟩
          obtain ⟨q, hq⟩ : ∃ q, wcode m (bw j) = q := ⟨_, rfl⟩
          rw [hcv, hdv, hq] at hcn
          rw [hq] at hcl
          rw [hcv] at hcx1
          rw [hdv] at hcx2 hd4
          have HQ := hid hq
          obtain ⟨bq, hcq, _, hfq⟩ := HMJ.out.cell hcl
          have hidx : 4 * (cv : Int) + (dv : Int) = (q : Int) := by omega
          have hw1 : IntKind.i64.wrap (4 * (cv : Int)) = 4 * (cv : Int) := IntWalk.i64_in _ (by omega)
          have hw2 : IntKind.i64.wrap (q : Int) = (q : Int) := IntWalk.i64_in _ (by omega)
          have hqi : (q : Int) < (N : Int) := by omega
          have hq0 : 0 ≤ (q : Int) := by omega
          have hji : (j : Int) < (L : Int) := by omega
          have hji0 : (0 : Int) ≤ (j : Int) := by omega
          have hcv4 : 4 * (cv : Int) ≤ 100 := by omega
          have hcv0 : 0 ≤ (cv : Int) := by omega
          clear hx1 hx2 i1 i2 hin hcv hdv hq hcn
          go_wp2_with fail
          go_still_tail 12, (by kernel_rfl)
          go_wp2_with fail
          go_roundw
          case rel =>
            refine ⟨j + 1, by omega, by go_num, ?_, HBT.out.trans ((But.of_below (Below.refl _ _).drew).trans (But.setCell _ _ _))⟩
            refine (MarksAt.set (c := q) (HMJ.out.keep (w' := World.drew _) rfl)).congr fun c _ => ?_
            constructor
            · rintro ((h | ⟨i, hi, h⟩) | h)
              · exact .inl h
              · exact .inr ⟨i, by omega, h⟩
              · exact .inr ⟨j, by omega, by rw [HQ.out]; exact h⟩
            · rintro (h | ⟨i, hi, h⟩)
              · exact .inl (.inl h)
              · rcases Nat.lt_or_ge i j with h1 | h1
                · exact .inl (.inr ⟨i, h1, h⟩)
                · obtain rfl : i = j := by omega
                  exact .inr (by rw [← HQ.out]; exact h)
          case measure => simp [intOf]; omega
        · obtain rfl : j = L := by omega
          go_wp2_with fail
          go_roundw
          case rel =>
            refine ⟨k + 1, by omega, by go_num, ?_, HB1.out.trans (HBT.out.below (Nat.le_refl _) HB1.out.size)⟩
            refine HMJ.out.congr fun c _ => ?_
            rw [← HMM.out]
            exact (HSU.out c).symm
          case measure => simp [intOf]; omega
    · have hli : ¬ (k : Int) < 2 * ((n : Int) + (m : Int)) := by omega
      obtain rfl : k = 2 * (n + m) := by omega
      go_wp2_with fail
      go_ret
      exact ⟨w.heap.size, Nat.le_refl _, rfl, HMA.out.congr fun c hc => HBM.out c hc, HB.out⟩

end Go.Proofs.Ytmdgbcepjnfbnaa
