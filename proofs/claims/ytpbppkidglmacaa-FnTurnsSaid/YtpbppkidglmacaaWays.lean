/- The iterator over the ways of a beam: all of them in order, or a part where a round has said no more. -/
import Derived.Test.YtpbppkidglmacaaBunG
import Derived.Test.YtpbppkidglmacaaEntry
namespace Go.Proofs.Ytpbppkidglmacaa
open Go.RowKit Go.Shelf
attribute [local go_sem] Oper.semAt_some

/-- What yield is handed for a way. -/
def encW (bw : Nat → Wy) (L : Nat) (x : Fin L) : Array Value := #[wayV (bw x.val)]
def leftW (W : Nat → Wy) (L : Nat) (v : Value) (wr : World) : Nat :=
  match v with
  | .pointer (some a) => match wr.heap[a.block]? with
    | some (.cells cs _ _) => L - idxW W L (readWay cs)
    | _ => 0
  | _ => 0
theorem leftW_eq {W : Nat → Wy} {L j b : Nat} {wr : World} {t : TypeId} {fr : Nat × Nat} (h : wr.heap[b]? = some (.cells (wayC (W j)) t fr)) (hj : j ≤ L) (hne : ∀ a b, a < b → b ≤ L → W a ≠ W b) :
    leftW W L (.pointer (some ⟨b, 0, none⟩)) wr = L - j := by
  unfold leftW
  simp only [h]
  rw [readWay_wayC, idxW_eq hj hne]

/-- What a round must keep for the iterator: the grid's block, and the ways that have been laid since. -/
def KeepsW (g n0 : Nat) (W W' : World) : Prop :=
  W.heap.size ≤ W'.heap.size ∧ W'.heap[g]? = W.heap[g]? ∧ ∀ b cs, n0 ≤ b → W.heap[b]? = some (.cells cs 58 (0, 0)) → W'.heap[b]? = some (.cells cs 58 (0, 0))
theorem KeepsW.trans {g n0 : Nat} {A B C : World} (h : KeepsW g n0 A B) (k : KeepsW g n0 B C) : KeepsW g n0 A C :=
  ⟨Nat.le_trans h.1 k.1, k.2.1.trans h.2.1, fun b cs hb hc => k.2.2 b cs hb (h.2.2 b cs hb hc)⟩
theorem KeepsW.below {g n0 : Nat} {A B : World} (h : Below A.heap.size A B) (hg : g < A.heap.size) : KeepsW g n0 A B :=
  ⟨h.size, h.block g hg, fun b _ _ hc => (h.block b (lt_of_block hc)).trans hc⟩
theorem keepsW_b {g n0 : Nat} {w : World} (hg : g < w.heap.size) (W : World) (l : Nat) (o o' : Obj) (hl : w.heap.size ≤ l) (h1 : W.heap[l]? = some o) (h2 : o.isCells = false) (_ : o.isWalk = false) : KeepsW g n0 W (W.putObj l o') := by
  refine ⟨by simp, World.putObj_heap_other (by omega), fun b _ hb hc => ?_⟩
  rw [World.putObj_heap_other (fun e => ?_)]
  · exact hc
  · subst e
    rw [hc] at h1
    cases h1
    cases h2
theorem abide_below2 {α : Type} {J : List α → World → Prop} {B : Nat} (hJ : AbidesFrom B J) {pre : List α} {A A' : World} (h : J pre A) (hb : Below A.heap.size A A') : J pre A' := abide_below hJ h hb
def WayRel2 (bw : Nat → Wy) (L g n0 : Nat) (J : List (Fin L) → World → Prop) (W : World) (v : Value) (wr : World) : Prop :=
  ∃ j b : Nat, j ≤ L ∧ v = .pointer (some ⟨b, 0, none⟩) ∧ n0 ≤ b ∧ wr.heap[b]? = some (.cells (wayC (bw j)) 58 (0, 0)) ∧ J (upto L j) wr ∧ KeepsW g n0 W wr

set_option maxRecDepth 100000 in
set_option maxHeartbeats 2000000 in
theorem ways1_in (d l Bg Bp n m p L n0 : Nat) (ls : List UInt8) (hL : L = blen n m (lett m ls) p) (hl : ls.length = 25) (hn : n ≤ 5) (hm : m ≤ 5) (hp : p < 2 * (n + m)) (J Jx : List (Fin L) → World → Prop) (W : World) (hb : Bg < W.heap.size) (hn0 : n0 ≤ W.heap.size)
    (hJ : AbidesFrom W.heap.size J)
    (hY : ∀ pre x W1, J pre W1 → pre.length < L → YieldAt Fence.wide (d - 1) Try.prog l (encW (bway n m (lett m ls) p) L x) W1 fun e W' =>
      (e = .returned (.bool true) ∧ J (pre ++ [x]) W' ∧ KeepsW Bg n0 W1 W') ∨ (e = .returned (.bool false) ∧ Jx (pre ++ [x]) W'))
    (hBg : W.heap[Bg]? = some (.cells (gcells n m ls) 44 (0, 0))) (hBp : Boxed W Bp 3 (.int .i64 p)) (h0 : J [] W) :
    CallsIn Fence.wide d Try.prog 88 #[.func (.yield l) #[] #[], .pointer (some ⟨Bg, 0, none⟩), .pointer (some ⟨Bp, 0, none⟩)] W fun e W' => (∃ v, e = .returned v) ∧
      ((∃ ys, ys = List.finRange L ∧ J ys W') ∨ (∃ pre, (∃ k, k ≤ L ∧ pre = upto L k) ∧ Jx pre W')) := by
  have HE := hid (fun w' => entry_any n m p ls w' hn hm hp)
  have HHO := hid (fun x w' => holds_any n m ls x w')
  have HON := hid (fun x w' hx hd => onward_any n m ls x w' hl hn hm hx hd)
  have HNE := hid (show ∀ a b, a < b → b ≤ L → bway n m (lett m ls) p a ≠ bway n m (lett m ls) p b from fun a b h1 h2 => bway_ne hp h1 (by rw [← hL]; exact h2))
  have HIN := hid (show ∀ j, j < L → inG n m (bway n m (lett m ls) p j) from fun j h => blen_in (by rw [← hL]; exact h))
  have HOUT := hid (show ¬ inG n m (bway n m (lett m ls) p L) by rw [hL]; exact blen_out hp)
  have HD := hid (show ∀ j, (bway n m (lett m ls) p j).d < 4 from fun j => bway_d p j)
  have HST := hid (show ∀ j, bway n m (lett m ls) p (j + 1) = nxt (lett m ls) (bway n m (lett m ls) p j) from fun j => rfl)
  have HZ := hid (show bway n m (lett m ls) p 0 = entr n m p from rfl)
  have HG := hid (show (Try.prog.info? 44).map (·.size) = some (gcells n m ls).size by rw [gcells_size hl]; exact Try.size_grid)
  have HB := hid hBg
  have hpc := hBp.cell
  clear hBg
  refine callsIn_of_wp Try.func88 rfl trivial ?_ rfl
  simp only [Try.ntmps88, List.size_toArray, List.length_cons, List.length_nil, Nat.reduceAdd, Nat.reduceSub, Array.replicate_succ, Array.replicate_zero, List.push_toArray, List.append_toArray, List.nil_append, List.cons_append]
  gi_wp2_with (refine wpListIn_load_row (Open.wide _) rfl 44 _ rfl Bg rfl 44 (gcells n m ls) (0, 0) _ HB.out Try.underlying44 rfl HG.out ?_)
  refine ⟨trivial, (fun h => by cases h), callsIn_wide.2 ((HE.out W).mono ?_)⟩
  rintro e w1 ⟨rfl, hbel⟩
  have HL := hid hbel
  have hJ1 := hid (abide_below hJ h0 hbel)
  have HJ := hid hJ
  have HY := hid hY
  have HN := hid hn0
  have hbw := hid hb
  clear hbel h0 hJ hY hL hpc hBp hb hn0
  rw [← HZ.out]
  unfold encW at HY
  generalize bway n m (lett m ls) p = bw at *
  generalize hgc : gcells n m ls = cs at *
  clear hgc
  generalize hx0 : bw 0 = x0
  have HX0 := hid hx0
  clear hx0
  obtain ⟨i0, k0, d0⟩ := x0
  simp only [wayV] at HY ⊢
  gi_wp2
  gi_loopw [4] (WayRel2 bw L Bg n0 J W) (fun v wr => leftW bw L v wr)
  case atStart =>
    have e0 : wayC (bw 0) = #[.int .i64 i0, .int .i64 k0, .int .i64 ((d0 : Nat) : Int)] := by rw [HX0.out]; rfl
    have hba : Below W.heap.size W (w1.alloc (.cells #[.int .i64 i0, .int .i64 k0, .int .i64 ((d0 : Nat) : Int)] 58)) := HL.out.alloc HL.out.size _
    refine ⟨0, w1.heap.size, Nat.zero_le _, rfl, Nat.le_trans HN.out HL.out.size, ?_, ?_, KeepsW.below hba hbw.out⟩
    · rw [e0]; exact heap_new0 w1 _
    · rw [upto_zero]; exact abide_below2 HJ.out hJ1.out ((Below.refl w1.heap.size w1).alloc (Nat.le_refl _) _)
  case round =>
    obtain ⟨j, b, hj, rfl, hnb, hcell, hJj, hk⟩ := hrel
    have HC := hid hcell
    have HK := hid hJj
    have HB2 := hid hk
    have hbg := hid ((hk.2.1).trans HB.out)
    clear hcell hJj hk
    obtain ⟨x, hx⟩ : ∃ x, bw j = x := ⟨_, rfl⟩
    have HX := hid hx
    have hd4 := HD.out j
    rw [hx] at hd4
    have hC2 := HC.out
    rw [hx] at hC2
    have HHx := hid (fun w' => HHO.out x w')
    obtain ⟨i, k, d'⟩ := x
    have c0 : wr.cell? ⟨b, 0, none⟩ = some (.int .i64 i) := by rw [cell_of_row _ _ _ _ _ _ hC2]; rfl
    have c1 : wr.cell? ⟨b, 1, none⟩ = some (.int .i64 k) := by rw [cell_of_row _ _ _ _ _ _ hC2]; rfl
    have HCX := hid hC2
    clear hx hC2
    by_cases hlt : j < L
    · have hin := HIN.out j hlt
      rw [HX.out] at hin
      have HI := hid hin
      have hho : ∀ w', Calls Try.prog 89 #[.agg cs, .agg #[.int .i64 i, .int .i64 k]] w' fun e w'' => e = .returned (.bool true) ∧ Below w'.heap.size w' w'' := fun w' => by
        have := HHx.out w'
        rw [decide_eq_true hin] at this
        exact this
      have HH := hid hho
      clear hho hin HHx
      gi_wp2_with (refine wpListIn_load_row (Open.wide _) rfl 44 _ rfl Bg rfl 44 cs (0, 0) _ hbg.out Try.underlying44 rfl HG.out ?_)
      refine ⟨trivial, (fun h => by cases h), callsIn_wide.2 ((HH.out wr).mono ?_)⟩
      rintro e w2 ⟨rfl, hb2⟩
      have HW2 := hid hb2
      have g2 := (hb2.block _ (lt_of_block HCX.out)).trans HCX.out
      have a0 : w2.cell? ⟨b, 0, none⟩ = some (.int .i64 i) := by rw [cell_of_row _ _ _ _ _ _ g2]; rfl
      have a1 : w2.cell? ⟨b, 1, none⟩ = some (.int .i64 k) := by rw [cell_of_row _ _ _ _ _ _ g2]; rfl
      have a2 : w2.cell? ⟨b, 2, none⟩ = some (.int .i64 ((d' : Nat) : Int)) := by rw [cell_of_row _ _ _ _ _ _ g2]; rfl
      have G2 := hid g2
      obtain ⟨fn, tmps, assign, body, hy, hyR⟩ := HY.out (upto L j) ⟨j, hlt⟩ w2 (abide_below2 HJ.out HK.out hb2) (by rw [upto_length hj]; exact hlt)
      simp only [HX.out] at hy
      clear hb2 g2 c0 c1
      gi_wp2
      refine ⟨(fun h => by cases h), hyR.mono ?_⟩
      rintro e W3 (⟨rfl, hJ3, hk3⟩ | ⟨rfl, hJx3⟩)
      · have g3 := hk3.2.2 b _ hnb G2.out
        have b0 : W3.cell? ⟨b, 0, none⟩ = some (.int .i64 i) := by rw [cell_of_row _ _ _ _ _ _ g3]; rfl
        have b1 : W3.cell? ⟨b, 1, none⟩ = some (.int .i64 k) := by rw [cell_of_row _ _ _ _ _ _ g3]; rfl
        have b2 : W3.cell? ⟨b, 2, none⟩ = some (.int .i64 ((d' : Nat) : Int)) := by rw [cell_of_row _ _ _ _ _ _ g3]; rfl
        have K2 := KeepsW.below (n0 := n0) HW2.out (lt_of_block hbg.out)
        have hbg3 : W3.heap[Bg]? = some (.cells cs 44 (0, 0)) := hk3.2.1.trans (K2.2.1.trans hbg.out)
        have HBG3 := hid ((Below.heap_alloc W3 (.cells #[.int .i64 i, .int .i64 k, .int .i64 ((d' : Nat) : Int)] 58) _ (lt_of_block hbg3)).trans hbg3)
        have HJ3 := hid hJ3
        have HK3 := hid ((HB2.out.trans K2).trans hk3)
        have HS3 := hid (Nat.le_trans HN.out HK3.out.1)
        have HBg3 := hid (lt_of_block hbg3)
        clear g3 K2 hbg3 hJ3 hk3 a0 a1 a2
        obtain ⟨y, hyy⟩ : ∃ y, nxt (lett m ls) ⟨i, k, d'⟩ = y := ⟨_, rfl⟩
        have HON2 := hid (fun w' => HON.out ⟨i, k, d'⟩ w' HI.out hd4)
        have HST2 := HST.out j
        rw [HX.out, hyy] at HST2
        have HY2 := hid HST2
        rw [hyy] at HON2
        clear hyy HST2
        obtain ⟨i2, k2, d2⟩ := y
        simp only [wayV] at HON2
        gi_wp2_with (refine wpListIn_load_row (Open.wide _) rfl 44 _ rfl Bg rfl 44 cs (0, 0) _ HBG3.out Try.underlying44 rfl HG.out ?_)
        refine ⟨trivial, (fun h => by cases h), callsIn_wide.2 ((HON2.out _).mono ?_)⟩
        rintro e w5 ⟨rfl, hb5⟩
        have g5 := (hb5.block _ (by simp)).trans (heap_new0 W3 (.cells #[.int .i64 i, .int .i64 k, .int .i64 ((d' : Nat) : Int)] 58))
        have q0 : w5.cell? ⟨W3.heap.size, 0, none⟩ = some (.int .i64 i) := by rw [cell_of_row _ _ _ _ _ _ g5]; rfl
        have q1 : w5.cell? ⟨W3.heap.size, 1, none⟩ = some (.int .i64 k) := by rw [cell_of_row _ _ _ _ _ _ g5]; rfl
        have q2 : w5.cell? ⟨W3.heap.size, 2, none⟩ = some (.int .i64 ((d' : Nat) : Int)) := by rw [cell_of_row _ _ _ _ _ _ g5]; rfl
        have f0 : w5.frozen? ⟨W3.heap.size, 0, none⟩ = false := frozen_of_row _ _ _ _ _ g5
        have f1 : w5.frozen? ⟨W3.heap.size, 1, none⟩ = false := frozen_of_row _ _ _ _ _ g5
        have f2 : w5.frozen? ⟨W3.heap.size, 2, none⟩ = false := frozen_of_row _ _ _ _ _ g5
        have HB5 := hid (show Below W3.heap.size W3 w5 from ((Below.refl _ W3).alloc (Nat.le_refl _) _).trans (hb5.mono (by simp)))
        have G5 := hid g5
        clear hb5 g5 b0 b1 b2
        gi_wp2
        have r0 := heap_setCell_same _ _ 0 _ _ (.int .i64 i2) G5.out
        have r1 := heap_setCell_same _ _ 1 _ _ (.int .i64 k2) r0
        have r2 := heap_setCell_same _ _ 2 _ _ (.int .i64 ((d2 : Nat) : Int)) r1
        have hB6 := ((HB5.out.setCell (p := ⟨W3.heap.size, 0, none⟩) (Nat.le_refl _) (.int .i64 i2)).setCell (p := ⟨W3.heap.size, 1, none⟩) (Nat.le_refl _) (.int .i64 k2)).setCell (p := ⟨W3.heap.size, 2, none⟩) (Nat.le_refl _) (.int .i64 ((d2 : Nat) : Int))
        have R2 := hid r2
        have HB6 := hid hB6
        clear r0 r1 r2 hB6 q0 q1 q2 f0 f1 f2
        go_roundw
        case rel => exact ⟨j + 1, W3.heap.size, by omega, rfl, HS3.out, by rw [HY2.out]; exact R2.out, by rw [upto_succ hlt]; exact abide_below2 HJ.out HJ3.out HB6.out, HK3.out.trans (KeepsW.below HB6.out HBg3.out)⟩
        case measure =>
          rw [leftW_eq (j := j + 1) (by rw [HY2.out]; exact R2.out) (by omega) HNE.out, leftW_eq HC.out hj HNE.out]
          omega
      · have H3 := hid hJx3
        clear hJx3
        gi_wp2
        refine bodyPost_ret (results_none rfl _ _ _) rfl ?_
        exact ⟨⟨_, rfl⟩, .inr ⟨_, ⟨j + 1, by omega, rfl⟩, by rw [upto_succ hlt]; exact H3.out⟩⟩
    · obtain rfl : j = L := by omega
      have hout := HOUT.out
      rw [HX.out] at hout
      have hho : ∀ w', Calls Try.prog 89 #[.agg cs, .agg #[.int .i64 i, .int .i64 k]] w' fun e w'' => e = .returned (.bool false) ∧ Below w'.heap.size w' w'' := fun w' => by
        have := HHx.out w'
        rw [decide_eq_false hout] at this
        exact this
      have HH := hid hho
      clear hho hout HHx
      gi_wp2_with (refine wpListIn_load_row (Open.wide _) rfl 44 _ rfl Bg rfl 44 cs (0, 0) _ hbg.out Try.underlying44 rfl HG.out ?_)
      refine ⟨trivial, (fun h => by cases h), callsIn_wide.2 ((HH.out wr).mono ?_)⟩
      rintro e w2 ⟨rfl, hb2⟩
      have HW2 := hid hb2
      clear hb2 c0 c1
      gi_wp2
      go_end0
      exact ⟨⟨_, rfl⟩, .inl ⟨_, rfl, by rw [← upto_all]; exact abide_below2 HJ.out HK.out HW2.out⟩⟩

/-- The iterator's contract, for the law on loops over iterators. -/
theorem ways_stops (d Bg Bp n m p L : Nat) (ls : List UInt8) (hL : L = blen n m (lett m ls) p) (hl : ls.length = 25) (hn : n ≤ 5) (hm : m ≤ 5) (hp : p < 2 * (n + m)) (w : World) (hBg : w.heap[Bg]? = some (.cells (gcells n m ls) 44 (0, 0))) (hBp : Boxed w Bp 3 (.int .i64 p)) :
    SeqStopsK Fence.wide d Try.prog 88 #[.pointer (some ⟨Bg, 0, none⟩), .pointer (some ⟨Bp, 0, none⟩)] (encW (bway n m (lett m ls) p) L) (KeepsW Bg w.heap.size) (fun xs => xs = List.finRange L) (fun pre => ∃ k, k ≤ L ∧ pre = upto L k) L w := fun l J Jx W hW hJ _ hY h0 => by
  have hb := lt_of_block hBg
  exact ways1_in d l Bg Bp n m p L w.heap.size ls hL hl hn hm hp J Jx W (Nat.lt_of_lt_of_le hb hW.size) hW.size hJ hY ((hW.block Bg hb).trans hBg) ((hW.block Bp hBp.lt).trans hBp) h0

set_option maxHeartbeats 400000 in
theorem ways_any (cs : Array Value) (p : Int) (w : World) :
    Calls Try.prog 54 #[.agg cs, .int .i64 p] w fun e w' => e = .returned (.func (.func 88) #[] #[.pointer (some ⟨w.heap.size, 0, none⟩), .pointer (some ⟨w.heap.size + 1, 0, none⟩)]) ∧ w' = (w.alloc (.cells cs 44)).alloc (.cells #[.int .i64 p] 3) := by
  go_enter Try.func54, Try.ntmps54
  go_wp2
  go_ret
  exact ⟨rfl, rfl⟩

end Go.Proofs.Ytpbppkidglmacaa
