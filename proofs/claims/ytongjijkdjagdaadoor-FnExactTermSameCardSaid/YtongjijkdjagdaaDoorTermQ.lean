/- The grid that a term tells, by the specification (l11Grid): couples. -/
import Derived.Test.YtongjijkdjagdaaDoorTermX
import Derived.Test.YtongjijkdjagdaaDoorTermG
import Derived.Test.YtongjijkdjagdaaDoorSpecBeside
import Derived.Test.YtongjijkdjagdaaDoorBunF
import Derived.Test.YtongjijkdjagdaaDoorBunD
import Derived.Test.YtongjijkdjagdaaDoorLinA
namespace Go.Proofs.YtongjijkdjagdaaDoor
open Go.RowKit

def GridS (ss : List ByteArray) (w : World) (e : Ending) (w' : World) : Prop := Below w.heap.size w w' ∧ ∃ A c, e = .returned (.slice A ss.length c) ∧ Strs w' w'.heap.size A ss
def GridC (t : Tm) : Prop := ∀ (w : World) (cs : Array Value), TmAt 0 w t cs → Calls Tryd.prog 40 #[.agg cs] w (GridS t.G w)
/-- A value that reads as texts. -/
def TextsV (W : World) (ss : List ByteArray) (v : Value) : Prop := ∃ A c, v = .slice A ss.length c ∧ Strs W W.heap.size A ss
theorem TextsV.step {W W' : World} {ss : List ByteArray} {v : Value} (h : TextsV W ss v) (hb : Below W.heap.size W W') : TextsV W' ss v := by
  obtain ⟨A, c, e, hs⟩ := h
  exact ⟨A, c, e, (hs.below hb (Nat.le_refl _)).more hb.size⟩
/-- What each operation of a couple's region comes to. -/
def CplV (x g kk : Nat) (ca cb : Array Value) (ss tt rr : List ByteArray) (W : World) : Nat → Value → Prop
  | 0, v => v = .pointer (some ⟨x, 3, none⟩)
  | 1, v => v = .slice (some ⟨g, 0, none⟩) 2 kk
  | 2, v => v = .pointer (some ⟨g, 0, none⟩)
  | 3, v => v = .agg ca
  | 4, v => TextsV W ss v
  | 5, v => v = .pointer (some ⟨x, 3, none⟩)
  | 6, v => v = .slice (some ⟨g, 0, none⟩) 2 kk
  | 7, v => v = .pointer (some ⟨g, 4, none⟩)
  | 8, v => v = .agg cb
  | 9, v => TextsV W tt v
  | 10, v => TextsV W rr v
  | 11, v => TextsV W rr v
  | _, _ => True
theorem CplV.step {x g kk : Nat} {ca cb : Array Value} {ss tt rr : List ByteArray} {W W' : World} (hb : Below W.heap.size W W') {j : Nat} {v : Value} (h : CplV x g kk ca cb ss tt rr W j v) : CplV x g kk ca cb ss tt rr W' j v := by
  match j with
  | 0 => exact h
  | 1 => exact h
  | 2 => exact h
  | 3 => exact h
  | 4 => exact TextsV.step h hb
  | 5 => exact h
  | 6 => exact h
  | 7 => exact h
  | 8 => exact h
  | 9 => exact TextsV.step h hb
  | 10 => exact TextsV.step h hb
  | 11 => exact TextsV.step h hb
  | _ + 12 => trivial
structure CplI (w0 : World) (R : World → Nat → Value → Prop) (s : Nat → Bool) (us : Nat → Value) (W : World) : Prop where
  bl : Below w0.heap.size w0 W
  val : ∀ j, j < 12 → s j = true → R W j (us j)
theorem CplI.set {w0 : World} {R : World → Nat → Value → Prop} {s : Nat → Bool} {us : Nat → Value} {W : World} (h : CplI w0 R s us W) (j : Nat) (v : Value) (hv : R W j v) : CplI w0 R (fun k => if k = j then true else s k) (fun k => if k = j then v else us k) W := ⟨h.bl, lin_stepA h.val hv⟩
theorem CplI.call {w0 : World} {R : World → Nat → Value → Prop} {s : Nat → Bool} {us : Nat → Value} {W W' : World} (h : CplI w0 R s us W) (hR : ∀ {W W' : World}, Below W.heap.size W W' → ∀ {j v}, R W j v → R W' j v) (hb : Below W.heap.size W W') (j : Nat) (v : Value) (hv : R W' j v) : CplI w0 R (fun k => if k = j then true else s k) (fun k => if k = j then v else us k) W' := ⟨h.bl.trans (hb.mono h.bl.size), lin_stepA (fun k h1 h2 => hR hb (h.val k h1 h2)) hv⟩
/-- A call in a region, for any end. -/
theorem wpOp_callA {P : Program} {Q : Exit → Act → World → Prop} {ops : Array Oper} {i : Nat} {o : Oper} (hi : ops[i]? = some o) (hg : o.guard = none) {f : FuncId} {args : Array Value} {a : Act} {w : World} {K : Act → World → Prop}
    (hr : (execOp a.eval o).run P w = .ok (.enter f args) w) (hc : Calls P f args w fun e w' => ∃ v, e = .returned v ∧ K (a.put o.dst v) w') : wpOp P ops Q i K a w := by
  unfold wpOp
  simp only [hi]
  rw [if_pos (by simp [Region.wanted, hg])]
  refine .inl ?_
  unfold Oper.wp
  rw [hr]
  simp only [Oper.upon]
  refine hc.mono fun e w' he => ?_
  obtain ⟨v, rfl, h1⟩ := he
  exact h1
set_option maxRecDepth 100000 in
set_option maxHeartbeats 4000000 in
theorem gridS_beside (a b : Tm) (w : World) (cs : Array Value) (hga : GridT a.dim a.G) (hgb : GridT b.dim b.G) (hab : a.dim.1 = b.dim.1) (h : TmAt 0 w (.cpl a 124 b) cs) (IA : GridC a) (IB : GridC b) : Calls Tryd.prog 40 #[.agg cs] w (GridS (Tm.cpl a 124 b).G w) := by
  obtain ⟨g, kk, ca, cb, rfl, _, hgg, hta, htb⟩ := h
  obtain ⟨A1, n1, q1, rfl⟩ := hta.shape
  obtain ⟨A2, n2, q2, rfl⟩ := htb.shape
  have HB := hid ((Below.refl w.heap.size w).alloc (Nat.le_refl _) (.cells (tmC 124 (Tm.cpl a 124 b).dim (.slice (some ⟨g, 0, none⟩) 2 kk)) 72))
  have hgl := lt_of_block hgg
  have HIA := hid (fun W (h : TmAt 0 W a (tmC a.sgn a.dim (.slice A1 n1 q1))) => IA W _ h)
  have HIB := hid (fun W (h : TmAt 0 W b (tmC b.sgn b.dim (.slice A2 n2 q2))) => IB W _ h)
  have HTA := hid (fun W (hb : Below w.heap.size w W) => hta.kept (Keeps.of hb))
  have HTB := hid (fun W (hb : Below w.heap.size w W) => htb.kept (Keeps.of hb))
  have HC := hid (fun (W : World) (hb : Below w.heap.size w W) => four_cells (off := 0) ((hb.block g hgl).trans hgg) (s := a.sgn) (d := a.dim) (sl := .slice A1 n1 q1) (fun j v h => by
    have hj : j < 4 := (Array.getElem?_eq_some_iff.1 h).1
    rw [Nat.zero_add]
    match j, hj with
    | 0, _ => exact h
    | 1, _ => exact h
    | 2, _ => exact h
    | 3, _ => exact h))
  have HD := hid (fun (W : World) (hb : Below w.heap.size w W) => four_cells (off := 4) ((hb.block g hgl).trans hgg) (s := b.sgn) (d := b.dim) (sl := .slice A2 n2 q2) (fun j v h => by
    have hj : j < 4 := (Array.getElem?_eq_some_iff.1 h).1
    match j, hj with
    | 0, _ => exact h
    | 1, _ => exact h
    | 2, _ => exact h
    | 3, _ => exact h))
  have HX := hid (heap_new0 w (.cells (tmC 124 (Tm.cpl a 124 b).dim (.slice (some ⟨g, 0, none⟩) 2 kk)) 72))
  have HW := hid (World.size_alloc w (.cells (tmC 124 (Tm.cpl a 124 b).dim (.slice (some ⟨g, 0, none⟩) 2 kk)) 72))
  have HGA := hid hga
  have HGB := hid (hab ▸ hgb : GridT (a.dim.1, b.dim.2) b.G)
  rw [show (Tm.cpl a 124 b).G = besideT a.dim b.dim a.G b.G from rfl]
  unfold tmC at HB HIA HIB HTA HTB HX HW ⊢
  simp only [show ((124 : UInt8).toNat : Int) = 124 from rfl] at HB HX HW ⊢
  clear hta htb hgg IA IB hab hga hgb
  go_enter Tryd.func40, Tryd.ntmps40
  go_wp2_with fail
  generalize World.alloc w _ = Y at HB HX HW ⊢
  refine wp_region_linA (by kernel_rfl) (by kernel_rfl) 12 (by kernel_rfl) (fun us => { tmps := #[.agg #[.int .u8 124, .int .i64 ((Tm.cpl a 124 b).dim.1 : Int), .int .i64 ((Tm.cpl a 124 b).dim.2 : Int), .slice (some ⟨g, 0, none⟩) 2 kk], .pointer (some ⟨w.heap.size, 0, none⟩), us 11, undef, undef, .pointer (some ⟨w.heap.size, 0, none⟩), .int .u8 124, .bool false, .bool false, undef, undef, undef, undef, undef, undef, .bool false, .bool false, undef, undef, undef, undef, undef, undef, .bool false, .bool false, undef, undef, undef, undef, undef, undef, undef, undef, undef, undef, .bool true, .bool true, us 0, us 1, us 2, us 3, us 4, us 5, us 6, us 7, us 8, us 9, us 10, undef, undef, undef, undef, undef, undef, undef, undef, undef, undef, undef, undef, undef, undef, undef, undef, undef, undef, undef, undef], defers := [] }) (fun k => if k < 11 then undef else .slice none 0 0) rfl (CplI Y (CplV w.heap.size g kk (tmC a.sgn a.dim (.slice A1 n1 q1)) (tmC b.sgn b.dim (.slice A2 n2 q2)) a.G b.G (besideT a.dim b.dim a.G b.G))) (fun s hs => ?_) (fun j us v hj => ?_) (fun j s us W hj hsj hd hI => ?_) (fun s us W hs hI => ?_)
  · exact ⟨(Below.refl _ Y).drew, fun j h h2 => by rw [hs j h] at h2; cases h2⟩
  · match j, hj with
    | 0, _ => rfl
    | 1, _ => rfl
    | 2, _ => rfl
    | 3, _ => rfl
    | 4, _ => rfl
    | 5, _ => rfl
    | 6, _ => rfl
    | 7, _ => rfl
    | 8, _ => rfl
    | 9, _ => rfl
    | 10, _ => rfl
    | 11, _ => rfl
    | j + 12, h => exact absurd h (by omega)
  · have HV := hid hI.val
    have hbW := HB.out.trans (hI.bl.mono HB.out.size)
    match j, hj with
    | 0, _ => exact wpOp_runA rfl rfl (by go_simp) ⟨_, rfl, hI.set 0 _ rfl⟩
    | 5, _ => exact wpOp_runA rfl rfl (by go_simp) ⟨_, rfl, hI.set 5 _ rfl⟩
    | 1, _ =>
      have h0 : us 0 = _ := HV.out 0 (by omega) (hd _ rfl { on := 0, ground := .data } (by simp) rfl)
      have hc : W.cell? ⟨w.heap.size, 3, none⟩ = some (.slice (some ⟨g, 0, none⟩) 2 kk) := (cell_of_row W w.heap.size 3 _ _ _ ((hI.bl.block _ (by rw [HW.out]; omega)).trans HX.out)).trans rfl
      rw [h0]
      exact wpOp_runA (u := .slice (some ⟨g, 0, none⟩) 2 kk) (w' := W) rfl rfl (by go_simp) ⟨_, rfl, hI.set 1 _ rfl⟩
    | 6, _ =>
      have h0 : us 5 = _ := HV.out 5 (by omega) (hd _ rfl { on := 5, ground := .data } (by simp) rfl)
      have hc : W.cell? ⟨w.heap.size, 3, none⟩ = some (.slice (some ⟨g, 0, none⟩) 2 kk) := (cell_of_row W w.heap.size 3 _ _ _ ((hI.bl.block _ (by rw [HW.out]; omega)).trans HX.out)).trans rfl
      rw [h0]
      exact wpOp_runA (u := .slice (some ⟨g, 0, none⟩) 2 kk) (w' := W) rfl rfl (by go_simp) ⟨_, rfl, hI.set 6 _ rfl⟩
    | 2, _ =>
      have h1 : us 1 = _ := HV.out 1 (by omega) (hd _ rfl { on := 1, ground := .data } (by simp) rfl)
      rw [h1]
      exact wpOp_runA (u := .pointer (some ⟨g, 0, none⟩)) (w' := W) rfl rfl (by go_simp) ⟨_, rfl, hI.set 2 _ rfl⟩
    | 7, _ =>
      have h1 : us 6 = _ := HV.out 6 (by omega) (hd _ rfl { on := 6, ground := .data } (by simp) rfl)
      rw [h1]
      exact wpOp_runA (u := .pointer (some ⟨g, 4, none⟩)) (w' := W) rfl rfl (by go_simp) ⟨_, rfl, hI.set 7 _ rfl⟩
    | 3, _ =>
      have h1 : us 2 = _ := HV.out 2 (by omega) (hd _ rfl { on := 2, ground := .data } (by simp) rfl)
      obtain ⟨c0, c1, c2, c3⟩ := HC.out W hbW
      rw [h1]
      exact wpOp_runA (u := .agg (tmC a.sgn a.dim (.slice A1 n1 q1))) (w' := W) rfl rfl (by unfold tmC; go_simp) ⟨_, rfl, hI.set 3 _ rfl⟩
    | 8, _ =>
      have h1 : us 7 = _ := HV.out 7 (by omega) (hd _ rfl { on := 7, ground := .data } (by simp) rfl)
      obtain ⟨c0, c1, c2, c3⟩ := HD.out W hbW
      rw [h1]
      exact wpOp_runA (u := .agg (tmC b.sgn b.dim (.slice A2 n2 q2))) (w' := W) rfl rfl (by unfold tmC; go_simp) ⟨_, rfl, hI.set 8 _ rfl⟩
    | 4, _ =>
      have h1 : us 3 = _ := HV.out 3 (by omega) (hd _ rfl { on := 3, ground := .data } (by simp) rfl)
      rw [h1]
      refine wpOp_callA rfl rfl (by go_simp; all_goals rfl) ((HIA.out W (HTA.out W hbW)).mono fun e W' ⟨hb, A, c, he, hs⟩ => ⟨_, he, _, rfl, hI.call CplV.step hb 4 _ ⟨A, c, rfl, hs⟩⟩)
    | 9, _ =>
      have h1 : us 8 = _ := HV.out 8 (by omega) (hd _ rfl { on := 8, ground := .data } (by simp) rfl)
      rw [h1]
      refine wpOp_callA rfl rfl (by go_simp; all_goals rfl) ((HIB.out W (HTB.out W hbW)).mono fun e W' ⟨hb, A, c, he, hs⟩ => ⟨_, he, _, rfl, hI.call CplV.step hb 9 _ ⟨A, c, rfl, hs⟩⟩)
    | 10, _ =>
      obtain ⟨A, c, h4, hs4⟩ : TextsV W a.G (us 4) := HV.out 4 (by omega) (hd _ rfl { on := 4, ground := .data } (by simp) rfl)
      obtain ⟨A', c', h9, hs9⟩ : TextsV W b.G (us 9) := HV.out 9 (by omega) (hd _ rfl { on := 9, ground := .data } (by simp) rfl)
      rw [h4, h9]
      refine wpOp_callA rfl rfl (by go_simp) ((l1Beside_any A A' c c' W.heap.size a.dim.1 a.dim.2 b.dim.2 a.G b.G W hs4 hs9 (Nat.le_refl _) HGA.out HGB.out).mono fun e W' ⟨⟨v, he, hv⟩, hb⟩ => ⟨_, he, _, rfl, hI.call CplV.step hb 10 _ hv.strs⟩)
    | 11, _ =>
      obtain ⟨A, c, h4, hs4⟩ : TextsV W (besideT a.dim b.dim a.G b.G) (us 10) := HV.out 10 (by omega) (hd _ rfl { on := 10, ground := .data } (by simp) rfl)
      rw [h4]
      exact wpOp_runA (u := .slice A (besideT a.dim b.dim a.G b.G).length c) (w' := W) rfl rfl (by go_simp) ⟨_, rfl, hI.set 11 _ ⟨A, c, rfl, hs4⟩⟩
    | j + 12, h => exact absurd h (by omega)
  · obtain ⟨A, c, h4, hs4⟩ : TextsV W (besideT a.dim b.dim a.G b.G) (us 11) := hI.val 11 (by omega) (hs 11 (by omega))
    have HBB := hid (HB.out.trans (hI.bl.mono HB.out.size))
    have HS := hid hs4
    rw [h4]
    clear hI hs hs4
    go_wp2_with fail
    refine bodyPost_ret (results_tmp rfl _ _ _) rfl ?_
    exact ⟨HBB.out, A, c, rfl, HS.out⟩
end Go.Proofs.YtongjijkdjagdaaDoor
