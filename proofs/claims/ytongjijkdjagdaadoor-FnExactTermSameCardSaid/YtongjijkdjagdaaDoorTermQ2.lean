/- The grid that a term tells, by the specification (l11Grid): couples below each other. -/
import Derived.Test.YtongjijkdjagdaaDoorTermQ
import Derived.Test.YtongjijkdjagdaaDoorBunC
namespace Go.Proofs.YtongjijkdjagdaaDoor
open Go.RowKit

theorem addr_add0 (b off j : Nat) : (Addr.add ⟨b, off, none⟩ j : Addr) = ⟨b, off + j, none⟩ := by
  unfold Addr.add
  by_cases h : j = 0
  · subst h; simp
  · simp [h]
theorem strsV_at {l : List ByteArray} {j : Nat} {u : Value} (h : (strsV l)[j]? = some u) : ∃ s, l[j]? = some s ∧ u = .string s := by
  unfold strsV at h
  rw [List.getElem?_map] at h
  obtain ⟨s, h1, h2⟩ := Option.map_eq_some_iff.1 h
  exact ⟨s, h1, h2.symm⟩
theorem growS_low {w : World} {base base' : Nat} {v : Value} {l : List ByteArray} (h : GrowS w base v l) (hb : base' ≤ base) : GrowS w base' v l := by
  refine ⟨h.1, ?_⟩
  rcases h.2 with h2 | ⟨g, cap, cur, h1, h2, h3⟩
  · exact .inl h2
  · exact .inr ⟨g, cap, cur, h1, Nat.le_trans hb h2, h3⟩
theorem growS_below {W W' : World} {base : Nat} {v : Value} {l : List ByteArray} (h : GrowS W base v l) (hb : Below W.heap.size W W') : GrowS W' base v l := by
  refine ⟨h.1, ?_⟩
  rcases h.2 with h2 | ⟨g, cap, cur, h1, h2, h3, h4⟩
  · exact .inl h2
  · exact .inr ⟨g, cap, cur, h1, h2, (hb.block g (lt_of_block h3)).trans h3, h4⟩
theorem strsV_one (l : List ByteArray) : ∀ u ∈ strsV l, u.oneCell' = true := by
  intro u hu
  unfold strsV at hu
  obtain ⟨x, _, rfl⟩ := List.mem_map.1 hu
  rfl
theorem exec_appT {P : Program} {o : Oper} {a : Act} {w w' : World} (s x : Operand) (t : TypeId) (ho : o.op = .call { callee := .builtin .append, args := #[s, x], argTypes := #[t, t] }) {v1 v2 v' : Value}
    (hs : a.eval s = v1) (hx : a.eval x = v2) (hr : (Builtin.append_ #[t, t] o.type #[v1, v2]).run P w = .ok v' w') : (execOp a.eval o).run P w = .ok (.value v') w' := by
  unfold execOp
  simp only [ho, resolve, invoke, builtin, Sem.run_bind, Sem.run_pure, Result.andThen_ok, List.map_toArray, List.map_cons, List.map_nil, hs, hx, hr]
/-- Texts put behind no text. -/
theorem appT_new (W : World) (ty : TypeId) (h : Nat) (v2 : Value) (l : List ByteArray) (hv : TextsV W l v2) (h0 : 0 < l.length) (hl : l.length ≤ 1000000) :
    ∃ v' W', (Builtin.append_ #[23, 23] ty #[.slice (some ⟨h, 0, none⟩) 0 0, v2]).run Tryd.prog W = .ok v' W' ∧ GrowS W' W.heap.size v' l ∧ Below W.heap.size W W' := by
  obtain ⟨A, c, rfl, hs⟩ := hv
  obtain ⟨b, off, rfl, _, hc⟩ := hs h0
  obtain ⟨i0, hi, hz0, hz1, hz2⟩ := info_parts Tryd.info_string
  obtain ⟨v', w', hr, hown, hgw⟩ := run_append_arg_grows (P := Tryd.prog) W 23 ty 9 i0 (.string ByteArray.empty) 1 16 Tryd.underlying23 hi hz0 hz1 hz2 rfl (by decide) ⟨h, 0, none⟩ 0 0 [] rfl (fun j u hj => by simp at hj) ⟨b, off, none⟩ l.length c (strsV l) (by simp [strsV]) (fun j u hj => by
    obtain ⟨s, h1, rfl⟩ := strsV_at hj
    rw [addr_add0]
    exact hc j s h1) (by omega) (by unfold maxLen; omega) (by omega)
  rw [Nat.zero_add, List.nil_append] at hown
  exact ⟨v', w', hr, hown, ⟨hgw.os, hgw.tape, hgw.output, hgw.size, fun k hk => hgw.block k hk (by simp)⟩⟩
/-- Texts put behind texts. -/
theorem appT_more (W : World) (ty : TypeId) (base : Nat) (v v2 : Value) (k l : List ByteArray) (hown : GrowS W base v k) (hv : TextsV W l v2) (h0 : 0 < l.length) (hl : k.length + l.length ≤ 1000000) (hbase : base ≤ W.heap.size) :
    ∃ v' W', (Builtin.append_ #[23, 23] ty #[v, v2]).run Tryd.prog W = .ok v' W' ∧ GrowS W' base v' (k ++ l) ∧ W.grownBy W' v.ownBlock := by
  obtain ⟨A, c, rfl, hs⟩ := hv
  obtain ⟨b, off, rfl, _, hc⟩ := hs h0
  obtain ⟨i0, hi0, hz0, hz1, hz2⟩ := info_parts Tryd.info_string
  obtain ⟨v', w', hr, hown', hgw, _⟩ := run_append_own (P := Tryd.prog) W base 23 ty 9 i0 (.string ByteArray.empty) 1 16 Tryd.underlying23 hi0 hz0 hz1 hz2 rfl (by decide) v k.length (strsV k) hown ⟨b, off, none⟩ l.length c (strsV l) (by simp [strsV]) (fun j u hj => by
    obtain ⟨s, h1, rfl⟩ := strsV_at hj
    rw [addr_add0]
    exact hc j s h1) (strsV_one _) (by unfold maxLen; omega) (by omega) hbase
  refine ⟨v', w', hr, ?_, hgw⟩
  unfold GrowS
  rw [List.length_append]
  unfold strsV at hown' ⊢
  rw [List.map_append]
  exact hown'
/-- What each operation of the region comes to. -/
def UndV (x g kk base : Nat) (ca cb : Array Value) (ss tt rr : List ByteArray) (W : World) : Nat → Value → Prop
  | 0, v => ∃ h, v = .slice (some ⟨h, 0, none⟩) 0 0
  | 1, v => v = .pointer (some ⟨x, 3, none⟩)
  | 2, v => v = .slice (some ⟨g, 0, none⟩) 2 kk
  | 3, v => v = .pointer (some ⟨g, 0, none⟩)
  | 4, v => v = .agg ca
  | 5, v => TextsV W ss v
  | 6, v => GrowS W base v ss
  | 7, v => v = .pointer (some ⟨x, 3, none⟩)
  | 8, v => v = .slice (some ⟨g, 0, none⟩) 2 kk
  | 9, v => v = .pointer (some ⟨g, 4, none⟩)
  | 10, v => v = .agg cb
  | 11, v => TextsV W tt v
  | 12, v => TextsV W rr v
  | 13, v => TextsV W rr v
  | _, _ => True
theorem UndV.step {x g kk base : Nat} {ca cb : Array Value} {ss tt rr : List ByteArray} {W W' : World} (hb : Below W.heap.size W W') {j : Nat} {v : Value} (h : UndV x g kk base ca cb ss tt rr W j v) : UndV x g kk base ca cb ss tt rr W' j v := by
  match j with
  | 0 => exact h
  | 1 => exact h
  | 2 => exact h
  | 3 => exact h
  | 4 => exact h
  | 5 => exact TextsV.step h hb
  | 6 => exact growS_below h hb
  | 7 => exact h
  | 8 => exact h
  | 9 => exact h
  | 10 => exact h
  | 11 => exact TextsV.step h hb
  | 12 => exact TextsV.step h hb
  | 13 => exact TextsV.step h hb
  | _ + 14 => trivial
/-- Operations whose values are not read behind the last append. -/
def early (j : Nat) : Bool := j == 5 || j == 6 || j == 11
structure UndI (w0 : World) (R : World → Nat → Value → Prop) (s : Nat → Bool) (us : Nat → Value) (W : World) : Prop where
  bl : Below w0.heap.size w0 W
  ord : s 13 = true → s 12 = true
  ch : s 12 = true → s 6 = true
  val : ∀ j, j < 14 → s j = true → (s 12 = true → early j = false) → R W j (us j)
section
variable {w0 : World} {R : World → Nat → Value → Prop} {s : Nat → Bool} {us : Nat → Value} {W W' : World}
theorem UndI.call (h : UndI w0 R s us W) (hR : ∀ {W W' : World}, Below W.heap.size W W' → ∀ {j v}, R W j v → R W' j v) (hb : Below W.heap.size W W') (j : Nat) (hj : j ≠ 12) (hj3 : j = 13 → s 12 = true) (v : Value) (hv : R W' j v) : UndI w0 R (fun k => if k = j then true else s k) (fun k => if k = j then v else us k) W' := by
  have e12 : (if 12 = j then true else s 12) = s 12 := if_neg (fun e => hj e.symm)
  refine ⟨h.bl.trans (hb.mono h.bl.size), fun h3 => ?_, fun h3 => ?_, fun k h1 h2 h3 => ?_⟩
  · show (if 12 = j then true else s 12) = true
    rw [e12]
    by_cases e : 13 = j
    · exact hj3 e.symm
    · exact h.ord (by rw [if_neg e] at h3; exact h3)
  · have h3 : (if 12 = j then true else s 12) = true := h3
    rw [e12] at h3
    show (if 6 = j then true else s 6) = true
    rw [h.ch h3]
    split <;> rfl
  · have h3 : (if 12 = j then true else s 12) = true → early k = false := h3
    rw [e12] at h3
    by_cases e : k = j
    · subst e
      rw [if_pos rfl]
      exact hv
    · rw [if_neg e] at h2 ⊢
      exact hR hb (h.val k h1 h2 h3)
theorem UndI.set (h : UndI w0 R s us W) (j : Nat) (hj : j ≠ 12) (hj3 : j = 13 → s 12 = true) (v : Value) (hv : R W j v) : UndI w0 R (fun k => if k = j then true else s k) (fun k => if k = j then v else us k) W := by
  have e12 : (if 12 = j then true else s 12) = s 12 := if_neg (fun e => hj e.symm)
  refine ⟨h.bl, fun h3 => ?_, fun h3 => ?_, fun k h1 h2 h3 => ?_⟩
  · show (if 12 = j then true else s 12) = true
    rw [e12]
    by_cases e : 13 = j
    · exact hj3 e.symm
    · exact h.ord (by rw [if_neg e] at h3; exact h3)
  · have h3 : (if 12 = j then true else s 12) = true := h3
    rw [e12] at h3
    show (if 6 = j then true else s 6) = true
    rw [h.ch h3]
    split <;> rfl
  · have h3 : (if 12 = j then true else s 12) = true → early k = false := h3
    rw [e12] at h3
    by_cases e : k = j
    · subst e
      rw [if_pos rfl]
      exact hv
    · rw [if_neg e] at h2 ⊢
      exact h.val k h1 h2 h3
theorem UndI.last {x g kk : Nat} {ca cb : Array Value} {ss tt rr : List ByteArray} (h : UndI w0 (UndV x g kk w0.heap.size ca cb ss tt rr) s us W) (h12 : s 12 = false) (s6 : s 6 = true) (hg : W.grownBy W' (us 6).ownBlock) (h6 : GrowS W w0.heap.size (us 6) ss) (v : Value) (hv : TextsV W' rr v) : UndI w0 (UndV x g kk w0.heap.size ca cb ss tt rr) (fun k => if k = 12 then true else s k) (fun k => if k = 12 then v else us k) W' := by
  refine ⟨⟨hg.os.trans h.bl.os, hg.tape.trans h.bl.tape, hg.output.trans h.bl.output, Nat.le_trans h.bl.size hg.size, fun k hk => (hg.block k (Nat.lt_of_lt_of_le hk h.bl.size) (fun e => by have := (World.ownsRow.lt h6 k e.symm).1; omega)).trans (h.bl.block k hk)⟩, fun _ => by simp, fun _ => by show (if 6 = 12 then true else s 6) = true; rw [s6]; rfl, fun k h1 h2 h3 => ?_⟩
  have h3 : early k = false := h3 (by simp)
  by_cases e : k = 12
  · subst e
    rw [if_pos rfl]
    exact hv
  · rw [if_neg e] at h2 ⊢
    have hk13 : k ≠ 13 := fun e => by
      subst e
      have := h.ord h2
      rw [h12] at this
      cases this
    have hv := h.val k h1 h2 (fun e => by rw [h12] at e; cases e)
    match k, h1 with
    | 0, _ => exact hv
    | 1, _ => exact hv
    | 2, _ => exact hv
    | 3, _ => exact hv
    | 4, _ => exact hv
    | 5, _ => exact absurd h3 (by decide)
    | 6, _ => exact absurd h3 (by decide)
    | 7, _ => exact hv
    | 8, _ => exact hv
    | 9, _ => exact hv
    | 10, _ => exact hv
    | 11, _ => exact absurd h3 (by decide)
    | 12, _ => exact absurd rfl e
    | 13, _ => exact absurd rfl hk13
    | k + 14, h => exact absurd h (by omega)
end
set_option maxRecDepth 100000 in
set_option maxHeartbeats 4000000 in
theorem gridS_under (a b : Tm) (w : World) (cs : Array Value) (hga : GridT a.dim a.G) (hgb : GridT b.dim b.G) (hab : a.dim.2 = b.dim.2) (h : TmAt 0 w (.cpl a 45 b) cs) (IA : GridC a) (IB : GridC b) : Calls Tryd.prog 40 #[.agg cs] w (GridS (Tm.cpl a 45 b).G w) := by
  obtain ⟨g, kk, ca, cb, rfl, _, hgg, hta, htb⟩ := h
  obtain ⟨A1, n1, q1, rfl⟩ := hta.shape
  obtain ⟨A2, n2, q2, rfl⟩ := htb.shape
  have HB := hid ((Below.refl w.heap.size w).alloc (Nat.le_refl _) (.cells (tmC 45 (Tm.cpl a 45 b).dim (.slice (some ⟨g, 0, none⟩) 2 kk)) 72))
  have hgl := lt_of_block hgg
  have HIA := hid (fun W (h : TmAt 0 W a (tmC a.sgn a.dim (.slice A1 n1 q1))) => IA W _ h)
  have HIB := hid (fun W (h : TmAt 0 W b (tmC b.sgn b.dim (.slice A2 n2 q2))) => IB W _ h)
  have HTA := hid (fun W (hb : Below w.heap.size w W) => hta.kept (Keeps.of hb))
  have HTB := hid (fun W (hb : Below w.heap.size w W) => htb.kept (Keeps.of hb))
  have HC := hid (fun (W : World) (hb : Below w.heap.size w W) => four_cells (off := 0) ((hb.block g hgl).trans hgg) (s := a.sgn) (d := a.dim) (sl := .slice A1 n1 q1) (fun j v h => by
    have hj : j < 4 := (Array.getElem?_eq_some_iff.1 h).1
    rw [Nat.zero_add]
    match j, hj with
    | 0, _ => exact h
    | 1, _ => exact h
    | 2, _ => exact h
    | 3, _ => exact h))
  have HD := hid (fun (W : World) (hb : Below w.heap.size w W) => four_cells (off := 4) ((hb.block g hgl).trans hgg) (s := b.sgn) (d := b.dim) (sl := .slice A2 n2 q2) (fun j v h => by
    have hj : j < 4 := (Array.getElem?_eq_some_iff.1 h).1
    match j, hj with
    | 0, _ => exact h
    | 1, _ => exact h
    | 2, _ => exact h
    | 3, _ => exact h))
  have HX := hid (heap_new0 w (.cells (tmC 45 (Tm.cpl a 45 b).dim (.slice (some ⟨g, 0, none⟩) 2 kk)) 72))
  have HW := hid (World.size_alloc w (.cells (tmC 45 (Tm.cpl a 45 b).dim (.slice (some ⟨g, 0, none⟩) 2 kk)) 72))
  have HGA := hid hga
  have HGB := hid hgb
  have HUR := hid (show a.G ++ b.G = underT a.dim b.dim a.G b.G from under_rows hga (by rw [hab]; exact hgb))
  rw [show (Tm.cpl a 45 b).G = underT a.dim b.dim a.G b.G from rfl]
  unfold tmC at HB HIA HIB HTA HTB HX HW ⊢
  simp only [show ((45 : UInt8).toNat : Int) = 45 from rfl] at HB HX HW ⊢
  clear hta htb hgg IA IB hab hga hgb
  go_enter Tryd.func40, Tryd.ntmps40
  go_wp2_with fail
  generalize World.alloc w _ = Y at HB HX HW ⊢
  refine wp_region_linA (by kernel_rfl) (by kernel_rfl) 14 (by kernel_rfl) (fun us => { tmps := #[.agg #[.int .u8 45, .int .i64 ((Tm.cpl a 45 b).dim.1 : Int), .int .i64 ((Tm.cpl a 45 b).dim.2 : Int), .slice (some ⟨g, 0, none⟩) 2 kk], .pointer (some ⟨w.heap.size, 0, none⟩), us 13, undef, undef, .pointer (some ⟨w.heap.size, 0, none⟩), .int .u8 45, .bool false, .bool false, undef, undef, undef, undef, undef, undef, .bool false, .bool false, undef, undef, undef, undef, undef, undef, .bool false, .bool false, undef, undef, undef, undef, undef, undef, undef, undef, undef, undef, .bool false, .bool false, undef, undef, undef, undef, undef, undef, undef, undef, undef, undef, undef, .bool true, .bool true, us 0, us 1, us 2, us 3, us 4, us 5, us 6, us 7, us 8, us 9, us 10, us 11, us 12, undef, undef, undef, undef, undef], defers := [] }) (fun k => if k < 13 then undef else .slice none 0 0) rfl (UndI Y (UndV w.heap.size g kk Y.heap.size (tmC a.sgn a.dim (.slice A1 n1 q1)) (tmC b.sgn b.dim (.slice A2 n2 q2)) a.G b.G (underT a.dim b.dim a.G b.G))) (fun s hs => ?_) (fun j us v hj => ?_) (fun j s us W hj hsj hd hI => ?_) (fun s us W hs hI => ?_)
  · exact ⟨(Below.refl _ Y).drew, fun h => (by rw [hs 13 (by omega)] at h; cases h), fun h => (by rw [hs 12 (by omega)] at h; cases h), fun j h h2 => by rw [hs j h] at h2; cases h2⟩
  · match j, hj with
    | 0, _ => rfl
    | 1, _ => rfl
    | 2, _ => rfl
    | 3, _ => rfl
    | 4, _ => rfl
    | 5, _ => rfl
    | 6, _ => rfl
    | 7, _ => rfl
    | 8, _ => rfl
    | 9, _ => rfl
    | 10, _ => rfl
    | 11, _ => rfl
    | 12, _ => rfl
    | 13, _ => rfl
    | j + 14, h => exact absurd h (by omega)
  · have HV := hid hI.val
    have hbW := HB.out.trans (hI.bl.mono HB.out.size)
    match j, hj with
    | 0, _ => exact wpOp_runA (u := .slice (some ⟨W.heap.size, 0, none⟩) 0 0) (w' := W.alloc (.cells #[] 9)) rfl rfl (by go_simp) ⟨_, rfl, hI.call UndV.step ((Below.refl _ W).alloc (Nat.le_refl _) _) 0 (by omega) (by omega) _ ⟨_, rfl⟩⟩
    | 1, _ => exact wpOp_runA rfl rfl (by go_simp) ⟨_, rfl, hI.set 1 (by omega) (by omega) _ rfl⟩
    | 7, _ => exact wpOp_runA rfl rfl (by go_simp) ⟨_, rfl, hI.set 7 (by omega) (by omega) _ rfl⟩
    | 2, _ =>
      have h0 : us 1 = _ := HV.out 1 (by omega) (hd _ rfl { on := 1, ground := .data } (by simp) rfl) (fun _ => rfl)
      have hc : W.cell? ⟨w.heap.size, 3, none⟩ = some (.slice (some ⟨g, 0, none⟩) 2 kk) := (cell_of_row W w.heap.size 3 _ _ _ ((hI.bl.block _ (by rw [HW.out]; omega)).trans HX.out)).trans rfl
      rw [h0]
      exact wpOp_runA (u := .slice (some ⟨g, 0, none⟩) 2 kk) (w' := W) rfl rfl (by go_simp) ⟨_, rfl, hI.set 2 (by omega) (by omega) _ rfl⟩
    | 8, _ =>
      have h0 : us 7 = _ := HV.out 7 (by omega) (hd _ rfl { on := 7, ground := .data } (by simp) rfl) (fun _ => rfl)
      have hc : W.cell? ⟨w.heap.size, 3, none⟩ = some (.slice (some ⟨g, 0, none⟩) 2 kk) := (cell_of_row W w.heap.size 3 _ _ _ ((hI.bl.block _ (by rw [HW.out]; omega)).trans HX.out)).trans rfl
      rw [h0]
      exact wpOp_runA (u := .slice (some ⟨g, 0, none⟩) 2 kk) (w' := W) rfl rfl (by go_simp) ⟨_, rfl, hI.set 8 (by omega) (by omega) _ rfl⟩
    | 3, _ =>
      have h0 : us 2 = _ := HV.out 2 (by omega) (hd _ rfl { on := 2, ground := .data } (by simp) rfl) (fun _ => rfl)
      rw [h0]
      exact wpOp_runA (u := .pointer (some ⟨g, 0, none⟩)) (w' := W) rfl rfl (by go_simp) ⟨_, rfl, hI.set 3 (by omega) (by omega) _ rfl⟩
    | 9, _ =>
      have h0 : us 8 = _ := HV.out 8 (by omega) (hd _ rfl { on := 8, ground := .data } (by simp) rfl) (fun _ => rfl)
      rw [h0]
      exact wpOp_runA (u := .pointer (some ⟨g, 4, none⟩)) (w' := W) rfl rfl (by go_simp) ⟨_, rfl, hI.set 9 (by omega) (by omega) _ rfl⟩
    | 4, _ =>
      have h0 : us 3 = _ := HV.out 3 (by omega) (hd _ rfl { on := 3, ground := .data } (by simp) rfl) (fun _ => rfl)
      obtain ⟨c0, c1, c2, c3⟩ := HC.out W hbW
      rw [h0]
      exact wpOp_runA (u := .agg (tmC a.sgn a.dim (.slice A1 n1 q1))) (w' := W) rfl rfl (by unfold tmC; go_simp) ⟨_, rfl, hI.set 4 (by omega) (by omega) _ rfl⟩
    | 10, _ =>
      have h0 : us 9 = _ := HV.out 9 (by omega) (hd _ rfl { on := 9, ground := .data } (by simp) rfl) (fun _ => rfl)
      obtain ⟨c0, c1, c2, c3⟩ := HD.out W hbW
      rw [h0]
      exact wpOp_runA (u := .agg (tmC b.sgn b.dim (.slice A2 n2 q2))) (w' := W) rfl rfl (by unfold tmC; go_simp) ⟨_, rfl, hI.set 10 (by omega) (by omega) _ rfl⟩
    | 5, _ =>
      have h1 : us 4 = _ := HV.out 4 (by omega) (hd _ rfl { on := 4, ground := .data } (by simp) rfl) (fun _ => rfl)
      rw [h1]
      refine wpOp_callA rfl rfl (by go_simp; all_goals rfl) ((HIA.out W (HTA.out W hbW)).mono fun e W' ⟨hb, A, c, he, hs⟩ => ⟨_, he, _, rfl, hI.call UndV.step hb 5 (by omega) (by omega) _ ⟨A, c, rfl, hs⟩⟩)
    | 11, _ =>
      have h1 : us 10 = _ := HV.out 10 (by omega) (hd _ rfl { on := 10, ground := .data } (by simp) rfl) (fun _ => rfl)
      rw [h1]
      refine wpOp_callA rfl rfl (by go_simp; all_goals rfl) ((HIB.out W (HTB.out W hbW)).mono fun e W' ⟨hb, A, c, he, hs⟩ => ⟨_, he, _, rfl, hI.call UndV.step hb 11 (by omega) (by omega) _ ⟨A, c, rfl, hs⟩⟩)
    | 6, _ =>
      have n12 : s 12 = true → early 5 = false := fun h => by have := hI.ch h; rw [hsj] at this; cases this
      obtain ⟨h, h0⟩ : ∃ h, us 0 = .slice (some ⟨h, 0, none⟩) 0 0 := HV.out 0 (by omega) (hd _ rfl { on := 0, ground := .data } (by simp) rfl) (fun _ => rfl)
      have h5 : TextsV W a.G (us 5) := HV.out 5 (by omega) (hd _ rfl { on := 5, ground := .data } (by simp) rfl) n12
      obtain ⟨v', W', hr, hgr, hb⟩ := appT_new W 23 h (us 5) a.G h5 (by have := HGA.out.1; have := HGA.out.2.1; omega) (by have := HGA.out.1; have := HGA.out.2.2.1; omega)
      rw [h0]
      exact wpOp_runA rfl rfl (exec_appT (.tmp 50) (.tmp 55) 23 rfl rfl rfl hr) ⟨_, rfl, hI.call UndV.step hb 6 (by omega) (by omega) _ (growS_low hgr hI.bl.size)⟩
    | 12, _ =>
      have n12 : ∀ j, s 12 = true → early j = false := fun j h => by rw [hsj] at h; cases h
      have h6 : GrowS W Y.heap.size (us 6) a.G := HV.out 6 (by omega) (hd _ rfl { on := 6, ground := .data } (by simp) rfl) (n12 6)
      have h11 : TextsV W b.G (us 11) := HV.out 11 (by omega) (hd _ rfl { on := 11, ground := .data } (by simp) rfl) (n12 11)
      obtain ⟨v', W', hr, hgr, hgw⟩ := appT_more W 23 Y.heap.size (us 6) (us 11) a.G b.G h6 h11 (by have := HGB.out.1; have := HGB.out.2.1; omega) (by have := HGA.out.1; have := HGA.out.2.2.1; have := HGB.out.1; have := HGB.out.2.2.1; omega) hI.bl.size
      rw [HUR.out] at hgr
      exact wpOp_runA rfl rfl (exec_appT (.tmp 56) (.tmp 61) 23 rfl rfl rfl hr) ⟨_, rfl, hI.last hsj (hd _ rfl { on := 6, ground := .data } (by simp) rfl) hgw h6 _ hgr.strs⟩
    | 13, _ =>
      have s12 := (hd _ rfl { on := 12, ground := .data } (by simp) rfl)
      obtain ⟨A, c, h4, hs4⟩ : TextsV W (underT a.dim b.dim a.G b.G) (us 12) := HV.out 12 (by omega) s12 (fun _ => rfl)
      rw [h4]
      exact wpOp_runA (u := .slice A (underT a.dim b.dim a.G b.G).length c) (w' := W) rfl rfl (by go_simp) ⟨_, rfl, hI.set 13 (by omega) (fun _ => s12) _ ⟨A, c, rfl, hs4⟩⟩
    | j + 14, h => exact absurd h (by omega)
  · obtain ⟨A, c, h4, hs4⟩ : TextsV W (underT a.dim b.dim a.G b.G) (us 13) := hI.val 13 (by omega) (hs 13 (by omega)) (fun _ => rfl)
    have HBB := hid (HB.out.trans (hI.bl.mono HB.out.size))
    have HS := hid hs4
    rw [h4]
    clear hI hs hs4
    go_wp2_with fail
    refine bodyPost_ret (results_tmp rfl _ _ _) rfl ?_
    exact ⟨HBB.out, A, c, rfl, HS.out⟩
end Go.Proofs.YtongjijkdjagdaaDoor
