/- The exchanges of all mirrors: exchanges, by its contract. -/
import Derived.Test.YtkaiadgldppbiaaBunR
import Derived.Test.YtkaiadgldppbiaaBunQ
import Derived.Test.YtkaiadgldppbiaaBunD
import Derived.Test.YtkaiadgldppbiaaRelIn
namespace Go.Proofs.Ytkaiadgldppbiaa
open Go.RowKit Go.Shelf
attribute [local go_sem] Oper.semAt_some

theorem lett_place {m c : Nat} (ls : List UInt8) : lett m ls (placeN m c).i (placeN m c).k = ls.getD c 0 := by
  unfold lett placeN
  have e : (((c / m : Nat) : Int) * (m : Int) + ((c % m : Nat) : Int)).toNat = c := by
    have h := Nat.div_add_mod c m
    rw [Nat.mul_comm] at h
    rw [← Int.natCast_mul, ← Int.natCast_add, h]
    simp
  simp only [e]
/-- The exchanges of the mirrors among the cells that have come. -/
def mirI {N : Nat} (m : Nat) (ls : List UInt8) (pre : List (Fin N)) : List (Wy × UInt8) := (pre.filter fun x => ls.getD x.val 0 != 46).map fun x => (placeN m x.val, oth (ls.getD x.val 0))
theorem mirI_snoc {N : Nat} (m : Nat) (ls : List UInt8) (pre : List (Fin N)) (x : Fin N) : mirI m ls (pre ++ [x]) = mirI m ls pre ++ (if (ls.getD x.val 0 != 46) = true then [(placeN m x.val, oth (ls.getD x.val 0))] else []) := by
  unfold mirI
  rw [List.filter_append, List.map_append]
  congr 1
  by_cases h : (ls.getD x.val 0 != 46) = true
  · rw [if_pos h, List.filter_cons_of_pos (by exact h)]; rfl
  · rw [if_neg h, List.filter_cons_of_neg (by exact h)]; rfl
theorem mirI_length {N : Nat} (m : Nat) (ls : List UInt8) (pre : List (Fin N)) : (mirI m ls pre).length ≤ pre.length := by
  unfold mirI
  rw [List.length_map]
  exact List.length_filter_le _ _
/-- Changes are their holder's own. -/
theorem chgs_own (base n m : Nat) (v : Value) (ls : List UInt8) (items : List (Wy × UInt8)) : Go.Own (fun (_ : Unit) W => ChgsAt W base v n m ls items) := by
  rintro _ X Y row ⟨es, h1, h2, h3⟩ hg hrow
  refine ⟨es, h1, h2.kept hg ?_, fun e he => ?_⟩
  · rcases h2.2 with ⟨rfl, _⟩ | ⟨g, cap, cur, rfl, _, hgb, _⟩
    · exact .inl rfl
    · refine .inr fun e' => ?_
      obtain ⟨o, ho, hc⟩ := hrow g (by simpa [Value.ownBlock] using e'.symm)
      rw [hgb] at ho; cases ho; cases hc
  · have hk : ∀ {g : Nat} {cs : Array Value} {t : TypeId}, X.heap[g]? = some (.cells cs t (0, 0)) → Y.heap[g]? = some (.cells cs t (0, 0)) := fun {g cs t} h => by
      refine (hg.block g (lt_of_block h) fun e => ?_).trans h
      obtain ⟨o, ho, hc⟩ := hrow g e.symm
      rw [h] at ho; cases ho; cases hc
    obtain ⟨a, b, c⟩ := h3 e he
    exact ⟨hk a, hk b, hk c⟩
theorem chgsBox_own {β : Type} (base B n m : Nat) (ls : List UInt8) (items : β → List (Wy × UInt8)) : Go.Own (fun s W => ∃ v, Boxed W B 113 v ∧ ChgsAt W base v n m ls (items s)) := by
  rintro s X Y row ⟨v, hv, hc⟩ hg hrow
  refine ⟨v, hv.kept hg (fun e' => ?_), chgs_own base n m v ls (items s) () X Y row hc hg hrow⟩
  obtain ⟨o, ho, hc⟩ := hrow B e'.symm
  rw [show X.heap[B]? = _ from hv] at ho; cases ho; cases hc
section
variable {F : Fence} {nF : Nat} {ops : Array Oper} {rest : List Oper} {o : Oper} {a : Act} {w : World} {Q : Exit → Act → World → Prop}
/-- One change appended, inside a fence. -/
theorem wpListIn_appendC (hgd : o.guard = none) (s x : Operand) (ho : o.op = .call { callee := .builtin .append, args := #[s, x], argTypes := #[113, 113] })
    (base : Nat) (v : Value) (n m : Nat) (ls : List UInt8) (items : List (Wy × UInt8)) (hs : a.eval s = v) (hown : ChgsAt w base v n m ls items) (h c : Nat) (hx : a.eval x = .slice (some ⟨h, 0, none⟩) 1 c) (y : Wy) (b : UInt8) (g0 g1 g2 : Nat)
    (hc : w.heap[h]? = some (.cells (changeC ((cellN m y : Nat) : Int) g0 g1 g2) 72 (0, 0))) (hm : MadeAt w n m ls y b g0 g1 g2)
    (hl : items.length ≤ 1000000) (hbase : base ≤ w.heap.size)
    (hk : ∀ g cap w' xs, w'.ownsRow base 72 2 (.slice (some ⟨g, 0, none⟩) (items.length + 1) cap) (items.length + 1) xs → ChgsAt w' base (.slice (some ⟨g, 0, none⟩) (items.length + 1) cap) n m ls (items ++ [(y, b)]) → w.grownBy w' v.ownBlock → wpListIn F nF Try.prog ops Q rest (a.put o.dst (.slice (some ⟨g, 0, none⟩) (items.length + 1) cap)) w') : wpListIn F nF Try.prog ops Q (o :: rest) a w := by
  obtain ⟨i0, hi, hz0, hz1, hz2⟩ := info_parts Try.info_change
  obtain ⟨es, h1, h2, h3⟩ := hown
  have e : items.length = es.length := by rw [← h1, List.length_map]
  refine wpListIn_append_own w hgd s x 113 ho base 72 i0 (.agg #[.int .i64 0, .nilFunc]) 2 16 Try.underlying113 hi hz0 hz1 hz2 rfl (by decide) v es.length (chgCells m es) hs h2 ⟨h, 0, none⟩ 1 c [.int .i64 ((cellN m y : Nat) : Int), madeV g0 g1 g2] hx rfl ?_ ?_ (by unfold maxLen; omega) (by omega) hbase ?_
  · intro j u hj
    have ea : (Addr.add ⟨h, 0, none⟩ j : Addr) = ⟨h, j, none⟩ := by unfold Addr.add; split <;> simp_all
    rw [ea, cell_of_row _ _ _ _ _ _ hc]
    match j, hj with
    | 0, hj => exact hj
    | 1, hj => exact hj
    | j + 2, hj => simp at hj
  · intro u hu
    simp at hu
    rcases hu with rfl | rfl <;> rfl
  · intro v' w' h4 h5 _
    obtain ⟨g, cap, rfl⟩ := ownsRow_succ h4
    rw [← e] at h4 ⊢
    refine hk g cap w' _ h4 ⟨es ++ [⟨y, b, g0, g1, g2⟩], by rw [List.map_append, h1]; rfl, ?_, fun c hc => ?_⟩ h5
    · rw [List.length_append, chgCells_snoc]
      rw [e] at h4 ⊢
      exact h4
    · rcases List.mem_append.1 hc with h6 | h6
      · exact (h3 c h6).grown h5 (own_change h2)
      · simp at h6
        subst h6
        exact hm.grown h5 (own_change h2)
end
/-- A block of another type outlives the growth of a slice of changes. -/
theorem chgs_heap {base b n m : Nat} {W W' : World} {v : Value} {ls : List UInt8} {items : List (Wy × UInt8)} {cs : Array Value} {t : TypeId} (hrow : ChgsAt W base v n m ls items) (hg : W.grownBy W' v.ownBlock) (hb : W.heap[b]? = some (.cells cs t (0, 0))) (ht : t ≠ 72) : W'.heap[b]? = some (.cells cs t (0, 0)) := by
  refine (hg.block b (lt_of_block hb) fun e' => ?_).trans hb
  obtain ⟨es, _, h2, _⟩ := hrow
  obtain ⟨cur, hc⟩ := own_change h2 b e'.symm
  rw [hb] at hc
  cases hc
  exact ht rfl

/-- A store into the box of the slice leaves the changes. -/
theorem chgs_setBox {base B n m : Nat} {W : World} {v u : Value} {ls : List UInt8} {items : List (Wy × UInt8)} (h : ChgsAt W base v n m ls items) (hb : Boxed W B 113 u) (u' : Value) : ChgsAt (W.setCell ⟨B, 0, none⟩ u') base v n m ls items := by
  obtain ⟨es, h1, h2, h3⟩ := h
  have hk : ∀ {g : Nat} {cs : Array Value} {t : TypeId}, W.heap[g]? = some (.cells cs t (0, 0)) → t ≠ 113 → (W.setCell ⟨B, 0, none⟩ u').heap[g]? = some (.cells cs t (0, 0)) := fun {g cs t} h ht => by
    rw [Below.heap_setCell _ _ _ _ (fun e => by
      have e' : g = B := e
      subst e'
      have h1 := (show W.heap[g]? = _ from hb).symm.trans h
      cases h1
      exact ht rfl)]
    exact h
  refine ⟨es, h1, h2.kept (grownBy_setCell' W B u') (.inr (hb.not_row (by decide) h2).symm), fun e he => ?_⟩
  obtain ⟨a, b, c⟩ := h3 e he
  exact ⟨hk a (by decide), hk b (by decide), hk c (by decide)⟩

/-- What the operations of one round hand back, up to the append. -/
def exchgRel (v0 : Value) (n m : Nat) (ls : List UInt8) (x : Wy) (b : UInt8) (i : Nat) (v : Value) (W : World) : Prop :=
  match i with
  | 0 => v = v0
  | 1 => v = .agg (gcells n m ls)
  | 2 => v = .agg #[.int .i64 x.i, .int .i64 x.k]
  | 3 => ChangeV W n m ls x b v
  | 4 => ∃ h g0 g1 g2, v = .slice (some ⟨h, 0, none⟩) 1 1 ∧ W.heap[h]? = some (.cells (changeC ((cellN m x : Nat) : Int) g0 g1 g2) 72 (0, 0)) ∧ MadeAt W n m ls x b g0 g1 g2
  | _ => True

set_option maxRecDepth 100000 in
set_option maxHeartbeats 2000000 in
theorem exchanges_any (n m : Nat) (ls : List UInt8) (w : World) (hl : ls.length = 25) (hn5 : n ≤ 5) (hm : 1 ≤ m) (hm5 : m ≤ 5) :
    Calls Try.prog 75 #[.agg (gcells n m ls)] w fun e w' => ∃ v, e = .returned v ∧ ChgsAt w' w.heap.size v n m ls (mirI m ls (List.finRange (n * m))) ∧ Below w.heap.size w w' := by
  refine (callsIn_wide (n := 3)).1 ?_
  have HG := hid (show (Try.prog.info? 37).map (·.size) = some (gcells n m ls).size by rw [gcells_size hl]; exact Try.size_grid)
  have HEX := hid (fun c W (hc : c < n * m) => exchange_any n m ls (placeN m c) W hl hn5 hm5 (placeN_in hc))
  obtain ⟨W0, hW0⟩ : ∃ W0, (((w.alloc (.cells (gcells n m ls) 37)).alloc (.cells #[] 72)).alloc (.cells #[.slice (some ⟨w.heap.size + 1, 0, none⟩) 0 0] 113)) = W0 := ⟨_, rfl⟩
  have H0 := hid (show W0.heap[w.heap.size]? = some (.cells (gcells n m ls) 37 (0, 0)) by rw [← hW0]; exact heap_new2 w _ _ _)
  have H1 := hid (show Boxed W0 (w.heap.size + 2) 113 (.slice (some ⟨w.heap.size + 1, 0, none⟩) 0 0) by
    unfold Boxed
    rw [← hW0]
    simpa using heap_new0 ((w.alloc (.cells (gcells n m ls) 37)).alloc (.cells #[] 72)) (.cells #[.slice (some ⟨w.heap.size + 1, 0, none⟩) 0 0] 113))
  have H2 := hid (show Below w.heap.size w W0 by rw [← hW0]; exact (((Below.refl _ w).alloc (Nat.le_refl _) _).alloc (by simp) _).alloc (by simp; omega) _)
  have H3 := hid (show W0.heap.size = w.heap.size + 3 by rw [← hW0]; simp)
  have H4 := hid (show ChgsAt W0 w.heap.size (.slice (some ⟨w.heap.size + 1, 0, none⟩) 0 0) n m ls [] by
    have := (chgs_new (w.alloc (.cells (gcells n m ls) 37)) w.heap.size n m ls (by simp)).below ((Below.refl _ _).alloc (Nat.le_refl _) (.cells #[.slice (some ⟨w.heap.size + 1, 0, none⟩) 0 0] 113))
    rw [World.size_alloc, hW0] at this
    exact this)
  have HW0 := hid hW0
  refine callsIn_of_wp_marks Try.func75 rfl trivial ?_ rfl
  simp only [Try.ntmps75, List.size_toArray, List.length_cons, List.length_nil, Nat.reduceAdd, Nat.reduceSub, Array.replicate_succ, Array.replicate_zero, List.push_toArray, List.append_toArray, List.nil_append, List.cons_append]
  gi_wp2_with (refine wpListIn_load_row (Open.wide _) rfl 37 _ rfl w.heap.size rfl 37 (gcells n m ls) (0, 0) _ H0.out Try.underlying37 rfl HG.out ?_)
  clear hW0
  refine ⟨trivial, callsIn_wide.2 ((cells_any (gcells n m ls) W0).mono ?_)⟩
  rintro e w1 ⟨rfl, hw1⟩
  have K0 := hid (show w1.heap[w.heap.size]? = some (.cells (gcells n m ls) 37 (0, 0)) by rw [hw1]; exact (Below.heap_alloc W0 _ _ (lt_of_block H0.out)).trans H0.out)
  have K1 := hid (show Boxed w1 (w.heap.size + 2) 113 (.slice (some ⟨w.heap.size + 1, 0, none⟩) 0 0) by rw [hw1]; exact H1.out.alloc _)
  have K3 := hid (show w1.heap[W0.heap.size]? = some (.cells (gcells n m ls) 37 (0, 0)) by rw [hw1]; exact heap_new0 W0 _)
  have K4 := hid (show ChgsAt w1 w.heap.size (.slice (some ⟨w.heap.size + 1, 0, none⟩) 0 0) n m ls (mirI m ls ([] : List (Fin (n * m)))) by rw [hw1]; exact H4.out.below ((Below.refl _ W0).alloc (Nat.le_refl _) _))
  have KB := hid (show Below w.heap.size w w1 by rw [hw1]; exact H2.out.alloc H2.out.size _)
  have KS := hid (show w1.heap.size = w.heap.size + 4 by rw [hw1, World.size_alloc, H3.out])
  have KW := hid H3.out
  have hnm : n * m ≤ 5 * 5 := Nat.mul_le_mul hn5 hm5
  clear hw1
  gi_wp2
  refine wpIn_rangeFunc_ownH rfl (by omega) (gf := 65) (lb := #[.pointer (some ⟨W0.heap.size, 0, none⟩)]) rfl trivial (enters_of Try.func65 (by kernel_rfl) rfl)
    (cells_stops 2 W0.heap.size n m (n * m) rfl ls hl hn5 hm hm5 w1 K3.out) KeepsAt.trans (keepsAt_b (lt_of_block K3.out)) (Below.refl _ _) (fun _ => rfl)
    (fun pre W => (((∃ v, Boxed W (w.heap.size + 2) 113 v ∧ ChgsAt W w.heap.size v n m ls (mirI m ls pre)) ∧ W.heap[w.heap.size]? = some (.cells (gcells n m ls) 37 (0, 0))) ∧ W.heap[W0.heap.size]? = some (.cells (gcells n m ls) 37 (0, 0))) ∧ Below w.heap.size w1 W)
    (fun _ _ _ => False)
    (OwnFrom.and (OwnFrom.and (OwnFrom.and (Own.from (chgsBox_own w.heap.size (w.heap.size + 2) n m ls (fun pre => mirI m ls pre)) _) (ownFrom_heap _ _ (fun _ => _) (fun _ => rfl))) (ownFrom_heap _ _ (fun _ => _) (fun _ => rfl))) (ownFrom_below (by rw [KS.out]; omega) (by rw [KS.out]; omega)))
    (fun _ _ _ _ _ hs _ _ => hs)
    ⟨⟨⟨⟨_, K1.out, K4.out⟩, K0.out⟩, K3.out⟩, Below.refl _ _⟩
    (fun x a' W => ∃ Bx, w1.heap.size ≤ Bx ∧ W.heap[Bx]? = some (.cells #[.int .i64 (placeN m x.val).i, .int .i64 (placeN m x.val).k] 54 (0, 0)) ∧ ∃ u0 u2 u6 u7 u8 u9 u10 u11 u12 u13 u14 u15 u16 u17 u18 u19 : Value,
      a' = { tmps := #[u0, .pointer (some ⟨w.heap.size, 0, none⟩), u2, .pointer (some ⟨w.heap.size + 2, 0, none⟩), .pointer (some ⟨Bx, 0, none⟩), .int .u8 ((ls.getD x.val 0).toNat : Int), u6, u7, u8, u9, u10, u11, u12, u13, u14, u15, u16, u17, u18, u19], defers := [] })
    (fun x a' _ X Y row hs hg hr => by
      obtain ⟨Bx, h1, h2, h3⟩ := hs
      exact ⟨Bx, h1, ownFrom_heap _ Bx (fun (_ : Unit) => Obj.cells #[.int .i64 (placeN m x.val).i, .int .i64 (placeN m x.val).k] 54 (0, 0)) (fun _ => rfl) () X Y row h2 hg hr, h3⟩)
    ?assign ?body ?done ?stop
  case assign =>
    rintro l pre x W K ⟨⟨⟨⟨v, iv, ir⟩, i0⟩, i1⟩, i2⟩ hK
    have JV := hid iv
    have JR := hid ir
    have J0 := hid i0
    have J1 := hid i1
    have J2 := hid i2
    have JK := hid hK
    clear iv ir i0 i1 i2 hK
    unfold encs
    obtain ⟨bv, hbv⟩ : ∃ bv : Int, ((ls.getD x.val 0).toNat : Int) = bv := ⟨_, rfl⟩
    rw [hbv] at JK ⊢
    gi_wp2
    have hsz : w1.heap.size ≤ W.heap.size := J2.out.size
    have hk4 := KS.out
    have hk3 := KW.out
    exact JK.out _ _ ((KeepsOthers.alloc _ _).from _) (KeepsAt.below ((Below.refl _ W).alloc (Nat.le_refl _) _) (by omega))
      ⟨⟨⟨⟨v, JV.out.alloc _, JR.out.below ((Below.refl _ W).alloc (Nat.le_refl _) _)⟩, (Below.heap_alloc _ _ _ (by omega)).trans J0.out⟩, (Below.heap_alloc _ _ _ (by omega)).trans J1.out⟩, J2.out.alloc (by omega) _⟩
      ⟨W.heap.size, hsz, heap_new0 W _, _, _, _, _, _, _, _, _, _, _, _, _, _, _, _, _, rfl⟩
  case body =>
    rintro l pre x a' W hlw ⟨r, hr⟩ ⟨⟨⟨⟨v, iv, ir⟩, i0⟩, i1⟩, i2⟩ ⟨Bx, hBx, hX, u0, u2, u6, u7, u8, u9, u10, u11, u12, u13, u14, u15, u16, u17, u18, u19, rfl⟩ hlt
    have hsn := mirI_snoc m ls pre x
    have hlen := mirI_length m ls pre
    have hEX := hid (fun W => HEX.out x.val W x.isLt)
    rw [lett_place] at hEX
    have hne := byte_bne (ls.getD x.val 0)
    obtain ⟨bb, hbb⟩ : ∃ bb : UInt8, ls.getD x.val 0 = bb := ⟨_, rfl⟩
    rw [hbb] at hne hsn hEX ⊢
    generalize mirI m ls pre = cl at ir hsn hlen
    generalize placeN m x.val = y at hX hEX hsn
    obtain ⟨bv, hbv⟩ : ∃ bv : Int, (bb.toNat : Int) = bv := ⟨_, rfl⟩
    rw [hbv] at hne ⊢
    have IV := hid iv
    have IR := hid ir
    have I0 := hid i0
    have I1 := hid i1
    have I2 := hid i2
    have IX := hid hX
    have HSN := hid hsn
    have HLEN := hid (show cl.length ≤ 1000000 by omega)
    have hWs : w1.heap.size ≤ W.heap.size := i2.size
    have hk4 := KS.out
    have hk3 := KW.out
    clear iv ir i0 i1 i2 hX hsn hlen hlt hr hlw hbv hbb hnm
    cases hb : (bb != 46) with
    | true =>
      rw [hb] at hne
      have HB := hid hb
      clear hb
      obtain ⟨A', c', rfl⟩ := IR.out.slice
      gi_wp2
      refine wpIn_region_rel_tail (by kernel_rfl) 5 (by kernel_rfl) (fun us => { tmps := #[u0, .pointer (some ⟨w.heap.size, 0, none⟩), u2, .pointer (some ⟨w.heap.size + 2, 0, none⟩), .pointer (some ⟨Bx, 0, none⟩), .int .u8 bv, u6, u7, u8, u9, u10, .int .u8 bv, .bool true, us 0, us 1, us 2, us 3, us 4, u18, u19], defers := [] }) (fun k => match k with | 0 => u13 | 1 => u14 | 2 => u15 | 3 => u16 | _ => u17) rfl (exchgRel (.slice A' cl.length c') n m ls y (oth bb)) (fun i v W W' h hb => ?_) (fun i us v hi => ?_) (fun i us W' hi hb hd => ?_) (fun us W' hb hr => ?_)
      · unfold exchgRel at h ⊢
        split at h <;> try exact h
        · exact h.below hb
        · obtain ⟨h, g0, g1, g2, h1, h2, h3⟩ := h
          exact ⟨h, g0, g1, g2, h1, (hb.block _ (lt_of_block h2)).trans h2, h3.below hb⟩
      · match i, hi with
        | 0, _ => rfl
        | 1, _ => rfl
        | 2, _ => rfl
        | 3, _ => rfl
        | 4, _ => rfl
      · have L0 := hid ((hb.block _ (lt_of_block I0.out)).trans I0.out)
        have LX := hid ((hb.block _ (lt_of_block IX.out)).trans IX.out)
        match i, hi with
        | 0, _ =>
          have hc : W'.cell? ⟨w.heap.size + 2, 0, none⟩ = some (.slice A' cl.length c') := (show Boxed W' _ _ _ from (hb.block _ IV.out.lt).trans IV.out).cell
          exact wpOpIn_relval (Open.round _ l) rfl rfl (fun _ e => by cases e) (by go_simp) rfl (Below.refl _ _)
        | 1, _ => exact wpOpIn_relval (Open.round _ l) rfl rfl (fun _ e => by cases e) (exec_load_row 37 _ rfl w.heap.size rfl 37 (gcells n m ls) (0, 0) _ L0.out Try.underlying37 rfl HG.out) rfl (Below.refl _ _)
        | 2, _ => exact wpOpIn_relval (Open.round _ l) rfl rfl (fun _ e => by cases e) (exec_load_row 54 _ rfl Bx rfl 54 #[.int .i64 y.i, .int .i64 y.k] (0, 0) _ LX.out Try.underlying54 rfl Try.size_place) rfl (Below.refl _ _)
        | 3, _ =>
          have h0 : us 1 = _ := hd _ rfl { on := 1, ground := .data } (by simp) rfl
          have h1 : us 2 = _ := hd _ rfl { on := 2, ground := .data } (by simp) rfl
          rw [h0, h1]
          exact wpOpIn_relcall (Open.round _ l) rfl rfl (fun _ e => by cases e) (by go_simp) (hEX.out W')
        | 4, _ =>
          obtain ⟨g0, g1, g2, h0, hma⟩ : ChangeV W' n m ls y (oth bb) (us 3) := hd _ rfl { on := 3, ground := .data } (by simp) rfl
          rw [h0]
          have hsz : (changeC ((cellN m y : Nat) : Int) g0 g1 g2).size = 2 := rfl
          exact wpOpIn_relval (w' := W'.alloc (.cells (changeC ((cellN m y : Nat) : Int) g0 g1 g2) 72)) (Open.round _ l) rfl rfl (fun _ e => by cases e) (by go_simp; rfl) ⟨W'.heap.size, g0, g1, g2, rfl, heap_new0 W' _, hma.below ((Below.refl _ W').alloc (Nat.le_refl _) _)⟩ ((Below.refl _ W').alloc (Nat.le_refl _) _)
      have h0 : us 0 = _ := hr 0 (by omega)
      obtain ⟨hh, g0, g1, g2, h4, hc4, hm4⟩ : ∃ h g0 g1 g2, us 4 = .slice (some ⟨h, 0, none⟩) 1 1 ∧ W'.heap[h]? = some (.cells (changeC ((cellN m y : Nat) : Int) g0 g1 g2) 72 (0, 0)) ∧ MadeAt W' n m ls y (oth bb) g0 g1 g2 := hr 4 (by omega)
      rw [h0, h4]
      have QR := hid (IR.out.below hb)
      have QV := hid (show Boxed W' (w.heap.size + 2) 113 (.slice A' cl.length c') from (hb.block _ IV.out.lt).trans IV.out)
      have Q0 := hid ((hb.block _ (lt_of_block I0.out)).trans I0.out)
      have Q1 := hid ((hb.block _ (lt_of_block I1.out)).trans I1.out)
      have Q2 := hid (I2.out.trans (hb.mono (show w.heap.size ≤ W.heap.size by omega)))
      have QK := hid (keeps_below hb)
      have QS := hid (show W.heap.size ≤ W'.heap.size from hb.size)
      have QC := hid hc4
      have QM := hid hm4
      clear hr hb h0 h4 hc4 hm4
      simp only [List.drop_succ_cons, List.drop_zero]
      gi_wp2_with (gi_at_builtin; refine wpListIn_appendC rfl _ _ rfl w.heap.size (.slice A' cl.length c') n m ls cl rfl QR.out hh 1 rfl y (oth bb) g0 g1 g2 QC.out QM.out HLEN.out (by have := QS.out; omega) ?_)
      intro g cap w4 _ _ hch hgrow
      obtain ⟨es, _, hrow, _⟩ := QR.out
      have hv1 : Boxed w4 (w.heap.size + 2) 113 (.slice A' cl.length c') := QV.out.kept hgrow (QV.out.not_row (by decide) hrow)
      have hc1 := hv1.cell
      have hf1 := hv1.frozen
      have V1 := hid hv1
      have R0 := hid (chgs_heap QR.out hgrow Q0.out (by decide))
      have R1 := hid (chgs_heap QR.out hgrow Q1.out (by decide))
      have RC := hid hch
      have RK := hid (QK.out.trans (KeepsOthers.of_grownBy hgrow fun j o ej hj => by
        obtain ⟨cur, hcu⟩ := own_change hrow j ej
        rw [hcu] at hj
        cases hj
        rfl))
      have RB := hid (Q2.out.grown hgrow (by have := QS.out; omega) (fun k e => (World.ownsRow.lt hrow k e).1))
      have RS := hid (show W.heap.size ≤ w4.heap.size from Nat.le_trans QS.out hgrow.size)
      clear hv1 hgrow hch hrow
      gi_wp2
      refine ⟨(RK.out.trans (KeepsOthers.setCell _ _ _)).from _, ⟨by simp; exact RS.out, ?_⟩, ⟨⟨⟨_, V1.out.set _, ?_⟩, ?_⟩, ?_⟩, RB.out.setCell (p := ⟨w.heap.size + 2, 0, none⟩) (by simp) _⟩
      · rw [Below.heap_setCell _ _ _ _ (by simp; omega), R1.out, I1.out]
      · rw [HSN.out, if_pos HB.out]
        exact chgs_setBox RC.out V1.out _
      · rw [Below.heap_setCell _ _ _ _ (by simp)]; exact R0.out
      · rw [Below.heap_setCell _ _ _ _ (by simp; omega)]; exact R1.out
    | false =>
      rw [hb] at hne
      have HB := hid hb
      clear hb
      gi_wp2
      refine ⟨KeepsFrom.refl _ _, ⟨Nat.le_refl _, rfl⟩, ⟨⟨⟨v, IV.out, ?_⟩, I0.out⟩, I1.out⟩, I2.out⟩
      rw [HSN.out, if_neg (by rw [HB.out]; decide), List.append_nil]
      exact IR.out
  case done =>
    rintro D xs W hD rfl ⟨⟨⟨⟨v, iv, ir⟩, i0⟩, i1⟩, i2⟩ hK
    obtain ⟨A', c', rfl⟩ := ir.slice
    have hcell := iv.cell
    have J2 := hid i2
    have JR := hid ir
    have JK := hid hK
    clear iv ir i0 i1 i2 hK
    gi_wp2
    refine ⟨by simp, .inl ⟨_, _, rfl, run_takeDeferred JK.out, ?_⟩⟩
    refine ⟨_, results_tmp rfl _ _ _, _, rfl, ?_, ?_⟩
    · exact Own.putObj (chgs_own _ _ _ _ _ _) (s := ()) _ JR.out JK.out rfl
    · exact (KB.out.trans J2.out).trans (belowK_b (w := w) (Nat.le_refl _) _ D _ _ (by rw [KS.out] at hD; omega) JK.out rfl rfl)
  case stop =>
    rintro D c pre W _ _ h _
    exact h.elim
end Go.Proofs.Ytkaiadgldppbiaa
