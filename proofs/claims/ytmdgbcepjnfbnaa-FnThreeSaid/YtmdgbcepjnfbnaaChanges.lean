/- Changes of a cell in a slice: changes, by its contract. -/
import Derived.Test.YtmdgbcepjnfbnaaDelta
import Derived.Lib.SlBytesConst
namespace Go.Proofs.Ytmdgbcepjnfbnaa
open Go.RowKit Go.Shelf

theorem Try.info_change : (Try.prog.info? 95).map (fun i => (i.zero, i.size, i.bytes)) = some (some (.agg #[.int .i64 0, .nilFunc]), 2, 16) := by kernel_rfl
/-- A change in memory: its cell, its letter, the blocks of its closure. -/
structure Chg where
  x : Wy
  b : UInt8
  g0 : Nat
  g1 : Nat
  g2 : Nat
def chgCells (m : Nat) (es : List Chg) : List Value := es.flatMap fun e => [.int .i64 ((cellN m e.x : Nat) : Int), madeV e.g0 e.g1 e.g2]
theorem chgCells_length (m : Nat) : ∀ es : List Chg, (chgCells m es).length = es.length * 2
  | [] => rfl
  | e :: es => by
    have ih := chgCells_length m es
    unfold chgCells at ih ⊢
    rw [List.flatMap_cons, List.length_append, ih, List.length_cons]
    simp; omega
theorem chgCells_snoc (m : Nat) (es : List Chg) (e : Chg) : chgCells m (es ++ [e]) = chgCells m es ++ [.int .i64 ((cellN m e.x : Nat) : Int), madeV e.g0 e.g1 e.g2] := by
  unfold chgCells
  rw [List.flatMap_append]
  simp
theorem chgCells_at (m : Nat) : ∀ (es : List Chg) (k : Nat) (e : Chg), es[k]? = some e → (chgCells m es)[k * 2]? = some (.int .i64 ((cellN m e.x : Nat) : Int)) ∧ (chgCells m es)[k * 2 + 1]? = some (madeV e.g0 e.g1 e.g2)
  | [], k, e, h => by simp at h
  | e' :: es, 0, e, h => by
    simp at h
    subst h
    exact ⟨rfl, rfl⟩
  | e' :: es, k + 1, e, h => by
    obtain ⟨h1, h2⟩ := chgCells_at m es k e (by simpa using h)
    unfold chgCells at h1 h2 ⊢
    rw [List.flatMap_cons, show (k + 1) * 2 = k * 2 + 1 + 1 by omega]
    exact ⟨h1, h2⟩
/-- The slice v holds changes, of these cells to these letters. -/
def ChgsAt (W : World) (base : Nat) (v : Value) (n m : Nat) (ls : List UInt8) (items : List (Wy × UInt8)) : Prop :=
  ∃ es : List Chg, es.map (fun e => (e.x, e.b)) = items ∧ W.ownsRow base 95 2 v es.length (chgCells m es) ∧ ∀ e ∈ es, MadeAt W n m ls e.x e.b e.g0 e.g1 e.g2
theorem MadeAt.grown {w w' : World} {n m : Nat} {ls : List UInt8} {x : Wy} {b : UInt8} {g0 g1 g2 : Nat} {row : Option Nat} (h : MadeAt w n m ls x b g0 g1 g2) (hg : w.grownBy w' row)
    (hr : ∀ k, row = some k → ∃ cur, w.heap[k]? = some (.cells cur 95 (0, 0))) : MadeAt w' n m ls x b g0 g1 g2 := by
  have hk : ∀ {g : Nat} {cs : Array Value} {t : TypeId}, w.heap[g]? = some (.cells cs t (0, 0)) → t ≠ 95 → w'.heap[g]? = some (.cells cs t (0, 0)) := fun {g cs t} h ht => by
    refine (hg.block g (lt_of_block h) fun e => ?_).trans h
    obtain ⟨cur, hc⟩ := hr g e.symm
    rw [hc] at h
    cases h
    exact ht rfl
  exact ⟨hk h.1 (by decide), hk h.2.1 (by decide), hk h.2.2 (by decide)⟩
theorem own_change {w : World} {base : Nat} {v : Value} {k : Nat} {xs : List Value} (h : w.ownsRow base 95 2 v k xs) : ∀ g, v.ownBlock = some g → ∃ cur, w.heap[g]? = some (.cells cur 95 (0, 0)) := by
  intro g hg
  rcases h.2 with ⟨rfl, _⟩ | ⟨g', cap, cur, rfl, _, hgg, _⟩
  · simp [Value.ownBlock] at hg
  · simp [Value.ownBlock] at hg
    subst hg
    exact ⟨cur, hgg⟩
theorem ChgsAt.below {W W' : World} {base : Nat} {v : Value} {n m : Nat} {ls : List UInt8} {items : List (Wy × UInt8)} (h : ChgsAt W base v n m ls items) (hb : Below W.heap.size W W') : ChgsAt W' base v n m ls items := by
  obtain ⟨es, h1, h2, h3⟩ := h
  refine ⟨es, h1, World.ownsRow.kept h2 (Cls.grown hb) ?_, fun e he => (h3 e he).below hb⟩
  cases v.ownBlock with
  | none => exact .inl rfl
  | some k => exact .inr (fun e => by cases e)
theorem chgs_new (w : World) (base n m : Nat) (ls : List UInt8) (hb : base ≤ w.heap.size) : ChgsAt (w.alloc (.cells #[] 95)) base (.slice (some ⟨w.heap.size, 0, none⟩) 0 0) n m ls [] :=
  ⟨[], rfl, World.ownsRow_made w #[] 0 hb (by unfold maxLen; omega) rfl, fun e he => by cases he⟩
theorem ChgsAt.slice {W : World} {base : Nat} {v : Value} {n m : Nat} {ls : List UInt8} {items : List (Wy × UInt8)} (h : ChgsAt W base v n m ls items) : ∃ A c, v = .slice A items.length c := by
  obtain ⟨es, h1, h2, _⟩ := h
  have e : items.length = es.length := by rw [← h1, List.length_map]
  rw [e]
  rcases h2.2 with ⟨rfl, h0⟩ | ⟨g, cap, cur, rfl, _⟩
  · rw [h0]; exact ⟨_, _, rfl⟩
  · exact ⟨_, _, rfl⟩
/-- One change read. -/
theorem ChgsAt.at_ {W : World} {base : Nat} {v : Value} {n m k : Nat} {ls : List UInt8} {items : List (Wy × UInt8)} {x : Wy} {b : UInt8} (h : ChgsAt W base v n m ls items) (hk : items[k]? = some (x, b)) :
    ∃ g c g0 g1 g2, v = .slice (some ⟨g, 0, none⟩) items.length c ∧ g < W.heap.size ∧ W.rangeAt g (k * 2) (changeC ((cellN m x : Nat) : Int) g0 g1 g2).toList ∧ MadeAt W n m ls x b g0 g1 g2 := by
  obtain ⟨es, h1, h2, h3⟩ := h
  have e : items.length = es.length := by rw [← h1, List.length_map]
  rw [← h1, List.getElem?_map] at hk
  cases hek : es[k]? with
  | none => rw [hek] at hk; cases hk
  | some c =>
    rw [hek] at hk
    have hx : (c.x, c.b) = (x, b) := Option.some.inj hk
    cases hx
    obtain ⟨c0, c1⟩ := chgCells_at m es k c hek
    have hlt := (List.getElem?_eq_some_iff.1 hek).1
    rcases h2.2 with ⟨_, h0⟩ | ⟨g, cap, cur, rfl, _, hg, _, _, _, ht⟩
    · omega
    · refine ⟨g, cap, c.g0, c.g1, c.g2, by rw [e], lt_of_block hg, ?_, h3 c (List.mem_of_getElem? hek)⟩
      intro j u hj
      have hcc : ∀ i u, (chgCells m es)[i]? = some u → W.cell? ⟨g, i, none⟩ = some u := fun i u hi => by
        have := World.ownsRow.cells h2 (g := g) rfl i u hi
        have ea : (Addr.add ⟨g, 0, none⟩ i : Addr) = ⟨g, i, none⟩ := by unfold Addr.add; split <;> simp_all
        rwa [ea] at this
      match j, hj with
      | 0, hj => simp [changeC] at hj; subst hj; exact hcc _ _ c0
      | 1, hj => simp [changeC] at hj; subst hj; exact hcc _ _ c1
      | j + 2, hj => simp [changeC] at hj

section
variable {ops : Array Oper} {rest : List Oper} {o : Oper} {a : Act} {w : World} {Q : Exit → Act → World → Prop}
/-- One change appended. -/
theorem wpList_appendC (hgd : o.guard = none) (s x : Operand) (ho : o.op = .call { callee := .builtin .append, args := #[s, x], argTypes := #[92, 92] })
    (base : Nat) (v : Value) (n m : Nat) (ls : List UInt8) (items : List (Wy × UInt8)) (hs : a.eval s = v) (hown : ChgsAt w base v n m ls items) (h c : Nat) (hx : a.eval x = .slice (some ⟨h, 0, none⟩) 1 c) (y : Wy) (b : UInt8) (g0 g1 g2 : Nat)
    (hc : w.heap[h]? = some (.cells (changeC ((cellN m y : Nat) : Int) g0 g1 g2) 95 (0, 0))) (hm : MadeAt w n m ls y b g0 g1 g2)
    (hl : items.length ≤ 1000000) (hbase : base ≤ w.heap.size)
    (hk : ∀ v' w', ChgsAt w' base v' n m ls (items ++ [(y, b)]) → w.grownBy w' v.ownBlock → wpList Try.prog ops Q rest (a.put o.dst v') w') : wpList Try.prog ops Q (o :: rest) a w := by
  obtain ⟨i0, hi, hz0, hz1, hz2⟩ := info_parts Try.info_change
  obtain ⟨es, h1, h2, h3⟩ := hown
  have e : items.length = es.length := by rw [← h1, List.length_map]
  refine wpList_append_own_at w hgd s x 92 ho base 95 i0 (.agg #[.int .i64 0, .nilFunc]) 2 16 Try.underlying92 hi hz0 hz1 hz2 rfl (by decide) v es.length (chgCells m es) hs h2 ⟨h, 0, none⟩ 1 c [.int .i64 ((cellN m y : Nat) : Int), madeV g0 g1 g2] hx rfl ?_ ?_ (by unfold maxLen; omega) (by omega) hbase ?_
  · intro j u hj
    have ea : (Addr.add ⟨h, 0, none⟩ j : Addr) = ⟨h, j, none⟩ := by unfold Addr.add; split <;> simp_all
    rw [ea, cell_of_row _ _ _ _ _ _ hc]
    match j, hj with
    | 0, hj => exact hj
    | 1, hj => exact hj
    | j + 2, hj => simp at hj
  · intro u hu
    simp at hu
    rcases hu with rfl | rfl <;> rfl
  · intro v' w' h4 h5 _ _
    refine hk v' w' ⟨es ++ [⟨y, b, g0, g1, g2⟩], by rw [List.map_append, h1]; rfl, ?_, fun c hc => ?_⟩ h5
    · rw [List.length_append, chgCells_snoc]
      exact h4
    · rcases List.mem_append.1 hc with h6 | h6
      · exact (h3 c h6).grown h5 (own_change h2)
      · simp at h6
        subst h6
        exact hm.grown h5 (own_change h2)
end

/-- The letters of a cell, in order. -/
def lets3 : List UInt8 := [46, 114, 102]
set_option maxRecDepth 100000 in
set_option maxHeartbeats 2000000 in
theorem changes_any (n m : Nat) (ls : List UInt8) (x : Wy) (w : World) (hl : ls.length = 25) (hn : n ≤ 5) (hm : m ≤ 5) (hx : inG n m x) :
    Calls Try.prog 80 #[.agg (gcells n m ls), .agg #[.int .i64 x.i, .int .i64 x.k]] w fun e w' => ∃ v, e = .returned v ∧ ChgsAt w' w.heap.size v n m ls (lets3.map fun b => (x, b)) ∧ Below w.heap.size w w' := by
  have HG := hid (show (Try.prog.info? 57).map (·.size) = some (gcells n m ls).size by rw [gcells_size hl]; exact Try.size_grid)
  have HCH := hid (fun b W => change_any n m ls x b W hl hn hm hx)
  have F0 := heap_new1 w (.cells (gcells n m ls) 57) (.cells #[.int .i64 x.i, .int .i64 x.k] 75)
  have F1 := heap_new0 (w.alloc (.cells (gcells n m ls) 57)) (.cells #[.int .i64 x.i, .int .i64 x.k] 75)
  have FB : Below w.heap.size w ((w.alloc (.cells (gcells n m ls) 57)).alloc (.cells #[.int .i64 x.i, .int .i64 x.k] 75)) := ((Below.refl _ w).alloc (Nat.le_refl _) _).alloc (by simp) _
  simp only [World.size_alloc] at F1
  have G0 := hid F0
  have G1 := hid F1
  have GB := hid FB
  clear F0 F1 FB hl hn hm hx
  have hcv := Lib.run_convert_bytes_const (P := Try.prog) (((w.alloc (.cells (gcells n m ls) 57)).alloc (.cells #[.int .i64 x.i, .int .i64 x.k] 75)).alloc (.cells #[] 95)) 22 5 #[.int .u8 46, .int .u8 114, .int .u8 102] 3 3 Try.underlying22 Try.underlying5
  rw [World.size_alloc, World.size_alloc, World.size_alloc] at hcv
  have HZ0 := hid (show ((w.alloc (.cells (gcells n m ls) 57)).alloc (.cells #[.int .i64 x.i, .int .i64 x.k] 75)).heap.size = w.heap.size + 1 + 1 by simp)
  go_enter Try.func80, Try.ntmps80
  go_wp2_with fail
  generalize World.alloc (World.alloc w _) _ = W0 at *
  have B0 := hid (show Below w.heap.size w ((W0.alloc (.cells #[] 95)).alloc (.cells #[.int .u8 46, .int .u8 114, .int .u8 102] 5 (3, 4))) from (GB.out.alloc GB.out.size _).alloc (by have := GB.out.size; simp; omega) _)
  have BC := hid (show ChgsAt ((W0.alloc (.cells #[] 95)).alloc (.cells #[.int .u8 46, .int .u8 114, .int .u8 102] 5 (3, 4))) w.heap.size (.slice (some ⟨w.heap.size + 1 + 1, 0, none⟩) 0 0) n m ls [] from by
    have := (chgs_new W0 w.heap.size n m ls GB.out.size).below ((Below.refl _ _).alloc (Nat.le_refl _) (.cells #[.int .u8 46, .int .u8 114, .int .u8 102] 5 (3, 4)))
    rwa [HZ0.out] at this)
  have BL := hid (show ((W0.alloc (.cells #[] 95)).alloc (.cells #[.int .u8 46, .int .u8 114, .int .u8 102] 5 (3, 4))).heap[w.heap.size + 1 + 1 + 1]? = some (.cells #[.int .u8 46, .int .u8 114, .int .u8 102] 5 (3, 4)) from by
    have := heap_new0 (W0.alloc (.cells #[] 95)) (.cells #[.int .u8 46, .int .u8 114, .int .u8 102] 5 (3, 4))
    rwa [World.size_alloc, HZ0.out] at this)
  have BG0 := hid (show ((W0.alloc (.cells #[] 95)).alloc (.cells #[.int .u8 46, .int .u8 114, .int .u8 102] 5 (3, 4))).heap[w.heap.size]? = some (.cells (gcells n m ls) 57 (0, 0)) from (Below.heap_alloc _ _ _ (by simp; have := lt_of_block G0.out; omega)).trans ((Below.heap_alloc _ _ _ (lt_of_block G0.out)).trans G0.out))
  have BG1 := hid (show ((W0.alloc (.cells #[] 95)).alloc (.cells #[.int .u8 46, .int .u8 114, .int .u8 102] 5 (3, 4))).heap[w.heap.size + 1]? = some (.cells #[.int .i64 x.i, .int .i64 x.k] 75 (0, 0)) from (Below.heap_alloc _ _ _ (by simp; have := lt_of_block G1.out; omega)).trans ((Below.heap_alloc _ _ _ (lt_of_block G1.out)).trans G1.out))
  generalize World.alloc (World.alloc W0 _) _ = W1 at *
  go_loopw [5, 12] (fun (v i : Value) (wr : World) => ∃ k : Nat, k ≤ 3 ∧ i = .int .i64 k ∧ ChgsAt wr w.heap.size v n m ls ((lets3.take k).map fun b => (x, b)) ∧ wr.heap[w.heap.size + 1 + 1 + 1]? = some (.cells #[.int .u8 46, .int .u8 114, .int .u8 102] 5 (3, 4)) ∧
    wr.heap[w.heap.size]? = some (.cells (gcells n m ls) 57 (0, 0)) ∧ wr.heap[w.heap.size + 1]? = some (.cells #[.int .i64 x.i, .int .i64 x.k] 75 (0, 0)) ∧ Below w.heap.size w wr) (fun _ i _ => 3 - (intOf i).toNat)
  case atStart => exact ⟨0, by omega, rfl, BC.out, BL.out, BG0.out, BG1.out, B0.out⟩
  case round =>
    obtain ⟨k, hk, rfl, hch, hlb, hg0, hg1, hbel⟩ := hrel
    have HC := hid hch
    have HLB := hid hlb
    have K0 := hid hg0
    have K1 := hid hg1
    have HB := hid hbel
    clear hch hlb hg0 hg1 hbel
    by_cases hlt : k < 3
    · obtain ⟨b, hb⟩ : ∃ b, lets3[k]? = some b := ⟨_, List.getElem?_eq_getElem (by simpa [lets3] using hlt)⟩
      have hcell : wr.cell? ⟨w.heap.size + 1 + 1 + 1, k, none⟩ = some (.int .u8 (b.toNat : Int)) := by
        rw [cell_of_row _ _ _ _ _ _ HLB.out]
        match k, hlt, hb with
        | 0, _, hb => cases hb; rfl
        | 1, _, hb => cases hb; rfl
        | 2, _, hb => cases hb; rfl
      have htk := hid (show (lets3.take (k + 1)).map (fun b => (x, b)) = (lets3.take k).map (fun b => (x, b)) ++ [(x, b)] by
        obtain ⟨h1, h2⟩ := List.getElem?_eq_some_iff.1 hb
        rw [List.take_succ_eq_append_getElem h1, List.map_append, h2]
        rfl)
      have HCB := hid (HCH.out b)
      have hk0 : (0 : Int) ≤ (k : Int) := by omega
      have hk3 : (k : Int) < 3 := by omega
      obtain ⟨bv, hbv⟩ : ∃ bv : Int, ((b.toNat : Nat) : Int) = bv := ⟨_, rfl⟩
      rw [hbv] at hcell HCB
      clear hb hbv
      go_wp2_with (first
        | refine wpList_load_row rfl 57 _ rfl w.heap.size rfl 57 (gcells n m ls) (0, 0) _ K0.out Try.underlying57 rfl HG.out ?_
        | refine wpList_load_row rfl 75 _ rfl (w.heap.size + 1) rfl 75 #[.int .i64 x.i, .int .i64 x.k] (0, 0) _ K1.out Try.underlying75 rfl Try.size_place ?_)
      refine (HCB.out _).mono ?_
      rintro e w2 ⟨v2, rfl, ⟨g0, g1, g2, rfl, hmade⟩, hb2⟩
      have HC2 := hid (HC.out.below hb2)
      have L2 := hid ((hb2.block _ (lt_of_block HLB.out)).trans HLB.out)
      have M0 := hid ((hb2.block _ (lt_of_block K0.out)).trans K0.out)
      have M1 := hid ((hb2.block _ (lt_of_block K1.out)).trans K1.out)
      have HB2 := hid (HB.out.trans (hb2.mono HB.out.size))
      have HM := hid hmade
      clear hb2 hmade
      have hsz : (changeC ((cellN m x : Nat) : Int) g0 g1 g2).size = 2 := rfl
      go_wp2_with (at_builtin; refine wpList_appendC rfl _ _ rfl w.heap.size u5 n m ls ((lets3.take k).map fun b => (x, b)) rfl (HC2.out.below ((Below.refl w2.heap.size w2).alloc (Nat.le_refl _) _)) w2.heap.size 1 rfl x b g0 g1 g2 (heap_new0 w2 _) (HM.out.below ((Below.refl w2.heap.size w2).alloc (Nat.le_refl _) _)) ?c1 ?c2 ?_)
      case c1 => simp [lets3]; omega
      case c2 => have := HB2.out.size; simp; omega
      intro v' w3 hch3 hgw
      have HC3 := hid hch3
      have hne : ∀ {g : Nat} {cs : Array Value} {t : TypeId} {fr : Nat × Nat}, w2.heap[g]? = some (.cells cs t fr) → t ≠ 95 → w3.heap[g]? = some (.cells cs t fr) := fun {g cs t fr} h ht => by
        refine (hgw.block g (by simp; have := lt_of_block h; omega) fun e => ?_).trans ((Below.heap_alloc _ _ _ (lt_of_block h)).trans h)
        obtain ⟨es, _, h2, _⟩ := HC2.out
        obtain ⟨cur, hcu⟩ := own_change h2 g e.symm
        rw [hcu] at h
        cases h
        exact ht rfl
      have L3 := hid (hne L2.out (by decide))
      have N0 := hid (hne M0.out (by decide))
      have N1 := hid (hne M1.out (by decide))
      have HB3 := hid ((HB2.out.alloc HB2.out.size _).grown hgw (by have := HB2.out.size; simp; omega) (fun k e => by
        obtain ⟨es, _, h2, _⟩ := HC2.out
        exact (World.ownsRow.lt h2 k e).1))
      clear hch3 hgw hne
      go_wp2_with fail
      go_roundw
      case rel => exact ⟨k + 1, by omega, by go_num, by rw [htk.out]; simpa only [List.map_take] using HC3.out, L3.out, N0.out, N1.out, HB3.out⟩
      case measure => simp [intOf]; omega
    · obtain rfl : k = 3 := by omega
      go_wp2_with fail
      go_ret
      exact ⟨_, rfl, HC.out, HB.out⟩
end Go.Proofs.Ytmdgbcepjnfbnaa
