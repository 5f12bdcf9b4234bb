/- Sewings made: newSewing of the program, by its contract. -/
import Derived.Test.YtkkifpjeafchnaaSewE
namespace Go.Proofs.Ytkkifpjeafchnaa
open Go.RowKit Go.Shelf

/-- The ports of the first pairings, those of each numbered on. -/
def catI (ls : List (List Int)) : Nat → List Int
  | 0 => []
  | i + 1 => catI ls i ++ (ls.getD i []).map fun x => ((catI ls i).length : Int) + x
/-- A value of a slice of integers of the call's own has one cell. -/
theorem GrowI.one {w : World} {base : Nat} {v : Value} {l : List Int} (h : GrowI w base v l) : v.oneCell' = true := by
  rcases h.2 with ⟨rfl, _⟩ | ⟨g, cap, cur, rfl, _⟩ <;> rfl
theorem grownBy_cell (w : World) (p : Addr) (v : Value) : w.grownBy (w.setCell p v) (some p.block) :=
  ⟨rfl, rfl, rfl, by simp, fun k _ hk => Below.heap_setCell _ _ _ _ (fun e => hk (by rw [e]))⟩
theorem GrowI.setCell {w : World} {base g k : Nat} {v u : Value} {l : List Int} {cs : Array Value} {t : TypeId} (h : GrowI w base v l) (hg : w.heap[g]? = some (.cells cs t (0, 0))) (ht : t ≠ 3) : GrowI (w.setCell ⟨g, k, none⟩ u) base v l := by
  refine World.ownsRow.kept h (grownBy_cell w ⟨g, k, none⟩ u) ?_
  rcases h.2 with ⟨rfl, _⟩ | ⟨g', cap, cur, rfl, _, hgb, _⟩
  · exact .inl rfl
  · refine .inr fun e => ?_
    have e' : g' = g := by simpa [Value.ownBlock] using e
    subst e'
    rw [hg] at hgb
    cases hgb
    exact ht rfl
/-- Block g holds a sewing whose lists grow, each in a block of its own, neither in block x. -/
def SewG (w : World) (base g x : Nat) (l1 l2 : List Int) : Prop :=
  ∃ A1 c1 A2 c2, w.heap[g]? = some (.cells #[.slice A1 l1.length c1, .slice A2 l2.length c2] 166 (0, 0)) ∧ GrowI w base (.slice A1 l1.length c1) l1 ∧ GrowI w base (.slice A2 l2.length c2) l2 ∧
    (∀ b, (Value.slice A1 l1.length c1).ownBlock = some b → (Value.slice A2 l2.length c2).ownBlock ≠ some b) ∧ (Value.slice A1 l1.length c1).ownBlock ≠ some x ∧ (Value.slice A2 l2.length c2).ownBlock ≠ some x
theorem SewG.below {w w' : World} {base g x : Nat} {l1 l2 : List Int} (h : SewG w base g x l1 l2) (hb : Below w.heap.size w w') : SewG w' base g x l1 l2 := by
  obtain ⟨A1, c1, A2, c2, h1, h2, h3, h4⟩ := h
  exact ⟨A1, c1, A2, c2, (hb.block _ (lt_of_block h1)).trans h1, h2.belowC hb, h3.belowC hb, h4⟩
theorem SewG.lt {w : World} {base g x : Nat} {l1 l2 : List Int} (h : SewG w base g x l1 l2) : g < w.heap.size := by
  obtain ⟨A1, c1, A2, c2, h1, _⟩ := h
  exact lt_of_block h1
theorem GrowI.notBlock {w : World} {base x : Nat} {v : Value} {l : List Int} {cs : Array Value} {t : TypeId} (h : GrowI w base v l) (hx : w.heap[x]? = some (.cells cs t (0, 0))) (ht : t ≠ 3) : v.ownBlock ≠ some x := by
  rcases h.2 with ⟨rfl, _⟩ | ⟨g', cap, cur, rfl, _, hgb, _⟩
  · intro e; cases e
  · intro e
    have e' : g' = x := by simpa [Value.ownBlock] using e
    subst e'
    rw [hx] at hgb
    cases hgb
    exact ht rfl
theorem SewG.new {w : World} {base g x x' : Nat} {l1 l2 : List Int} (h : SewG w base g x l1 l2) (hx : w.heap.size ≤ x') : SewG w base g x' l1 l2 := by
  obtain ⟨A1, c1, A2, c2, h1, h2, h3, h4, _, _⟩ := h
  refine ⟨A1, c1, A2, c2, h1, h2, h3, h4, fun e => ?_, fun e => ?_⟩
  · have := (World.ownsRow.lt h2 _ e).2
    omega
  · have := (World.ownsRow.lt h3 _ e).2
    omega
theorem SewG.other {w : World} {base g x x' : Nat} {l1 l2 : List Int} {cs : Array Value} {t : TypeId} (h : SewG w base g x l1 l2) (hx : w.heap[x']? = some (.cells cs t (0, 0))) (ht : t ≠ 3) : SewG w base g x' l1 l2 := by
  obtain ⟨A1, c1, A2, c2, h1, h2, h3, h4, _, _⟩ := h
  exact ⟨A1, c1, A2, c2, h1, h2, h3, h4, h2.notBlock hx ht, h3.notBlock hx ht⟩
/-- An append onto the first list, and what it comes to stored. -/
theorem SewG.push1 {W w3 : World} {base g x c1 c2 : Nat} {A1 A2 : Option Addr} {l1 l2 l3 : List Int} {v3 : Value} (h1 : W.heap[g]? = some (.cells #[.slice A1 l1.length c1, .slice A2 l2.length c2] 166 (0, 0)))
    (h2 : GrowI W base (.slice A1 l1.length c1) l1) (h3 : GrowI W base (.slice A2 l2.length c2) l2) (h4 : ∀ b, (Value.slice A1 l1.length c1).ownBlock = some b → (Value.slice A2 l2.length c2).ownBlock ≠ some b)
    (h5 : (Value.slice A1 l1.length c1).ownBlock ≠ some x) (h6 : (Value.slice A2 l2.length c2).ownBlock ≠ some x) (hx : x < W.heap.size)
    (hg : GrowI w3 base v3 l3) (hw : W.grownBy w3 (Value.slice A1 l1.length c1).ownBlock) (ho : v3.ownBlock = (Value.slice A1 l1.length c1).ownBlock ∨ v3.ownBlock = some W.heap.size) :
    SewG (w3.setCell ⟨g, 0, none⟩ v3) base g x l3 l2 := by
  have hk := grownI_heap h2 hw h1 (by decide)
  obtain ⟨A, c, rfl, _⟩ := hg.ints
  have k3 : GrowI w3 base (.slice A2 l2.length c2) l2 := World.ownsRow.kept h3 hw (by
    cases hq : (Value.slice A2 l2.length c2).ownBlock with
    | none => exact .inl rfl
    | some b => exact .inr fun e => h4 b e.symm hq)
  refine ⟨A, c, A2, c2, ?_, hg.setCell hk (by decide), k3.setCell hk (by decide), fun b hb1 hb2 => ?_, fun e => ?_, h6⟩
  · exact heap_setCell_same _ _ 0 _ _ _ hk
  · rcases ho with ho | ho
    · exact h4 b (by rw [← ho]; exact hb1) hb2
    · rw [hb1] at ho
      have := (World.ownsRow.lt h3 b hb2).2
      cases ho
      omega
  · rcases ho with ho | ho
    · exact h5 (by rw [← ho]; exact e)
    · rw [e] at ho
      cases ho
      omega
/-- The same for the second list. -/
theorem SewG.push2 {W w3 : World} {base g x c1 c2 : Nat} {A1 A2 : Option Addr} {l1 l2 l3 : List Int} {v3 : Value} (h1 : W.heap[g]? = some (.cells #[.slice A1 l1.length c1, .slice A2 l2.length c2] 166 (0, 0)))
    (h2 : GrowI W base (.slice A1 l1.length c1) l1) (h3 : GrowI W base (.slice A2 l2.length c2) l2) (h4 : ∀ b, (Value.slice A1 l1.length c1).ownBlock = some b → (Value.slice A2 l2.length c2).ownBlock ≠ some b)
    (h5 : (Value.slice A1 l1.length c1).ownBlock ≠ some x) (h6 : (Value.slice A2 l2.length c2).ownBlock ≠ some x) (hx : x < W.heap.size)
    (hg : GrowI w3 base v3 l3) (hw : W.grownBy w3 (Value.slice A2 l2.length c2).ownBlock) (ho : v3.ownBlock = (Value.slice A2 l2.length c2).ownBlock ∨ v3.ownBlock = some W.heap.size) :
    SewG (w3.setCell ⟨g, 1, none⟩ v3) base g x l1 l3 := by
  have hk := grownI_heap h3 hw h1 (by decide)
  obtain ⟨A, c, rfl, _⟩ := hg.ints
  have k2 : GrowI w3 base (.slice A1 l1.length c1) l1 := World.ownsRow.kept h2 hw (by
    cases hq : (Value.slice A1 l1.length c1).ownBlock with
    | none => exact .inl rfl
    | some b => exact .inr fun e => h4 b hq e.symm)
  refine ⟨A1, c1, A, c, ?_, k2.setCell hk (by decide), hg.setCell hk (by decide), fun b hb1 hb2 => ?_, h5, fun e => ?_⟩
  · exact heap_setCell_same _ _ 1 _ _ _ hk
  · rcases ho with ho | ho
    · exact h4 b hb1 (by rw [← ho]; exact hb2)
    · rw [hb2] at ho
      have := (World.ownsRow.lt h2 b hb1).2
      cases ho
      omega
  · rcases ho with ho | ho
    · exact h6 (by rw [← ho]; exact e)
    · rw [e] at ho
      cases ho
      omega
theorem growI_cell {w : World} {base g n c j : Nat} {l : List Int} {x : Int} (h : GrowI w base (.slice (some ⟨g, 0, none⟩) n c) l) (hj : l[j]? = some x) : w.cell? ⟨g, j, none⟩ = some (.int .i64 x) := by
  have := World.ownsRow.cells h (g := g) rfl j (.int .i64 x) (by simp [intsV, hj])
  rwa [Addr.add_mid, Nat.zero_add] at this
abbrev zeroSew : Array Value := #[.slice none 0 0, .slice none 0 0]
theorem zeroSew_one : zeroSew.all (·.oneCell') = true := sew_one _ _ rfl rfl

set_option maxRecDepth 100000 in
set_option maxHeartbeats 4000000 in
theorem newSewing_any (g K c : Nat) (js : List (List Int × Nat × Nat × Nat)) (w : World) (hK : js.length = K) (hK2 : K ≤ 2)
    (hj : ∀ (i : Nat) e, js[i]? = some e → w.rangeAt g (i * 23) (pairC (joinL (padTo e.1) e.2.1 e.2.2.1 e.2.2.2)).toList ∧ IsPair e.1) (hgw : g < w.heap.size) :
    Calls Try.prog 130 #[.slice (some ⟨g, 0, none⟩) K c] w fun e w' => (∃ v1 v2, e = .returned (.agg #[v1, v2]) ∧ GrowI w' w.heap.size v1 (catI (js.map (·.1)) K) ∧ GrowI w' w.heap.size v2 (List.replicate (catI (js.map (·.1)) K).length (-1)) ∧ ∀ b, v1.ownBlock = some b → v2.ownBlock ≠ some b) ∧ Below w.heap.size w w' := by
  have HJ := hid hj
  have HK := hid hK
  clear hj hK
  obtain ⟨ls, hls⟩ : ∃ ls, js.map (·.1) = ls := ⟨_, rfl⟩
  have HLS := hid (show ∀ (i : Nat) e, js[i]? = some e → catI ls (i + 1) = catI ls i ++ e.1.map fun x => ((catI ls i).length : Int) + x from fun i e he => by
    show catI ls i ++ (ls.getD i []).map _ = _
    rw [← hls, List.getD_eq_getElem?_getD, List.getElem?_map, he]
    rfl)
  have HCL := hid (show ∀ i, i ≤ K → (catI ls i).length ≤ 20 * i from fun i => by
    induction i with
    | zero => intro _; exact Nat.le_refl _
    | succ i ih =>
      intro hi
      obtain ⟨e, he⟩ : ∃ e, js[i]? = some e := ⟨_, List.getElem?_eq_getElem (by have := HK.out; omega)⟩
      have h1 := HLS.out i e he
      have h2 := (HJ.out i e he).2.2.1
      have h3 := ih (by omega)
      rw [h1, List.length_append, List.length_map]
      omega)
  rw [hls]
  have HC0 := hid (show catI ls 0 = [] from rfl)
  generalize catI ls = cat at *
  clear hls
  have H0 := hid (heap_new1 w (.cells zeroSew 166) (.cells zeroSew 166))
  have H1 := hid (heap_new0 (w.alloc (.cells zeroSew 166)) (.cells zeroSew 166))
  have HB := hid (((Below.refl w.heap.size w).alloc (Nat.le_refl _) (.cells zeroSew 166)).alloc (by simp) (.cells zeroSew 166))
  rw [World.size_alloc] at H1
  go_enter Try.func130, Try.ntmps130
  have K1 := hid (setRow_heap _ _ _ zeroSew _ _ H1.out)
  have K0 := hid (show (((w.alloc (.cells zeroSew 166)).alloc (.cells zeroSew 166)).setRow (w.heap.size + 1) zeroSew).heap[w.heap.size]? = some (.cells zeroSew 166 (0, 0)) by
    rw [setRow_other _ _ _ _ (by omega)]; exact H0.out)
  have KB := hid (below_setRow' HB.out (show w.heap.size ≤ w.heap.size + 1 by omega) zeroSew)
  go_wp2_with (refine wpList_store_row rfl 166 _ _ rfl (w.heap.size + 1) zeroSew rfl rfl 166 zeroSew H1.out Try.size_sewing rfl zeroSew_one ?_)
  generalize World.setRow _ _ _ = Y at K0 K1 KB ⊢
  have HGN := hid (show ∀ W : World, GrowI W w.heap.size (.slice none 0 0) [] from fun W => ⟨rfl, .inl ⟨rfl, rfl⟩⟩)
  have HS0 := hid (show SewG Y w.heap.size (w.heap.size + 1) w.heap.size [] [] from ⟨none, 0, none, 0, K1.out, HGN.out _, HGN.out _, (fun b h => by cases h), (fun h => by cases h), (fun h => by cases h)⟩)
  have HRG := hid (show ∀ W, Below w.heap.size w W → ∀ (i : Nat) e, js[i]? = some e → W.rangeAt g (i * 23) (pairC (joinL (padTo e.1) e.2.1 e.2.2.1 e.2.2.2)).toList from fun W hb i e he j v hj => by
    have h1 := (HJ.out i e he).1 j v hj
    exact (hb.cell (p := ⟨g, i * 23 + j, none⟩) hgw).trans h1)
  have HGW := hid hgw
  clear K1 hgw
  go_loopw [12] (fun (iv : Value) (wr : World) => ∃ i : Nat, i ≤ K ∧ iv = .int .i64 i ∧ SewG wr w.heap.size (w.heap.size + 1) w.heap.size (cat i) (List.replicate (cat i).length (-1)) ∧ wr.heap[w.heap.size]? = some (.cells zeroSew 166 (0, 0)) ∧ Below w.heap.size w wr) (fun i _ => K - (intOf i).toNat)
  case atStart => exact ⟨0, by omega, rfl, by rw [HC0.out]; exact HS0.out, K0.out, KB.out⟩
  case round =>
    obtain ⟨i, hi, rfl, hs, h0, hb⟩ := hrel
    have HS := hid hs
    have B0 := hid h0
    have BB := hid hb
    clear hs h0 hb
    by_cases hlt : i < K
    · obtain ⟨e, he⟩ : ∃ e, js[i]? = some e := ⟨_, List.getElem?_eq_getElem (by have := HK.out; omega)⟩
      obtain ⟨l, n, m, r⟩ := e
      have HE := hid he
      have HP := hid (HJ.out i _ he).2
      have HR := hid (HRG.out wr BB.out i _ he)
      have hii : (i : Int) < (K : Int) := by omega
      have HLI := hid (fun W => pair_plist l W HP.out)
      have hpl := padTo_length HP.out.2.1
      have HSJ := hid (show (Try.prog.info? 80).map (·.size) = some (pairC (joinL (padTo l) n m r)).toList.length by rw [Array.length_toList]; exact size_joinL hpl n m r)
      have HSJ2 := hid (size_joinL hpl n m r)
      have HZJ := hid (zero_joinL hpl n m r)
      have HSP := hid (size_pairL hpl)
      have HPRE := hid (fun (j : Nat) (v : Value) (h : (pairC (padTo l))[j]? = some v) => joinL_pre (n := n) (m := m) (r := r) h)
      have HCS := hid (HLS.out i _ he)
      have HCLi := hid (HCL.out i (by omega))
      clear he hpl
      have N0 := hid (heap_new0 wr (.cells zeroJ 80))
      have hbx := hid (show Below wr.heap.size wr ((wr.alloc (.cells zeroJ 80)).setRow wr.heap.size (pairC (joinL (padTo l) n m r))) from below_setRow' ((Below.refl wr.heap.size wr).alloc (Nat.le_refl _) _) (Nat.le_refl _) _)
      have N1 := hid (setRow_heap _ _ _ (pairC (joinL (padTo l) n m r)) _ _ N0.out)
      generalize hX : (wr.alloc (.cells zeroJ 80)).setRow wr.heap.size (pairC (joinL (padTo l) n m r)) = X at hbx N1
      have HX := hid hX
      have XS := hid (HS.out.below hbx.out)
      have XB := hid (BB.out.trans (hbx.out.mono BB.out.size))
      have X0 := hid ((hbx.out.block _ (lt_of_block B0.out)).trans B0.out)
      clear hX
      obtain ⟨A1, c1, A2, c2, hh, hg1, hg2, hab, hx1, hx2⟩ := XS.out
      have hcell : X.cell? ⟨w.heap.size + 1, 0, none⟩ = some (.slice A1 (cat i).length c1) := by rw [cell_of_row _ _ _ _ _ _ hh]; rfl
      clear hh hg1 hg2 hab hx1 hx2
      obtain ⟨ah, hah⟩ : ∃ ah, (cat i).length = ah := ⟨_, rfl⟩
      have HAH := hid hah
      rw [hah] at hcell
      clear hah
      go_wp2_with (first
        | refine wpList_load_mid rfl 80 _ rfl g (i * 23) rfl (pairC (joinL (padTo l) n m r)).toList _ HR.out Try.underlying80 rfl HSJ.out ?_
        | (refine wpList_store_row rfl 80 _ _ rfl wr.heap.size (pairC (joinL (padTo l) n m r)) rfl rfl 80 zeroJ N0.out HSJ2.out HZJ.out (pairC_one _) ?_; rw [HX.out])
        | refine wpList_exec rfl (exec_load_head 60 _ rfl wr.heap.size rfl 80 (pairC (joinL (padTo l) n m r)) (0, 0) (pairC (padTo l)) _ N1.out HPRE.out Try.underlying60 rfl HSP.out) ?_)
      clear hcell
      refine (HLI.out _).mono ?_
      rintro e w1 ⟨v, rfl, hgl, hb1⟩
      obtain ⟨gl, cl, rfl, _, _⟩ := hgl.head (show 0 < l.length by have := HP.out.1; omega)
      have HGL := hid hgl
      have HLO := hid (show X.heap.size ≤ gl from (World.ownsRow.lt hgl gl rfl).1)
      have W1S := hid ((XS.out.new HLO.out).below hb1)
      have W1B := hid (XB.out.trans (hb1.mono XB.out.size))
      have W10 := hid ((hb1.block _ (lt_of_block X0.out)).trans X0.out)
      obtain ⟨P, hP⟩ : ∃ P, l.length = P := ⟨_, rfl⟩
      have HPP := hid hP
      rw [hP]
      clear hgl hb1 hP
      go_wp2_with fail
      go_loopw [23] (fun (iv : Value) (wr : World) => ∃ j : Nat, j ≤ P ∧ iv = .int .i64 j ∧ SewG wr w.heap.size (w.heap.size + 1) gl (cat i ++ (l.take j).map fun x => (ah : Int) + x) (List.replicate (ah + j) (-1)) ∧ GrowI wr X.heap.size (.slice (some ⟨gl, 0, none⟩) P cl) l ∧ wr.heap[w.heap.size]? = some (.cells zeroSew 166 (0, 0)) ∧ Below w.heap.size w wr) (fun i _ => P - (intOf i).toNat)
      case atStart => exact ⟨0, by omega, rfl, by rw [List.take_zero, List.map_nil, List.append_nil, Nat.add_zero, ← HAH.out]; exact W1S.out, by rw [← HPP.out]; exact HGL.out, W10.out, W1B.out⟩
      case round =>
        obtain ⟨j, hj, rfl, hs, hgl, h0, hb⟩ := hrel
        have S2 := hid hs
        have G2 := hid hgl
        have C0 := hid h0
        have CB := hid hb
        clear hs hgl h0 hb
        by_cases hlt2 : j < P
        · have hjl : l[j]? = some ((mateN l j : Nat) : Int) := (HP.out.mates (by have := HPP.out; omega)).2.2.1
          have hq20 : mateN l j < 20 := by have := (HP.out.mates (p := j) (by have := HPP.out; omega)).1; have := HP.out.2.1; omega
          obtain ⟨q, hq⟩ : ∃ q, mateN l j = q := ⟨_, rfl⟩
          rw [hq] at hjl hq20
          have hcx := growI_cell G2.out hjl
          have HTK := hid (show cat i ++ (l.take (j + 1)).map (fun x => (ah : Int) + x) = (cat i ++ (l.take j).map fun x => (ah : Int) + x) ++ [(ah : Int) + (q : Int)] by
            obtain ⟨h1, h2⟩ := List.getElem?_eq_some_iff.1 hjl
            rw [List.take_succ_eq_append_getElem h1, h2, List.map_append, List.append_assoc]
            rfl)
          have HRP := hid (show List.replicate (ah + (j + 1)) (-1 : Int) = List.replicate (ah + j) (-1 : Int) ++ [-1] by rw [← Nat.add_assoc, List.replicate_succ'])
          have HL1 := hid (show (cat i ++ (l.take j).map fun x => (ah : Int) + x).length = ah + j by rw [List.length_append, HAH.out, List.length_map, List.length_take, HPP.out]; omega)
          have HL2 := hid (List.length_replicate (n := ah + j) (a := (-1 : Int)))
          have hah : ah ≤ 40 := by have := HCLi.out; have := HAH.out; omega
          have hP20 : P ≤ 20 := by have := HPP.out; have := HP.out.2.1; omega
          generalize (cat i ++ (l.take j).map fun x => (ah : Int) + x) = l1 at *
          generalize List.replicate (ah + j) (-1 : Int) = l2 at *
          obtain ⟨B1, d1, B2, d2, hh, hg1, hg2, hab, hx1, hx2⟩ := S2.out
          have hglw : gl < wr.heap.size := (World.ownsRow.lt G2.out gl rfl).2
          have HP1 := hid (fun (W3 : World) (v3 : Value) (l3 : List Int) => SewG.push1 (W := wr.alloc (.cells #[.int .i64 ((ah : Int) + (q : Int))] 3)) (w3 := W3) (v3 := v3) (l3 := l3) ((Below.heap_alloc _ _ _ (lt_of_block hh)).trans hh) (World.ownsRow.alloc hg1 _) (World.ownsRow.alloc hg2 _) hab hx1 hx2 (by simp; omega))
          have HHH := hid hh
          have HG1 := hid hg1
          have HX1 := hid hx1
          have hcell1 : wr.cell? ⟨w.heap.size + 1, 0, none⟩ = some (.slice B1 l1.length d1) := by rw [cell_of_row _ _ _ _ _ _ hh]; rfl
          clear hh hg1 hg2 hab hx1 hx2 hq hjl
          have hqi : (q : Int) < 20 := by omega
          have hahi : (ah : Int) ≤ 40 := by omega
          have hji : (j : Int) < (P : Int) := by omega
          go_wp2_with (at_builtin; refine wpList_appendI rfl _ _ rfl w.heap.size (.slice B1 l1.length d1) l1 rfl (World.ownsRow.alloc HG1.out _) _ 1 rfl ((ah : Int) + (q : Int)) (cell_newI _ _) ?c3 ?c4 ?_)
          case c3 => have := HL1.out; omega
          case c4 => have := CB.out.size; simp; omega
          intro v3 w3 hgr3 hgw3 ho3
          obtain ⟨l3, hl3⟩ : ∃ l3, l1 ++ [(ah : Int) + (q : Int)] = l3 := ⟨_, rfl⟩
          have HL3 := hid hl3
          rw [hl3] at hgr3
          clear hl3
          obtain ⟨A3, e3, rfl, _⟩ := hgr3.ints
          have S3 := hid (HP1.out w3 _ _ hgr3 hgw3 (by rw [World.size_alloc]; exact ho3))
          have h3g := grownI_heap (World.ownsRow.alloc HG1.out _) hgw3 ((Below.heap_alloc _ _ _ (lt_of_block HHH.out)).trans HHH.out) (by decide)
          have HB3 := hid ((CB.out.alloc CB.out.size _).grown hgw3 (Nat.le_trans CB.out.size (by simp)) (fun k e => (World.ownsRow.lt HG1.out k e).1))
          have G3 := hid (show GrowI w3 X.heap.size (.slice (some ⟨gl, 0, none⟩) P cl) l from World.ownsRow.kept (World.ownsRow.alloc G2.out _) hgw3 (.inr fun e => HX1.out e.symm))
          have B03 := hid (grownI_heap (World.ownsRow.alloc HG1.out _) hgw3 ((Below.heap_alloc _ _ _ (lt_of_block C0.out)).trans C0.out) (by decide))
          have hc3 : w3.cell? ⟨w.heap.size + 1, 0, none⟩ = some (.slice B1 l1.length d1) := by rw [cell_of_row _ _ _ _ _ _ h3g]; rfl
          have hf3 : w3.frozen? ⟨w.heap.size + 1, 0, none⟩ = false := frozen_of_row _ _ _ _ _ h3g
          have HZB := hid (HB3.out.setCell (p := ⟨w.heap.size + 1, 0, none⟩) (show w.heap.size ≤ w.heap.size + 1 by omega) (.slice A3 l3.length e3))
          have GZ := hid (G3.out.setCell (k := 0) (u := .slice A3 l3.length e3) h3g (by decide))
          have B0Z := hid ((Below.heap_setCell w3 ⟨w.heap.size + 1, 0, none⟩ (.slice A3 l3.length e3) w.heap.size (show w.heap.size ≠ w.heap.size + 1 by omega)).trans B03.out)
          clear hgr3 hgw3 ho3 h3g hcell1 hcx
          generalize hZ : w3.setCell ⟨w.heap.size + 1, 0, none⟩ (.slice A3 l3.length e3) = Z at *
          have HZ := hid hZ
          clear hZ
          obtain ⟨C1, e1, C2, e2, hh, hg1, hg2, hab, hx1, hx2⟩ := S3.out
          have hglz : gl < Z.heap.size := (World.ownsRow.lt GZ.out gl rfl).2
          have HP2 := hid (fun (W3 : World) (v3 : Value) (l3 : List Int) => SewG.push2 (W := Z.alloc (.cells #[.int .i64 (-1)] 3)) (w3 := W3) (v3 := v3) (l3 := l3) ((Below.heap_alloc _ _ _ (lt_of_block hh)).trans hh) (World.ownsRow.alloc hg1 _) (World.ownsRow.alloc hg2 _) hab hx1 hx2 (by simp; omega))
          have HH2 := hid hh
          have HG2 := hid hg2
          have HX2 := hid hx2
          have hcell2 : Z.cell? ⟨w.heap.size + 1, 1, none⟩ = some (.slice C2 l2.length e2) := by rw [cell_of_row _ _ _ _ _ _ hh]; rfl
          clear hh hg1 hg2 hab hx1 hx2
          go_wp2_with (first
            | rw [HZ.out]
            | (at_builtin; refine wpList_appendI rfl _ _ rfl w.heap.size (.slice C2 l2.length e2) l2 rfl (World.ownsRow.alloc HG2.out _) _ 1 rfl (-1 : Int) (cell_newI _ _) ?c5 ?c6 ?_))
          case c5 => have := HL2.out; omega
          case c6 => have := HZB.out.size; simp; omega
          intro v4 w4 hgr4 hgw4 ho4
          obtain ⟨l4, hl4⟩ : ∃ l4, l2 ++ [(-1 : Int)] = l4 := ⟨_, rfl⟩
          have HL4 := hid hl4
          rw [hl4] at hgr4
          clear hl4
          obtain ⟨A4, e4, rfl, _⟩ := hgr4.ints
          have S4 := hid (HP2.out w4 _ _ hgr4 hgw4 (by rw [World.size_alloc]; exact ho4))
          have h4g := grownI_heap (World.ownsRow.alloc HG2.out _) hgw4 ((Below.heap_alloc _ _ _ (lt_of_block HH2.out)).trans HH2.out) (by decide)
          have HB4 := hid ((HZB.out.alloc HZB.out.size _).grown hgw4 (Nat.le_trans HZB.out.size (by simp)) (fun k e => (World.ownsRow.lt HG2.out k e).1))
          have G4 := hid (show GrowI w4 X.heap.size (.slice (some ⟨gl, 0, none⟩) P cl) l from World.ownsRow.kept (World.ownsRow.alloc GZ.out _) hgw4 (.inr fun e => HX2.out e.symm))
          have B04 := hid (grownI_heap (World.ownsRow.alloc HG2.out _) hgw4 ((Below.heap_alloc _ _ _ (lt_of_block B0Z.out)).trans B0Z.out) (by decide))
          have hc4 : w4.cell? ⟨w.heap.size + 1, 1, none⟩ = some (.slice C2 l2.length e2) := by rw [cell_of_row _ _ _ _ _ _ h4g]; rfl
          have hf4 : w4.frozen? ⟨w.heap.size + 1, 1, none⟩ = false := frozen_of_row _ _ _ _ _ h4g
          have HEB := hid (HB4.out.setCell (p := ⟨w.heap.size + 1, 1, none⟩) (show w.heap.size ≤ w.heap.size + 1 by omega) (.slice A4 l4.length e4))
          have GE := hid (G4.out.setCell (k := 1) (u := .slice A4 l4.length e4) h4g (by decide))
          have B0E := hid ((Below.heap_setCell w4 ⟨w.heap.size + 1, 1, none⟩ (.slice A4 l4.length e4) w.heap.size (show w.heap.size ≠ w.heap.size + 1 by omega)).trans B04.out)
          clear hgr4 hgw4 ho4 h4g hcell2
          go_wp2_with fail
          go_roundw
          case rel => exact ⟨j + 1, by omega, by go_num, by rw [HTK.out, HRP.out, HL3.out, HL4.out]; exact S4.out, GE.out, B0E.out, HEB.out⟩
          case measure => simp [intOf]; omega
        · obtain rfl : j = P := by omega
          have HCE := hid (show cat (i + 1) = cat i ++ (l.take j).map fun x => (ah : Int) + x by rw [HCS.out, List.take_of_length_le (by rw [HPP.out]; exact Nat.le_refl _), HAH.out])
          have HCN := hid (show (cat (i + 1)).length = ah + j by rw [HCE.out, List.length_append, HAH.out, List.length_map, List.length_take, HPP.out, Nat.min_self])
          have SE := hid (show SewG wr w.heap.size (w.heap.size + 1) w.heap.size (cat (i + 1)) (List.replicate (cat (i + 1)).length (-1)) from by
            rw [HCN.out, HCE.out]
            exact S2.out.other C0.out (by decide))
          go_wp2_with fail
          go_roundw
          case rel => exact ⟨i + 1, by omega, by go_num, SE.out, C0.out, CB.out⟩
          case measure => simp [intOf]; omega
    · obtain rfl : i = K := by omega
      obtain ⟨A1, c1, A2, c2, hh, hg1, hg2, hab, _, _⟩ := HS.out
      have HH := hid hh
      have HGG := hid (And.intro hg1 (And.intro hg2 hab))
      have HO := hid (sew_one (.slice A1 (cat i).length c1) (.slice A2 (List.replicate (cat i).length (-1 : Int)).length c2) rfl rfl)
      clear hh hg1 hg2 hab
      have R0 := hid (setRow_heap wr w.heap.size zeroSew #[.slice A1 (cat i).length c1, .slice A2 (List.replicate (cat i).length (-1 : Int)).length c2] _ _ B0.out)
      have RB := hid (below_setRow' BB.out (Nat.le_refl _) #[.slice A1 (cat i).length c1, .slice A2 (List.replicate (cat i).length (-1 : Int)).length c2])
      generalize hv1 : Value.slice A1 (cat i).length c1 = v1 at *
      generalize hv2 : Value.slice A2 (List.replicate (cat i).length (-1 : Int)).length c2 = v2 at *
      have HKE := hid (show ∀ v l, GrowI wr w.heap.size v l → GrowI (wr.setRow w.heap.size #[v1, v2]) w.heap.size v l from fun v l h => by
        refine World.ownsRow.kept h (row := some w.heap.size) ⟨rfl, rfl, rfl, by simp, fun k _ hk => setRow_other _ _ _ _ (fun e => hk (by rw [e]))⟩ (.inr (h.notBlock B0.out (by decide))))
      clear hv1 hv2
      go_wp2_with (first
        | refine wpList_load_row rfl 166 _ rfl (w.heap.size + 1) rfl 166 #[v1, v2] (0, 0) _ HH.out Try.underlying166 rfl Try.size_sewing ?_
        | refine wpList_store_row rfl 166 _ _ rfl w.heap.size #[v1, v2] rfl rfl 166 zeroSew B0.out Try.size_sewing rfl HO.out ?_)
      refine bodyPost_ret (results_cell_row Try.results130 _ _ w.heap.size 166 _ (0, 0) _ (by rfl) R0.out Try.underlying166 rfl Try.size_sewing) rfl ⟨⟨v1, v2, rfl, HKE.out _ _ HGG.out.1, HKE.out _ _ HGG.out.2.1, HGG.out.2.2⟩, RB.out⟩
end Go.Proofs.Ytkkifpjeafchnaa
