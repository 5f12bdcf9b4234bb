/- A place of a list of counts added to, the list made longer where it is too short: withRounds of the program, l10Add of the specification, by their contracts; power of the laws. -/
import Derived.Test.YtminailbhgimkaaCountQ
import Derived.Test.YtminailbhgimkaaApp
namespace Go.Proofs.Ytminailbhgimkaa
open Go.RowKit Go.Shelf

theorem take_set' {α : Type} (l : List α) (n i : Nat) (x : α) : (l.set i x).take n = (l.take n).set i x := by
  rw [List.take_set]
theorem grownBy_cellC (w : World) (p : Addr) (v : Value) : w.grownBy (w.setCell p v) (some p.block) :=
  ⟨rfl, rfl, rfl, by simp, fun k _ hk => Below.heap_setCell _ _ _ _ (fun e => hk (by rw [e]))⟩
theorem growI_put {w : World} {base g n c i : Nat} {l : List Int} {x : Int} (h : GrowI w base (.slice (some ⟨g, 0, none⟩) n c) l) : GrowI (w.setCell ⟨g, i, none⟩ (.int .i64 x)) base (.slice (some ⟨g, 0, none⟩) n c) (l.set i x) := by
  rcases h.2 with ⟨h0, _⟩ | ⟨g', cap, cur, hv, hb, hg, h1, h2, h3, h4⟩
  · cases h0
  · cases hv
    refine ⟨?_, .inr ⟨g, c, _, ?_, hb, heap_setCell_same _ _ _ _ _ _ hg, ?_, h2, by simpa using h3, ?_⟩⟩
    · simp [intsV]
    · simp
    · simpa using h1
    · rw [Array.toList_setIfInBounds, take_set']
      have h5 : cur.toList.take (l.length * 1) = intsV l := h4
      simp only [List.length_set]
      rw [h5]
      unfold intsV
      rw [List.map_set]
theorem growI_at {w : World} {base g n c j : Nat} {l : List Int} {x : Int} (h : GrowI w base (.slice (some ⟨g, 0, none⟩) n c) l) (hj : l[j]? = some x) : w.cell? ⟨g, j, none⟩ = some (.int .i64 x) := by
  have := World.ownsRow.cells h (g := g) rfl j (.int .i64 x) (by simp [intsV, hj])
  rwa [Addr.add_mid, Nat.zero_add] at this
theorem growI_free {w : World} {base g n c j : Nat} {l : List Int} (h : GrowI w base (.slice (some ⟨g, 0, none⟩) n c) l) : w.frozen? ⟨g, j, none⟩ = false ∧ base ≤ g ∧ g < w.heap.size := by
  rcases h.2 with ⟨h0, _⟩ | ⟨g', cap, cur, hv, hb, hg, _⟩
  · cases h0
  · cases hv
    exact ⟨frozen_of_row _ _ _ _ _ hg, hb, lt_of_block hg⟩
theorem growI_some {w : World} {base : Nat} {v : Value} {l : List Int} (h : GrowI w base v l) (h0 : 0 < l.length) : ∃ g c, v = .slice (some ⟨g, 0, none⟩) l.length c := by
  obtain ⟨g, c, h1, _⟩ := h.head h0
  exact ⟨g, c, h1⟩
theorem grown_then {w wr w' : World} {g : Nat} {row : Option Nat} (h : w.grownBy wr (some g)) (h' : wr.grownBy w' row) (hg : ∀ b, row = some b → b = g ∨ w.heap.size ≤ b) : w.grownBy w' (some g) :=
  ⟨h'.os.trans h.os, h'.tape.trans h.tape, h'.output.trans h.output, Nat.le_trans h.size h'.size, fun k hk hne => (h'.block k (Nat.lt_of_lt_of_le hk h.size) (fun e => by
    rcases hg k e.symm with e2 | e2
    · exact hne (by rw [e2])
    · omega)).trans (h.block k hk hne)⟩
/-- How long a slice is. -/
def sliceN : Value → Nat
  | .slice _ n _ => n
  | _ => 0
section
variable {ops : Array Oper} {rest : List Oper} {o : Oper} {a : Act} {w : World} {Q : Exit → Act → World → Prop}
/-- A list of integers appended. -/
theorem wpList_appendAllC (hgd : o.guard = none) (s x : Operand) (ho : o.op = .call { callee := .builtin .append, args := #[s, x], argTypes := #[25, 25] })
    (base : Nat) (v : Value) (l l2 : List Int) (hs : a.eval s = v) (hown : GrowI w base v l) (ad : Addr) (c : Nat) (hx : a.eval x = .slice (some ad) l2.length c) (hc : ∀ (j : Nat) u, (intsV l2)[j]? = some u → w.cell? (ad.add j) = some u)
    (hl : l.length + l2.length ≤ 1000000) (hbase : base ≤ w.heap.size)
    (hk : ∀ v' w', GrowI w' base v' (l ++ l2) → w.grownBy w' v.ownBlock → (v'.ownBlock = v.ownBlock ∨ v'.ownBlock = some w.heap.size) → (v' = .slice none 0 0 → v = .slice none 0 0) → wpList Try.prog ops Q rest (a.put o.dst v') w') : wpList Try.prog ops Q (o :: rest) a w := by
  obtain ⟨i0, hi, hz0, hz1, hz2⟩ := info_parts Try.info_int
  refine wpList_append_own_at w hgd s x 25 ho base 3 i0 (.int .i64 0) 1 8 Try.underlying25 hi hz0 hz1 hz2 rfl (by decide) v l.length (intsV l) hs hown ad l2.length c (intsV l2) hx (by simp [intsV]) hc (intsV_one _) (by unfold maxLen; omega) (by omega) hbase ?_
  intro v' w' h1 h2 h3 h4
  refine hk v' w' ?_ h2 h4 fun e => (h3.1 e).1
  unfold GrowI intsV
  rw [List.length_append, List.map_append]
  exact h1
end

set_option maxRecDepth 100000 in
set_option maxHeartbeats 2000000 in
theorem withRounds_any (base g c r : Nat) (l : List Int) (x : Int) (w : World) (h : GrowI w base (.slice (some ⟨g, 0, none⟩) l.length c) l) (hl : l.length ≤ 1000) (hr : r ≤ 1000) (hx : -1000000 ≤ x ∧ x ≤ 1000000) (hb : ∀ k, -1000000 ≤ l.getD k 0 ∧ l.getD k 0 ≤ 1000000) (hbase : base ≤ w.heap.size) :
    Calls Try.prog 62 #[.slice (some ⟨g, 0, none⟩) l.length c, .int .i64 (r : Int), .int .i64 x] w fun e w' => ∃ g' c', e = .returned (.slice (some ⟨g', 0, none⟩) (addAt l r x).length c') ∧ GrowI w' base (.slice (some ⟨g', 0, none⟩) (addAt l r x).length c') (addAt l r x) ∧ w.grownBy w' (some g) ∧ (g' = g ∨ w.heap.size ≤ g') := by
  have H := hid h
  have HB := hid hb
  obtain ⟨L, hL⟩ : ∃ L, l.length = L := ⟨_, rfl⟩
  have HL := hid hL
  have hl' : (L : Int) ≤ 1000 := by omega
  have hri : (r : Int) ≤ 1000 := by omega
  rw [hL] at H ⊢
  clear h hb hL
  go_enter Try.func62, Try.ntmps62
  go_wp2_with fail
  go_loopw [0] (fun (v : Value) (wr : World) => ∃ (j g' c' : Nat), j ≤ r + 1 - L ∧ v = .slice (some ⟨g', 0, none⟩) (L + j) c' ∧ GrowI wr base v (growZ l j) ∧ w.grownBy wr (some g) ∧ (g' = g ∨ w.heap.size ≤ g')) (fun v _ => 2000 - sliceN v)
  case atStart => exact ⟨0, g, c, Nat.zero_le _, rfl, by rw [growZ_zero]; exact H.out, ⟨rfl, rfl, rfl, Nat.le_refl _, fun _ _ _ => rfl⟩, .inl rfl⟩
  case round =>
    obtain ⟨j, g', c', hj, rfl, hgr, hgw, hge⟩ := hrel
    have HG := hid hgr
    have HW := hid hgw
    have HGE := hid hge
    clear hgr hgw hge
    by_cases hlt : L + j ≤ r
    · have hlti : ((L + j : Nat) : Int) ≤ (r : Int) := by omega
      have hlti2 : (L : Int) + (j : Int) ≤ (r : Int) := by omega
      obtain ⟨K, hK⟩ : ∃ K, L + j = K := ⟨_, rfl⟩
      have hGL : (growZ l j).length = K := by rw [growZ_length, HL.out, hK]
      have HGL := hid hGL
      have HKK := hid hK
      rw [hK] at HG ⊢
      have hKi : (K : Int) ≤ (r : Int) := by omega
      clear hlti hlti2 hGL hK
      go_wp2_with (at_builtin; refine wpList_appendI rfl _ _ rfl base (.slice (some ⟨g', 0, none⟩) K c') (growZ l j) rfl (World.ownsRow.alloc HG.out _) _ 1 rfl (0 : Int) (cell_newI _ _) ?c3 (Nat.le_trans (Nat.le_trans hbase HW.out.size) (by simp)) ?_)
      case c3 => have := HGL.out; omega
      intro v' w' hgr hgw2 hob
      rw [← growZ_succ] at hgr
      obtain ⟨g2, c2, hv⟩ := growI_some hgr (by rw [growZ_length]; omega)
      have HGR := hid hgr
      have HG2 := hid (show w.grownBy w' (some g) from grown_then (grown_then HW.out (World.grownBy_alloc _ _ none) (fun b e => by cases e)) hgw2 (fun b e => by
        cases e
        exact HGE.out))
      have hlen : (growZ l (j + 1)).length = K + 1 := by rw [growZ_length, HL.out]; have := HKK.out; omega
      rw [hlen] at hv
      have HOB := hid (show g2 = g ∨ w.heap.size ≤ g2 by
        rw [hv] at hob
        rcases hob with e | e
        · have e2 : g2 = g' := by simpa [Value.ownBlock] using e
          rw [e2]
          exact HGE.out
        · have e2 : g2 = (wr.alloc (.cells #[.int .i64 0] 3)).heap.size := by simpa [Value.ownBlock] using e
          have := HW.out.size
          rw [World.size_alloc] at e2
          omega)
      clear hgr hgw2 hob hlen
      subst hv
      go_wp2
      go_roundw
      case rel => exact ⟨j + 1, g2, c2, by have := HKK.out; omega, by have := HKK.out; congr 1; omega, HGR.out, HG2.out, HOB.out⟩
      case measure => simp [sliceN]; omega
    · obtain rfl : j = r + 1 - L := by omega
      have hnlt : ¬ ((L + (r + 1 - L) : Nat) : Int) ≤ (r : Int) := by omega
      have hGL : (growZ l (r + 1 - L)).length = L + (r + 1 - L) := by rw [growZ_length, HL.out]
      obtain ⟨K, hK⟩ : ∃ K, L + (r + 1 - L) = K := ⟨_, rfl⟩
      have hrK : r < K := by omega
      rw [hK] at HG hnlt hGL ⊢
      have HNL := hid hnlt
      obtain ⟨y, hy⟩ : ∃ y, (growZ l (r + 1 - L))[r]? = some y := ⟨_, List.getElem?_eq_getElem (by rw [hGL]; exact hrK)⟩
      have hyb := HB.out r
      have hyd : l.getD r 0 = y := by
        have := padded_getD l (r + 1 - L) r
        rw [← this, List.getD_eq_getElem?_getD]
        unfold growZ at hy
        rw [hy]
        rfl
      rw [hyd] at hyb
      have hcell := growI_at HG.out hy
      obtain ⟨hfr, hb1, hb2⟩ := growI_free (j := r) HG.out
      have HB12 := hid (And.intro hb1 hb2)
      have hset : (growZ l (r + 1 - L)).set r (y + x) = addAt l r x := by
        have := growZ_set l r x
        rw [HL.out] at this
        rw [← this]
        congr 2
        rw [List.getD_eq_getElem?_getD, hy]
        rfl
      have HSET := hid hset
      have HLEN := hid (show (addAt l r x).length = K by rw [addAt_length, HL.out]; omega)
      have hKi : ¬ (K : Int) ≤ (r : Int) := hnlt
      have hrKi : (r : Int) < (K : Int) := by omega
      obtain ⟨hx1, hx2⟩ := hx
      obtain ⟨hy1, hy2⟩ := hyb
      clear hnlt hy hyd hset hGL hK hb1 hb2 hlt
      go_wp2_with fail
      go_ret
      rw [HLEN.out]
      refine ⟨g', c', rfl, ?_, ?_, HGE.out⟩
      · rw [← HSET.out]
        exact growI_put HG.out
      · exact grown_then HW.out (grownBy_cellC _ ⟨g', r, none⟩ _) (fun b e => by cases e; exact HGE.out)

set_option maxRecDepth 100000 in
set_option maxHeartbeats 2000000 in
theorem l10Add_any (g c r : Nat) (l : List Int) (x : Int) (w : World) (hg : g < w.heap.size) (hcl : ∀ (k : Nat) y, l[k]? = some y → w.cell? ⟨g, k, none⟩ = some (.int .i64 y)) (hl : l.length ≤ 1000) (hr : r ≤ 1000) (hx : -1000000 ≤ x ∧ x ≤ 1000000) (hb : ∀ k, -1000000 ≤ l.getD k 0 ∧ l.getD k 0 ≤ 1000000) :
    Calls Try.prog 47 #[.slice (some ⟨g, 0, none⟩) l.length c, .int .i64 (r : Int), .int .i64 x] w fun e w' => ∃ g' c', e = .returned (.slice (some ⟨g', 0, none⟩) (addAt l r x).length c') ∧ GrowI w' w.heap.size (.slice (some ⟨g', 0, none⟩) (addAt l r x).length c') (addAt l r x) ∧ Below w.heap.size w w' := by
  have HB := hid hb
  have HC := hid (show ∀ (j : Nat) u, (intsV l)[j]? = some u → (w.alloc (.cells #[] 3)).cell? (Addr.add ⟨g, 0, none⟩ j) = some u from fun j u hj => by
    rw [Addr.add_mid, Nat.zero_add]
    unfold intsV at hj
    rw [List.getElem?_map] at hj
    cases hk : l[j]? with
    | none => rw [hk] at hj; cases hj
    | some y =>
      rw [hk] at hj
      cases hj
      rw [← hcl j y hk]
      exact World.cell?_of_block (Below.heap_alloc _ _ _ hg))
  obtain ⟨L, hL⟩ : ∃ L, l.length = L := ⟨_, rfl⟩
  have HL := hid hL
  have hl' : (L : Int) ≤ 1000 := by omega
  have hri : (r : Int) ≤ 1000 := by omega
  have HN := hid (growI_new w w.heap.size (Nat.le_refl _))
  rw [hL]
  clear hb hL hcl hg
  go_enter Try.func47, Try.ntmps47
  go_wp2_with (at_builtin; refine wpList_appendAllC rfl _ _ rfl w.heap.size (.slice (some ⟨w.heap.size, 0, none⟩) 0 0) [] l rfl HN.out ⟨g, 0, none⟩ c (by rw [HL.out]; rfl) HC.out (by simp; omega) (by simp) ?_)
  intro v1 w1 hgr hgw hob hnn
  have hbel : Below w.heap.size w w1 := ((Below.refl _ w).alloc (Nat.le_refl _) (.cells #[] 3)).grown hgw (by simp) (fun k e => by cases e; exact Nat.le_refl _)
  obtain ⟨g1, c1, hv⟩ : ∃ g1 c1, v1 = .slice (some ⟨g1, 0, none⟩) L c1 := by
    rcases hgr.2 with ⟨h0, _⟩ | ⟨g1, c1, cur, h1, _⟩
    · exact absurd (hnn h0) (by simp)
    · exact ⟨g1, c1, by rw [h1, HL.out]⟩
  subst hv
  have HG1 := hid hgr
  have HB1 := hid hbel
  clear hgr hgw hob hnn hbel HN HC
  go_wp2_with fail
  go_loopw [7] (fun (v : Value) (wr : World) => ∃ (j g' c' : Nat), j ≤ r + 1 - L ∧ v = .slice (some ⟨g', 0, none⟩) (L + j) c' ∧ GrowI wr w.heap.size v (growZ l j) ∧ Below w.heap.size w wr) (fun v _ => 2000 - sliceN v)
  case atStart => exact ⟨0, g1, c1, Nat.zero_le _, rfl, by rw [growZ_zero]; exact HG1.out, HB1.out⟩
  case round =>
    obtain ⟨j, g', c', hj, rfl, hgr, hbel⟩ := hrel
    have HG := hid hgr
    have HW := hid hbel
    clear hgr hbel
    by_cases hlt : L + j ≤ r
    · obtain ⟨K, hK⟩ : ∃ K, L + j = K := ⟨_, rfl⟩
      have hGL : (growZ l j).length = K := by rw [growZ_length, HL.out, hK]
      have HGL := hid hGL
      have HKK := hid hK
      rw [hK] at HG ⊢
      have hKi : (K : Int) ≤ (r : Int) := by omega
      clear hGL hK
      go_wp2_with (at_builtin; refine wpList_appendI rfl _ _ rfl w.heap.size (.slice (some ⟨g', 0, none⟩) K c') (growZ l j) rfl (World.ownsRow.alloc HG.out _) _ 1 rfl (0 : Int) (cell_newI _ _) ?c3 (Nat.le_trans HW.out.size (by simp)) ?_)
      case c3 => have := HGL.out; omega
      intro v' w' hgr hgw2 hob
      rw [← growZ_succ] at hgr
      obtain ⟨g2, c2, hv⟩ := growI_some hgr (by rw [growZ_length]; omega)
      have HGR := hid hgr
      have HG2 := hid ((HW.out.alloc HW.out.size (.cells #[.int .i64 0] 3)).grown hgw2 (Nat.le_trans HW.out.size (by simp)) (fun k e => by cases e; exact (growI_free (j := 0) HG.out).2.1))
      have hlen : (growZ l (j + 1)).length = K + 1 := by rw [growZ_length, HL.out]; have := HKK.out; omega
      rw [hlen] at hv
      clear hgr hgw2 hob hlen
      subst hv
      go_wp2
      go_roundw
      case rel => exact ⟨j + 1, g2, c2, by have := HKK.out; omega, by have := HKK.out; congr 1; omega, HGR.out, HG2.out⟩
      case measure => simp [sliceN]; omega
    · obtain rfl : j = r + 1 - L := by omega
      have hnlt : ¬ ((L + (r + 1 - L) : Nat) : Int) ≤ (r : Int) := by omega
      have hGL : (growZ l (r + 1 - L)).length = L + (r + 1 - L) := by rw [growZ_length, HL.out]
      obtain ⟨K, hK⟩ : ∃ K, L + (r + 1 - L) = K := ⟨_, rfl⟩
      have hrK : r < K := by omega
      rw [hK] at HG hnlt hGL ⊢
      obtain ⟨y, hy⟩ : ∃ y, (growZ l (r + 1 - L))[r]? = some y := ⟨_, List.getElem?_eq_getElem (by rw [hGL]; exact hrK)⟩
      have hyb := HB.out r
      have hyd : l.getD r 0 = y := by
        have := padded_getD l (r + 1 - L) r
        rw [← this, List.getD_eq_getElem?_getD]
        unfold growZ at hy
        rw [hy]
        rfl
      rw [hyd] at hyb
      have hcell := growI_at HG.out hy
      obtain ⟨hfr, hb1, hb2⟩ := growI_free (j := r) HG.out
      have HB12 := hid (And.intro hb1 hb2)
      have hset : (growZ l (r + 1 - L)).set r (y + x) = addAt l r x := by
        have := growZ_set l r x
        rw [HL.out] at this
        rw [← this]
        congr 2
        rw [List.getD_eq_getElem?_getD, hy]
        rfl
      have HSET := hid hset
      have HLEN := hid (show (addAt l r x).length = K by rw [addAt_length, HL.out]; omega)
      have hKi : ¬ (K : Int) ≤ (r : Int) := hnlt
      have hrKi : (r : Int) < (K : Int) := by omega
      obtain ⟨hx1, hx2⟩ := hx
      obtain ⟨hy1, hy2⟩ := hyb
      clear hnlt hy hyd hset hGL hK hb1 hb2 hlt
      go_wp2_with fail
      go_ret
      rw [HLEN.out]
      refine ⟨g', c', rfl, ?_, ?_⟩
      · rw [← HSET.out]
        exact growI_put HG.out
      · exact HW.out.setCell (p := ⟨g', r, none⟩) HB12.out.1 _

set_option maxRecDepth 100000 in
set_option maxHeartbeats 1000000 in
theorem power_any (k : Nat) (w : World) (hk : k ≤ 9) :
    Calls Try.prog 20 #[.int .i64 2, .int .i64 (k : Int)] w fun e w' => e = .returned (.int .i64 ((2 ^ k : Nat) : Int)) ∧ w' = w := by
  go_enter Try.func20, Try.ntmps20
  go_wp2_with fail
  go_loopw [5, 6] (fun (v iv : Value) (wr : World) => ∃ i : Nat, i ≤ k ∧ iv = .int .i64 i ∧ v = .int .i64 ((2 ^ i : Nat) : Int) ∧ wr = w) (fun _ i _ => k - (intOf i).toNat)
  case atStart => exact ⟨0, Nat.zero_le _, rfl, rfl, rfl⟩
  case round =>
    obtain ⟨i, hi, rfl, rfl, rfl⟩ := hrel
    have hki : (k : Int) ≤ 9 := by omega
    by_cases hlt : i < k
    · have hii : (i : Int) < (k : Int) := by omega
      obtain ⟨p, hp⟩ : ∃ p, 2 ^ i = p := ⟨_, rfl⟩
      have hp512 : p ≤ 512 := by rw [← hp]; exact Nat.pow_le_pow_right (by omega) (show i ≤ 9 by omega)
      have HP := hid (show 2 ^ (i + 1) = p * 2 by rw [Nat.pow_succ, hp])
      rw [hp]
      have hpi : (p : Int) ≤ 512 := by omega
      clear hp
      go_wp2_with fail
      go_roundw
      case rel => exact ⟨i + 1, by omega, by go_num, by rw [HP.out]; congr 1, by first | rfl | trivial⟩
      case measure => simp [intOf]; omega
    · obtain rfl : i = k := by omega
      go_wp2_with fail
      go_ret
      exact ⟨rfl, rfl⟩
end Go.Proofs.Ytminailbhgimkaa
