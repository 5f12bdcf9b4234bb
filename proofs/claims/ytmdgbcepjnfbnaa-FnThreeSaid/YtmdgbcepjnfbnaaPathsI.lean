/- ChangePaths of the program, by its contract. -/
import Derived.Test.YtmdgbcepjnfbnaaChanges
import Derived.Test.YtmdgbcepjnfbnaaMirrorIn
import Derived.Test.YtmdgbcepjnfbnaaRoundC
import Derived.Test.YtmdgbcepjnfbnaaSelfS
namespace Go.Proofs.Ytmdgbcepjnfbnaa
open Go.RowKit Go.Shelf

/-- The numbers of paths with the cell empty, with r and with f. -/
def pathsL (n m : Nat) (ls : List UInt8) (c : Nat) : List Int := lets3.map fun b => (pathsR n m (lett m (ls.set c b))).1
theorem pathsL_length (n m : Nat) (ls : List UInt8) (c : Nat) : (pathsL n m ls c).length = 3 := rfl
theorem pathsL_take (n m : Nat) (ls : List UInt8) (c : Nat) {k : Nat} {b : UInt8} (hb : lets3[k]? = some b) : (pathsL n m ls c).take (k + 1) = (pathsL n m ls c).take k ++ [(pathsR n m (lett m (ls.set c b))).1] := by
  match k, hb with
  | 0, hb => cases hb; rfl
  | 1, hb => cases hb; rfl
  | 2, hb => cases hb; rfl
/-- What ChangePaths comes to. -/
def CPOut (ss : List ByteArray) (cell : Int) (l : List Int) (ok : Bool) : Prop :=
  (∃ n m c, CellIn ss cell n m c ∧ l = pathsL n m (pad (flat ss)) c ∧ ok = true) ∨ ((∀ n m c, ¬ CellIn ss cell n m c) ∧ l = [] ∧ ok = false)
theorem CPOut.uniq {ss : List ByteArray} {cell : Int} {l l' : List Int} {ok ok' : Bool} (h : CPOut ss cell l ok) (h' : CPOut ss cell l' ok') : l' = l ∧ ok' = ok := by
  rcases h with ⟨n, m, c, h1, rfl, rfl⟩ | ⟨h1, rfl, rfl⟩ <;> rcases h' with ⟨n', m', c', h1', rfl, rfl⟩ | ⟨h1', rfl, rfl⟩
  · obtain ⟨rfl, rfl, rfl⟩ := h1.uniq h1'
    exact ⟨rfl, rfl⟩
  · exact absurd h1 (h1' _ _ _)
  · exact absurd h1' (h1 _ _ _)
  · exact ⟨rfl, rfl⟩
/-- A goal at which the walk halts. -/
structure Halt (p : Prop) : Prop where
  out : p
theorem CPOut.len {ss : List ByteArray} {cell : Int} {l : List Int} {ok : Bool} (h : CPOut ss cell l ok) : l.length ≤ 1048576 := by
  rcases h with ⟨n, m, c, _, rfl, _⟩ | ⟨_, rfl, _⟩
  · rw [pathsL_length]; decide
  · decide
section
variable {P : Program} {ops : Array Oper} {rest : List Oper} {o : Oper} {a : Act} {w : World} {Q : Exit → Act → World → Prop}
/-- To stop at a load. -/
theorem atLoad (ty : TypeId) (x : Operand) (_ho : o.op = .load ty x) (h : Halt (wpList P ops Q (o :: rest) a w)) : wpList P ops Q (o :: rest) a w := h.out
/-- A struct loaded from the middle of a row. -/
theorem wpList_load_mid (hw : Region.wanted o (yielded ops a.tmps) = true) (ty : TypeId) (x : Operand) (ho : o.op = .load ty x) (b off : Nat) (hx : a.eval x = .pointer (some ⟨b, off, none⟩)) (cs : Array Value) (d : TypeDesc) (hc : w.rangeAt b off cs.toList)
    (hu : P.underlying ty = some d) (hd : d.isRow = true) (hi : (P.info? ty).map (·.size) = some cs.size) (h : wpList P ops Q rest (a.put o.dst (.agg cs)) w) : wpList P ops Q (o :: rest) a w := by
  unfold wpList
  rw [if_pos hw]
  refine .inl ?_
  unfold Oper.wp
  rw [exec_load_mid ty x ho b off hx cs d hc hu hd hi]
  exact h
end
theorem own_int {w : World} {base : Nat} {v : Value} {l : List Int} (h : GrowI w base v l) : ∀ g, v.ownBlock = some g → ∃ cur, w.heap[g]? = some (.cells cur 3 (0, 0)) := by
  intro g hg
  rcases h.2 with ⟨rfl, _⟩ | ⟨g', cap, cur, rfl, _, hgg, _⟩
  · simp [Value.ownBlock] at hg
  · simp [Value.ownBlock] at hg
    subst hg
    exact ⟨cur, hgg⟩
/-- Changes outlive the growth of a list of integers. -/
theorem ChgsAt.grownI {w w' : World} {base base' n m : Nat} {v v' : Value} {ls : List UInt8} {items : List (Wy × UInt8)} {l : List Int} (h : ChgsAt w base v n m ls items) (hv : GrowI w base' v' l) (hg : w.grownBy w' v'.ownBlock) : ChgsAt w' base v n m ls items := by
  obtain ⟨es, h1, h2, h3⟩ := h
  refine ⟨es, h1, World.ownsRow.kept h2 hg ?_, fun e he => ?_⟩
  · cases hvo : v.ownBlock with
    | none => exact .inl rfl
    | some g =>
      refine .inr fun e => ?_
      obtain ⟨c1, k1⟩ := own_change h2 g hvo
      obtain ⟨c2, k2⟩ := own_int hv g e.symm
      rw [k1] at k2
      cases k2
  · have hk : ∀ {g : Nat} {cs : Array Value} {t : TypeId}, w.heap[g]? = some (.cells cs t (0, 0)) → t ≠ 3 → w'.heap[g]? = some (.cells cs t (0, 0)) := fun {g cs t} h ht => by
      refine (hg.block g (lt_of_block h) fun e => ?_).trans h
      obtain ⟨cur, hc⟩ := own_int hv g e.symm
      rw [hc] at h
      cases h
      exact ht rfl
    obtain ⟨a, b, c⟩ := h3 e he
    exact ⟨hk a (by decide), hk b (by decide), hk c (by decide)⟩
theorem changeC_size (x : Int) (g0 g1 g2 : Nat) : (changeC x g0 g1 g2).size = 2 := rfl

set_option maxRecDepth 100000 in
set_option maxHeartbeats 2000000 in
theorem implChangePaths_any (A : Option Addr) (c : Nat) (ss : List ByteArray) (cell : Int) (w : World) (h : Strs w w.heap.size A ss) (hn : ss.length ≤ 1048576) (hs : ∀ s ∈ ss, s.size ≤ 1048576) :
    Calls Try.prog 27 #[.slice A ss.length c, .int .i64 cell] w fun e w' => Below w.heap.size w w' ∧ ∃ A c l ok, e = .returned (.tuple #[.slice A l.length c, .bool ok]) ∧ CPOut ss cell l ok ∧ Own3 w' w.heap.size A l := by
  have HR := hid (placeIn_any A c ss cell w h hn hs)
  clear h hs
  go_enter Try.func27, Try.ntmps27
  go_wp2_with fail
  refine HR.out.mono ?_
  rintro e w1 ⟨hbel, hcase⟩
  have HB := hid hbel
  clear hbel
  have HZ1 := hid (show ∀ gc, ((w1.alloc (.cells zeroG 57)).alloc (.cells #[.int .i64 0, .int .i64 0] 75)).heap[w1.heap.size]? = some (.cells zeroG 57 (0, 0)) ∧ (((w1.alloc (.cells zeroG 57)).alloc (.cells #[.int .i64 0, .int .i64 0] 75)).setRow w1.heap.size gc).heap[w1.heap.size + 1]? = some (.cells #[.int .i64 0, .int .i64 0] 75 (0, 0)) from fun gc => by
    have a1 := heap_new0 (w1.alloc (.cells zeroG 57)) (.cells #[.int .i64 0, .int .i64 0] 75)
    rw [World.size_alloc] at a1
    exact ⟨heap_new1 w1 _ _, by rw [setRow_other _ _ _ _ (by omega)]; exact a1⟩)
  have HB2 := hid (fun gc pc => below_setRow' (below_setRow' ((HB.out.alloc HB.out.size (.cells zeroG 57)).alloc (show w.heap.size ≤ (w1.alloc (.cells zeroG 57)).heap.size by have := HB.out.size; simp; omega) (.cells #[.int .i64 0, .int .i64 0] 75)) (show w.heap.size ≤ w1.heap.size from HB.out.size) gc) (show w.heap.size ≤ w1.heap.size + 1 by have := HB.out.size; omega) pc)
  rcases hcase with ⟨n, m, cc, hmi, rfl⟩ | ⟨hno, rfl⟩
  · have hg := hmi.1
    have hx := placeN_in hmi.2.2
    have HMI := hid hmi
    have HS := hid (show (Try.prog.info? 57).map (·.size) = some (gcells n m (pad (flat ss))).size by rw [hg.csize]; exact Try.size_grid)
    have HZ := hid (show zeroG.size = (gcells n m (pad (flat ss))).size by rw [hg.csize]; rfl)
    have HO := hid (gcells_one n m (pad (flat ss)))
    have HCH := hid (fun W => changes_any n m (pad (flat ss)) (placeN m cc) W hg.plen hg.2.2.1 hg.2.2.2.2.1 hx)
    have HMK := hid (show ∀ b g0 g1 g2 W, MadeAt W n m (pad (flat ss)) (placeN m cc) b g0 g1 g2 → _ from fun b g0 g1 g2 W h => made_any n m (pad (flat ss)) (placeN m cc) b g0 g1 g2 W hg.plen hg.2.2.1 hg.2.2.2.2.1 hx h)
    rw [cellN_place] at HMK
    have HPA := hid (fun b W => paths_any n m ((pad (flat ss)).set cc b) W (by simpa using hg.plen) hg.2.2.1 hg.2.2.2.1 hg.2.2.2.2.1)
    have HG1 := hid (show ((((w1.alloc (.cells zeroG 57)).alloc (.cells #[.int .i64 0, .int .i64 0] 75)).setRow w1.heap.size (gcells n m (pad (flat ss)))).setRow (w1.heap.size + 1) #[.int .i64 (placeN m cc).i, .int .i64 (placeN m cc).k]).heap[w1.heap.size]? = some (.cells (gcells n m (pad (flat ss))) 57 (0, 0)) by
      rw [setRow_other _ _ _ _ (by omega)]; exact setRow_heap _ _ _ _ _ _ (HZ1.out (gcells n m (pad (flat ss)))).1)
    have HP1 := hid (setRow_heap (((w1.alloc (.cells zeroG 57)).alloc (.cells #[.int .i64 0, .int .i64 0] 75)).setRow w1.heap.size (gcells n m (pad (flat ss)))) (w1.heap.size + 1) #[.int .i64 0, .int .i64 0] #[.int .i64 (placeN m cc).i, .int .i64 (placeN m cc).k] 75 (0, 0) (HZ1.out _).2)
    rw [show ((cc / m : Nat) : Int) = (placeN m cc).i from rfl, show ((cc % m : Nat) : Int) = (placeN m cc).k from rfl]
    clear hmi hg
    have HBW := hid (HB2.out (gcells n m (pad (flat ss))) #[.int .i64 (placeN m cc).i, .int .i64 (placeN m cc).k])
    have HW0 := hid (show ((((w1.alloc (.cells zeroG 57)).alloc (.cells #[.int .i64 0, .int .i64 0] 75)).setRow w1.heap.size (gcells n m (pad (flat ss)))).setRow (w1.heap.size + 1) #[.int .i64 (placeN m cc).i, .int .i64 (placeN m cc).k]).heap.size = w1.heap.size + 2 by simp)
    go_wp2_with (guard_target =~ wpList _ _ _ _ _ _; first
      | refine atLoad 57 _ rfl ?_
      | refine wpList_store_row rfl 57 _ _ rfl w1.heap.size (gcells n m (pad (flat ss))) rfl rfl 57 zeroG (HZ1.out (gcells n m (pad (flat ss)))).1 HS.out HZ.out HO.out ?_
      | refine wpList_store_row rfl 75 _ _ rfl (w1.heap.size + 1) #[.int .i64 (placeN m cc).i, .int .i64 (placeN m cc).k] rfl rfl 75 #[.int .i64 0, .int .i64 0] (HZ1.out (gcells n m (pad (flat ss)))).2 Try.size_place rfl (int2_one _ _) ?_
      | fail)
    refine Halt.mk ?_
    generalize ((((w1.alloc (.cells zeroG 57)).alloc (.cells #[.int .i64 0, .int .i64 0] 75)).setRow w1.heap.size (gcells n m (pad (flat ss)))).setRow (w1.heap.size + 1) #[.int .i64 (placeN m cc).i, .int .i64 (placeN m cc).k]) = W0 at *
    have HBI := hid (show Below w.heap.size w (W0.alloc (.cells #[] 3)) from HBW.out.alloc HBW.out.size _)
    have HGW := hid (growI_new W0 w.heap.size HBW.out.size)
    have HGI := hid ((Below.heap_alloc W0 (.cells #[] 3) w1.heap.size (lt_of_block HG1.out)).trans HG1.out)
    have HPI := hid ((Below.heap_alloc W0 (.cells #[] 3) (w1.heap.size + 1) (lt_of_block HP1.out)).trans HP1.out)
    rw [HW0.out] at HGW
    generalize W0.alloc (.cells #[] 3) = W1 at *
    go_wp2_with (first
      | refine wpList_load_row rfl 57 _ rfl w1.heap.size rfl 57 (gcells n m (pad (flat ss))) (0, 0) _ HGI.out Try.underlying57 rfl HS.out ?_
      | refine wpList_load_row rfl 75 _ rfl (w1.heap.size + 1) rfl 75 #[.int .i64 (placeN m cc).i, .int .i64 (placeN m cc).k] (0, 0) _ HPI.out Try.underlying75 rfl Try.size_place ?_
      | fail)
    refine (HCH.out _).mono ?_
    rintro e w2 ⟨v, rfl, hch, hb2⟩
    obtain ⟨A0, c0, rfl⟩ := hch.slice
    have HC := hid hch
    have HB3 := hid (HBI.out.trans (hb2.mono HBI.out.size))
    have HG3 := hid (HGW.out.belowC hb2)
    have hl3 : (lets3.map fun b => (placeN m cc, b)).length = 3 := rfl
    rw [hl3] at HC ⊢
    clear hch hb2 hl3
    go_wp2_with fail
    go_loopw [9, 26] (fun (v i : Value) (wr : World) => ∃ k : Nat, k ≤ 3 ∧ i = .int .i64 k ∧ GrowI wr w.heap.size v ((pathsL n m (pad (flat ss)) cc).take k) ∧ ChgsAt wr W1.heap.size (.slice A0 3 c0) n m (pad (flat ss)) (lets3.map fun b => (placeN m cc, b)) ∧ Below w.heap.size w wr) (fun _ i _ => 3 - (intOf i).toNat)
    case atStart => exact ⟨0, by omega, rfl, HG3.out, HC.out, HB3.out⟩
    case round =>
      obtain ⟨k, hk, rfl, hgr, hch, hbel⟩ := hrel
      have HGR := hid hgr
      have HCR := hid hch
      have HBE := hid hbel
      clear hgr hch hbel
      by_cases hlt : k < 3
      · obtain ⟨b, hb⟩ : ∃ b, lets3[k]? = some b := ⟨_, List.getElem?_eq_getElem (by simpa [lets3] using hlt)⟩
        obtain ⟨g, c', g0, g1, g2, hsl, hgl, hra, hma⟩ := HCR.out.at_ (k := k) (x := placeN m cc) (b := b) (by rw [List.getElem?_map, hb]; rfl)
        have hl3 : (lets3.map fun b => (placeN m cc, b)).length = 3 := rfl
        rw [hl3] at hsl
        cases hsl
        have htk := hid (pathsL_take n m (pad (flat ss)) cc hb)
        have hk0 : (0 : Int) ≤ (k : Int) := by omega
        have hk3 : (k : Int) < 3 := by omega
        have HRA := hid hra
        have L3 := hid (setRow_heap (wr.alloc (.cells #[.int .i64 0, .nilFunc] 95)) wr.heap.size #[.int .i64 0, .nilFunc] (changeC ((cellN m (placeN m cc) : Nat) : Int) g0 g1 g2) 95 (0, 0) (heap_new0 wr _))
        have HB4 := hid (below_setRow' ((Below.refl _ wr).alloc (Nat.le_refl _) (.cells #[.int .i64 0, .nilFunc] 95)) (Nat.le_refl _) (changeC ((cellN m (placeN m cc) : Nat) : Int) g0 g1 g2))
        have HMA := hid hma
        have hc3 : ((wr.alloc (.cells #[.int .i64 0, .nilFunc] 95)).setRow wr.heap.size (changeC ((cellN m (placeN m cc) : Nat) : Int) g0 g1 g2)).cell? ⟨wr.heap.size, 1, none⟩ = some (madeV g0 g1 g2) := by rw [cell_of_row _ _ _ _ _ _ L3.out]; rfl
        unfold madeV at hc3
        clear hra hma hb hgl hl3
        go_wp2_with (first
          | refine wpList_load_mid rfl 95 _ rfl g (k * 2) rfl (changeC ((cellN m (placeN m cc) : Nat) : Int) g0 g1 g2) _ HRA.out Try.underlying95 rfl Try.size_change ?_
          | refine wpList_store_row rfl 95 _ _ rfl wr.heap.size (changeC ((cellN m (placeN m cc) : Nat) : Int) g0 g1 g2) rfl rfl 95 #[.int .i64 0, .nilFunc] (heap_new0 wr _) Try.size_change rfl (changeC_one _ _ _ _) ?_
          | fail)
        clear hc3
        generalize (wr.alloc (.cells #[.int .i64 0, .nilFunc] 95)).setRow wr.heap.size (changeC ((cellN m (placeN m cc) : Nat) : Int) g0 g1 g2) = w3 at *
        have HM3 := hid (HMA.out.below HB4.out)
        refine (HMK.out b g0 g1 g2 w3 HM3.out).mono ?_
        rintro e w4 ⟨rfl, hb4⟩
        have HB5 := hid (HB4.out.trans (hb4.mono HB4.out.size))
        clear hb4
        go_wp2_with fail
        refine (HPA.out b w4).mono ?_
        rintro e w5 ⟨rfl, hb5⟩
        have HB6 := hid (HBE.out.trans ((HB5.out.trans (hb5.mono HB5.out.size)).mono HBE.out.size))
        have HC7 := hid ((HCR.out.below (HB5.out.trans (hb5.mono HB5.out.size))).below ((Below.refl _ w5).alloc (Nat.le_refl _) (.cells #[.int .i64 (pathsR n m (lett m ((pad (flat ss)).set cc b))).1] 3)))
        have HG5 := hid (HGR.out.belowC (HB5.out.trans (hb5.mono HB5.out.size)))
        have HB7 := hid (HB6.out.alloc HB6.out.size (.cells #[.int .i64 (pathsR n m (lett m ((pad (flat ss)).set cc b))).1] 3))
        have HG7 := hid (HG5.out.belowC ((Below.refl _ w5).alloc (Nat.le_refl _) (.cells #[.int .i64 (pathsR n m (lett m ((pad (flat ss)).set cc b))).1] 3)))
        clear hb5
        go_wp2_with (at_builtin; refine wpList_appendI rfl _ _ rfl w.heap.size u9 ((pathsL n m (pad (flat ss)) cc).take k) rfl HG7.out w5.heap.size 1 rfl _ (cell_newI w5 _) ?c3 HB7.out.size ?_)
        case c3 => rw [List.length_take, pathsL_length]; omega
        intro v' w6 hgr hgw _
        have HGR6 := hid hgr
        have HC8 := hid (HC7.out.grownI HG7.out hgw)
        have HB8 := hid (HB7.out.grown hgw HB7.out.size (fun k e => (World.ownsRow.lt HG7.out k e).1))
        clear hgr hgw
        go_wp2
        go_roundw
        case rel => exact ⟨k + 1, by omega, by go_num, by rw [htk.out]; exact HGR6.out, HC8.out, HB8.out⟩
        case measure => simp [intOf]; omega
      · obtain rfl : k = 3 := by omega
        obtain ⟨A1, c1, rfl, hown⟩ := (show GrowI wr w.heap.size u9 (pathsL n m (pad (flat ss)) cc) from HGR.out).own
        have HOWN := hid hown
        clear hown
        go_wp2_with fail
        refine bodyPost_ret (results_tmp2 rfl _ _ _) rfl ?_
        exact ⟨HBE.out, A1, c1, _, true, rfl, .inl ⟨n, m, cc, HMI.out, rfl, rfl⟩, HOWN.out⟩
  · have HNo := hid hno
    clear hno
    have HBW := hid (HB2.out zeroG #[.int .i64 0, .int .i64 0])
    go_wp2_with (first
      | refine wpList_store_row rfl 57 _ _ rfl w1.heap.size zeroG rfl rfl 57 zeroG (HZ1.out zeroG).1 Try.size_grid rfl (gcells_one 0 0 (pad [])) ?_
      | refine wpList_store_row rfl 75 _ _ rfl (w1.heap.size + 1) #[.int .i64 0, .int .i64 0] rfl rfl 75 #[.int .i64 0, .int .i64 0] (HZ1.out zeroG).2 Try.size_place rfl (int2_one _ _) ?_)
    refine bodyPost_ret (results_tmp2 rfl _ _ _) rfl ?_
    exact ⟨HBW.out, _, _, [], false, rfl, .inr ⟨HNo.out, rfl, rfl⟩, .inl ⟨rfl, rfl⟩⟩
end Go.Proofs.Ytmdgbcepjnfbnaa
