/- The best exchange: best, by its contract. -/
import Derived.Test.YtkaiadgldppbiaaExch
import Derived.Test.YtkaiadgldppbiaaBunR
namespace Go.Proofs.Ytkaiadgldppbiaa
open Go.RowKit Go.Shelf

/-- How many paths there are with a cell that has become a letter. -/
def pathsX (n m : Nat) (ls : List UInt8) (e : Wy × UInt8) : Int := (pathsR n m (lett m (ls.set (cellN m e.1) e.2))).1
/-- The first of those that make the paths most, and how many there are then. -/
def bestTo (n m : Nat) (ls : List UInt8) (l : List (Wy × UInt8)) : Option (Wy × UInt8) × Int := l.foldl (fun s e => if s.2 < pathsX n m ls e then (some e, pathsX n m ls e) else s) (none, 0)
theorem bestTo_snoc (n m : Nat) (ls : List UInt8) (l : List (Wy × UInt8)) (e : Wy × UInt8) : bestTo n m ls (l ++ [e]) = if (bestTo n m ls l).2 < pathsX n m ls e then (some e, pathsX n m ls e) else bestTo n m ls l := by
  unfold bestTo
  rw [List.foldl_append]
  rfl
theorem pathsX_pos {n m : Nat} {ls : List UInt8} {e : Wy × UInt8} (hn : 1 ≤ n) : 0 < pathsX n m ls e := by
  unfold pathsX pathsR
  simp only
  omega
theorem bestTo_ge (n m : Nat) (ls : List UInt8) (l : List (Wy × UInt8)) : 0 ≤ (bestTo n m ls l).2 := by
  have key : ∀ (l : List (Wy × UInt8)) (s : Option (Wy × UInt8) × Int), 0 ≤ s.2 → 0 ≤ (l.foldl (fun s e => if s.2 < pathsX n m ls e then (some e, pathsX n m ls e) else s) s).2 := by
    intro l
    induction l with
    | nil => exact fun s h => h
    | cons e l ih =>
      intro s h
      rw [List.foldl_cons]
      refine ih _ ?_
      split
      · simp only; omega
      · exact h
  exact key l _ (Int.le_refl _)
theorem zeroC_one : (#[.int .i64 0, .nilFunc] : Array Value).all (·.oneCell') = true := by
  rw [Array.all_eq_true_iff_forall_mem]
  intro u hu
  simp at hu
  rcases hu with rfl | rfl <;> rfl
/-- What holds the best exchange. -/
def BestV (W : World) (n m : Nat) (ls : List UInt8) (o : Option (Wy × UInt8)) (cs : Array Value) : Prop :=
  (o = none ∧ cs = #[.int .i64 0, .nilFunc]) ∨ ∃ x b g0 g1 g2, o = some (x, b) ∧ cs = changeC ((cellN m x : Nat) : Int) g0 g1 g2 ∧ MadeAt W n m ls x b g0 g1 g2
theorem BestV.below {W W' : World} {n m : Nat} {ls : List UInt8} {o : Option (Wy × UInt8)} {cs : Array Value} (h : BestV W n m ls o cs) (hb : Below W.heap.size W W') : BestV W' n m ls o cs := by
  rcases h with h | ⟨x, b, g0, g1, g2, h1, h2, h3⟩
  · exact .inl h
  · exact .inr ⟨x, b, g0, g1, g2, h1, h2, h3.below hb⟩
theorem MadeAt.setRow {W : World} {n m c : Nat} {ls : List UInt8} {x : Wy} {b : UInt8} {g0 g1 g2 : Nat} {old : Array Value} (h : MadeAt W n m ls x b g0 g1 g2) (hc : W.heap[c]? = some (.cells old 72 (0, 0))) (cs : Array Value) : MadeAt (W.setRow c cs) n m ls x b g0 g1 g2 := by
  have hk : ∀ {g : Nat} {ds : Array Value} {t : TypeId}, W.heap[g]? = some (.cells ds t (0, 0)) → t ≠ 72 → (W.setRow c cs).heap[g]? = some (.cells ds t (0, 0)) := fun {g ds t} h ht => by
    rw [setRow_other _ _ _ _ (fun e => by rw [e, hc] at h; cases h; exact ht rfl)]
    exact h
  exact ⟨hk h.1 (by decide), hk h.2.1 (by decide), hk h.2.2 (by decide)⟩
theorem BestV.setRow {W : World} {n m c : Nat} {ls : List UInt8} {o : Option (Wy × UInt8)} {cs : Array Value} {old : Array Value} (h : BestV W n m ls o cs) (hc : W.heap[c]? = some (.cells old 72 (0, 0))) (ds : Array Value) : BestV (W.setRow c ds) n m ls o cs := by
  rcases h with h | ⟨x, b, g0, g1, g2, h1, h2, h3⟩
  · exact .inl h
  · exact .inr ⟨x, b, g0, g1, g2, h1, h2, h3.setRow hc ds⟩
theorem BestV.size {W : World} {n m : Nat} {ls : List UInt8} {o : Option (Wy × UInt8)} {cs : Array Value} (h : BestV W n m ls o cs) : cs.size = 2 ∧ cs.all (·.oneCell') = true := by
  rcases h with ⟨_, rfl⟩ | ⟨x, b, g0, g1, g2, _, rfl, _⟩
  · exact ⟨rfl, zeroC_one⟩
  · exact ⟨rfl, changeC_one _ _ _ _⟩
/-- A change stored into a block below the slice. -/
theorem ChgsAt.setRow {W : World} {base n m c : Nat} {v : Value} {ls : List UInt8} {items : List (Wy × UInt8)} {old : Array Value} (h : ChgsAt W base v n m ls items) (hc : W.heap[c]? = some (.cells old 72 (0, 0))) (hlt : c < base) (cs : Array Value) : ChgsAt (W.setRow c cs) base v n m ls items := by
  obtain ⟨es, h1, h2, h3⟩ := h
  refine ⟨es, h1, ?_, fun e he => (h3 e he).setRow hc cs⟩
  refine ⟨h2.1, ?_⟩
  rcases h2.2 with h | ⟨g, cap, cur, rfl, hb, hgg, rest⟩
  · exact .inl h
  · refine .inr ⟨g, cap, cur, rfl, hb, ?_, rest⟩
    rw [setRow_other _ _ _ _ (by omega)]
    exact hgg
section
variable {P : Program} {w : World}
theorem results_cell_tmps' {fn : Func} {p u u' : Tmp} {ty : TypeId} (h : fn.results = #[.cell p ty, .tmp u, .tmp u']) (tmps : Array Value) (P : Program) (w : World) :
    (results fn tmps).run P w =
      ((asAddr (tmps.getD p undef)).run P w).andThen fun a w₁ => ((loadVar ty a).run P w₁).andThen fun v w₂ => .ok (.tuple #[v, tmps.getD u undef, tmps.getD u' undef]) w₂ := by
  simp only [results, h]
  simp [Sem.run_bind, Result.andThen]
theorem results_cell_tmps {fn : Func} {p u u' : Tmp} {ty : TypeId} (h : fn.results = #[.cell p ty, .tmp u, .tmp u']) (tmps : Array Value) (g : Nat) (t : TypeId) (cs : Array Value) (fr : Nat × Nat) (d : TypeDesc)
    (hp : tmps.getD p undef = .pointer (some ⟨g, 0, none⟩)) (hg : w.heap[g]? = some (.cells cs t fr))
    (hu : P.underlying ty = some d) (hd : (match d with | .struct _ | .array _ _ => true | _ => false) = true) (hi : (P.info? ty).map (·.size) = some cs.size) :
    (results fn tmps).run P w = .ok (.tuple #[.agg cs, tmps.getD u undef, tmps.getD u' undef]) w := by
  rw [results_cell_tmps' h, hp]
  simp [asAddr, run_loadVar_row w g t ty cs fr d hg hu hd hi, Result.andThen]
end

set_option maxRecDepth 100000 in
set_option maxHeartbeats 2000000 in
theorem best_any (n m : Nat) (ls : List UInt8) (w : World) (hl : ls.length = 25) (hn5 : n ≤ 5) (hm : 1 ≤ m) (hm5 : m ≤ 5) :
    Calls Try.prog 57 #[.agg (gcells n m ls)] w fun e w' => ∃ cs, e = .returned (.tuple #[.agg cs, .int .i64 (bestTo n m ls (mirI m ls (List.finRange (n * m)))).2, .bool (decide (0 < (bestTo n m ls (mirI m ls (List.finRange (n * m)))).2))]) ∧
      BestV w' n m ls (bestTo n m ls (mirI m ls (List.finRange (n * m)))).1 cs ∧ Below w.heap.size w w' := by
  have HG := hid (show (Try.prog.info? 37).map (·.size) = some (gcells n m ls).size by rw [gcells_size hl]; exact Try.size_grid)
  have HEX := hid (fun W => exchanges_any n m ls W hl hn5 hm hm5)
  have HMK := hid (show ∀ x b g0 g1 g2 W, inG n m x → MadeAt W n m ls x b g0 g1 g2 → _ from fun x b g0 g1 g2 W hx h => made_any n m ls x b g0 g1 g2 W hl hn5 hm5 hx h)
  have HPA := hid (fun ls' W (hl' : ls'.length = 25) => paths_any n m ls' W hl' hn5 hm hm5)
  have HLS := hid (fun c (b : UInt8) => show (ls.set c b).length = 25 by simpa using hl)
  have HIN := hid (show ∀ e ∈ mirI m ls (List.finRange (n * m)), inG n m e.1 from fun e he => by
    unfold mirI at he
    obtain ⟨x, _, rfl⟩ := List.mem_map.1 he
    exact placeN_in x.isLt)
  have HLN := hid (show (mirI m ls (List.finRange (n * m))).length ≤ 25 by
    have h1 := mirI_length m ls (List.finRange (n * m))
    have h2 : n * m ≤ 5 * 5 := Nat.mul_le_mul hn5 hm5
    rw [List.length_finRange] at h1
    omega)
  generalize mirI m ls (List.finRange (n * m)) = items at *
  obtain ⟨W0, hW0⟩ : ∃ W0, (((w.alloc (.cells (gcells n m ls) 37)).alloc (.cells #[.int .i64 0, .nilFunc] 72)).alloc (.cells #[.int .i64 0, .nilFunc] 72)) = W0 := ⟨_, rfl⟩
  have H0 := hid (show W0.heap[w.heap.size]? = some (.cells (gcells n m ls) 37 (0, 0)) by rw [← hW0]; exact heap_new2 w _ _ _)
  have H1 := hid (show W0.heap[w.heap.size + 1]? = some (.cells #[.int .i64 0, .nilFunc] 72 (0, 0)) by
    rw [← hW0]
    simpa using heap_new1 (w.alloc (.cells (gcells n m ls) 37)) (.cells #[.int .i64 0, .nilFunc] 72) (.cells #[.int .i64 0, .nilFunc] 72))
  have H2 := hid (show W0.heap[w.heap.size + 2]? = some (.cells #[.int .i64 0, .nilFunc] 72 (0, 0)) by
    rw [← hW0]
    simpa using heap_new0 ((w.alloc (.cells (gcells n m ls) 37)).alloc (.cells #[.int .i64 0, .nilFunc] 72)) (.cells #[.int .i64 0, .nilFunc] 72))
  have H3 := hid (show Below w.heap.size w W0 by rw [← hW0]; exact (((Below.refl _ w).alloc (Nat.le_refl _) _).alloc (by simp) _).alloc (by simp; omega) _)
  have H4 := hid (show W0.heap.size = w.heap.size + 3 by rw [← hW0]; simp)
  have HW0 := hid hW0
  clear hW0
  go_enter Try.func57, Try.ntmps57
  have HW1 := hid (show (W0.setRow (w.heap.size + 1 + 1) #[.int .i64 0, .nilFunc]).heap.size = w.heap.size + 3 by simp [H4.out])
  go_wp2_with (guard_target =~ wpList _ _ _ _ _ _; first
    | refine atLoad 37 _ rfl ?_
    | (rw [HW0.out]; refine wpList_store_row rfl 72 _ _ rfl (w.heap.size + 1 + 1) #[.int .i64 0, .nilFunc] rfl rfl 72 #[.int .i64 0, .nilFunc] H2.out Try.size_change rfl zeroC_one ?_)
    | fail)
  refine Halt.mk ?_
  have J0 := hid (show (W0.setRow (w.heap.size + 1 + 1) #[.int .i64 0, .nilFunc]).heap[w.heap.size]? = some (.cells (gcells n m ls) 37 (0, 0)) by rw [setRow_other _ _ _ _ (by omega)]; exact H0.out)
  have J1 := hid (show (W0.setRow (w.heap.size + 1 + 1) #[.int .i64 0, .nilFunc]).heap[w.heap.size + 1]? = some (.cells #[.int .i64 0, .nilFunc] 72 (0, 0)) by rw [setRow_other _ _ _ _ (by omega)]; exact H1.out)
  have J2 := hid (setRow_heap W0 (w.heap.size + 1 + 1) #[.int .i64 0, .nilFunc] #[.int .i64 0, .nilFunc] 72 (0, 0) H2.out)
  have J3 := hid (below_setRow' H3.out (show w.heap.size ≤ w.heap.size + 1 + 1 by omega) #[.int .i64 0, .nilFunc])
  generalize W0.setRow (w.heap.size + 1 + 1) #[.int .i64 0, .nilFunc] = W1 at *
  go_wp2_with (refine wpList_load_row rfl 37 _ rfl w.heap.size rfl 37 (gcells n m ls) (0, 0) _ J0.out Try.underlying37 rfl HG.out ?_)
  refine (HEX.out W1).mono ?_
  rintro e w2 ⟨v, rfl, hch, hb2⟩
  rw [HW1.out] at hch
  obtain ⟨A0, c0, rfl⟩ := hch.slice
  obtain ⟨L, hL⟩ : ∃ L, items.length = L := ⟨_, rfl⟩
  have HLe := hid hL
  have hL25 : L ≤ 25 := by rw [← hL]; exact HLN.out
  rw [hL] at hch ⊢
  have HC := hid hch
  have Q1 := hid ((hb2.block _ (lt_of_block J1.out)).trans J1.out)
  have Q2 := hid ((hb2.block _ (lt_of_block J2.out)).trans J2.out)
  have QB := hid (J3.out.trans (hb2.mono J3.out.size))
  clear hch hb2 hL
  go_wp2_with fail
  go_loopw [6, 14] (fun (v i : Value) (wr : World) => ∃ k : Nat, k ≤ L ∧ i = .int .i64 k ∧ v = .int .i64 (bestTo n m ls (items.take k)).2 ∧ (∃ cs, wr.heap[w.heap.size + 1 + 1]? = some (.cells cs 72 (0, 0)) ∧ BestV wr n m ls (bestTo n m ls (items.take k)).1 cs) ∧
    wr.heap[w.heap.size + 1]? = some (.cells #[.int .i64 0, .nilFunc] 72 (0, 0)) ∧ ChgsAt wr (w.heap.size + 3) (.slice A0 L c0) n m ls items ∧ Below w.heap.size w wr) (fun _ i _ => L - (intOf i).toNat)
  case atStart => exact ⟨0, by omega, rfl, rfl, ⟨_, Q2.out, .inl ⟨rfl, rfl⟩⟩, Q1.out, HC.out, QB.out⟩
  case round =>
    obtain ⟨k, hk, rfl, rfl, ⟨cs, hcs, hbv⟩, h1, hch, hbel⟩ := hrel
    have HCS := hid hcs
    have HBV := hid hbv
    have R1 := hid h1
    have HCR := hid hch
    have HBE := hid hbel
    clear hcs hbv h1 hch hbel
    by_cases hlt : k < L
    · obtain ⟨⟨x, b⟩, hb⟩ : ∃ e, items[k]? = some e := ⟨_, List.getElem?_eq_getElem (by rw [HLe.out]; exact hlt)⟩
      have hx := HIN.out _ (List.mem_of_getElem? hb)
      obtain ⟨g, c', g0, g1, g2, hsl, hgl, hra, hma⟩ := HCR.out.at_ (k := k) hb
      rw [HLe.out] at hsl
      cases hsl
      have htk : items.take (k + 1) = items.take k ++ [(x, b)] := by
        obtain ⟨h1, h2⟩ := List.getElem?_eq_some_iff.1 hb
        rw [List.take_succ_eq_append_getElem h1, h2]
      have hbt := bestTo_snoc n m ls (items.take k) (x, b)
      rw [← htk] at hbt
      have HBT := hid hbt
      have hk0 : (0 : Int) ≤ (k : Int) := by omega
      have hkL : (k : Int) < (L : Int) := by omega
      have HRA := hid hra
      have L3 := hid (setRow_heap (wr.alloc (.cells #[.int .i64 0, .nilFunc] 72)) wr.heap.size #[.int .i64 0, .nilFunc] (changeC ((cellN m x : Nat) : Int) g0 g1 g2) 72 (0, 0) (heap_new0 wr _))
      have HB4 := hid (below_setRow' ((Below.refl _ wr).alloc (Nat.le_refl _) (.cells #[.int .i64 0, .nilFunc] 72)) (Nat.le_refl _) (changeC ((cellN m x : Nat) : Int) g0 g1 g2))
      have HMA := hid hma
      have hc3 : ((wr.alloc (.cells #[.int .i64 0, .nilFunc] 72)).setRow wr.heap.size (changeC ((cellN m x : Nat) : Int) g0 g1 g2)).cell? ⟨wr.heap.size, 1, none⟩ = some (madeV g0 g1 g2) := by rw [cell_of_row _ _ _ _ _ _ L3.out]; rfl
      unfold madeV at hc3
      have hsz2 : wr.heap.size ≥ w.heap.size + 1 + 1 + 1 := lt_of_block HCS.out
      have HSZ := hid hsz2
      obtain ⟨pa, hpa⟩ : ∃ pa, pathsX n m ls (x, b) = pa := ⟨_, rfl⟩
      have HPX := hid (show (pathsR n m (lett m (ls.set (cellN m x) b))).1 = pa from hpa)
      rw [hpa] at HBT
      have HKX := hid (fun W h => HMK.out x b g0 g1 g2 W hx h)
      have HLX := hid (HLS.out (cellN m x) b)
      clear hra hma hb hgl htk hbt hpa hx hsz2
      generalize bestTo n m ls (items.take k) = bt at *
      obtain ⟨bo, bm⟩ := bt
      go_wp2_with (guard_target =~ wpList _ _ _ _ _ _; first
        | refine wpList_load_mid rfl 72 _ rfl g (k * 2) rfl (changeC ((cellN m x : Nat) : Int) g0 g1 g2) _ HRA.out Try.underlying72 rfl Try.size_change ?_
        | refine wpList_store_row rfl 72 _ _ rfl wr.heap.size (changeC ((cellN m x : Nat) : Int) g0 g1 g2) rfl rfl 72 #[.int .i64 0, .nilFunc] (heap_new0 wr _) Try.size_change rfl (changeC_one _ _ _ _) ?_
        | fail)
      clear hc3
      generalize (wr.alloc (.cells #[.int .i64 0, .nilFunc] 72)).setRow wr.heap.size (changeC ((cellN m x : Nat) : Int) g0 g1 g2) = w3 at *
      refine (HKX.out w3 (HMA.out.below HB4.out)).mono ?_
      rintro e w4 ⟨rfl, hb4⟩
      have HB5 := hid (HB4.out.trans (hb4.mono HB4.out.size))
      have L4 := hid ((hb4.block _ (lt_of_block L3.out)).trans L3.out)
      clear hb4
      go_wp2_with fail
      refine (HPA.out _ w4 HLX.out).mono ?_
      rintro e w5 ⟨rfl, hb5⟩
      have HB6 := hid (HB5.out.trans (hb5.mono HB5.out.size))
      have L5 := hid ((hb5.block _ (lt_of_block L4.out)).trans L4.out)
      have M5 := hid (HMA.out.below HB6.out)
      have C5 := hid ((HB6.out.block _ (lt_of_block HCS.out)).trans HCS.out)
      have R5 := hid ((HB6.out.block _ (lt_of_block R1.out)).trans R1.out)
      have D5 := hid (HCR.out.below HB6.out)
      have V5 := hid (HBV.out.below HB6.out)
      have HBF := hid (HBE.out.trans (HB6.out.mono HBE.out.size))
      rw [HPX.out]
      clear hb5
      by_cases hgt : bm < pa
      · have e1 := HBT.out
        rw [if_pos hgt] at e1
        have E1 := hid e1
        clear e1
        go_wp2_with (guard_target =~ wpList _ _ _ _ _ _; first
          | refine wpList_load_row rfl 72 _ rfl wr.heap.size rfl 72 (changeC ((cellN m x : Nat) : Int) g0 g1 g2) (0, 0) _ L5.out Try.underlying72 rfl Try.size_change ?_
          | refine wpList_store_row rfl 72 _ _ rfl (w.heap.size + 1 + 1) (changeC ((cellN m x : Nat) : Int) g0 g1 g2) rfl rfl 72 cs C5.out Try.size_change V5.out.size.1 (changeC_one _ _ _ _) ?_
          | fail)
        go_roundw
        case rel =>
          refine ⟨k + 1, by omega, by go_num, by rw [E1.out], ⟨_, setRow_heap _ _ _ _ _ _ C5.out, ?_⟩, ?_, D5.out.setRow C5.out (by omega) _, below_setRow' HBF.out (by omega) _⟩
          · rw [E1.out]
            exact .inr ⟨x, b, g0, g1, g2, rfl, rfl, M5.out.setRow C5.out _⟩
          · rw [setRow_other _ _ _ _ (by omega)]; exact R5.out
        case measure => simp [intOf]; omega
      · have e1 := HBT.out
        rw [if_neg hgt] at e1
        have E1 := hid e1
        clear e1
        have hle : pa ≤ bm := by omega
        go_wp2_with fail
        go_roundw
        case rel =>
          refine ⟨k + 1, by omega, by go_num, by rw [E1.out], ⟨_, C5.out, ?_⟩, R5.out, D5.out, HBF.out⟩
          rw [E1.out]
          exact V5.out
        case measure => simp [intOf]; omega
    · obtain rfl : k = L := by omega
      have hall : items.take k = items := List.take_of_length_le (by rw [HLe.out]; exact Nat.le_refl _)
      rw [hall] at HBV ⊢
      obtain ⟨bm, hbm⟩ : ∃ bm, (bestTo n m ls items).2 = bm := ⟨_, rfl⟩
      have HBM := hid hbm
      rw [hbm]
      clear hbm
      go_wp2_with (guard_target =~ wpList _ _ _ _ _ _; first
        | refine wpList_load_row rfl 72 _ rfl (w.heap.size + 1 + 1) rfl 72 cs (0, 0) _ HCS.out Try.underlying72 rfl (by rw [HBV.out.size.1]; exact (show (Try.prog.info? 72).map (·.size) = some 2 from Try.size_change)) ?_
        | refine wpList_store_row rfl 72 _ _ rfl (w.heap.size + 1) cs rfl rfl 72 #[.int .i64 0, .nilFunc] R1.out (by rw [HBV.out.size.1]; exact (show (Try.prog.info? 72).map (·.size) = some 2 from Try.size_change)) HBV.out.size.1.symm HBV.out.size.2 ?_
        | fail)
      have r2 := hid (setRow_heap wr (w.heap.size + 1) #[.int .i64 0, .nilFunc] cs 72 (0, 0) R1.out)
      refine bodyPost_ret (results_cell_tmps Try.results57 _ (w.heap.size + 1) 72 cs (0, 0) _ (by rfl) r2.out Try.underlying72 rfl (by rw [HBV.out.size.1]; exact (show (Try.prog.info? 72).map (·.size) = some 2 from Try.size_change))) rfl ?_
      exact ⟨cs, by rw [HBM.out]; rfl, HBV.out.setRow R1.out _, below_setRow' HBE.out (by omega) _⟩
end Go.Proofs.Ytkaiadgldppbiaa
