/- Settled texts in one file. Each begins with what it holds. -/
import Derived.Test.YtonhnmpgikmlpaaBunI
import Derived.Test.YtonhnmpgikmlpaaApp
import Derived.Test.YtonhnmpgikmlpaaBunA
/- Pairings of the program: ports, pairedPortsIn, readPairing, by their contracts. -/
namespace Go.Proofs.Ytonhnmpgikmlpaa
open Go.RowKit Go.Shelf

theorem cnt_snoc (p : Nat → Bool) (k : Nat) : (List.range (k + 1)).countP p = (List.range k).countP p + (if p k = true then 1 else 0) := by
  rw [List.range_succ, List.countP_append, List.countP_cons, List.countP_nil]
  omega
theorem cnt_le (p : Nat → Bool) (k : Nat) : (List.range k).countP p ≤ k := by
  have := List.countP_le_length (p := p) (l := List.range k)
  rwa [List.length_range] at this

set_option maxRecDepth 100000 in
set_option maxHeartbeats 2000000 in
theorem pports_any (l : List Int) (w : World) (hl : l.length = 20) :
    Calls Try.prog 143 #[.agg (pairC l)] w fun e w' => e = .returned (.int .i64 ((portsN l : Nat) : Int)) ∧ Below w.heap.size w w' := by
  have HS := hid (show (Try.prog.info? 82).map (·.size) = some (pairC l).size by rw [pairC_size, hl]; exact Try.size_pair)
  have HX := hid (show ∀ k : Nat, k < 20 → ∃ x : Int, (pairC l)[k]? = some (.int .i64 x) ∧ (l[k]? != some (k : Int)) = (x != (k : Int)) from fun k hk => by
    have e : l[k]? = some (l[k]'(by omega)) := List.getElem?_eq_getElem (by omega)
    refine ⟨_, pairC_at e, ?_⟩
    rw [e, Bool.eq_iff_iff, bne_iff_ne, bne_iff_ne]
    simp)
  have HP := hid (show (List.range 20).countP (fun k : Nat => l[k]? != some (k : Int)) = portsN l from rfl)
  have HSN := hid (fun k => cnt_snoc (fun k : Nat => l[k]? != some (k : Int)) k)
  have HLE := hid (fun k => cnt_le (fun k : Nat => l[k]? != some (k : Int)) k)
  generalize hG : (fun N : Nat => (List.range N).countP (fun k : Nat => l[k]? != some (k : Int))) = G
  have HG := hid (fun N => congrFun hG N)
  clear hG
  generalize pairC l = cs at *
  have H0 := hid (heap_new0 w (.cells cs 82))
  have HB := hid ((Below.refl w.heap.size w).alloc (Nat.le_refl _) (.cells cs 82))
  go_enter Try.func143, Try.ntmps143
  go_wp2_with (refine wpList_load_row rfl 82 _ rfl w.heap.size rfl 82 cs (0, 0) _ H0.out Try.underlying82 rfl HS.out ?_)
  generalize World.alloc w _ = Y at H0 HB ⊢
  go_loopw [3, 7] (fun (v iv : Value) (wr : World) => ∃ k : Nat, k ≤ 20 ∧ iv = .int .i64 k ∧ v = .int .i64 ((G k : Nat) : Int) ∧ wr = Y) (fun _ i _ => 20 - (intOf i).toNat)
  case atStart => exact ⟨0, by omega, rfl, by rw [← HG.out]; rfl, rfl⟩
  case round =>
    obtain ⟨k, hk, rfl, rfl, rfl⟩ := hrel
    have hle := HLE.out k
    have hsn := HSN.out k
    rw [HG.out] at hle
    rw [HG.out, HG.out] at hsn
    obtain ⟨gk, hgk⟩ : ∃ gk, G k = gk := ⟨_, rfl⟩
    rw [hgk] at hle hsn ⊢
    by_cases hlt : k < 20
    · obtain ⟨x, hcx, hxe⟩ := HX.out k hlt
      have hidx := run_index_pair wr hlt hcx
      rw [hxe] at hsn
      clear hcx hxe hgk
      cases hb : (x != (k : Int)) with
      | true =>
        rw [hb, if_pos rfl] at hsn
        have HSX := hid hsn
        clear hsn
        go_wp2_with fail
        go_roundw
        case rel => exact ⟨k + 1, by omega, by go_num, by rw [HSX.out]; go_num, trivial⟩
        case measure => simp [intOf]; omega
      | false =>
        rw [hb, if_neg (by decide)] at hsn
        have HSX := hid hsn
        clear hsn
        go_wp2_with fail
        go_roundw
        case rel => exact ⟨k + 1, by omega, by go_num, by rw [HSX.out]; rfl, trivial⟩
        case measure => simp [intOf]; omega
    · obtain rfl : k = 20 := by omega
      have HGK := hid (show gk = portsN l by rw [← hgk, ← HG.out, HP.out])
      clear hgk hsn hle
      go_wp2_with fail
      go_ret
      exact ⟨by rw [HGK.out]; rfl, HB.out⟩

set_option maxRecDepth 100000 in
set_option maxHeartbeats 2000000 in
theorem pairedPortsIn_any (n : Nat) (w : World) (hn : n ≤ 9223372036854775807) :
    Calls Try.prog 134 #[.int .i64 (n : Int)] w fun e w' => e = .returned (.bool (decide (4 ≤ n ∧ n ≤ 20 ∧ n % 2 = 0))) ∧ w' = w := by
  have h0 : (0 : Int) ≤ (n : Int) := by omega
  have h1 : (n : Int) ≤ 9223372036854775807 := by omega
  go_enter Try.func134, Try.ntmps134
  by_cases ha : 4 ≤ n
  · have hai : (4 : Int) ≤ (n : Int) := by omega
    by_cases hb : n ≤ 20
    · have hbi : (n : Int) ≤ 20 := by omega
      go_wp2_with fail
      go_ret
      refine ⟨?_, rfl⟩
      have e : ((n : Int) % 2 == 0) = decide (4 ≤ n ∧ n ≤ 20 ∧ n % 2 = 0) := by
        rw [Bool.eq_iff_iff, beq_iff_eq, decide_eq_true_iff]
        omega
      rw [← e]
      rfl
    · have hbi : ¬ (n : Int) ≤ 20 := by omega
      go_wp2_with fail
      go_ret
      exact ⟨rfl, rfl⟩
  · have hai : ¬ (4 : Int) ≤ (n : Int) := by omega
    go_wp2_with fail
    go_ret
    exact ⟨rfl, rfl⟩

/-- What readPairing comes to. -/
def PReadEnd (l : List Int) (e : Ending) : Prop := (IsPair l ∧ e = .returned (.tuple #[.agg (pairC (padTo l)), .bool true])) ∨ (¬ IsPair l ∧ e = .returned (.tuple #[.agg zeroP, .bool false]))

set_option maxRecDepth 100000 in
set_option maxHeartbeats 2000000 in
theorem readPairing_any (A : Option Addr) (c : Nat) (l : List Int) (w : World) (h : Ints w w.heap.size A l) (hn : l.length ≤ 1048576) :
    Calls Try.prog 82 #[.slice A l.length c] w fun e w' => PReadEnd l e ∧ Below w.heap.size w w' := by
  have HI := hid (fun w' (hb : Below w.heap.size w w') => h.below hb (Nat.le_refl _))
  obtain ⟨n, hnl⟩ : ∃ n, l.length = n := ⟨_, rfl⟩
  have HPP := hid (fun w' => pairedPortsIn_any n w' (by omega))
  rw [hnl]
  have HNL := hid hnl
  clear h
  have H0 := hid (heap_new0 w (.cells zeroP 82))
  have HB := hid ((Below.refl w.heap.size w).alloc (Nat.le_refl _) (.cells zeroP 82))
  go_enter Try.func82, Try.ntmps82
  go_wp2_with fail
  refine (HPP.out _).mono ?_
  rintro e w1 ⟨rfl, rfl⟩
  by_cases hok : 4 ≤ n ∧ n ≤ 20 ∧ n % 2 = 0
  · rw [decide_eq_true hok]
    have HUN := hid (fun w' => unpaired_any w')
    generalize World.alloc w _ = Y at H0 HB ⊢
    go_wp2_with fail
    refine (HUN.out _).mono ?_
    rintro e w2 ⟨rfl, hb2⟩
    have L0 := hid ((hb2.block _ (lt_of_block H0.out)).trans H0.out)
    have LB := hid (HB.out.trans (hb2.mono HB.out.size))
    have LG := hid (show w.heap.size < w2.heap.size from lt_of_block L0.out)
    clear hb2
    have N0 := hid (heap_new0 w2 (.cells zeroP 82))
    have K0 := hid (show ((w2.alloc (.cells zeroP 82)).setRow w2.heap.size (pairC idL)).heap[w.heap.size]? = some (.cells zeroP 82 (0, 0)) by
      rw [setRow_other _ _ _ _ (by have := LG.out; omega), Below.heap_alloc _ _ _ LG.out]; exact L0.out)
    have K1 := hid (setRow_heap _ _ _ (pairC idL) _ _ N0.out)
    have KB := hid (below_setRow' (LB.out.alloc LB.out.size (.cells zeroP 82)) LB.out.size (pairC idL))
    have HSI := hid (show (Try.prog.info? 82).map (·.size) = some (pairC idL).size by rw [pairC_size]; exact Try.size_pair)
    obtain ⟨h4, h20, hev⟩ := hok
    have HL4 := hid (show 4 ≤ l.length by rw [HNL.out]; exact h4)
    have HL20 := hid (show l.length ≤ 20 by rw [HNL.out]; exact h20)
    have HNO := hid (show ∀ (p : Nat) (x : Int), p < n → l[p]? = some x → (x < 0 ∨ (n : Int) ≤ x ∨ x = (p : Int)) → ¬ IsPair l from fun p x hp hx hbad hpr => by
      obtain ⟨q, h1, h2, h3, _⟩ := hpr.2.2 p (by rw [HNL.out]; exact hp)
      rw [hx] at h3
      have := Option.some.inj h3
      rw [HNL.out] at h1
      omega)
    clear hev
    go_wp2_with (refine wpList_store_row rfl 82 _ _ rfl w2.heap.size (pairC idL) rfl rfl 82 zeroP N0.out HSI.out rfl (pairC_one idL) ?_)
    generalize World.setRow _ _ _ = Y at K0 K1 KB ⊢
    go_loopw [15] (fun (iv : Value) (wr : World) => ∃ k : Nat, k ≤ n ∧ iv = .int .i64 k ∧ Hid (∀ p, p < k → ∃ q, q < l.length ∧ q ≠ p ∧ l[p]? = some (q : Int)) ∧ wr.heap[w2.heap.size]? = some (.cells (pairC (padTo (l.take k))) 82 (0, 0)) ∧ wr.heap[w.heap.size]? = some (.cells zeroP 82 (0, 0)) ∧ Below w.heap.size w wr) (fun i _ => n - (intOf i).toNat)
    case atStart => exact ⟨0, by omega, rfl, hid (fun p hp => absurd hp (by omega)), K1.out, K0.out, KB.out⟩
    case round =>
      obtain ⟨k, hk, rfl, hall, h1, h0, hb⟩ := hrel
      have HALL := hall
      have B0 := hid h0
      have B1 := hid h1
      have BB := hid hb
      clear h0 h1 hb hall
      by_cases hlt : k < n
      · have hints := HI.out wr BB.out
        obtain ⟨b, off, x, rfl, hbw, hks, hc⟩ := hints.at_ (k := k) (by rw [HNL.out]; exact hlt)
        have HKS := hid hks
        have hlt20 : k < 20 := by omega
        obtain ⟨u, hu⟩ : ∃ u, (pairC (padTo (l.take k)))[k]? = some u := ⟨_, Array.getElem?_eq_getElem (by rw [pairC_size, padTo_length (by rw [List.length_take]; omega)]; exact hlt20)⟩
        have hcell2 : wr.cell? ⟨w2.heap.size, k, none⟩ = some u := by rw [cell_of_row _ _ _ _ _ _ B1.out]; exact hu
        have hfr : wr.frozen? ⟨w2.heap.size, k, none⟩ = false := frozen_of_row _ _ _ _ _ B1.out
        have HBW := hid hbw
        clear hu hks hints hbw
        by_cases hx0 : x < 0
        · have HN := hid (HNO.out k x hlt HKS.out (.inl hx0))
          go_wp2_with (refine wpList_store_row rfl 82 _ _ rfl w.heap.size zeroP rfl rfl 82 zeroP B0.out Try.size_pair rfl (pairC_one (List.replicate 20 0)) ?_)
          refine bodyPost_ret (results_row_tmp Try.results82 _ w.heap.size 82 _ (0, 0) _ (by rfl) (setRow_heap _ _ _ _ _ _ B0.out) Try.underlying82 rfl Try.size_pair) rfl ⟨.inr ⟨HN.out, rfl⟩, ?_⟩
          exact below_setRow' BB.out (Nat.le_refl _) _
        by_cases hxn : (n : Int) ≤ x
        · have HN := hid (HNO.out k x hlt HKS.out (.inr (.inl hxn)))
          have hx0' : 0 ≤ x := by omega
          go_wp2_with (refine wpList_store_row rfl 82 _ _ rfl w.heap.size zeroP rfl rfl 82 zeroP B0.out Try.size_pair rfl (pairC_one (List.replicate 20 0)) ?_)
          refine bodyPost_ret (results_row_tmp Try.results82 _ w.heap.size 82 _ (0, 0) _ (by rfl) (setRow_heap _ _ _ _ _ _ B0.out) Try.underlying82 rfl Try.size_pair) rfl ⟨.inr ⟨HN.out, rfl⟩, ?_⟩
          exact below_setRow' BB.out (Nat.le_refl _) _
        by_cases hxk : x = (k : Int)
        · have HN := hid (HNO.out k x hlt HKS.out (.inr (.inr hxk)))
          have hx0' : 0 ≤ x := by omega
          subst hxk
          go_wp2_with (refine wpList_store_row rfl 82 _ _ rfl w.heap.size zeroP rfl rfl 82 zeroP B0.out Try.size_pair rfl (pairC_one (List.replicate 20 0)) ?_)
          refine bodyPost_ret (results_row_tmp Try.results82 _ w.heap.size 82 _ (0, 0) _ (by rfl) (setRow_heap _ _ _ _ _ _ B0.out) Try.underlying82 rfl Try.size_pair) rfl ⟨.inr ⟨HN.out, rfl⟩, ?_⟩
          exact below_setRow' BB.out (Nat.le_refl _) _
        obtain ⟨q, rfl⟩ : ∃ q : Nat, x = (q : Int) := ⟨x.toNat, by omega⟩
        have hqn : q < n := by omega
        have hqk : ¬ (q : Int) = (k : Int) := hxk
        have HST := hid (padTo_step HKS.out hlt20)
        go_wp2_with fail
        go_roundw
        case rel =>
          refine ⟨k + 1, by omega, by go_num, hid (fun p hp => ?_), ?_, ?_, ?_⟩
          · by_cases hpk : p = k
            · subst hpk
              exact ⟨q, by rw [HNL.out]; exact hqn, by omega, HKS.out⟩
            · exact HALL.out p (by omega)
          · rw [← HST.out, ← pairC_set]
            exact heap_setCell_same _ _ _ _ _ _ B1.out
          · rw [Below.heap_setCell _ _ _ _ (by have := LG.out; show w.heap.size ≠ w2.heap.size; omega)]; exact B0.out
          · exact BB.out.setCell (p := ⟨w2.heap.size, k, none⟩) (by have := LG.out; show w.heap.size ≤ w2.heap.size; omega) _
        case measure => simp [intOf]; omega
      · obtain rfl : k = n := by omega
        have HALL2 := hid (show ∀ p, p < l.length → ∃ q, q < l.length ∧ q ≠ p ∧ l[p]? = some (q : Int) from fun p hp => HALL.out p (by rw [← HNL.out]; exact hp))
        rw [List.take_of_length_le (by rw [HNL.out]; exact Nat.le_refl _)] at B1
        have HBK := hid (fun w' => back_any (padTo l) w' (padTo_length HL20.out) (pad_in HL20.out HALL2.out))
        have HIF := hid (back_pair HL4.out HL20.out HALL2.out)
        have HSP := hid (show (Try.prog.info? 82).map (·.size) = some (pairC (padTo l)).size by rw [pairC_size, padTo_length HL20.out]; exact Try.size_pair)
        have HZP := hid (show zeroP.size = (pairC (padTo l)).size by rw [pairC_size, padTo_length HL20.out]; rfl)
        have HNE := hid (fun w' => run_equal_pair w' (a := backL (padTo l)) (b := idL) (by rw [backL_length, padTo_length HL20.out]) idL_length)
        go_wp2_with (refine wpList_load_row rfl 82 _ rfl w2.heap.size rfl 82 (pairC (padTo l)) (0, 0) _ B1.out Try.underlying82 rfl HSP.out ?_)
        refine (HBK.out _).mono ?_
        rintro e w3 ⟨rfl, hb3⟩
        have C0 := hid ((hb3.block _ (lt_of_block B0.out)).trans B0.out)
        have C1 := hid ((hb3.block _ (lt_of_block B1.out)).trans B1.out)
        have CB := hid (BB.out.trans (hb3.mono BB.out.size))
        clear hb3
        go_wp2_with fail
        refine (HUN.out _).mono ?_
        rintro e w4 ⟨rfl, hb4⟩
        have D0 := hid ((hb4.block _ (lt_of_block C0.out)).trans C0.out)
        have D1 := hid ((hb4.block _ (lt_of_block C1.out)).trans C1.out)
        have DB := hid (CB.out.trans (hb4.mono CB.out.size))
        have hne := HNE.out w4
        clear hb4
        by_cases hp : IsPair l
        · rw [decide_eq_true (HIF.out.2 hp)] at hne
          have HP := hid hp
          clear hp
          go_wp2_with (first
            | refine wpList_load_row rfl 82 _ rfl w2.heap.size rfl 82 (pairC (padTo l)) (0, 0) _ D1.out Try.underlying82 rfl HSP.out ?_
            | refine wpList_store_row rfl 82 _ _ rfl w.heap.size (pairC (padTo l)) rfl rfl 82 zeroP D0.out HSP.out HZP.out (pairC_one (padTo l)) ?_)
          refine bodyPost_ret (results_row_tmp Try.results82 _ w.heap.size 82 _ (0, 0) _ (by rfl) (setRow_heap _ _ _ _ _ _ D0.out) Try.underlying82 rfl HSP.out) rfl ⟨.inl ⟨HP.out, rfl⟩, ?_⟩
          exact below_setRow' DB.out (Nat.le_refl _) _
        · rw [decide_eq_false (fun e => hp (HIF.out.1 e))] at hne
          have HP := hid hp
          clear hp
          go_wp2_with (refine wpList_store_row rfl 82 _ _ rfl w.heap.size zeroP rfl rfl 82 zeroP D0.out Try.size_pair rfl (pairC_one (List.replicate 20 0)) ?_)
          refine bodyPost_ret (results_row_tmp Try.results82 _ w.heap.size 82 _ (0, 0) _ (by rfl) (setRow_heap _ _ _ _ _ _ D0.out) Try.underlying82 rfl Try.size_pair) rfl ⟨.inr ⟨HP.out, rfl⟩, ?_⟩
          exact below_setRow' DB.out (Nat.le_refl _) _
  · rw [decide_eq_false hok]
    have HNo := hid (show ¬ IsPair l from fun h => hok ⟨by have := h.1; omega, by have := h.2.1; omega, by have := h.even; omega⟩)
    go_wp2_with (refine wpList_store_row rfl 82 _ _ rfl w.heap.size zeroP rfl rfl 82 zeroP H0.out Try.size_pair rfl (pairC_one (List.replicate 20 0)) ?_)
    refine bodyPost_ret (results_row_tmp Try.results82 _ w.heap.size 82 _ (0, 0) _ (by rfl) (setRow_heap _ _ _ _ _ _ H0.out) Try.underlying82 rfl Try.size_pair) rfl ⟨.inr ⟨HNo.out, rfl⟩, ?_⟩
    exact below_setRow' HB.out (Nat.le_refl _) _
end Go.Proofs.Ytonhnmpgikmlpaa

/- Pairings of the specification: l5In, by its contract; CrossIn of both. -/
namespace Go.Proofs.Ytonhnmpgikmlpaa
open Go.RowKit Go.Shelf

/-- Whether the list is a pairing, as a bool. -/
noncomputable def isPairB (l : List Int) : Bool := @decide (IsPair l) (Classical.propDecidable _)
theorem isPairB_true {l : List Int} (h : IsPair l) : isPairB l = true := by unfold isPairB; exact @decide_eq_true _ (Classical.propDecidable _) h
theorem isPairB_false {l : List Int} (h : ¬ IsPair l) : isPairB l = false := by unfold isPairB; exact @decide_eq_false _ (Classical.propDecidable _) h

set_option maxRecDepth 100000 in
set_option maxHeartbeats 2000000 in
theorem l5In_any (A : Option Addr) (c B : Nat) (l : List Int) (w : World) (h : Ints w B A l) (hn : l.length ≤ 1048576) :
    Calls Try.prog 149 #[.slice A l.length c] w fun e w' => e = .returned (.bool (isPairB l)) ∧ ∃ d, w' = w.drewN d := by
  have HI := hid h
  obtain ⟨n, hnl⟩ : ∃ n, l.length = n := ⟨_, rfl⟩
  rw [hnl]
  have HNL := hid hnl
  have g1 := hid (fun (x : Int) (w : World) => l6In_any x 0 ((n : Int) - 1) w)
  have g2 := hid (fun (w : World) => l6In_any (n : Int) 4 20 w)
  have HBAD := hid (show ∀ (p : Nat) (x : Int), p < n → l[p]? = some x → (x < 0 ∨ (n : Int) ≤ x ∨ x = (p : Int)) → isPairB l = false from fun p x hp hx hbad => isPairB_false fun hpr => by
    obtain ⟨q, h1, h2, h3, _⟩ := hpr.2.2 p (by rw [hnl]; exact hp)
    rw [hx] at h3
    have := Option.some.inj h3
    rw [hnl] at h1
    omega)
  have HBAD2 := hid (show ∀ (p q : Nat) (y : Int), p < n → l[p]? = some (q : Int) → l[q]? = some y → y ≠ (p : Int) → isPairB l = false from fun p q y hp hx hy hne => isPairB_false fun hpr => by
    obtain ⟨q', h1, h2, h3, h4⟩ := hpr.2.2 p (by rw [hnl]; exact hp)
    rw [hx] at h3
    obtain rfl : q = q' := by have := Option.some.inj h3; omega
    rw [hy] at h4
    exact hne (Option.some.inj h4))
  clear h
  go_enter Try.func149, Try.ntmps149
  go_wp2_with fail
  go_loopw [3] (fun (iv : Value) (wr : World) => ∃ k : Nat, k ≤ n ∧ iv = .int .i64 k ∧ Hid (∀ p, p < k → ∃ q, q < l.length ∧ q ≠ p ∧ l[p]? = some (q : Int) ∧ l[q]? = some (p : Int)) ∧ ∃ d, wr = w.drewN d) (fun i _ => n - (intOf i).toNat)
  case atStart => exact ⟨0, by omega, rfl, hid (fun p hp => absurd hp (by omega)), 0, rfl⟩
  case round =>
    obtain ⟨k, hk, rfl, hall, d, rfl⟩ := hrel
    have HALL := hall
    clear hall
    by_cases hlt : k < n
    · obtain ⟨b, off, x, rfl, hbw, hks, hc⟩ := HI.out.at_ (k := k) (by rw [HNL.out]; exact hlt)
      have hcd : (w.drewN d).cell? ⟨b, off + k, none⟩ = some (.int .i64 x) := hc
      have HKS := hid hks
      clear hks hbw hc
      go_wp2_with fail
      refine (g1.out x _).mono ?_
      rintro e w1 ⟨rfl, rfl⟩
      by_cases hin : 0 ≤ x ∧ x ≤ (n : Int) - 1
      · rw [decide_eq_true hin]
        obtain ⟨hx0, hxn⟩ := hin
        obtain ⟨q, rfl⟩ : ∃ q : Nat, x = (q : Int) := ⟨x.toNat, by omega⟩
        have hqn : q < n := by omega
        by_cases hxk : q = k
        · have HF := hid (HBAD.out k (q : Int) hlt HKS.out (.inr (.inr (by omega))))
          subst hxk
          go_wp2_with fail
          go_ret
          exact ⟨by rw [HF.out]; rfl, _, rfl⟩
        · have hxki : ¬ (q : Int) = (k : Int) := by omega
          obtain ⟨b', off', y, hA, hbw', hks', hc'⟩ := HI.out.at_ (k := q) (by rw [HNL.out]; exact hqn)
          have hcd' : (w.drewN d).cell? ⟨b, off + q, none⟩ = some (.int .i64 y) := by
            have e := Option.some.inj hA
            have e1 := congrArg Addr.block e
            have e2 := congrArg Addr.off e
            simp only at e1 e2
            rw [e1, e2]
            exact hc'
          have HKS' := hid hks'
          clear hA hbw' hks' hc'
          by_cases hyk : y = (k : Int)
          · have HKS2 := hid (show l[q]? = some (k : Int) by rw [HKS'.out, hyk])
            rw [hyk] at hcd'
            clear HKS' hyk
            go_wp2_with fail
            go_roundw
            case rel => exact ⟨k + 1, by omega, by go_num, hid (fun p hp => by
              by_cases hpk : p = k
              · subst hpk
                exact ⟨q, by rw [HNL.out]; exact hqn, hxk, HKS.out, HKS2.out⟩
              · exact HALL.out p (by omega)), _, rfl⟩
            case measure => simp [intOf]; omega
          · have HF := hid (HBAD2.out k q y hlt HKS.out HKS'.out hyk)
            have hyb : (y != (k : Int)) = true := by simpa using hyk
            go_wp2_with fail
            go_ret
            exact ⟨by rw [HF.out]; rfl, _, rfl⟩
      · have HF := hid (HBAD.out k x hlt HKS.out (by omega))
        rw [decide_eq_false hin]
        go_wp2_with fail
        go_ret
        exact ⟨by rw [HF.out]; rfl, _, rfl⟩
    · obtain rfl : k = n := by omega
      go_wp2_with fail
      refine (g2.out _).mono ?_
      rintro e w1 ⟨rfl, rfl⟩
      by_cases hin : 4 ≤ k ∧ k ≤ 20
      · have HF := hid (isPairB_true (l := l) ⟨by rw [HNL.out]; exact hin.1, by rw [HNL.out]; exact hin.2, fun p hp => HALL.out p (by rw [← HNL.out]; exact hp)⟩)
        rw [decide_eq_true (show (4 : Int) ≤ (k : Int) ∧ (k : Int) ≤ 20 by omega)]
        go_wp2_with fail
        go_ret
        exact ⟨by rw [HF.out]; rfl, _, rfl⟩
      · have HF := hid (isPairB_false (l := l) fun h => hin ⟨by have := h.1; rw [HNL.out] at this; exact this, by have := h.2.1; rw [HNL.out] at this; exact this⟩)
        rw [decide_eq_false (show ¬ ((4 : Int) ≤ (k : Int) ∧ (k : Int) ≤ 20) by omega)]
        go_wp2_with fail
        go_ret
        exact ⟨by rw [HF.out]; rfl, _, rfl⟩

set_option maxRecDepth 100000 in
set_option maxHeartbeats 2000000 in
theorem implCrossIn_any (A : Option Addr) (c : Nat) (l : List Int) (w : World) (h : Ints w w.heap.size A l) (hn : l.length ≤ 1048576) :
    Calls Try.prog 57 #[.slice A l.length c] w fun e w' => e = .returned (.bool (isPairB l)) ∧ Below w.heap.size w w' := by
  have H := hid (readPairing_any A c l w h hn)
  have HSP := hid (fun (h : l.length ≤ 20) => show (Try.prog.info? 82).map (·.size) = some (pairC (padTo l)).size by rw [pairC_size, padTo_length h]; exact Try.size_pair)
  have HZP := hid (fun (h : l.length ≤ 20) => show zeroP.size = (pairC (padTo l)).size by rw [pairC_size, padTo_length h]; rfl)
  go_enter Try.func57, Try.ntmps57
  go_wp2_with fail
  refine H.out.mono ?_
  rintro e w1 ⟨⟨hp, rfl⟩ | ⟨hp, rfl⟩, hb⟩
  · have HT := hid (isPairB_true hp)
    have HSP2 := hid (HSP.out hp.2.1)
    have HZP2 := hid (HZP.out hp.2.1)
    have HB := hid hb
    clear hb hp
    have N0 := hid (heap_new0 w1 (.cells zeroP 82))
    have NB := hid (below_setRow' (HB.out.alloc HB.out.size (.cells zeroP 82)) HB.out.size (pairC (padTo l)))
    go_wp2_with (refine wpList_store_row rfl 82 _ _ rfl w1.heap.size (pairC (padTo l)) rfl rfl 82 zeroP N0.out HSP2.out HZP2.out (pairC_one (padTo l)) ?_)
    go_ret
    exact ⟨by rw [HT.out]; rfl, NB.out⟩
  · have HT := hid (isPairB_false hp)
    have HB := hid hb
    clear hb hp
    have N0 := hid (heap_new0 w1 (.cells zeroP 82))
    have NB := hid (below_setRow' (HB.out.alloc HB.out.size (.cells zeroP 82)) HB.out.size zeroP)
    go_wp2_with (refine wpList_store_row rfl 82 _ _ rfl w1.heap.size zeroP rfl rfl 82 zeroP N0.out Try.size_pair rfl (pairC_one (List.replicate 20 0)) ?_)
    go_ret
    exact ⟨by rw [HT.out]; rfl, NB.out⟩
end Go.Proofs.Ytonhnmpgikmlpaa

/- Pairings that are turned: in plain words, and of the program, by their contracts. -/
namespace Go.Proofs.Ytonhnmpgikmlpaa
open Go.RowKit Go.Shelf

theorem turn_inv {n k j : Nat} (hj : j < n) : ((j + (n - k % n)) % n + k) % n = j := by
  have hn : 0 < n := by omega
  have hr : k % n < n := Nat.mod_lt _ hn
  have hk : n * (k / n) + k % n = k := Nat.div_add_mod k n
  rw [Nat.mod_add_mod, show j + (n - k % n) + k = j + n * (k / n + 1) by rw [Nat.mul_add, Nat.mul_one]; omega, Nat.add_mul_mod_self_left, Nat.mod_eq_of_lt hj]
theorem turn_back {n k q : Nat} (hq : q < n) : ((q + k) % n + (n - k % n)) % n = q := by
  have hn : 0 < n := by omega
  have hr : k % n < n := Nat.mod_lt _ hn
  have hk : n * (k / n) + k % n = k := Nat.div_add_mod k n
  rw [Nat.mod_add_mod, show q + k + (n - k % n) = q + n * (k / n + 1) by rw [Nat.mul_add, Nat.mul_one]; omega, Nat.add_mul_mod_self_left, Nat.mod_eq_of_lt hq]
theorem turn_inj {n k q q' : Nat} (hq : q < n) (hq' : q' < n) (h : (q + k) % n = (q' + k) % n) : q = q' := by
  rw [← turn_back (k := k) hq, h, turn_back hq']
/-- The partner, turned. -/
def turnV (l : List Int) (k q : Nat) : Int := (((mateN l q + k) % l.length : Nat) : Int)
/-- The pairing of the same pairs for ports with numbers k greater. -/
def turnL (l : List Int) (k : Nat) : List Int := (List.range l.length).map fun j => turnV l k ((j + (l.length - k % l.length)) % l.length)
theorem turnL_length (l : List Int) (k : Nat) : (turnL l k).length = l.length := by simp [turnL]
theorem turnL_at {l : List Int} {k q : Nat} (hq : q < l.length) : (turnL l k)[(q + k) % l.length]? = some (turnV l k q) := by
  unfold turnL
  rw [List.getElem?_map, List.getElem?_range (Nat.mod_lt _ (by omega)), Option.map_some, turn_back hq]
/-- A list that has all partners turned is it. -/
theorem turn_all {l L : List Int} {k : Nat} (hL : L.length = l.length) (h : ∀ q, q < l.length → L[(q + k) % l.length]? = some (turnV l k q)) : L = turnL l k := by
  refine List.ext_getElem? fun j => ?_
  by_cases hj : j < l.length
  · have hq : (j + (l.length - k % l.length)) % l.length < l.length := Nat.mod_lt _ (by omega)
    have h1 := h _ hq
    have h2 := turnL_at (k := k) hq
    rw [turn_inv hj] at h1 h2
    rw [h1, h2]
  · rw [List.getElem?_eq_none (by omega), List.getElem?_eq_none (by rw [turnL_length]; omega)]
theorem turn_pad {l L : List Int} {k : Nat} (h20 : l.length ≤ 20) (hL : L.length = 20) (h : ∀ q, q < l.length → L[(q + k) % l.length]? = some (turnV l k q)) (hb : ∀ j, l.length ≤ j → j < 20 → L[j]? = some (j : Int)) : L = padTo (turnL l k) := by
  refine List.ext_getElem? fun j => ?_
  by_cases hj : j < l.length
  · have hq : (j + (l.length - k % l.length)) % l.length < l.length := Nat.mod_lt _ (by omega)
    have h1 := h _ hq
    have h2 := turnL_at (k := k) hq
    rw [turn_inv hj] at h1 h2
    rw [h1, padTo_at h2]
  · by_cases hj2 : j < 20
    · rw [hb j (by omega) hj2, padTo_behind (by rw [turnL_length]; omega) hj2]
    · rw [List.getElem?_eq_none (by omega), List.getElem?_eq_none (by rw [padTo_length (by rw [turnL_length]; exact h20)]; omega)]
theorem turn_ports {l : List Int} {k : Nat} (h : IsPair l) : portsN (padTo (turnL l k)) = l.length := by
  have e := portsN_pad (l := turnL l k) (by rw [turnL_length]; exact h.2.1) fun p hp => by
    rw [turnL_length] at hp
    have hq : (p + (l.length - k % l.length)) % l.length < l.length := Nat.mod_lt _ (by omega)
    have h2 := turnL_at (k := k) hq
    rw [turn_inv hp] at h2
    rw [h2]
    intro e
    have e2 := Option.some.inj e
    unfold turnV at e2
    have e3 : (mateN l ((p + (l.length - k % l.length)) % l.length) + k) % l.length = p := by omega
    have hm := h.mates hq
    refine hm.2.1 (turn_inj (k := k) hm.1 hq ?_)
    exact e3.trans (turn_inv hp).symm
  rw [e, turnL_length]

end Go.Proofs.Ytonhnmpgikmlpaa

/- Pairings handed back as lists: slices.Clone, list, CrossTurn of the program, by their contracts. -/
namespace Go.Proofs.Ytonhnmpgikmlpaa
open Go.RowKit Go.Shelf

theorem run_eql_slice_nil (a : Addr) (n c : Nat) (w : World) : (binOp .eql 32 (.slice (some a) n c) (.slice none 0 0)).run Try.prog w = .ok (.bool false) w := by
  have h : ∀ d : Nat, (Op.equalIn (d + 1) 32 (.slice (some a) n c) (.slice none 0 0)).run Try.prog w = .ok false w := fun d => by
    simp [Op.equalIn, run_underlying Try.underlying32]
  simp only [binOp]
  simp [Op.equal, Op.maxDepth, h 9999]

set_option maxRecDepth 100000 in
set_option maxHeartbeats 2000000 in
theorem clone_any (g c : Nat) (l : List Int) (cs : Array Value) (t : TypeId) (w : World) (hg : w.heap[g]? = some (.cells cs t (0, 0))) (hc : ∀ (k : Nat) (x : Int), l[k]? = some x → cs[k]? = some (.int .i64 x)) (hl : l.length ≤ 20) :
    Calls Try.prog 152 #[.slice (some ⟨g, 0, none⟩) l.length c] w fun e w' => ∃ v, e = .returned v ∧ GrowI w' w.heap.size v l ∧ Below w.heap.size w w' := by
  have HG0 := hid (growI_new w w.heap.size (Nat.le_refl _))
  have HB := hid ((Below.refl w.heap.size w).alloc (Nat.le_refl _) (.cells #[] 3))
  have hnews : ∀ (j : Nat) (u : Value), (intsV l)[j]? = some u → (w.alloc (.cells #[] 3)).cell? ((⟨g, 0, none⟩ : Addr).add j) = some u := fun j u hj => by
    unfold intsV at hj
    rw [List.getElem?_map] at hj
    cases hlj : l[j]? with
    | none => rw [hlj] at hj; cases hj
    | some x =>
      rw [hlj] at hj
      cases hj
      have ha : (Addr.add ⟨g, 0, none⟩ j : Addr) = ⟨g, j, none⟩ := by unfold Addr.add; split <;> simp_all
      rw [ha, cell_of_row _ _ _ _ _ _ ((Below.heap_alloc _ _ _ (lt_of_block hg)).trans hg)]
      exact hc j x hlj
  have HN := hid hnews
  have HL := hid hl
  obtain ⟨i0, hi, hi0, hi1, hi2⟩ := info_parts Try.info_int
  have HII := hid hi
  clear hnews hi hg hc hl
  have heq := run_eql_slice_nil ⟨g, 0, none⟩ l.length c w
  go_enter Try.func152, Try.ntmps152
  go_wp2_with (at_builtin; refine wpList_append_own _ rfl _ _ 32 rfl w.heap.size 3 i0 (.int .i64 0) 1 8 Try.underlying32 HII.out hi0 hi1 hi2 rfl (by decide) (.slice (some ⟨w.heap.size, 0, none⟩) 0 0) 0 [] rfl HG0.out ⟨g, 0, none⟩ l.length c (intsV l) rfl (by simp [intsV]) HN.out (intsV_one _) ?c2 ?c3 ?c4 ?_)
  case c2 => unfold maxLen; have := HL.out; omega
  case c3 => have := HL.out; omega
  case c4 => simp
  intro v' w1 hown hgw _
  have HB1 := hid (HB.out.grown hgw (by simp) (fun k e => by cases e; exact Nat.le_refl _))
  have HG1 := hid (show GrowI w1 w.heap.size v' l by
    unfold GrowI
    simpa using hown)
  clear hown hgw
  go_wp2_with fail
  go_ret
  exact ⟨_, rfl, HG1.out, HB1.out⟩

set_option maxRecDepth 100000 in
set_option maxHeartbeats 2000000 in
theorem plist_any (l : List Int) (w : World) (h20 : l.length ≤ 20) (h : portsN (padTo l) = l.length) :
    Calls Try.prog 96 #[.agg (pairC (padTo l))] w fun e w' => ∃ v, e = .returned v ∧ GrowI w' w.heap.size v l ∧ Below w.heap.size w w' := by
  have HS := hid (show (Try.prog.info? 82).map (·.size) = some (pairC (padTo l)).size by rw [pairC_size, padTo_length h20]; exact Try.size_pair)
  have HPO := hid (fun w' => pports_any (padTo l) w' (padTo_length h20))
  rw [h] at HPO
  have HCL := hid (fun (g c : Nat) (w' : World) (hg : w'.heap[g]? = some (.cells (pairC (padTo l)) 82 (0, 0))) => clone_any g c l (pairC (padTo l)) 82 w' hg (fun k x hk => pairC_at (padTo_at hk)) h20)
  obtain ⟨n, hn⟩ : ∃ n, l.length = n := ⟨_, rfl⟩
  rw [hn] at HPO HCL h20
  clear h hn
  generalize pairC (padTo l) = cs at *
  have H0 := hid (heap_new0 w (.cells cs 82))
  have HB := hid ((Below.refl w.heap.size w).alloc (Nat.le_refl _) (.cells cs 82))
  have hni : (n : Int) ≤ 20 := by omega
  go_enter Try.func96, Try.ntmps96
  go_wp2_with (refine wpList_load_row rfl 82 _ rfl w.heap.size rfl 82 cs (0, 0) _ H0.out Try.underlying82 rfl HS.out ?_)
  generalize World.alloc w _ = Y at H0 HB ⊢
  refine (HPO.out _).mono ?_
  rintro e w1 ⟨rfl, hb1⟩
  have I0 := hid ((hb1.block _ (lt_of_block H0.out)).trans H0.out)
  have IB := hid (HB.out.trans (hb1.mono HB.out.size))
  clear hb1
  go_wp2_with fail
  refine (HCL.out w.heap.size 20 w1 I0.out).mono ?_
  rintro e w2 ⟨v, rfl, hg2, hb2⟩
  have HG2 := hid (hg2.lower IB.out.size)
  have HB2 := hid (IB.out.trans (hb2.mono IB.out.size))
  clear hg2 hb2
  go_wp2_with fail
  go_ret
  exact ⟨_, rfl, HG2.out, HB2.out⟩

/-- What CrossTurn comes to. -/
def TurnOut (l : List Int) (k : Int) (res : List Int) (ok : Bool) : Prop :=
  (∃ kn : Nat, IsPair l ∧ kn ≤ 20 ∧ k = (kn : Int) ∧ res = turnL l kn ∧ ok = true) ∨ (¬ (IsPair l ∧ 0 ≤ k ∧ k ≤ 20) ∧ res = [] ∧ ok = false)
theorem TurnOut.uniq {l : List Int} {k : Int} {r r' : List Int} {ok ok' : Bool} (h : TurnOut l k r ok) (h' : TurnOut l k r' ok') : ok' = ok ∧ r' = r := by
  rcases h with ⟨kn, h1, h2, h3, rfl, rfl⟩ | ⟨h1, rfl, rfl⟩ <;> rcases h' with ⟨kn', h1', h2', h3', rfl, rfl⟩ | ⟨h1', rfl, rfl⟩
  · obtain rfl : kn = kn' := by omega
    exact ⟨rfl, rfl⟩
  · exact absurd ⟨h1, by omega, by omega⟩ h1'
  · exact absurd ⟨h1', by omega, by omega⟩ h1
  · exact ⟨rfl, rfl⟩
theorem TurnOut.len {l : List Int} {k : Int} {r : List Int} {ok : Bool} (h : TurnOut l k r ok) : r.length ≤ 1048576 := by
  rcases h with ⟨kn, h1, _, _, rfl, _⟩ | ⟨_, rfl, _⟩
  · rw [turnL_length]; have := h1.2.1; omega
  · simp

/-- The cells that CrossTurn of the specification has filled after p rounds. -/
def Turned (l : List Int) (k p : Nat) (C : Array Value) : Prop :=
  C.size = l.length ∧ (∀ q, q < p → C[(q + k) % l.length]? = some (Value.int .i64 (turnV l k q)))
theorem Turned.zero (l : List Int) (k : Nat) : Turned l k 0 (madeCells #[Value.int .i64 0] l.length) :=
  ⟨size_madeCells _ _, fun i h => absurd h (by omega)⟩
theorem Turned.step {l : List Int} {k p : Nat} {C : Array Value} (h : Turned l k p C) (hp : p < l.length) : Turned l k (p + 1) (C.setIfInBounds ((p + k) % l.length) (.int .i64 (turnV l k p))) := by
  refine ⟨by simpa using h.1, fun q hq => ?_⟩
  rw [Array.getElem?_setIfInBounds]
  have hlt : (p + k) % l.length < l.length := Nat.mod_lt _ (by omega)
  by_cases e : (p + k) % l.length = (q + k) % l.length
  · rw [if_pos e, if_pos (by rw [h.1]; exact hlt)]
    have := turn_inj hp (by omega) e
    rw [this]
  · rw [if_neg e]
    exact h.2 q (by
      rcases Nat.lt_or_ge q p with h1 | h1
      · exact h1
      · exact absurd (by rw [show q = p by omega]) e)
theorem Turned.all {l : List Int} {k : Nat} {C : Array Value} (h : Turned l k l.length C) : ∀ (j : Nat) (x : Int), (turnL l k)[j]? = some x → C[j]? = some (.int .i64 x) := fun j x hj => by
  have hlt := (List.getElem?_eq_some_iff.1 hj).1
  rw [turnL_length] at hlt
  have hq : (j + (l.length - k % l.length)) % l.length < l.length := Nat.mod_lt _ (by omega)
  have h1 := h.2 _ hq
  have h2 := turnL_at (k := k) hq
  rw [turn_inv hlt] at h1 h2
  rw [h2] at hj
  cases hj
  exact h1
end Go.Proofs.Ytonhnmpgikmlpaa

/- Pairs that cross, counted: of the program and of the specification, by their contracts. -/
namespace Go.Proofs.Ytonhnmpgikmlpaa
open Go.RowKit Go.Shelf

/-- The pairs of p and q cross, p being the first of the four ports, q the second. -/
def crossB (f : Nat → Int) (p q : Nat) : Bool := decide (p < q ∧ (q : Int) < f p ∧ f p < f q)
def rowC (f : Nat → Int) (p M : Nat) : Nat := (List.range M).countP (crossB f p)
theorem rowC_succ (f : Nat → Int) (p M : Nat) : rowC f p (M + 1) = rowC f p M + (if crossB f p M = true then 1 else 0) := by
  unfold rowC
  rw [List.range_succ, List.countP_append, List.countP_cons, List.countP_nil]
  omega
theorem rowC_le (f : Nat → Int) (p M : Nat) : rowC f p M ≤ M := by
  have := List.countP_le_length (p := crossB f p) (l := List.range M)
  rwa [List.length_range] at this
theorem rowC_low (f : Nat → Int) (p : Nat) : ∀ M, M ≤ p + 1 → rowC f p M = 0
  | 0, _ => rfl
  | M + 1, h => by
    rw [rowC_succ, rowC_low f p M (by omega), if_neg]
    unfold crossB
    rw [decide_eq_true_iff]
    omega
theorem rowC_high (f : Nat → Int) (p s : Nat) (h : f p ≤ (s : Int)) : ∀ M, s ≤ M → rowC f p M = rowC f p s := fun M hM => by
  obtain ⟨d, rfl⟩ : ∃ d, M = s + d := ⟨M - s, by omega⟩
  clear hM
  induction d with
  | zero => rfl
  | succ d ih =>
    rw [← Nat.add_assoc, rowC_succ, ih, if_neg]
    · rfl
    · unfold crossB
      rw [decide_eq_true_iff]
      omega
/-- All pairs that cross, among the first N and M ports. -/
def chordsC (f : Nat → Int) (M N : Nat) : Nat := sumN (fun p => rowC f p M) N
theorem chordsC_le (f : Nat → Int) (M : Nat) : ∀ N, chordsC f M N ≤ N * M
  | 0 => by simp [chordsC, sumN]
  | N + 1 => by
    have h1 := chordsC_le f M N
    have h2 := rowC_le f N M
    unfold chordsC at h1 ⊢
    rw [sumN, Nat.add_mul]
    omega
def intAt (l : List Int) (k : Nat) : Int := l.getD k 0
theorem intAt_eq {l : List Int} {k : Nat} {x : Int} (h : l[k]? = some x) : intAt l k = x := by
  unfold intAt
  rw [List.getD_eq_getElem?_getD, h]
  rfl
/-- The same of the filled list. -/
theorem chords_pad {l : List Int} (h : IsPair l) : chordsC (intAt (padTo l)) 20 20 = chordsC (intAt l) l.length l.length := by
  have h20 := h.2.1
  have e1 : ∀ p, p < l.length → intAt (padTo l) p = intAt l p := fun p hp => by
    rw [intAt_eq (padTo_at (List.getElem?_eq_getElem hp)), intAt_eq (List.getElem?_eq_getElem hp)]
  have e2 : ∀ p, l.length ≤ p → p < 20 → intAt (padTo l) p = p := fun p hp hk => intAt_eq (padTo_behind hp hk)
  have e3 : ∀ p, p < l.length → intAt l p < l.length := fun p hp => by
    obtain ⟨q, h1, _, h3, _⟩ := h.2.2 p hp
    rw [intAt_eq h3]
    omega
  have hrow : ∀ p, p < l.length → rowC (intAt (padTo l)) p 20 = rowC (intAt l) p l.length := fun p hp => by
    rw [rowC_high _ p l.length (by rw [e1 p hp]; have := e3 p hp; omega) 20 h20]
    unfold rowC
    refine List.countP_congr fun q hq => ?_
    have hq := List.mem_range.1 hq
    unfold crossB
    rw [e1 p hp, e1 q hq]
  have hzero : ∀ p, l.length ≤ p → p < 20 → rowC (intAt (padTo l)) p 20 = 0 := fun p hp hk => by
    rw [rowC_high _ p p (by rw [e2 p hp hk]; exact Int.le_refl _) 20 (by omega)]
    exact rowC_low _ p p (by omega)
  have main : ∀ d, l.length + d ≤ 20 → chordsC (intAt (padTo l)) 20 (l.length + d) = chordsC (intAt l) l.length l.length := fun d => by
    induction d with
    | zero =>
      intro _
      exact sumN_congr _ fun p hp => hrow p hp
    | succ d ih =>
      intro hd
      have := ih (by omega)
      unfold chordsC at this ⊢
      rw [← Nat.add_assoc, sumN, this, hzero _ (by omega) (by omega), Nat.add_zero]
  have := main (20 - l.length) (by omega)
  rwa [show l.length + (20 - l.length) = 20 by omega] at this

set_option maxRecDepth 100000 in
set_option maxHeartbeats 2000000 in
theorem chords_any (l : List Int) (w : World) (hl : l.length = 20) (hx : ∀ k : Nat, k < 20 → ∃ q : Nat, q < 20 ∧ l[k]? = some (q : Int)) :
    Calls Try.prog 83 #[.agg (pairC l)] w fun e w' => e = .returned (.int .i64 ((chordsC (intAt l) 20 20 : Nat) : Int)) ∧ Below w.heap.size w w' := by
  have HS := hid (show (Try.prog.info? 82).map (·.size) = some (pairC l).size by rw [pairC_size, hl]; exact Try.size_pair)
  have HX := hid (show ∀ k : Nat, k < 20 → ∃ q : Nat, q < 20 ∧ (pairC l)[k]? = some (.int .i64 (q : Int)) ∧ intAt l k = (q : Int) from fun k hk => by
    obtain ⟨q, h1, h2⟩ := hx k hk
    exact ⟨q, h1, pairC_at h2, intAt_eq h2⟩)
  clear hx
  generalize intAt l = f at *
  generalize pairC l = cs at *
  have H0 := hid (heap_new0 w (.cells cs 82))
  have HB := hid ((Below.refl w.heap.size w).alloc (Nat.le_refl _) (.cells cs 82))
  go_enter Try.func83, Try.ntmps83
  go_wp2_with (refine wpList_load_row rfl 82 _ rfl w.heap.size rfl 82 cs (0, 0) _ H0.out Try.underlying82 rfl HS.out ?_)
  generalize World.alloc w _ = Y at H0 HB ⊢
  go_loopw [3, 8] (fun (v iv : Value) (wr : World) => ∃ k : Nat, k ≤ 20 ∧ iv = .int .i64 k ∧ v = .int .i64 ((chordsC f 20 k : Nat) : Int) ∧ wr = Y) (fun _ i _ => 20 - (intOf i).toNat)
  case atStart => exact ⟨0, by omega, rfl, rfl, rfl⟩
  case round =>
    obtain ⟨k, hk, rfl, rfl, rfl⟩ := hrel
    have hle := chordsC_le f 20 k
    have hsn : chordsC f 20 (k + 1) = chordsC f 20 k + rowC f k 20 := rfl
    have hle' : chordsC f 20 k ≤ 400 := by omega
    obtain ⟨gk, hgk⟩ : ∃ gk, chordsC f 20 k = gk := ⟨_, rfl⟩
    have HGK := hid hgk
    have HSN := hid hsn
    rw [hgk] at hle' ⊢
    clear hle hsn hgk
    by_cases hlt : k < 20
    · obtain ⟨t, ht, hct, hft⟩ := HX.out k hlt
      have hidx := run_index_pair wr hlt hct
      have HFT := hid hft
      clear hct hft
      go_wp2_with fail
      go_loopw [3, 6] (fun (v iv : Value) (wr2 : World) => ∃ s : Nat, k + 1 ≤ s ∧ (s ≤ t ∨ s = k + 1) ∧ iv = .int .i64 s ∧ v = .int .i64 ((gk + rowC f k s : Nat) : Int) ∧ wr2 = wr) (fun _ i _ => 20 - (intOf i).toNat)
      case atStart => exact ⟨k + 1, by omega, .inr rfl, by go_num, by rw [rowC_low f k (k + 1) (by omega)]; rfl, rfl⟩
      case round =>
        obtain ⟨s, hs1, hs2, rfl, rfl, rfl⟩ := hrel
        have hrl := rowC_le f k s
        have hrs := rowC_succ f k s
        obtain ⟨rs, hrs2⟩ : ∃ rs, rowC f k s = rs := ⟨_, rfl⟩
        rw [hrs2] at hrl hrs ⊢
        obtain ⟨tot, htot⟩ : ∃ tot, gk + rs = tot := ⟨_, rfl⟩
        have HTOT := hid htot
        have HRS2 := hid hrs2
        rw [htot]
        clear hrs2
        by_cases hst : s < t
        · obtain ⟨y, hy, hcy, hfy⟩ := HX.out s (by omega)
          have hcell : wr.cell? ⟨w.heap.size, s, none⟩ = some (.int .i64 (y : Int)) := by rw [cell_of_row _ _ _ _ _ _ H0.out]; exact hcy
          have HY := hid hfy
          have htot2 : tot ≤ 420 := by omega
          clear hcy hfy
          by_cases hyt : t < y
          · have HC := hid (show rowC f k (s + 1) = rs + 1 by
              rw [hrs, if_pos]
              unfold crossB
              rw [decide_eq_true_iff, HFT.out, HY.out]
              omega)
            have hyi : (t : Int) < (y : Int) := by omega
            clear hrs htot
            go_wp2_with fail
            go_roundw
            case rel => exact ⟨s + 1, by omega, .inl (by omega), by go_num, by rw [HC.out, ← Nat.add_assoc, HTOT.out]; go_num, (by first | rfl | trivial)⟩
            case measure => simp [intOf]; omega
          · have HC := hid (show rowC f k (s + 1) = rs by
              rw [hrs, if_neg, Nat.add_zero]
              unfold crossB
              rw [decide_eq_true_iff, HFT.out, HY.out]
              omega)
            have hyi : ¬ (t : Int) < (y : Int) := by omega
            clear hrs htot
            go_wp2_with fail
            go_roundw
            case rel => exact ⟨s + 1, by omega, .inl (by omega), by go_num, by rw [HC.out, HTOT.out], (by first | rfl | trivial)⟩
            case measure => simp [intOf]; omega
        · have HC := hid (show chordsC f 20 (k + 1) = tot by
            rw [HSN.out, HGK.out, ← HTOT.out, ← HRS2.out]
            congr 1
            exact rowC_high f k s (by rw [HFT.out]; omega) 20 (by omega))
          have hsti : ¬ (s : Int) < (t : Int) := by omega
          clear hrs htot
          go_wp2_with fail
          go_roundw
          case rel => exact ⟨k + 1, by omega, by go_num, by rw [HC.out], (by first | rfl | trivial)⟩
          case measure => simp [intOf]; omega
    · obtain rfl : k = 20 := by omega
      go_wp2_with fail
      go_ret
      exact ⟨by rw [HGK.out]; rfl, HB.out⟩

/-- What CrossChords comes to. -/
def ChordOut (l : List Int) (x : Int) (ok : Bool) : Prop := (IsPair l ∧ x = ((chordsC (intAt l) l.length l.length : Nat) : Int) ∧ ok = true) ∨ (¬ IsPair l ∧ x = 0 ∧ ok = false)
theorem ChordOut.uniq {l : List Int} {x x' : Int} {ok ok' : Bool} (h : ChordOut l x ok) (h' : ChordOut l x' ok') : x' = x ∧ ok' = ok := by
  rcases h with ⟨h1, rfl, rfl⟩ | ⟨h1, rfl, rfl⟩ <;> rcases h' with ⟨h1', rfl, rfl⟩ | ⟨h1', rfl, rfl⟩
  · exact ⟨rfl, rfl⟩
  · exact absurd h1 h1'
  · exact absurd h1' h1
  · exact ⟨rfl, rfl⟩

set_option maxRecDepth 100000 in
set_option maxHeartbeats 2000000 in
theorem implCrossChords_any (A : Option Addr) (c : Nat) (l : List Int) (w : World) (h : Ints w w.heap.size A l) (hn : l.length ≤ 1048576) :
    Calls Try.prog 27 #[.slice A l.length c] w fun e w' => Below w.heap.size w w' ∧ ∃ x ok, e = .returned (.tuple #[.int .i64 x, .bool ok]) ∧ ChordOut l x ok := by
  have H := hid (readPairing_any A c l w h hn)
  have HSP := hid (fun (h : l.length ≤ 20) => show (Try.prog.info? 82).map (·.size) = some (pairC (padTo l)).size by rw [pairC_size, padTo_length h]; exact Try.size_pair)
  have HZP := hid (fun (h : l.length ≤ 20) => show zeroP.size = (pairC (padTo l)).size by rw [pairC_size, padTo_length h]; rfl)
  go_enter Try.func27, Try.ntmps27
  go_wp2_with fail
  refine H.out.mono ?_
  rintro e w1 ⟨⟨hp, rfl⟩ | ⟨hp, rfl⟩, hb⟩
  · have HP := hid hp
    have HSP2 := hid (HSP.out hp.2.1)
    have HZP2 := hid (HZP.out hp.2.1)
    have HB := hid hb
    have HCH := hid (fun w' => chords_any (padTo l) w' (padTo_length hp.2.1) (pad_in hp.2.1 fun p h => by obtain ⟨q, a1, a2, a3, _⟩ := hp.2.2 p h; exact ⟨q, a1, a2, a3⟩))
    rw [chords_pad hp] at HCH
    clear hb hp
    have N0 := hid (heap_new0 w1 (.cells zeroP 82))
    have NB := hid (below_setRow' (HB.out.alloc HB.out.size (.cells zeroP 82)) HB.out.size (pairC (padTo l)))
    have N1 := hid (setRow_heap _ _ _ (pairC (padTo l)) _ _ N0.out)
    generalize hY : World.setRow (w1.alloc (.cells zeroP 82)) w1.heap.size (pairC (padTo l)) = Y at NB N1
    have HY := hid hY
    clear hY
    go_wp2_with (first
      | (refine wpList_store_row rfl 82 _ _ rfl w1.heap.size (pairC (padTo l)) rfl rfl 82 zeroP N0.out HSP2.out HZP2.out (pairC_one (padTo l)) ?_; rw [HY.out])
      | refine wpList_load_row rfl 82 _ rfl w1.heap.size rfl 82 (pairC (padTo l)) (0, 0) _ N1.out Try.underlying82 rfl HSP2.out ?_)
    refine (HCH.out _).mono ?_
    rintro e w2 ⟨rfl, hb2⟩
    have B2 := hid (NB.out.trans (hb2.mono NB.out.size))
    clear hb2
    go_wp2_with fail
    refine bodyPost_ret (results_tmp2 rfl _ _ _) rfl ?_
    exact ⟨B2.out, _, true, rfl, .inl ⟨HP.out, rfl, rfl⟩⟩
  · have HP := hid hp
    have HB := hid hb
    clear hb hp
    have N0 := hid (heap_new0 w1 (.cells zeroP 82))
    have NB := hid (below_setRow' (HB.out.alloc HB.out.size (.cells zeroP 82)) HB.out.size zeroP)
    go_wp2_with (refine wpList_store_row rfl 82 _ _ rfl w1.heap.size zeroP rfl rfl 82 zeroP N0.out Try.size_pair rfl (pairC_one (List.replicate 20 0)) ?_)
    refine bodyPost_ret (results_tmp2 rfl _ _ _) rfl ?_
    exact ⟨NB.out, 0, false, rfl, .inr ⟨HP.out, rfl, rfl⟩⟩
end Go.Proofs.Ytonhnmpgikmlpaa
