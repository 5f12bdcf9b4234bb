/- Pairings of the program: ports, pairedPortsIn, readPairing, by their contracts. -/
import Derived.Test.YtkkifpjeafchnaaBunI
namespace Go.Proofs.Ytkkifpjeafchnaa
open Go.RowKit Go.Shelf

theorem cnt_snoc (p : Nat → Bool) (k : Nat) : (List.range (k + 1)).countP p = (List.range k).countP p + (if p k = true then 1 else 0) := by
  rw [List.range_succ, List.countP_append, List.countP_cons, List.countP_nil]
  omega
theorem cnt_le (p : Nat → Bool) (k : Nat) : (List.range k).countP p ≤ k := by
  have := List.countP_le_length (p := p) (l := List.range k)
  rwa [List.length_range] at this

set_option maxRecDepth 100000 in
set_option maxHeartbeats 2000000 in
theorem pports_any (l : List Int) (w : World) (hl : l.length = 20) :
    Calls Try.prog 102 #[.agg (pairC l)] w fun e w' => e = .returned (.int .i64 ((portsN l : Nat) : Int)) ∧ Below w.heap.size w w' := by
  have HS := hid (show (Try.prog.info? 60).map (·.size) = some (pairC l).size by rw [pairC_size, hl]; exact Try.size_pair)
  have HX := hid (show ∀ k : Nat, k < 20 → ∃ x : Int, (pairC l)[k]? = some (.int .i64 x) ∧ (l[k]? != some (k : Int)) = (x != (k : Int)) from fun k hk => by
    have e : l[k]? = some (l[k]'(by omega)) := List.getElem?_eq_getElem (by omega)
    refine ⟨_, pairC_at e, ?_⟩
    rw [e, Bool.eq_iff_iff, bne_iff_ne, bne_iff_ne]
    simp)
  have HP := hid (show (List.range 20).countP (fun k : Nat => l[k]? != some (k : Int)) = portsN l from rfl)
  have HSN := hid (fun k => cnt_snoc (fun k : Nat => l[k]? != some (k : Int)) k)
  have HLE := hid (fun k => cnt_le (fun k : Nat => l[k]? != some (k : Int)) k)
  generalize hG : (fun N : Nat => (List.range N).countP (fun k : Nat => l[k]? != some (k : Int))) = G
  have HG := hid (fun N => congrFun hG N)
  clear hG
  generalize pairC l = cs at *
  have H0 := hid (heap_new0 w (.cells cs 60))
  have HB := hid ((Below.refl w.heap.size w).alloc (Nat.le_refl _) (.cells cs 60))
  go_enter Try.func102, Try.ntmps102
  go_wp2_with (refine wpList_load_row rfl 60 _ rfl w.heap.size rfl 60 cs (0, 0) _ H0.out Try.underlying60 rfl HS.out ?_)
  generalize World.alloc w _ = Y at H0 HB ⊢
  go_loopw [3, 7] (fun (v iv : Value) (wr : World) => ∃ k : Nat, k ≤ 20 ∧ iv = .int .i64 k ∧ v = .int .i64 ((G k : Nat) : Int) ∧ wr = Y) (fun _ i _ => 20 - (intOf i).toNat)
  case atStart => exact ⟨0, by omega, rfl, by rw [← HG.out]; rfl, rfl⟩
  case round =>
    obtain ⟨k, hk, rfl, rfl, rfl⟩ := hrel
    have hle := HLE.out k
    have hsn := HSN.out k
    rw [HG.out] at hle
    rw [HG.out, HG.out] at hsn
    obtain ⟨gk, hgk⟩ : ∃ gk, G k = gk := ⟨_, rfl⟩
    rw [hgk] at hle hsn ⊢
    by_cases hlt : k < 20
    · obtain ⟨x, hcx, hxe⟩ := HX.out k hlt
      have hidx := run_index_pair wr hlt hcx
      rw [hxe] at hsn
      clear hcx hxe hgk
      cases hb : (x != (k : Int)) with
      | true =>
        rw [hb, if_pos rfl] at hsn
        have HSX := hid hsn
        clear hsn
        go_wp2_with fail
        go_roundw
        case rel => exact ⟨k + 1, by omega, by go_num, by rw [HSX.out]; go_num, trivial⟩
        case measure => simp [intOf]; omega
      | false =>
        rw [hb, if_neg (by decide)] at hsn
        have HSX := hid hsn
        clear hsn
        go_wp2_with fail
        go_roundw
        case rel => exact ⟨k + 1, by omega, by go_num, by rw [HSX.out]; rfl, trivial⟩
        case measure => simp [intOf]; omega
    · obtain rfl : k = 20 := by omega
      have HGK := hid (show gk = portsN l by rw [← hgk, ← HG.out, HP.out])
      clear hgk hsn hle
      go_wp2_with fail
      go_ret
      exact ⟨by rw [HGK.out]; rfl, HB.out⟩

set_option maxRecDepth 100000 in
set_option maxHeartbeats 2000000 in
theorem pairedPortsIn_any (n : Nat) (w : World) (hn : n ≤ 9223372036854775807) :
    Calls Try.prog 103 #[.int .i64 (n : Int)] w fun e w' => e = .returned (.bool (decide (4 ≤ n ∧ n ≤ 20 ∧ n % 2 = 0))) ∧ w' = w := by
  have h0 : (0 : Int) ≤ (n : Int) := by omega
  have h1 : (n : Int) ≤ 9223372036854775807 := by omega
  go_enter Try.func103, Try.ntmps103
  by_cases ha : 4 ≤ n
  · have hai : (4 : Int) ≤ (n : Int) := by omega
    by_cases hb : n ≤ 20
    · have hbi : (n : Int) ≤ 20 := by omega
      go_wp2_with fail
      go_ret
      refine ⟨?_, rfl⟩
      have e : ((n : Int) % 2 == 0) = decide (4 ≤ n ∧ n ≤ 20 ∧ n % 2 = 0) := by
        rw [Bool.eq_iff_iff, beq_iff_eq, decide_eq_true_iff]
        omega
      rw [← e]
      rfl
    · have hbi : ¬ (n : Int) ≤ 20 := by omega
      go_wp2_with fail
      go_ret
      exact ⟨rfl, rfl⟩
  · have hai : ¬ (4 : Int) ≤ (n : Int) := by omega
    go_wp2_with fail
    go_ret
    exact ⟨rfl, rfl⟩

/-- What readPairing comes to. -/
def PReadEnd (l : List Int) (e : Ending) : Prop := (IsPair l ∧ e = .returned (.tuple #[.agg (pairC (padTo l)), .bool true])) ∨ (¬ IsPair l ∧ e = .returned (.tuple #[.agg zeroP, .bool false]))

set_option maxRecDepth 100000 in
set_option maxHeartbeats 2000000 in
theorem readPairing_any (A : Option Addr) (c : Nat) (l : List Int) (w : World) (h : Ints w w.heap.size A l) (hn : l.length ≤ 1048576) :
    Calls Try.prog 77 #[.slice A l.length c] w fun e w' => PReadEnd l e ∧ Below w.heap.size w w' := by
  have HI := hid (fun w' (hb : Below w.heap.size w w') => h.below hb (Nat.le_refl _))
  obtain ⟨n, hnl⟩ : ∃ n, l.length = n := ⟨_, rfl⟩
  have HPP := hid (fun w' => pairedPortsIn_any n w' (by omega))
  rw [hnl]
  have HNL := hid hnl
  clear h
  have H0 := hid (heap_new0 w (.cells zeroP 60))
  have HB := hid ((Below.refl w.heap.size w).alloc (Nat.le_refl _) (.cells zeroP 60))
  go_enter Try.func77, Try.ntmps77
  go_wp2_with fail
  refine (HPP.out _).mono ?_
  rintro e w1 ⟨rfl, rfl⟩
  by_cases hok : 4 ≤ n ∧ n ≤ 20 ∧ n % 2 = 0
  · rw [decide_eq_true hok]
    have HUN := hid (fun w' => unpaired_any w')
    generalize World.alloc w _ = Y at H0 HB ⊢
    go_wp2_with fail
    refine (HUN.out _).mono ?_
    rintro e w2 ⟨rfl, hb2⟩
    have L0 := hid ((hb2.block _ (lt_of_block H0.out)).trans H0.out)
    have LB := hid (HB.out.trans (hb2.mono HB.out.size))
    have LG := hid (show w.heap.size < w2.heap.size from lt_of_block L0.out)
    clear hb2
    have N0 := hid (heap_new0 w2 (.cells zeroP 60))
    have K0 := hid (show ((w2.alloc (.cells zeroP 60)).setRow w2.heap.size (pairC idL)).heap[w.heap.size]? = some (.cells zeroP 60 (0, 0)) by
      rw [setRow_other _ _ _ _ (by have := LG.out; omega), Below.heap_alloc _ _ _ LG.out]; exact L0.out)
    have K1 := hid (setRow_heap _ _ _ (pairC idL) _ _ N0.out)
    have KB := hid (below_setRow' (LB.out.alloc LB.out.size (.cells zeroP 60)) LB.out.size (pairC idL))
    have HSI := hid (show (Try.prog.info? 60).map (·.size) = some (pairC idL).size by rw [pairC_size]; exact Try.size_pair)
    obtain ⟨h4, h20, hev⟩ := hok
    have HL4 := hid (show 4 ≤ l.length by rw [HNL.out]; exact h4)
    have HL20 := hid (show l.length ≤ 20 by rw [HNL.out]; exact h20)
    have HNO := hid (show ∀ (p : Nat) (x : Int), p < n → l[p]? = some x → (x < 0 ∨ (n : Int) ≤ x ∨ x = (p : Int)) → ¬ IsPair l from fun p x hp hx hbad hpr => by
      obtain ⟨q, h1, h2, h3, _⟩ := hpr.2.2 p (by rw [HNL.out]; exact hp)
      rw [hx] at h3
      have := Option.some.inj h3
      rw [HNL.out] at h1
      omega)
    clear hev
    go_wp2_with (refine wpList_store_row rfl 60 _ _ rfl w2.heap.size (pairC idL) rfl rfl 60 zeroP N0.out HSI.out rfl (pairC_one idL) ?_)
    generalize World.setRow _ _ _ = Y at K0 K1 KB ⊢
    go_loopw [15] (fun (iv : Value) (wr : World) => ∃ k : Nat, k ≤ n ∧ iv = .int .i64 k ∧ Hid (∀ p, p < k → ∃ q, q < l.length ∧ q ≠ p ∧ l[p]? = some (q : Int)) ∧ wr.heap[w2.heap.size]? = some (.cells (pairC (padTo (l.take k))) 60 (0, 0)) ∧ wr.heap[w.heap.size]? = some (.cells zeroP 60 (0, 0)) ∧ Below w.heap.size w wr) (fun i _ => n - (intOf i).toNat)
    case atStart => exact ⟨0, by omega, rfl, hid (fun p hp => absurd hp (by omega)), K1.out, K0.out, KB.out⟩
    case round =>
      obtain ⟨k, hk, rfl, hall, h1, h0, hb⟩ := hrel
      have HALL := hall
      have B0 := hid h0
      have B1 := hid h1
      have BB := hid hb
      clear h0 h1 hb hall
      by_cases hlt : k < n
      · have hints := HI.out wr BB.out
        obtain ⟨b, off, x, rfl, hbw, hks, hc⟩ := hints.at_ (k := k) (by rw [HNL.out]; exact hlt)
        have HKS := hid hks
        have hlt20 : k < 20 := by omega
        obtain ⟨u, hu⟩ : ∃ u, (pairC (padTo (l.take k)))[k]? = some u := ⟨_, Array.getElem?_eq_getElem (by rw [pairC_size, padTo_length (by rw [List.length_take]; omega)]; exact hlt20)⟩
        have hcell2 : wr.cell? ⟨w2.heap.size, k, none⟩ = some u := by rw [cell_of_row _ _ _ _ _ _ B1.out]; exact hu
        have hfr : wr.frozen? ⟨w2.heap.size, k, none⟩ = false := frozen_of_row _ _ _ _ _ B1.out
        have HBW := hid hbw
        clear hu hks hints hbw
        by_cases hx0 : x < 0
        · have HN := hid (HNO.out k x hlt HKS.out (.inl hx0))
          go_wp2_with (refine wpList_store_row rfl 60 _ _ rfl w.heap.size zeroP rfl rfl 60 zeroP B0.out Try.size_pair rfl (pairC_one (List.replicate 20 0)) ?_)
          refine bodyPost_ret (results_row_tmp Try.results77 _ w.heap.size 60 _ (0, 0) _ (by rfl) (setRow_heap _ _ _ _ _ _ B0.out) Try.underlying60 rfl Try.size_pair) rfl ⟨.inr ⟨HN.out, rfl⟩, ?_⟩
          exact below_setRow' BB.out (Nat.le_refl _) _
        by_cases hxn : (n : Int) ≤ x
        · have HN := hid (HNO.out k x hlt HKS.out (.inr (.inl hxn)))
          have hx0' : 0 ≤ x := by omega
          go_wp2_with (refine wpList_store_row rfl 60 _ _ rfl w.heap.size zeroP rfl rfl 60 zeroP B0.out Try.size_pair rfl (pairC_one (List.replicate 20 0)) ?_)
          refine bodyPost_ret (results_row_tmp Try.results77 _ w.heap.size 60 _ (0, 0) _ (by rfl) (setRow_heap _ _ _ _ _ _ B0.out) Try.underlying60 rfl Try.size_pair) rfl ⟨.inr ⟨HN.out, rfl⟩, ?_⟩
          exact below_setRow' BB.out (Nat.le_refl _) _
        by_cases hxk : x = (k : Int)
        · have HN := hid (HNO.out k x hlt HKS.out (.inr (.inr hxk)))
          have hx0' : 0 ≤ x := by omega
          subst hxk
          go_wp2_with (refine wpList_store_row rfl 60 _ _ rfl w.heap.size zeroP rfl rfl 60 zeroP B0.out Try.size_pair rfl (pairC_one (List.replicate 20 0)) ?_)
          refine bodyPost_ret (results_row_tmp Try.results77 _ w.heap.size 60 _ (0, 0) _ (by rfl) (setRow_heap _ _ _ _ _ _ B0.out) Try.underlying60 rfl Try.size_pair) rfl ⟨.inr ⟨HN.out, rfl⟩, ?_⟩
          exact below_setRow' BB.out (Nat.le_refl _) _
        obtain ⟨q, rfl⟩ : ∃ q : Nat, x = (q : Int) := ⟨x.toNat, by omega⟩
        have hqn : q < n := by omega
        have hqk : ¬ (q : Int) = (k : Int) := hxk
        have HST := hid (padTo_step HKS.out hlt20)
        go_wp2_with fail
        go_roundw
        case rel =>
          refine ⟨k + 1, by omega, by go_num, hid (fun p hp => ?_), ?_, ?_, ?_⟩
          · by_cases hpk : p = k
            · subst hpk
              exact ⟨q, by rw [HNL.out]; exact hqn, by omega, HKS.out⟩
            · exact HALL.out p (by omega)
          · rw [← HST.out, ← pairC_set]
            exact heap_setCell_same _ _ _ _ _ _ B1.out
          · rw [Below.heap_setCell _ _ _ _ (by have := LG.out; show w.heap.size ≠ w2.heap.size; omega)]; exact B0.out
          · exact BB.out.setCell (p := ⟨w2.heap.size, k, none⟩) (by have := LG.out; show w.heap.size ≤ w2.heap.size; omega) _
        case measure => simp [intOf]; omega
      · obtain rfl : k = n := by omega
        have HALL2 := hid (show ∀ p, p < l.length → ∃ q, q < l.length ∧ q ≠ p ∧ l[p]? = some (q : Int) from fun p hp => HALL.out p (by rw [← HNL.out]; exact hp))
        rw [List.take_of_length_le (by rw [HNL.out]; exact Nat.le_refl _)] at B1
        have HBK := hid (fun w' => back_any (padTo l) w' (padTo_length HL20.out) (pad_in HL20.out HALL2.out))
        have HIF := hid (back_pair HL4.out HL20.out HALL2.out)
        have HSP := hid (show (Try.prog.info? 60).map (·.size) = some (pairC (padTo l)).size by rw [pairC_size, padTo_length HL20.out]; exact Try.size_pair)
        have HZP := hid (show zeroP.size = (pairC (padTo l)).size by rw [pairC_size, padTo_length HL20.out]; rfl)
        have HNE := hid (fun w' => run_equal_pair w' (a := backL (padTo l)) (b := idL) (by rw [backL_length, padTo_length HL20.out]) idL_length)
        go_wp2_with (refine wpList_load_row rfl 60 _ rfl w2.heap.size rfl 60 (pairC (padTo l)) (0, 0) _ B1.out Try.underlying60 rfl HSP.out ?_)
        refine (HBK.out _).mono ?_
        rintro e w3 ⟨rfl, hb3⟩
        have C0 := hid ((hb3.block _ (lt_of_block B0.out)).trans B0.out)
        have C1 := hid ((hb3.block _ (lt_of_block B1.out)).trans B1.out)
        have CB := hid (BB.out.trans (hb3.mono BB.out.size))
        clear hb3
        go_wp2_with fail
        refine (HUN.out _).mono ?_
        rintro e w4 ⟨rfl, hb4⟩
        have D0 := hid ((hb4.block _ (lt_of_block C0.out)).trans C0.out)
        have D1 := hid ((hb4.block _ (lt_of_block C1.out)).trans C1.out)
        have DB := hid (CB.out.trans (hb4.mono CB.out.size))
        have hne := HNE.out w4
        clear hb4
        by_cases hp : IsPair l
        · rw [decide_eq_true (HIF.out.2 hp)] at hne
          have HP := hid hp
          clear hp
          go_wp2_with (first
            | refine wpList_load_row rfl 60 _ rfl w2.heap.size rfl 60 (pairC (padTo l)) (0, 0) _ D1.out Try.underlying60 rfl HSP.out ?_
            | refine wpList_store_row rfl 60 _ _ rfl w.heap.size (pairC (padTo l)) rfl rfl 60 zeroP D0.out HSP.out HZP.out (pairC_one (padTo l)) ?_)
          refine bodyPost_ret (results_row_tmp Try.results77 _ w.heap.size 60 _ (0, 0) _ (by rfl) (setRow_heap _ _ _ _ _ _ D0.out) Try.underlying60 rfl HSP.out) rfl ⟨.inl ⟨HP.out, rfl⟩, ?_⟩
          exact below_setRow' DB.out (Nat.le_refl _) _
        · rw [decide_eq_false (fun e => hp (HIF.out.1 e))] at hne
          have HP := hid hp
          clear hp
          go_wp2_with (refine wpList_store_row rfl 60 _ _ rfl w.heap.size zeroP rfl rfl 60 zeroP D0.out Try.size_pair rfl (pairC_one (List.replicate 20 0)) ?_)
          refine bodyPost_ret (results_row_tmp Try.results77 _ w.heap.size 60 _ (0, 0) _ (by rfl) (setRow_heap _ _ _ _ _ _ D0.out) Try.underlying60 rfl Try.size_pair) rfl ⟨.inr ⟨HP.out, rfl⟩, ?_⟩
          exact below_setRow' DB.out (Nat.le_refl _) _
  · rw [decide_eq_false hok]
    have HNo := hid (show ¬ IsPair l from fun h => hok ⟨by have := h.1; omega, by have := h.2.1; omega, by have := h.even; omega⟩)
    go_wp2_with (refine wpList_store_row rfl 60 _ _ rfl w.heap.size zeroP rfl rfl 60 zeroP H0.out Try.size_pair rfl (pairC_one (List.replicate 20 0)) ?_)
    refine bodyPost_ret (results_row_tmp Try.results77 _ w.heap.size 60 _ (0, 0) _ (by rfl) (setRow_heap _ _ _ _ _ _ H0.out) Try.underlying60 rfl Try.size_pair) rfl ⟨.inr ⟨HNo.out, rfl⟩, ?_⟩
    exact below_setRow' HB.out (Nat.le_refl _) _
end Go.Proofs.Ytkkifpjeafchnaa
