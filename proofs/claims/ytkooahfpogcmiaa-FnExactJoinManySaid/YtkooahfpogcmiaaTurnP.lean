/- Pairings that are turned: in plain words, and of the program, by their contracts. -/
import Derived.Test.YtkooahfpogcmiaaPairS
namespace Go.Proofs.Ytkooahfpogcmiaa
open Go.RowKit Go.Shelf

theorem turn_inv {n k j : Nat} (hj : j < n) : ((j + (n - k % n)) % n + k) % n = j := by
  have hn : 0 < n := by omega
  have hr : k % n < n := Nat.mod_lt _ hn
  have hk : n * (k / n) + k % n = k := Nat.div_add_mod k n
  rw [Nat.mod_add_mod, show j + (n - k % n) + k = j + n * (k / n + 1) by rw [Nat.mul_add, Nat.mul_one]; omega, Nat.add_mul_mod_self_left, Nat.mod_eq_of_lt hj]
theorem turn_back {n k q : Nat} (hq : q < n) : ((q + k) % n + (n - k % n)) % n = q := by
  have hn : 0 < n := by omega
  have hr : k % n < n := Nat.mod_lt _ hn
  have hk : n * (k / n) + k % n = k := Nat.div_add_mod k n
  rw [Nat.mod_add_mod, show q + k + (n - k % n) = q + n * (k / n + 1) by rw [Nat.mul_add, Nat.mul_one]; omega, Nat.add_mul_mod_self_left, Nat.mod_eq_of_lt hq]
theorem turn_inj {n k q q' : Nat} (hq : q < n) (hq' : q' < n) (h : (q + k) % n = (q' + k) % n) : q = q' := by
  rw [← turn_back (k := k) hq, h, turn_back hq']
/-- The partner, turned. -/
def turnV (l : List Int) (k q : Nat) : Int := (((mateN l q + k) % l.length : Nat) : Int)
/-- The pairing of the same pairs for ports with numbers k greater. -/
def turnL (l : List Int) (k : Nat) : List Int := (List.range l.length).map fun j => turnV l k ((j + (l.length - k % l.length)) % l.length)
theorem turnL_length (l : List Int) (k : Nat) : (turnL l k).length = l.length := by simp [turnL]
theorem turnL_at {l : List Int} {k q : Nat} (hq : q < l.length) : (turnL l k)[(q + k) % l.length]? = some (turnV l k q) := by
  unfold turnL
  rw [List.getElem?_map, List.getElem?_range (Nat.mod_lt _ (by omega)), Option.map_some, turn_back hq]
/-- A list that has all partners turned is it. -/
theorem turn_all {l L : List Int} {k : Nat} (hL : L.length = l.length) (h : ∀ q, q < l.length → L[(q + k) % l.length]? = some (turnV l k q)) : L = turnL l k := by
  refine List.ext_getElem? fun j => ?_
  by_cases hj : j < l.length
  · have hq : (j + (l.length - k % l.length)) % l.length < l.length := Nat.mod_lt _ (by omega)
    have h1 := h _ hq
    have h2 := turnL_at (k := k) hq
    rw [turn_inv hj] at h1 h2
    rw [h1, h2]
  · rw [List.getElem?_eq_none (by omega), List.getElem?_eq_none (by rw [turnL_length]; omega)]
theorem turn_pad {l L : List Int} {k : Nat} (h20 : l.length ≤ 20) (hL : L.length = 20) (h : ∀ q, q < l.length → L[(q + k) % l.length]? = some (turnV l k q)) (hb : ∀ j, l.length ≤ j → j < 20 → L[j]? = some (j : Int)) : L = padTo (turnL l k) := by
  refine List.ext_getElem? fun j => ?_
  by_cases hj : j < l.length
  · have hq : (j + (l.length - k % l.length)) % l.length < l.length := Nat.mod_lt _ (by omega)
    have h1 := h _ hq
    have h2 := turnL_at (k := k) hq
    rw [turn_inv hj] at h1 h2
    rw [h1, padTo_at h2]
  · by_cases hj2 : j < 20
    · rw [hb j (by omega) hj2, padTo_behind (by rw [turnL_length]; omega) hj2]
    · rw [List.getElem?_eq_none (by omega), List.getElem?_eq_none (by rw [padTo_length (by rw [turnL_length]; exact h20)]; omega)]
theorem turn_ports {l : List Int} {k : Nat} (h : IsPair l) : portsN (padTo (turnL l k)) = l.length := by
  have e := portsN_pad (l := turnL l k) (by rw [turnL_length]; exact h.2.1) fun p hp => by
    rw [turnL_length] at hp
    have hq : (p + (l.length - k % l.length)) % l.length < l.length := Nat.mod_lt _ (by omega)
    have h2 := turnL_at (k := k) hq
    rw [turn_inv hp] at h2
    rw [h2]
    intro e
    have e2 := Option.some.inj e
    unfold turnV at e2
    have e3 : (mateN l ((p + (l.length - k % l.length)) % l.length) + k) % l.length = p := by omega
    have hm := h.mates hq
    refine hm.2.1 (turn_inj (k := k) hm.1 hq ?_)
    exact e3.trans (turn_inv hp).symm
  rw [e, turnL_length]

set_option maxRecDepth 100000 in
set_option maxHeartbeats 2000000 in
theorem pturned_any (l : List Int) (k : Nat) (w : World) (hp : IsPair l) (hk : k ≤ 20) :
    Calls Try.prog 50 #[.agg (pairC (padTo l)), .int .i64 (k : Int)] w fun e w' => e = .returned (.agg (pairC (padTo (turnL l k)))) ∧ Below w.heap.size w w' := by
  have h20 := hp.2.1
  have h4 := hp.1
  have HS := hid (show (Try.prog.info? 49).map (·.size) = some (pairC (padTo l)).size by rw [pairC_size, padTo_length h20]; exact Try.size_pair)
  have HST := hid (show (Try.prog.info? 49).map (·.size) = some (pairC (padTo (turnL l k))).size by rw [pairC_size, padTo_length (by rw [turnL_length]; exact h20)]; exact Try.size_pair)
  have HZT := hid (show zeroP.size = (pairC (padTo (turnL l k))).size by rw [pairC_size, padTo_length (by rw [turnL_length]; exact h20)]; rfl)
  have HPO := hid (fun w' => pports_any (padTo l) w' (padTo_length h20))
  rw [hp.ports] at HPO
  have HUN := hid (fun w' => unpaired_any w')
  have HX := hid (show ∀ q, q < l.length → ∃ x : Nat, x < l.length ∧ (pairC (padTo l))[q]? = some (.int .i64 (x : Int)) ∧ turnV l k q = (((x + k) % l.length : Nat) : Int) from fun q hq => by
    have := hp.mates hq
    exact ⟨mateN l q, this.1, pairC_at (padTo_at this.2.2.1), rfl⟩)
  have HALL := hid (fun (L : List Int) hL h hb => turn_pad (l := l) (L := L) (k := k) h20 hL h hb)
  have HINJ := hid (fun q q' hq hq' => turn_inj (n := l.length) (k := k) (q := q) (q' := q') hq hq')
  obtain ⟨n, hn⟩ : ∃ n, l.length = n := ⟨_, rfl⟩
  rw [hn] at h20 h4 HPO HX HALL HINJ
  clear hp hn
  generalize pairC (padTo l) = cs at *
  generalize turnV l k = tv at *
  generalize padTo (turnL l k) = TL at *
  have H0 := hid (heap_new1 w (.cells cs 49) (.cells zeroP 49))
  have H1 := hid (heap_new0 (w.alloc (.cells cs 49)) (.cells zeroP 49))
  have HB := hid (((Below.refl w.heap.size w).alloc (Nat.le_refl _) (.cells cs 49)).alloc (by simp) (.cells zeroP 49))
  rw [World.size_alloc] at H1
  go_enter Try.func50, Try.ntmps50
  go_wp2_with (refine wpList_load_row rfl 49 _ rfl w.heap.size rfl 49 cs (0, 0) _ H0.out Try.underlying49 rfl HS.out ?_)
  generalize World.alloc (World.alloc w _) _ = Y at H0 H1 HB ⊢
  refine (HPO.out _).mono ?_
  rintro e w1 ⟨rfl, hb1⟩
  have I0 := hid ((hb1.block _ (lt_of_block H0.out)).trans H0.out)
  have I1 := hid ((hb1.block _ (lt_of_block H1.out)).trans H1.out)
  have IB := hid (HB.out.trans (hb1.mono HB.out.size))
  clear hb1
  go_wp2_with fail
  refine (HUN.out _).mono ?_
  rintro e w2 ⟨rfl, hb2⟩
  have J0 := hid ((hb2.block _ (lt_of_block I0.out)).trans I0.out)
  have J1 := hid ((hb2.block _ (lt_of_block I1.out)).trans I1.out)
  have JB := hid (IB.out.trans (hb2.mono IB.out.size))
  have JL := hid (show w.heap.size + 1 < w2.heap.size from lt_of_block J1.out)
  clear hb2
  have N0 := hid (heap_new0 w2 (.cells zeroP 49))
  have HSI := hid (show (Try.prog.info? 49).map (·.size) = some (pairC idL).size by rw [pairC_size]; exact Try.size_pair)
  have K2 := hid (setRow_heap _ _ _ (pairC idL) _ _ N0.out)
  have K1 := hid (show ((w2.alloc (.cells zeroP 49)).setRow w2.heap.size (pairC idL)).heap[w.heap.size + 1]? = some (.cells zeroP 49 (0, 0)) by
    rw [setRow_other _ _ _ _ (by have := JL.out; omega), Below.heap_alloc _ _ _ JL.out]; exact J1.out)
  have K0 := hid (show ((w2.alloc (.cells zeroP 49)).setRow w2.heap.size (pairC idL)).heap[w.heap.size]? = some (.cells cs 49 (0, 0)) by
    rw [setRow_other _ _ _ _ (by have := JL.out; omega), Below.heap_alloc _ _ _ (by have := JL.out; omega)]; exact J0.out)
  have KB := hid (below_setRow' (JB.out.alloc JB.out.size (.cells zeroP 49)) JB.out.size (pairC idL))
  have h4i : (4 : Int) ≤ (n : Int) := by omega
  have h20i : (n : Int) ≤ 20 := by omega
  have hki : (k : Int) ≤ 20 := by omega
  have hki0 : (0 : Int) ≤ (k : Int) := by omega
  have hnz : ((n : Int) == 0) = false := by simp; omega
  have hnz' : ¬ n = 0 := by omega
  go_wp2_with (refine wpList_store_row rfl 49 _ _ rfl w2.heap.size (pairC idL) rfl rfl 49 zeroP N0.out HSI.out rfl (pairC_one idL) ?_)
  generalize World.setRow _ _ _ = Z at K0 K1 K2 KB ⊢
  go_loopw [12] (fun (iv : Value) (wr : World) => ∃ q : Nat, q ≤ n ∧ iv = .int .i64 q ∧ ∃ L : List Int, Hid (L.length = 20 ∧ (∀ p, p < q → L[(p + k) % n]? = some (tv p)) ∧ ∀ j, n ≤ j → j < 20 → L[j]? = some (j : Int)) ∧ wr.heap[w2.heap.size]? = some (.cells (pairC L) 49 (0, 0)) ∧ wr.heap[w.heap.size + 1]? = some (.cells zeroP 49 (0, 0)) ∧ wr.heap[w.heap.size]? = some (.cells cs 49 (0, 0)) ∧ Below w.heap.size w wr) (fun i _ => n - (intOf i).toNat)
  case atStart => exact ⟨0, by omega, rfl, idL, hid ⟨idL_length, fun p hp => absurd hp (by omega), fun j _ hj => idL_at hj⟩, K2.out, K1.out, K0.out, KB.out⟩
  case round =>
    obtain ⟨q, hq, rfl, L, hl, h2, h1, h0, hb⟩ := hrel
    have HL := hl
    have B0 := hid h0
    have B1 := hid h1
    have B2 := hid h2
    have BB := hid hb
    clear h0 h1 h2 hb hl
    by_cases hlt : q < n
    · obtain ⟨x, hx, hcx, htx⟩ := HX.out q hlt
      have HTX := hid htx
      obtain ⟨a, ha⟩ : ∃ a, (q + k) % n = a := ⟨_, rfl⟩
      obtain ⟨b, hb⟩ : ∃ b, (x + k) % n = b := ⟨_, rfl⟩
      have han : a < n := by rw [← ha]; exact Nat.mod_lt _ (by omega)
      have hbn : b < n := by rw [← hb]; exact Nat.mod_lt _ (by omega)
      have hai : ((q : Int) + (k : Int)) % (n : Int) = (a : Int) := by rw [← ha]; rfl
      have hbi : ((x : Int) + (k : Int)) % (n : Int) = (b : Int) := by rw [← hb]; rfl
      have HA := hid ha
      have HBb := hid hb
      obtain ⟨u, hu⟩ : ∃ u, (pairC L)[a]? = some u := ⟨_, Array.getElem?_eq_getElem (by rw [pairC_size, HL.out.1]; omega)⟩
      have hcell : wr.cell? ⟨w2.heap.size, a, none⟩ = some u := by rw [cell_of_row _ _ _ _ _ _ B2.out]; exact hu
      have hfr : wr.frozen? ⟨w2.heap.size, a, none⟩ = false := frozen_of_row _ _ _ _ _ B2.out
      have hcell2 : wr.cell? ⟨w.heap.size, q, none⟩ = some (.int .i64 (x : Int)) := by rw [cell_of_row _ _ _ _ _ _ B0.out]; exact hcx
      have hw1 : IntKind.i64.wrap ((q : Int) + (k : Int)) = (q : Int) + (k : Int) := IntWalk.i64_in _ (by omega)
      have hw2 : IntKind.i64.wrap ((x : Int) + (k : Int)) = (x : Int) + (k : Int) := IntWalk.i64_in _ (by omega)
      have hai0 : (0 : Int) ≤ (a : Int) := by omega
      have hai1 : (a : Int) < 20 := by omega
      have hqi1 : (q : Int) < 20 := by omega
      have hqi0 : (0 : Int) ≤ (q : Int) := by omega
      have hqk0 : (0 : Int) ≤ (q : Int) + (k : Int) := by omega
      have hxk0 : (0 : Int) ≤ (x : Int) + (k : Int) := by omega
      clear hu hcx htx
      go_wp2_with fail
      go_still_tail 12, (by kernel_rfl)
      go_wp2_with fail
      go_roundw
      case rel =>
        refine ⟨q + 1, by omega, by go_num, L.set a (b : Int), hid ⟨by rw [List.length_set]; exact HL.out.1, fun p hp => ?_, fun j h1 h2 => ?_⟩, ?_, ?_, ?_, ?_⟩
        · by_cases hpq : p = q
          · subst hpq
            rw [HA.out, List.getElem?_set_self (by rw [HL.out.1]; omega), HTX.out, HBb.out]
          · rw [List.getElem?_set_ne (fun e => hpq (HINJ.out p q (by omega) hlt (by rw [HA.out]; exact e.symm)))]
            exact HL.out.2.1 p (by omega)
        · rw [List.getElem?_set_ne (by omega)]
          exact HL.out.2.2 j h1 h2
        · rw [← pairC_set]
          exact heap_setCell_same _ _ _ _ _ _ B2.out
        · exact (Below.heap_setCell wr _ _ (w.heap.size + 1) (by have := JL.out; show w.heap.size + 1 ≠ w2.heap.size; omega)).trans B1.out
        · exact (Below.heap_setCell wr _ _ w.heap.size (by have := JL.out; show w.heap.size ≠ w2.heap.size; omega)).trans B0.out
        · exact (BB.out.setCell (p := ⟨w2.heap.size, a, none⟩) (by have := JL.out; show w.heap.size ≤ w2.heap.size; omega) _).drew
      case measure => simp [intOf]; omega
    · obtain rfl : q = n := by omega
      have HTL := hid (HALL.out L HL.out.1 HL.out.2.1 HL.out.2.2)
      rw [HTL.out] at B2
      go_wp2_with (first
        | refine wpList_load_row rfl 49 _ rfl w2.heap.size rfl 49 (pairC TL) (0, 0) _ B2.out Try.underlying49 rfl HST.out ?_
        | refine wpList_store_row rfl 49 _ _ rfl (w.heap.size + 1) (pairC TL) rfl rfl 49 zeroP B1.out HST.out HZT.out (pairC_one TL) ?_)
      refine bodyPost_ret (results_cell_row Try.results50 _ _ (w.heap.size + 1) 49 _ (0, 0) _ (by rfl) (setRow_heap _ _ _ _ _ _ B1.out) Try.underlying49 rfl HST.out) rfl ⟨rfl, ?_⟩
      exact below_setRow' BB.out (by show w.heap.size ≤ w.heap.size + 1; omega) _
end Go.Proofs.Ytkooahfpogcmiaa
