/- Pairings of the program: unpaired, back, ports, by their contracts. -/
import Derived.Test.YtagnecclhmbofaaPairM
namespace Go.Proofs.Ytagnecclhmbofaa
open Go.RowKit Go.Shelf

/-- The numbers from 0 on below 20. -/
def idL : List Int := List.map (fun i : Nat => (i : Int)) (List.range 20)
/-- A list of at most 20 integers, filled up by each number behind it. -/
def padTo (l : List Int) : List Int := l ++ idL.drop l.length
theorem padTo_nil : padTo [] = idL := rfl
theorem idL_length : idL.length = 20 := rfl
theorem idL_at {k : Nat} (h : k < 20) : idL[k]? = some (k : Int) := by
  unfold idL
  rw [List.getElem?_map, List.getElem?_range h]
  rfl
theorem padTo_length {l : List Int} (h : l.length ≤ 20) : (padTo l).length = 20 := by
  unfold padTo
  rw [List.length_append, List.length_drop, idL_length]
  omega
theorem padTo_at {l : List Int} {k : Nat} {x : Int} (h : l[k]? = some x) : (padTo l)[k]? = some x := by
  unfold padTo
  rw [List.getElem?_append_left (List.getElem?_eq_some_iff.1 h).1, h]
theorem padTo_behind {l : List Int} {k : Nat} (h : l.length ≤ k) (hk : k < 20) : (padTo l)[k]? = some (k : Int) := by
  unfold padTo
  rw [List.getElem?_append_right h, List.getElem?_drop, show l.length + (k - l.length) = k by omega, idL_at hk]
theorem padTo_step {l : List Int} {k : Nat} {x : Int} (h : l[k]? = some x) (hk : k < 20) : (padTo (l.take k)).set k x = padTo (l.take (k + 1)) := by
  obtain ⟨hlt, hx⟩ := List.getElem?_eq_some_iff.1 h
  have hl : (l.take k).length = k := by simp; omega
  have hl2 : (l.take (k + 1)).length = k + 1 := by simp; omega
  unfold padTo
  rw [hl, hl2, List.set_append_right _ _ (by omega), hl, Nat.sub_self, List.take_succ_eq_append_getElem hlt, hx, List.append_assoc]
  congr 1
  rw [List.drop_eq_getElem_cons (by rw [idL_length]; exact hk), List.set_cons_zero]
  rfl
/-- The first numbers are laid, all others 0. -/
def upP (k : Nat) : List Int := (idL.take k) ++ List.replicate (20 - k) 0
/-- Any list, its first places laid, all others 0. -/
def layP (l : List Int) (k : Nat) : List Int := l.take k ++ List.replicate (20 - k) 0
theorem layP_zero (l : List Int) : layP l 0 = List.replicate 20 0 := rfl
theorem layP_all {l : List Int} (h : l.length = 20) : layP l 20 = l := by
  unfold layP
  rw [List.take_of_length_le (by omega)]
  simp
theorem layP_step {l : List Int} {k : Nat} {x : Int} (hl : l.length = 20) (h : l[k]? = some x) : (layP l k).set k x = layP l (k + 1) := by
  obtain ⟨hlt, hx⟩ := List.getElem?_eq_some_iff.1 h
  have hk : (l.take k).length = k := by simp; omega
  unfold layP
  rw [List.set_append_right _ _ (by omega), hk, Nat.sub_self, show 20 - k = (20 - (k + 1)) + 1 by omega, List.replicate_succ, List.set_cons_zero, List.take_succ_eq_append_getElem hlt, hx, List.append_assoc]
  rfl
theorem layP_length {l : List Int} (h : l.length = 20) {k : Nat} (hk : k ≤ 20) : (layP l k).length = 20 := by
  unfold layP
  simp
  omega

set_option maxRecDepth 100000 in
set_option maxHeartbeats 2000000 in
theorem unpaired_any (w : World) :
    Calls Try.prog 79 #[] w fun e w' => e = .returned (.agg (pairC idL)) ∧ Below w.heap.size w w' := by
  have H0 := hid (heap_new1 w (.cells zeroP 62) (.cells zeroP 62))
  have H1 := hid (heap_new0 (w.alloc (.cells zeroP 62)) (.cells zeroP 62))
  have HB := hid (((Below.refl w.heap.size w).alloc (Nat.le_refl _) (.cells zeroP 62)).alloc (by simp) (.cells zeroP 62))
  rw [World.size_alloc] at H1
  go_enter Try.func79, Try.ntmps79
  go_wp2_with (refine wpList_store_row rfl 62 _ _ rfl (w.heap.size + 1) zeroP rfl rfl 62 zeroP H1.out Try.size_pair rfl (pairC_one (List.replicate 20 0)) ?_)
  have K1 := hid (setRow_heap ((w.alloc (.cells zeroP 62)).alloc (.cells zeroP 62)) (w.heap.size + 1) zeroP zeroP 62 (0, 0) H1.out)
  have K0 := hid ((setRow_other ((w.alloc (.cells zeroP 62)).alloc (.cells zeroP 62)) (w.heap.size + 1) w.heap.size zeroP (by omega)).trans H0.out)
  have KB := hid (below_setRow' HB.out (show w.heap.size ≤ w.heap.size + 1 by omega) zeroP)
  generalize World.setRow _ _ _ = Y at K0 K1 KB ⊢
  go_loopw [4] (fun (iv : Value) (wr : World) => ∃ k : Nat, k ≤ 20 ∧ iv = .int .i64 k ∧ wr.heap[w.heap.size + 1]? = some (.cells (pairC (layP idL k)) 62 (0, 0)) ∧ wr.heap[w.heap.size]? = some (.cells zeroP 62 (0, 0)) ∧ Below w.heap.size w wr) (fun i _ => 20 - (intOf i).toNat)
  case atStart => exact ⟨0, by omega, rfl, K1.out, K0.out, KB.out⟩
  case round =>
    obtain ⟨k, hk, rfl, h1, h0, hb⟩ := hrel
    have B0 := hid h0
    have B1 := hid h1
    have BB := hid hb
    clear h0 h1 hb
    by_cases hlt : k < 20
    · obtain ⟨u, hu⟩ : ∃ u, (pairC (layP idL k))[k]? = some u := ⟨_, Array.getElem?_eq_getElem (by rw [pairC_size, layP_length idL_length hk]; exact hlt)⟩
      have hcell : wr.cell? ⟨w.heap.size + 1, k, none⟩ = some u := by rw [cell_of_row _ _ _ _ _ _ B1.out]; exact hu
      have hfr : wr.frozen? ⟨w.heap.size + 1, k, none⟩ = false := frozen_of_row _ _ _ _ _ B1.out
      have HU := hid hu
      clear hu
      go_wp2_with fail
      go_roundw
      case rel =>
        refine ⟨k + 1, by omega, by go_num, ?_, ?_, ?_⟩
        · rw [← layP_step idL_length (idL_at hlt), ← pairC_set]
          exact heap_setCell_same _ _ _ _ _ _ B1.out
        · rw [Below.heap_setCell _ _ _ _ (by show w.heap.size ≠ w.heap.size + 1; omega)]; exact B0.out
        · exact BB.out.setCell (p := ⟨w.heap.size + 1, k, none⟩) (by show w.heap.size ≤ w.heap.size + 1; omega) _
      case measure => simp [intOf]; omega
    · obtain rfl : k = 20 := by omega
      rw [layP_all idL_length] at B1
      have HS := hid (show (Try.prog.info? 62).map (·.size) = some (pairC idL).size by rw [pairC_size]; exact Try.size_pair)
      go_wp2_with (first
        | refine wpList_load_row rfl 62 _ rfl (w.heap.size + 1) rfl 62 (pairC idL) (0, 0) _ B1.out Try.underlying62 rfl HS.out ?_
        | refine wpList_store_row rfl 62 _ _ rfl w.heap.size (pairC idL) rfl rfl 62 zeroP B0.out HS.out rfl (pairC_one idL) ?_)
      refine bodyPost_ret (results_cell_row Try.results79 _ _ w.heap.size 62 _ (0, 0) _ (by rfl) (setRow_heap _ _ _ _ _ _ B0.out) Try.underlying62 rfl HS.out) rfl ⟨rfl, ?_⟩
      exact below_setRow' BB.out (Nat.le_refl _) _

/-- The partners of all partners. -/
def backL (l : List Int) : List Int := l.map fun x => l.getD x.toNat 0
theorem backL_length (l : List Int) : (backL l).length = l.length := by simp [backL]
theorem backL_at {l : List Int} {k q : Nat} {y : Int} (h : l[k]? = some (q : Int)) (h2 : l[q]? = some y) : (backL l)[k]? = some y := by
  unfold backL
  rw [List.getElem?_map, h, Option.map_some, Int.toNat_natCast, List.getD_eq_getElem?_getD, h2]
  rfl

set_option maxRecDepth 100000 in
set_option maxHeartbeats 2000000 in
theorem back_any (l : List Int) (w : World) (hl : l.length = 20) (hx : ∀ k : Nat, k < 20 → ∃ q : Nat, q < 20 ∧ l[k]? = some (q : Int)) :
    Calls Try.prog 80 #[.agg (pairC l)] w fun e w' => e = .returned (.agg (pairC (backL l))) ∧ Below w.heap.size w w' := by
  have HS := hid (show (Try.prog.info? 62).map (·.size) = some (pairC l).size by rw [pairC_size, hl]; exact Try.size_pair)
  have HS2 := hid (show (Try.prog.info? 62).map (·.size) = some (pairC (backL l)).size by rw [pairC_size, backL_length, hl]; exact Try.size_pair)
  have HZ2 := hid (show zeroP.size = (pairC (backL l)).size by rw [pairC_size, backL_length, hl]; rfl)
  have HLB := hid ((backL_length l).trans hl)
  have HX := hid (show ∀ k : Nat, k < 20 → ∃ q : Nat, q < 20 ∧ (pairC l)[k]? = some (.int .i64 (q : Int)) ∧ ∃ y : Int, (pairC l)[q]? = some (.int .i64 y) ∧ (backL l)[k]? = some y from fun k hk => by
    obtain ⟨q, hq, h1⟩ := hx k hk
    obtain ⟨r, hr, h2⟩ := hx q hq
    exact ⟨q, hq, pairC_at h1, r, pairC_at h2, backL_at h1 h2⟩)
  clear hx
  generalize backL l = bl at *
  generalize pairC l = cs at *
  have H0 := hid (heap_new2 w (.cells cs 62) (.cells zeroP 62) (.cells zeroP 62))
  have H1 := hid (heap_new1 (w.alloc (.cells cs 62)) (.cells zeroP 62) (.cells zeroP 62))
  have H2 := hid (heap_new0 ((w.alloc (.cells cs 62)).alloc (.cells zeroP 62)) (.cells zeroP 62))
  have HB := hid ((((Below.refl w.heap.size w).alloc (Nat.le_refl _) (.cells cs 62)).alloc (by simp) (.cells zeroP 62)).alloc (by simp; omega) (.cells zeroP 62))
  rw [World.size_alloc] at H1
  rw [World.size_alloc, World.size_alloc] at H2
  go_enter Try.func80, Try.ntmps80
  have K2 := hid (setRow_heap (((w.alloc (.cells cs 62)).alloc (.cells zeroP 62)).alloc (.cells zeroP 62)) (w.heap.size + 1 + 1) zeroP zeroP 62 (0, 0) H2.out)
  have K1 := hid ((setRow_other (((w.alloc (.cells cs 62)).alloc (.cells zeroP 62)).alloc (.cells zeroP 62)) (w.heap.size + 1 + 1) (w.heap.size + 1) zeroP (by omega)).trans H1.out)
  have K0 := hid ((setRow_other (((w.alloc (.cells cs 62)).alloc (.cells zeroP 62)).alloc (.cells zeroP 62)) (w.heap.size + 1 + 1) w.heap.size zeroP (by omega)).trans H0.out)
  have KB := hid (below_setRow' HB.out (show w.heap.size ≤ w.heap.size + 1 + 1 by omega) zeroP)
  go_wp2_with (first
    | refine wpList_store_row rfl 62 _ _ rfl (w.heap.size + 1 + 1) zeroP rfl rfl 62 zeroP H2.out Try.size_pair rfl (pairC_one (List.replicate 20 0)) ?_
    | refine wpList_load_row rfl 62 _ rfl w.heap.size rfl 62 cs (0, 0) _ K0.out Try.underlying62 rfl HS.out ?_)
  generalize World.setRow _ _ _ = Y at K0 K1 K2 KB ⊢
  go_loopw [8] (fun (iv : Value) (wr : World) => ∃ k : Nat, k ≤ 20 ∧ iv = .int .i64 k ∧ wr.heap[w.heap.size + 1 + 1]? = some (.cells (pairC (layP bl k)) 62 (0, 0)) ∧ wr.heap[w.heap.size + 1]? = some (.cells zeroP 62 (0, 0)) ∧ wr.heap[w.heap.size]? = some (.cells cs 62 (0, 0)) ∧ Below w.heap.size w wr) (fun i _ => 20 - (intOf i).toNat)
  case atStart => exact ⟨0, by omega, rfl, K2.out, K1.out, K0.out, KB.out⟩
  case round =>
    obtain ⟨k, hk, rfl, h2, h1, h0, hb⟩ := hrel
    have B0 := hid h0
    have B1 := hid h1
    have B2 := hid h2
    have BB := hid hb
    clear h0 h1 h2 hb
    by_cases hlt : k < 20
    · obtain ⟨q, hq, hcq, y, hcy, hby⟩ := HX.out k hlt
      obtain ⟨u, hu⟩ : ∃ u, (pairC (layP bl k))[k]? = some u := ⟨_, Array.getElem?_eq_getElem (by rw [pairC_size, layP_length HLB.out hk]; exact hlt)⟩
      have hcell : wr.cell? ⟨w.heap.size + 1 + 1, k, none⟩ = some u := by rw [cell_of_row _ _ _ _ _ _ B2.out]; exact hu
      have hfr : wr.frozen? ⟨w.heap.size + 1 + 1, k, none⟩ = false := frozen_of_row _ _ _ _ _ B2.out
      have hcell2 : wr.cell? ⟨w.heap.size, q, none⟩ = some (.int .i64 y) := by rw [cell_of_row _ _ _ _ _ _ B0.out]; exact hcy
      have HBY := hid hby
      have hidx := run_index_pair wr hlt hcq
      clear hu hcy hby hcq
      go_wp2_with fail
      go_roundw
      case rel =>
        refine ⟨k + 1, by omega, by go_num, ?_, ?_, ?_, ?_⟩
        · rw [← layP_step HLB.out HBY.out, ← pairC_set]
          exact heap_setCell_same _ _ _ _ _ _ B2.out
        · rw [Below.heap_setCell _ _ _ _ (by show w.heap.size + 1 ≠ w.heap.size + 1 + 1; omega)]; exact B1.out
        · rw [Below.heap_setCell _ _ _ _ (by show w.heap.size ≠ w.heap.size + 1 + 1; omega)]; exact B0.out
        · exact BB.out.setCell (p := ⟨w.heap.size + 1 + 1, k, none⟩) (by show w.heap.size ≤ w.heap.size + 1 + 1; omega) _
      case measure => simp [intOf]; omega
    · obtain rfl : k = 20 := by omega
      rw [layP_all HLB.out] at B2
      go_wp2_with (first
        | refine wpList_load_row rfl 62 _ rfl (w.heap.size + 1 + 1) rfl 62 (pairC bl) (0, 0) _ B2.out Try.underlying62 rfl HS2.out ?_
        | refine wpList_store_row rfl 62 _ _ rfl (w.heap.size + 1) (pairC bl) rfl rfl 62 zeroP B1.out HS2.out HZ2.out (pairC_one bl) ?_)
      refine bodyPost_ret (results_cell_row Try.results80 _ _ (w.heap.size + 1) 62 _ (0, 0) _ (by rfl) (setRow_heap _ _ _ _ _ _ B1.out) Try.underlying62 rfl HS2.out) rfl ⟨rfl, ?_⟩
      exact below_setRow' BB.out (by show w.heap.size ≤ w.heap.size + 1; omega) _
end Go.Proofs.Ytagnecclhmbofaa
