/- Settled texts in one file. Each begins with what it holds. -/
import Derived.Test.YtgildagmliadeaaBunF
import Derived.Test.YtgildagmliadeaaBunO
import Derived.DeepKeys
/- Pairings: lists of twenty integers as the cells of an array; two of them compared. -/
namespace Go.Proofs.Ytgildagmliadeaa
open Go.RowKit Go.Shelf

/-- The cells of an array of integers. -/
def pairC (l : List Int) : Array Value := (l.map fun x => Value.int .i64 x).toArray
theorem pairC_size (l : List Int) : (pairC l).size = l.length := by simp [pairC]
theorem pairC_at {l : List Int} {k : Nat} {x : Int} (h : l[k]? = some x) : (pairC l)[k]? = some (.int .i64 x) := by simp [pairC, h]
theorem pairC_set (l : List Int) (k : Nat) (x : Int) : (pairC l).setIfInBounds k (.int .i64 x) = pairC (l.set k x) := by simp [pairC, List.map_set]
theorem pairC_one (l : List Int) : (pairC l).all (·.oneCell') = true := by
  rw [Array.all_eq_true_iff_forall_mem]
  intro x hx
  simp [pairC] at hx
  obtain ⟨b, _, rfl⟩ := hx
  rfl
theorem pairC_inj {a b : List Int} (h : pairC a = pairC b) : a = b := by
  have h2 := congrArg Array.toList h
  simp only [pairC] at h2
  have h3 := congrArg (List.map fun v : Value => match v with | .int _ x => x | _ => 0) h2
  simpa [List.map_map, Function.comp_def] using h3
/-- The cells of no pairing. -/
abbrev zeroP : Array Value := #[.int .i64 0, .int .i64 0, .int .i64 0, .int .i64 0, .int .i64 0, .int .i64 0, .int .i64 0, .int .i64 0, .int .i64 0, .int .i64 0, .int .i64 0, .int .i64 0, .int .i64 0, .int .i64 0, .int .i64 0, .int .i64 0, .int .i64 0, .int .i64 0, .int .i64 0, .int .i64 0]
theorem zeroP_eq : zeroP = pairC (List.replicate 20 0) := rfl
theorem Try.size_pair : (Try.prog.info? 64).map (·.size) = some 20 := by kernel_rfl

section
variable (w : World)
theorem run_eqItems_pair (d : Nat) (a b : List Int) (ha : a.length = 20) (hb : b.length = 20) : ∀ is : List Nat, (∀ i ∈ is, i < 20) →
    (Op.eqItems (d + 1) 3 1 (pairC a) (pairC b) is).run Try.prog w = .ok (is.all fun i => a[i]? == b[i]?) w
  | [], _ => by simp [Op.eqItems]
  | i :: is, h => by
    have hi := h i (by simp)
    have ha1 : a[i]? = some (a[i]'(by omega)) := List.getElem?_eq_getElem (by omega)
    have hb1 : b[i]? = some (b[i]'(by omega)) := List.getElem?_eq_getElem (by omega)
    have e1 := pairC_at ha1
    have e2 := pairC_at hb1
    have ih := run_eqItems_pair d a b ha hb is (fun j hj => h j (by simp [hj]))
    have hp : ∀ cs : Array Value, ∀ v, cs[i]? = some v → (part 3 cs (i * 1)).run Try.prog w = .ok v w := fun cs v hv => by
      simp [part, isAgg, run_underlying Try.underlying3, hv]
    have he : ∀ x y : Int, (Op.equalIn (d + 1) 3 (.int .i64 x) (.int .i64 y)).run Try.prog w = .ok (x == y) w := fun x y => by
      simp [Op.equalIn, run_underlying Try.underlying3]
    simp only [Op.eqItems, Sem.run_bind, hp _ _ e1, hp _ _ e2, he, Result.andThen_ok, List.all_cons, ha1, hb1]
    cases hx : (a[i]'(by omega) == b[i]'(by omega)) with
    | true =>
      have hx2 : (some (a[i]'(by omega)) == some (b[i]'(by omega))) = true := by simpa using hx
      rw [hx2]
      simpa using ih
    | false =>
      have hx2 : (some (a[i]'(by omega)) == some (b[i]'(by omega))) = false := by simpa using hx
      rw [hx2]
      simp
theorem all_eq_pair {a b : List Int} (ha : a.length = 20) (hb : b.length = 20) : ((List.range 20).all fun i => a[i]? == b[i]?) = decide (a = b) := by
  rw [Bool.eq_iff_iff, List.all_eq_true, decide_eq_true_iff]
  constructor
  · intro h
    refine List.ext_getElem? fun i => ?_
    by_cases hi : i < 20
    · exact eq_of_beq (h i (List.mem_range.2 hi))
    · rw [List.getElem?_eq_none (by omega), List.getElem?_eq_none (by omega)]
  · rintro rfl i _
    exact beq_self_eq_true _
theorem run_equal_pair {a b : List Int} (ha : a.length = 20) (hb : b.length = 20) :
    (Op.equalIn 10000 64 (.agg (pairC a)) (.agg (pairC b))).run Try.prog w = .ok (decide (a = b)) w := by
  obtain ⟨i, hi⟩ : ∃ i, Try.prog.info? 3 = some i := info_of_underlying Try.underlying3
  have hc : Try.prog.cellsOf 3 = 1 := by kernel_rfl
  have h := run_equalIn_array (P := Try.prog) w 9999 (pairC a) (pairC b) Try.underlying64 hi
  rw [hc, run_eqItems_pair w 9998 a b ha hb _ (fun j hj => List.mem_range.1 hj), all_eq_pair ha hb] at h
  exact h
theorem run_index_pair {cs : Array Value} {k : Nat} {v : Value} (hk : k < 20) (h : cs[k]? = some v) :
    (Instr.index 64 (.agg cs) (.int .i64 (k : Int))).run Try.prog w = .ok v w := by
  obtain ⟨i, hi⟩ : ∃ i, Try.prog.info? 3 = some i := info_of_underlying Try.underlying3
  have h1 : i.size = 1 := by
    have hc : Try.prog.cellsOf 3 = 1 := by kernel_rfl
    unfold Program.cellsOf at hc
    rw [hi] at hc
    exact hc
  simp [Instr.index, asIntOf, run_underlying Try.underlying64, part, isAgg, run_underlying Try.underlying3, sizeOf, typeInfo, hi, h1, h]
  omega
end
end Go.Proofs.Ytgildagmliadeaa

/- Pairings of the program: unpaired, back, ports, by their contracts. -/
namespace Go.Proofs.Ytgildagmliadeaa
open Go.RowKit Go.Shelf

/-- The numbers from 0 on below 20. -/
def idL : List Int := List.map (fun i : Nat => (i : Int)) (List.range 20)
/-- A list of at most 20 integers, filled up by each number behind it. -/
def padTo (l : List Int) : List Int := l ++ idL.drop l.length
theorem padTo_nil : padTo [] = idL := rfl
theorem idL_length : idL.length = 20 := rfl
theorem idL_at {k : Nat} (h : k < 20) : idL[k]? = some (k : Int) := by
  unfold idL
  rw [List.getElem?_map, List.getElem?_range h]
  rfl
theorem padTo_length {l : List Int} (h : l.length ≤ 20) : (padTo l).length = 20 := by
  unfold padTo
  rw [List.length_append, List.length_drop, idL_length]
  omega
theorem padTo_at {l : List Int} {k : Nat} {x : Int} (h : l[k]? = some x) : (padTo l)[k]? = some x := by
  unfold padTo
  rw [List.getElem?_append_left (List.getElem?_eq_some_iff.1 h).1, h]
theorem padTo_behind {l : List Int} {k : Nat} (h : l.length ≤ k) (hk : k < 20) : (padTo l)[k]? = some (k : Int) := by
  unfold padTo
  rw [List.getElem?_append_right h, List.getElem?_drop, show l.length + (k - l.length) = k by omega, idL_at hk]
theorem padTo_step {l : List Int} {k : Nat} {x : Int} (h : l[k]? = some x) (hk : k < 20) : (padTo (l.take k)).set k x = padTo (l.take (k + 1)) := by
  obtain ⟨hlt, hx⟩ := List.getElem?_eq_some_iff.1 h
  have hl : (l.take k).length = k := by simp; omega
  have hl2 : (l.take (k + 1)).length = k + 1 := by simp; omega
  unfold padTo
  rw [hl, hl2, List.set_append_right _ _ (by omega), hl, Nat.sub_self, List.take_succ_eq_append_getElem hlt, hx, List.append_assoc]
  congr 1
  rw [List.drop_eq_getElem_cons (by rw [idL_length]; exact hk), List.set_cons_zero]
  rfl
/-- The first numbers are laid, all others 0. -/
def upP (k : Nat) : List Int := (idL.take k) ++ List.replicate (20 - k) 0
/-- Any list, its first places laid, all others 0. -/
def layP (l : List Int) (k : Nat) : List Int := l.take k ++ List.replicate (20 - k) 0
theorem layP_zero (l : List Int) : layP l 0 = List.replicate 20 0 := rfl
theorem layP_all {l : List Int} (h : l.length = 20) : layP l 20 = l := by
  unfold layP
  rw [List.take_of_length_le (by omega)]
  simp
theorem layP_step {l : List Int} {k : Nat} {x : Int} (hl : l.length = 20) (h : l[k]? = some x) : (layP l k).set k x = layP l (k + 1) := by
  obtain ⟨hlt, hx⟩ := List.getElem?_eq_some_iff.1 h
  have hk : (l.take k).length = k := by simp; omega
  unfold layP
  rw [List.set_append_right _ _ (by omega), hk, Nat.sub_self, show 20 - k = (20 - (k + 1)) + 1 by omega, List.replicate_succ, List.set_cons_zero, List.take_succ_eq_append_getElem hlt, hx, List.append_assoc]
  rfl
theorem layP_length {l : List Int} (h : l.length = 20) {k : Nat} (hk : k ≤ 20) : (layP l k).length = 20 := by
  unfold layP
  simp
  omega

set_option maxRecDepth 100000 in
set_option maxHeartbeats 2000000 in
theorem unpaired_any (w : World) :
    Calls Try.prog 131 #[] w fun e w' => e = .returned (.agg (pairC idL)) ∧ Below w.heap.size w w' := by
  have H0 := hid (heap_new1 w (.cells zeroP 64) (.cells zeroP 64))
  have H1 := hid (heap_new0 (w.alloc (.cells zeroP 64)) (.cells zeroP 64))
  have HB := hid (((Below.refl w.heap.size w).alloc (Nat.le_refl _) (.cells zeroP 64)).alloc (by simp) (.cells zeroP 64))
  rw [World.size_alloc] at H1
  go_enter Try.func131, Try.ntmps131
  go_wp2_with (refine wpList_store_row rfl 64 _ _ rfl (w.heap.size + 1) zeroP rfl rfl 64 zeroP H1.out Try.size_pair rfl (pairC_one (List.replicate 20 0)) ?_)
  have K1 := hid (setRow_heap ((w.alloc (.cells zeroP 64)).alloc (.cells zeroP 64)) (w.heap.size + 1) zeroP zeroP 64 (0, 0) H1.out)
  have K0 := hid ((setRow_other ((w.alloc (.cells zeroP 64)).alloc (.cells zeroP 64)) (w.heap.size + 1) w.heap.size zeroP (by omega)).trans H0.out)
  have KB := hid (below_setRow' HB.out (show w.heap.size ≤ w.heap.size + 1 by omega) zeroP)
  generalize World.setRow _ _ _ = Y at K0 K1 KB ⊢
  go_loopw [4] (fun (iv : Value) (wr : World) => ∃ k : Nat, k ≤ 20 ∧ iv = .int .i64 k ∧ wr.heap[w.heap.size + 1]? = some (.cells (pairC (layP idL k)) 64 (0, 0)) ∧ wr.heap[w.heap.size]? = some (.cells zeroP 64 (0, 0)) ∧ Below w.heap.size w wr) (fun i _ => 20 - (intOf i).toNat)
  case atStart => exact ⟨0, by omega, rfl, K1.out, K0.out, KB.out⟩
  case round =>
    obtain ⟨k, hk, rfl, h1, h0, hb⟩ := hrel
    have B0 := hid h0
    have B1 := hid h1
    have BB := hid hb
    clear h0 h1 hb
    by_cases hlt : k < 20
    · obtain ⟨u, hu⟩ : ∃ u, (pairC (layP idL k))[k]? = some u := ⟨_, Array.getElem?_eq_getElem (by rw [pairC_size, layP_length idL_length hk]; exact hlt)⟩
      have hcell : wr.cell? ⟨w.heap.size + 1, k, none⟩ = some u := by rw [cell_of_row _ _ _ _ _ _ B1.out]; exact hu
      have hfr : wr.frozen? ⟨w.heap.size + 1, k, none⟩ = false := frozen_of_row _ _ _ _ _ B1.out
      have HU := hid hu
      clear hu
      go_wp2_with fail
      go_roundw
      case rel =>
        refine ⟨k + 1, by omega, by go_num, ?_, ?_, ?_⟩
        · rw [← layP_step idL_length (idL_at hlt), ← pairC_set]
          exact heap_setCell_same _ _ _ _ _ _ B1.out
        · rw [Below.heap_setCell _ _ _ _ (by show w.heap.size ≠ w.heap.size + 1; omega)]; exact B0.out
        · exact BB.out.setCell (p := ⟨w.heap.size + 1, k, none⟩) (by show w.heap.size ≤ w.heap.size + 1; omega) _
      case measure => simp [intOf]; omega
    · obtain rfl : k = 20 := by omega
      rw [layP_all idL_length] at B1
      have HS := hid (show (Try.prog.info? 64).map (·.size) = some (pairC idL).size by rw [pairC_size]; exact Try.size_pair)
      go_wp2_with (first
        | refine wpList_load_row rfl 64 _ rfl (w.heap.size + 1) rfl 64 (pairC idL) (0, 0) _ B1.out Try.underlying64 rfl HS.out ?_
        | refine wpList_store_row rfl 64 _ _ rfl w.heap.size (pairC idL) rfl rfl 64 zeroP B0.out HS.out rfl (pairC_one idL) ?_)
      refine bodyPost_ret (results_cell_row Try.results131 _ _ w.heap.size 64 _ (0, 0) _ (by rfl) (setRow_heap _ _ _ _ _ _ B0.out) Try.underlying64 rfl HS.out) rfl ⟨rfl, ?_⟩
      exact below_setRow' BB.out (Nat.le_refl _) _

/-- The partners of all partners. -/
def backL (l : List Int) : List Int := l.map fun x => l.getD x.toNat 0
theorem backL_length (l : List Int) : (backL l).length = l.length := by simp [backL]
theorem backL_at {l : List Int} {k q : Nat} {y : Int} (h : l[k]? = some (q : Int)) (h2 : l[q]? = some y) : (backL l)[k]? = some y := by
  unfold backL
  rw [List.getElem?_map, h, Option.map_some, Int.toNat_natCast, List.getD_eq_getElem?_getD, h2]
  rfl

set_option maxRecDepth 100000 in
set_option maxHeartbeats 2000000 in
theorem back_any (l : List Int) (w : World) (hl : l.length = 20) (hx : ∀ k : Nat, k < 20 → ∃ q : Nat, q < 20 ∧ l[k]? = some (q : Int)) :
    Calls Try.prog 159 #[.agg (pairC l)] w fun e w' => e = .returned (.agg (pairC (backL l))) ∧ Below w.heap.size w w' := by
  have HS := hid (show (Try.prog.info? 64).map (·.size) = some (pairC l).size by rw [pairC_size, hl]; exact Try.size_pair)
  have HS2 := hid (show (Try.prog.info? 64).map (·.size) = some (pairC (backL l)).size by rw [pairC_size, backL_length, hl]; exact Try.size_pair)
  have HZ2 := hid (show zeroP.size = (pairC (backL l)).size by rw [pairC_size, backL_length, hl]; rfl)
  have HLB := hid ((backL_length l).trans hl)
  have HX := hid (show ∀ k : Nat, k < 20 → ∃ q : Nat, q < 20 ∧ (pairC l)[k]? = some (.int .i64 (q : Int)) ∧ ∃ y : Int, (pairC l)[q]? = some (.int .i64 y) ∧ (backL l)[k]? = some y from fun k hk => by
    obtain ⟨q, hq, h1⟩ := hx k hk
    obtain ⟨r, hr, h2⟩ := hx q hq
    exact ⟨q, hq, pairC_at h1, r, pairC_at h2, backL_at h1 h2⟩)
  clear hx
  generalize backL l = bl at *
  generalize pairC l = cs at *
  have H0 := hid (heap_new2 w (.cells cs 64) (.cells zeroP 64) (.cells zeroP 64))
  have H1 := hid (heap_new1 (w.alloc (.cells cs 64)) (.cells zeroP 64) (.cells zeroP 64))
  have H2 := hid (heap_new0 ((w.alloc (.cells cs 64)).alloc (.cells zeroP 64)) (.cells zeroP 64))
  have HB := hid ((((Below.refl w.heap.size w).alloc (Nat.le_refl _) (.cells cs 64)).alloc (by simp) (.cells zeroP 64)).alloc (by simp; omega) (.cells zeroP 64))
  rw [World.size_alloc] at H1
  rw [World.size_alloc, World.size_alloc] at H2
  go_enter Try.func159, Try.ntmps159
  have K2 := hid (setRow_heap (((w.alloc (.cells cs 64)).alloc (.cells zeroP 64)).alloc (.cells zeroP 64)) (w.heap.size + 1 + 1) zeroP zeroP 64 (0, 0) H2.out)
  have K1 := hid ((setRow_other (((w.alloc (.cells cs 64)).alloc (.cells zeroP 64)).alloc (.cells zeroP 64)) (w.heap.size + 1 + 1) (w.heap.size + 1) zeroP (by omega)).trans H1.out)
  have K0 := hid ((setRow_other (((w.alloc (.cells cs 64)).alloc (.cells zeroP 64)).alloc (.cells zeroP 64)) (w.heap.size + 1 + 1) w.heap.size zeroP (by omega)).trans H0.out)
  have KB := hid (below_setRow' HB.out (show w.heap.size ≤ w.heap.size + 1 + 1 by omega) zeroP)
  go_wp2_with (first
    | refine wpList_store_row rfl 64 _ _ rfl (w.heap.size + 1 + 1) zeroP rfl rfl 64 zeroP H2.out Try.size_pair rfl (pairC_one (List.replicate 20 0)) ?_
    | refine wpList_load_row rfl 64 _ rfl w.heap.size rfl 64 cs (0, 0) _ K0.out Try.underlying64 rfl HS.out ?_)
  generalize World.setRow _ _ _ = Y at K0 K1 K2 KB ⊢
  go_loopw [8] (fun (iv : Value) (wr : World) => ∃ k : Nat, k ≤ 20 ∧ iv = .int .i64 k ∧ wr.heap[w.heap.size + 1 + 1]? = some (.cells (pairC (layP bl k)) 64 (0, 0)) ∧ wr.heap[w.heap.size + 1]? = some (.cells zeroP 64 (0, 0)) ∧ wr.heap[w.heap.size]? = some (.cells cs 64 (0, 0)) ∧ Below w.heap.size w wr) (fun i _ => 20 - (intOf i).toNat)
  case atStart => exact ⟨0, by omega, rfl, K2.out, K1.out, K0.out, KB.out⟩
  case round =>
    obtain ⟨k, hk, rfl, h2, h1, h0, hb⟩ := hrel
    have B0 := hid h0
    have B1 := hid h1
    have B2 := hid h2
    have BB := hid hb
    clear h0 h1 h2 hb
    by_cases hlt : k < 20
    · obtain ⟨q, hq, hcq, y, hcy, hby⟩ := HX.out k hlt
      obtain ⟨u, hu⟩ : ∃ u, (pairC (layP bl k))[k]? = some u := ⟨_, Array.getElem?_eq_getElem (by rw [pairC_size, layP_length HLB.out hk]; exact hlt)⟩
      have hcell : wr.cell? ⟨w.heap.size + 1 + 1, k, none⟩ = some u := by rw [cell_of_row _ _ _ _ _ _ B2.out]; exact hu
      have hfr : wr.frozen? ⟨w.heap.size + 1 + 1, k, none⟩ = false := frozen_of_row _ _ _ _ _ B2.out
      have hcell2 : wr.cell? ⟨w.heap.size, q, none⟩ = some (.int .i64 y) := by rw [cell_of_row _ _ _ _ _ _ B0.out]; exact hcy
      have HBY := hid hby
      have hidx := run_index_pair wr hlt hcq
      clear hu hcy hby hcq
      go_wp2_with fail
      go_roundw
      case rel =>
        refine ⟨k + 1, by omega, by go_num, ?_, ?_, ?_, ?_⟩
        · rw [← layP_step HLB.out HBY.out, ← pairC_set]
          exact heap_setCell_same _ _ _ _ _ _ B2.out
        · rw [Below.heap_setCell _ _ _ _ (by show w.heap.size + 1 ≠ w.heap.size + 1 + 1; omega)]; exact B1.out
        · rw [Below.heap_setCell _ _ _ _ (by show w.heap.size ≠ w.heap.size + 1 + 1; omega)]; exact B0.out
        · exact BB.out.setCell (p := ⟨w.heap.size + 1 + 1, k, none⟩) (by show w.heap.size ≤ w.heap.size + 1 + 1; omega) _
      case measure => simp [intOf]; omega
    · obtain rfl : k = 20 := by omega
      rw [layP_all HLB.out] at B2
      go_wp2_with (first
        | refine wpList_load_row rfl 64 _ rfl (w.heap.size + 1 + 1) rfl 64 (pairC bl) (0, 0) _ B2.out Try.underlying64 rfl HS2.out ?_
        | refine wpList_store_row rfl 64 _ _ rfl (w.heap.size + 1) (pairC bl) rfl rfl 64 zeroP B1.out HS2.out HZ2.out (pairC_one bl) ?_)
      refine bodyPost_ret (results_cell_row Try.results159 _ _ (w.heap.size + 1) 64 _ (0, 0) _ (by rfl) (setRow_heap _ _ _ _ _ _ B1.out) Try.underlying64 rfl HS2.out) rfl ⟨rfl, ?_⟩
      exact below_setRow' BB.out (by show w.heap.size ≤ w.heap.size + 1; omega) _
end Go.Proofs.Ytgildagmliadeaa

/- Pairings in plain words: lists whose partners are partners; their length is even; turned. No program is named. -/
namespace Go.Proofs.Ytgildagmliadeaa

theorem sumN_swap (F : Nat → Nat → Nat) (M : Nat) : ∀ N, sumN (fun p => sumN (fun q => F p q) M) N = sumN (fun q => sumN (fun p => F p q) N) M
  | 0 => by
    have : ∀ M, sumN (fun _ => 0) M = 0 := fun M => by induction M with
      | zero => rfl
      | succ M ih => rw [sumN, ih]
    exact (this M).symm
  | N + 1 => by
    rw [sumN, sumN_swap F M N, ← sumN_add]
    rfl
theorem sumN_cnt (p : Nat → Bool) : ∀ N, sumN (fun c => if p c = true then 1 else 0) N = (List.range N).countP p
  | 0 => rfl
  | N + 1 => by
    rw [sumN, sumN_cnt p N, List.range_succ, List.countP_append, List.countP_cons, List.countP_nil]
    omega

/-- The list is a pairing: each place has another one, whose own one is it. -/
def IsPair (l : List Int) : Prop := 4 ≤ l.length ∧ l.length ≤ 20 ∧ ∀ p, p < l.length → ∃ q, q < l.length ∧ q ≠ p ∧ l[p]? = some (q : Int) ∧ l[q]? = some (p : Int)
/-- The partner of a place. -/
def mateN (l : List Int) (p : Nat) : Nat := (l.getD p 0).toNat
theorem IsPair.mates {l : List Int} (h : IsPair l) {p : Nat} (hp : p < l.length) : mateN l p < l.length ∧ mateN l p ≠ p ∧ l[p]? = some (mateN l p : Int) ∧ mateN l (mateN l p) = p := by
  obtain ⟨q, h1, h2, h3, h4⟩ := h.2.2 p hp
  have e : mateN l p = q := by
    unfold mateN
    rw [List.getD_eq_getElem?_getD, h3]
    rfl
  rw [e]
  refine ⟨h1, h2, h3, ?_⟩
  unfold mateN
  rw [List.getD_eq_getElem?_getD, h4]
  rfl
theorem IsPair.even {l : List Int} (h : IsPair l) : l.length % 2 = 0 := by
  obtain ⟨n, hn⟩ : ∃ n, l.length = n := ⟨_, rfl⟩
  have hm : ∀ p, p < n → mateN l p < n ∧ mateN l p ≠ p ∧ mateN l (mateN l p) = p := fun p hp => by
    have := h.mates (p := p) (by omega)
    rw [hn] at this
    exact ⟨this.1, this.2.1, this.2.2.2⟩
  rw [hn]
  generalize mateN l = s at hm
  have hA : sumN (fun p => if p < s p then 1 else 0) n = sumN (fun p => sumN (fun q => if s p = q then (if p < q then 1 else 0) else 0) n) n := by
    refine sumN_congr n fun p hp => ?_
    have e : sumN (fun q => if s p = q then (if p < q then 1 else 0) else 0) n = sumN (fun q => if s p = q then (if p < s p then 1 else 0) else 0) n := sumN_congr n fun q _ => by
      by_cases e : s p = q
      · rw [if_pos e, if_pos e, e]
      · rw [if_neg e, if_neg e]
    rw [e, sumN_one, if_pos (hm p hp).1]
  have hB : sumN (fun q => if s q < q then 1 else 0) n = sumN (fun q => sumN (fun p => if s p = q then (if p < q then 1 else 0) else 0) n) n := by
    refine sumN_congr n fun q hq => ?_
    have e : sumN (fun p => if s p = q then (if p < q then 1 else 0) else 0) n = sumN (fun p => if s q = p then (if s q < q then 1 else 0) else 0) n := sumN_congr n fun p hp => by
      by_cases e : s p = q
      · have e2 : s q = p := by rw [← e]; exact (hm p hp).2.2
        rw [if_pos e, if_pos e2, e2]
      · have e2 : ¬ s q = p := fun e2 => e (by rw [← e2]; exact (hm q hq).2.2)
        rw [if_neg e, if_neg e2]
    rw [e, sumN_one, if_pos (hm q hq).1]
  have hAB : sumN (fun p => (if p < s p then 1 else 0) + (if s p < p then 1 else 0)) n = n := by
    have e : sumN (fun p => (if p < s p then 1 else 0) + (if s p < p then 1 else 0)) n = sumN (fun _ => 1) n := sumN_congr n fun p hp => by
      have := (hm p hp).2.1
      by_cases h1 : p < s p
      · rw [if_pos h1, if_neg (by omega)]
      · rw [if_neg h1, if_pos (by omega)]
    have e1 : ∀ N, sumN (fun _ => 1) N = N := fun N => by induction N with
      | zero => rfl
      | succ N ih => rw [sumN, ih]
    rw [e, e1]
  rw [sumN_add, hA, hB, sumN_swap] at hAB
  omega

/-- All ports are counted. -/
def portsN (l : List Int) : Nat := (List.range 20).countP fun k : Nat => l[k]? != some (k : Int)
theorem portsN_pad {l : List Int} (hl : l.length ≤ 20) (h : ∀ p, p < l.length → l[p]? ≠ some (p : Int)) : portsN (padTo l) = l.length := by
  have main : ∀ N, N ≤ 20 → ((List.range N).countP fun k : Nat => (padTo l)[k]? != some (k : Int)) = min N l.length := fun N => by
    induction N with
    | zero => intro _; simp
    | succ N ih =>
      intro hN
      rw [List.range_succ, List.countP_append, ih (by omega), List.countP_cons, List.countP_nil]
      by_cases hk : N < l.length
      · have e : ((padTo l)[N]? != some (N : Int)) = true := by
          rw [padTo_at (List.getElem?_eq_getElem hk), bne_iff_ne]
          have := h N hk
          rwa [List.getElem?_eq_getElem hk] at this
        rw [if_pos e]
        omega
      · have e : ((padTo l)[N]? != some (N : Int)) = false := by
          rw [padTo_behind (by omega) (by omega)]
          simp
        rw [e, if_neg (by decide)]
        omega
  unfold portsN
  rw [main 20 (Nat.le_refl _)]
  omega
theorem IsPair.ports {l : List Int} (h : IsPair l) : portsN (padTo l) = l.length := portsN_pad h.2.1 fun p hp e => by
  have := (h.mates hp)
  rw [e] at this
  have h2 := Option.some.inj this.2.2.1
  omega
/-- Back is where it began just for pairings. -/
theorem back_pair {l : List Int} (h4 : 4 ≤ l.length) (h20 : l.length ≤ 20) (h : ∀ p, p < l.length → ∃ q, q < l.length ∧ q ≠ p ∧ l[p]? = some (q : Int)) : backL (padTo l) = idL ↔ IsPair l := by
  constructor
  · intro e
    refine ⟨h4, h20, fun p hp => ?_⟩
    obtain ⟨q, h1, h2, h3⟩ := h p hp
    refine ⟨q, h1, h2, h3, ?_⟩
    have e1 := backL_at (padTo_at h3) (padTo_at (List.getElem?_eq_getElem h1))
    rw [e, idL_at (by omega)] at e1
    rw [List.getElem?_eq_getElem h1, ← e1]
  · intro hp
    refine List.ext_getElem? fun k => ?_
    by_cases hk : k < 20
    · rw [idL_at hk]
      by_cases hkl : k < l.length
      · obtain ⟨q, h1, h2, h3, h5⟩ := hp.2.2 k hkl
        exact backL_at (padTo_at h3) (padTo_at h5)
      · have e := padTo_behind (l := l) (by omega) hk
        exact backL_at e e
    · rw [List.getElem?_eq_none (by rw [backL_length, padTo_length h20]; omega), List.getElem?_eq_none (by rw [idL_length]; omega)]
theorem pad_in {l : List Int} (h20 : l.length ≤ 20) (h : ∀ p, p < l.length → ∃ q, q < l.length ∧ q ≠ p ∧ l[p]? = some (q : Int)) : ∀ k : Nat, k < 20 → ∃ q : Nat, q < 20 ∧ (padTo l)[k]? = some (q : Int) := fun k hk => by
  by_cases hkl : k < l.length
  · obtain ⟨q, h1, _, h3⟩ := h k hkl
    exact ⟨q, by omega, padTo_at h3⟩
  · exact ⟨k, hk, padTo_behind (by omega) hk⟩
end Go.Proofs.Ytgildagmliadeaa
