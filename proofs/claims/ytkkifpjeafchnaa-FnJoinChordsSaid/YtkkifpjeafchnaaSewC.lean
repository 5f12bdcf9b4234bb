/- Ports sewn one pair after another; closed of the program, by its contract. -/
import Derived.Test.YtkkifpjeafchnaaSewN
namespace Go.Proofs.Ytkkifpjeafchnaa
open Go.RowKit Go.Shelf

theorem othersL_none (N : Nat) : List.replicate N (-1 : Int) = othersL N (fun i => i) := by
  refine List.ext_getElem? fun k => ?_
  by_cases hk : k < N
  · rw [othersL_at hk, if_pos rfl, List.getElem?_replicate, if_pos hk]
  · rw [List.getElem?_eq_none (by simp; omega), List.getElem?_eq_none (by rw [othersL_length]; omega)]
theorem sewT_zero (m N : Nat) : sewT 0 m N = fun i => i := by
  funext i
  unfold sewT
  rw [if_neg (by omega), if_neg (by omega)]
/-- One more row sewn. -/
theorem othersL_sew {N m k : Nat} (h : m + (k + 1) + (k + 1) ≤ N) : ((othersL N (sewT k m N)).set (m + k) ((N - 1 - k : Nat) : Int)).set (N - 1 - k) ((m + k : Nat) : Int) = othersL N (sewT (k + 1) m N) := by
  refine List.ext_getElem? fun i => ?_
  by_cases hi : i < N
  · rw [othersL_at hi]
    by_cases h1 : i = N - 1 - k
    · subst h1
      have e : sewT (k + 1) m N (N - 1 - k) = m + k := by unfold sewT; rw [if_neg (by omega), if_pos (by omega)]; omega
      rw [List.getElem?_set_self (by rw [List.length_set, othersL_length]; omega), e, if_neg (by omega)]
    · rw [List.getElem?_set_ne (fun e => h1 e.symm)]
      by_cases h2 : i = m + k
      · subst h2
        have e : sewT (k + 1) m N (m + k) = N - 1 - k := by unfold sewT; rw [if_pos (by omega)]; omega
        rw [List.getElem?_set_self (by rw [othersL_length]; omega), e, if_neg (by omega)]
      · rw [List.getElem?_set_ne (fun e => h2 e.symm), othersL_at hi]
        have e : sewT (k + 1) m N i = sewT k m N i := by
          unfold sewT
          by_cases h3 : m ≤ i ∧ i < m + k
          · rw [if_pos h3, if_pos (by omega)]
          · rw [if_neg h3, if_neg (by omega)]
            by_cases h4 : N - k ≤ i ∧ i < N
            · rw [if_pos h4, if_pos (by omega)]
            · rw [if_neg h4, if_neg (by omega)]
        rw [e]
  · rw [List.getElem?_eq_none (by simp [othersL_length]; omega), List.getElem?_eq_none (by rw [othersL_length]; omega)]
theorem catI_one (l : List Int) : catI [l] 1 = l := by
  show [] ++ List.map (fun x => (([] : List Int).length : Int) + x) l = l
  simp
theorem catI_two {a b : List Int} (ha : IsPair a) (hb : IsPair b) : catI [a, b] 2 = listS (a.length + b.length) (twoS a.length (mateN a) (mateN b)) := by
  have h1 : catI [a, b] 2 = catI [a, b] 1 ++ b.map fun x => ((catI [a, b] 1).length : Int) + x := rfl
  have h2 : catI [a, b] 1 = a := by
    show [] ++ List.map (fun x => (([] : List Int).length : Int) + x) a = a
    simp
  rw [h1, h2]
  refine listS_all (by simp) fun q hq => ?_
  unfold twoS
  by_cases hqa : q < a.length
  · rw [List.getElem?_append_left hqa, if_pos hqa, (ha.mates hqa).2.2.1]
  · rw [List.getElem?_append_right (by omega), if_neg hqa, List.getElem?_map, (hb.mates (p := q - a.length) (by omega)).2.2.1]
    rfl
theorem set_take {α : Type} (l : List α) (n i : Nat) (x : α) : (l.set i x).take n = (l.take n).set i x := by
  rw [List.take_set]
/-- Two places of a slice that has grown turned. -/
theorem GrowI.paired {w w' : World} {base g n c i j : Nat} {l : List Int} {cs : Array Value} (h : GrowI w base (.slice (some ⟨g, 0, none⟩) n c) l) (hcs : w.heap[g]? = some (.cells cs 3 (0, 0))) (hp : PairedAt w w' g cs 3 i j) :
    GrowI w' base (.slice (some ⟨g, 0, none⟩) n c) ((l.set i (j : Int)).set j (i : Int)) := by
  rcases h.2 with ⟨h0, _⟩ | ⟨g', cap, cur, hv, hb, hg, h1, h2, h3, h4⟩
  · cases h0
  · cases hv
    rw [hcs] at hg
    cases hg
    refine ⟨?_, .inr ⟨g, c, _, ?_, hb, hp.1, ?_, h2, by simpa using h3, ?_⟩⟩
    · simp [intsV]
    · simp
    · simpa using h1
    · rw [Array.toList_setIfInBounds, Array.toList_setIfInBounds, set_take, set_take]
      have h5 : cs.toList.take (l.length * 1) = intsV l := h4
      simp only [List.length_set]
      rw [h5]
      unfold intsV
      rw [List.map_set, List.map_set]

set_option maxRecDepth 100000 in
set_option maxHeartbeats 4000000 in
theorem sew_any (A1 : Option Addr) (c1 c2 g N i j : Nat) (cs : Array Value) (w : World) (hg : w.heap[g]? = some (.cells cs 3 (0, 0))) (hN : N ≤ cs.size) (hi : i < N) (hj : j < N) (hij : i ≠ j) :
    Calls Try.prog 131 #[.agg #[.slice A1 N c1, .slice (some ⟨g, 0, none⟩) N c2], .int .i64 (i : Int), .int .i64 (j : Int)] w fun e w' => e = .returned (.tuple #[]) ∧ PairedAt w w' g cs 3 i j := by
  have HS0 := hid (heap_new0 w (.cells #[.slice A1 N c1, .slice (some ⟨g, 0, none⟩) N c2] 166))
  have HB0 := hid ((Below.refl w.heap.size w).alloc (Nat.le_refl _) (.cells #[.slice A1 N c1, .slice (some ⟨g, 0, none⟩) N c2] 166))
  have HG := hid ((Below.heap_alloc w (.cells #[.slice A1 N c1, .slice (some ⟨g, 0, none⟩) N c2] 166) g (lt_of_block hg)).trans hg)
  have HGL := hid (lt_of_block hg)
  obtain ⟨u, hu⟩ : ∃ u, cs[i]? = some u := ⟨_, Array.getElem?_eq_getElem (by omega)⟩
  obtain ⟨u', hu'⟩ : ∃ u, cs[j]? = some u := ⟨_, Array.getElem?_eq_getElem (by omega)⟩
  clear hg
  go_enter Try.func131, Try.ntmps131
  go_wp2_with fail
  generalize World.alloc w _ = Y at HS0 HB0 HG ⊢
  have hc : Y.cell? ⟨g, i, none⟩ = some u := by rw [cell_of_row _ _ _ _ _ _ HG.out]; exact hu
  have hc' : Y.cell? ⟨g, j, none⟩ = some u' := by rw [cell_of_row _ _ _ _ _ _ HG.out]; exact hu'
  have hf : Y.frozen? ⟨g, i, none⟩ = false := frozen_of_row _ _ _ _ _ HG.out
  have hf' : Y.frozen? ⟨g, j, none⟩ = false := frozen_of_row _ _ _ _ _ HG.out
  have hs1 : Y.cell? ⟨w.heap.size, 1, none⟩ = some (.slice (some ⟨g, 0, none⟩) N c2) := by rw [cell_of_row _ _ _ _ _ _ HS0.out]; rfl
  have hgw : ¬ g = w.heap.size := by have := HGL.out; omega
  have hgw2 : ¬ w.heap.size = g := by have := HGL.out; omega
  have HIJ := hid hij
  have hii : (i : Int) < (N : Int) := by omega
  have hji : (j : Int) < (N : Int) := by omega
  clear hu hu'
  go_region
  go_wp2_with fail
  go_end0
  exact ⟨rfl, heap_setCell_same _ _ _ _ _ _ (heap_setCell_same _ _ _ _ _ _ HG.out), ((But.of_below HB0.out).trans ((But.setCell _ _ _).trans (But.setCell _ _ _))).trans (But.of_below (Below.refl _ _).drew)⟩
end Go.Proofs.Ytkkifpjeafchnaa
