/- slices.Insert at []int, of slices of the call's own: by the library's contracts. -/
import Derived.Test.YtonhnmpgikmlpaaBunV
import Derived.Test.YtonhnmpgikmlpaaInsLay
namespace Go.Proofs.Ytonhnmpgikmlpaa
open Go.RowKit Go.Shelf

theorem but_setCells (g : Nat) : ∀ (vs : List Value) (o : Nat) (w : World), But g w (w.setCells g o vs)
  | [], _, w => But.refl g w
  | v :: r, o, w => (But.setCell w o v).trans (but_setCells g r (o + 1) _)
theorem intsV_at {l : List Int} {k : Nat} {v : Value} (h : (intsV l)[k]? = some v) : ∃ x, l[k]? = some x ∧ v = .int .i64 x := by
  unfold intsV at h
  rw [List.getElem?_map] at h
  cases hk : l[k]? with
  | none => rw [hk] at h; cases h
  | some x => rw [hk] at h; exact ⟨x, rfl, (Option.some.inj h).symm⟩
theorem intsV_get {l : List Int} {k : Nat} {x : Int} (h : l[k]? = some x) : (intsV l)[k]? = some (.int .i64 x) := by simp [intsV, h]
theorem intsV_len (l : List Int) : (intsV l).length = l.length := by simp [intsV]
theorem intsV_drop (l : List Int) (m : Nat) : (intsV l).drop m = intsV (l.drop m) := by simp [intsV]
/-- The cells of block g from place o on, set to integers. -/
theorem set_in {w : World} {g o j : Nat} {l : List Int} {x : Int} (h : ∀ i, i < l.length → (w.cell? ⟨g, o + i, none⟩).isSome = true) (hj : l[j]? = some x) : (w.setCells g o (intsV l)).cell? ⟨g, o + j, none⟩ = some (.int .i64 x) := by
  obtain ⟨hl, hx⟩ := List.getElem?_eq_some_iff.1 hj
  have h1 := World.cell?_setCells_in g (intsV l) o w (fun i hi => h i (by rwa [intsV_len] at hi)) j (by rw [intsV_len]; exact hl)
  rw [h1]
  have h2 := intsV_get hj
  rw [List.getElem?_eq_getElem (by rw [intsV_len]; exact hl)] at h2
  exact h2
theorem set_out {w : World} {g o k : Nat} {l : List Int} (h : k < o ∨ o + l.length ≤ k) : (w.setCells g o (intsV l)).cell? ⟨g, k, none⟩ = w.cell? ⟨g, k, none⟩ :=
  World.cell?_setCells_out g _ _ _ _ (fun _ _ => by rw [intsV_len]; exact h)
theorem ins_split {l1 l2 : List Int} {m k : Nat} {x : Int} (hm : m ≤ l1.length) (h : (l1.take m ++ l2 ++ l1.drop m)[k]? = some x) : (k < m ∧ l1[k]? = some x) ∨ (m ≤ k ∧ k < m + l2.length ∧ l2[k - m]? = some x) ∨ (m + l2.length ≤ k ∧ (l1.drop m)[k - (m + l2.length)]? = some x) := by
  have ht : (l1.take m).length = m := by rw [List.length_take]; omega
  by_cases h1 : k < m
  · left
    rw [List.append_assoc, List.getElem?_append_left (by omega), List.getElem?_take_of_lt h1] at h
    exact ⟨h1, h⟩
  · by_cases h2 : k < m + l2.length
    · right; left
      rw [List.getElem?_append_left (by rw [List.length_append]; omega), List.getElem?_append_right (by omega), ht] at h
      exact ⟨by omega, h2, h⟩
    · right; right
      rw [List.getElem?_append_right (by rw [List.length_append]; omega), List.length_append, ht] at h
      exact ⟨by omega, h⟩

set_option maxRecDepth 100000 in
set_option maxHeartbeats 2000000 in
theorem insert_any (base base2 g g2 c c2 m : Nat) (l1 l2 : List Int) (w : World) (h1 : GrowI w base (.slice (some ⟨g, 0, none⟩) l1.length c) l1) (h2 : GrowI w base2 (.slice (some ⟨g2, 0, none⟩) l2.length c2) l2) (hne : g2 ≠ g) (hm : m < l1.length) (hk : 0 < l2.length) (hl : l1.length + l2.length ≤ 1000) :
    Calls Try.prog 169 #[.slice (some ⟨g, 0, none⟩) l1.length c, .int .i64 (m : Int), .slice (some ⟨g2, 0, none⟩) l2.length c2] w fun e w' => (∃ g' c', e = .returned (.slice (some ⟨g', 0, none⟩) (l1.length + l2.length) c') ∧ Ints w' w'.heap.size (some ⟨g', 0, none⟩) (l1.take m ++ l2 ++ l1.drop m) ∧ (g' = g ∨ w.heap.size ≤ g')) ∧ But g w w' := by
  have hc1 : ∀ (j : Nat) v, (intsV l1)[j]? = some v → w.cell? ⟨g, 0 + j, none⟩ = some v := fun j v hj => by
    obtain ⟨x, hx, rfl⟩ := intsV_at hj
    rw [Nat.zero_add]
    exact growI_cell h1 hx
  have hc2 : ∀ (j : Nat) v, (intsV l2)[j]? = some v → w.cell? ⟨g2, 0 + j, none⟩ = some v := fun j v hj => by
    obtain ⟨x, hx, rfl⟩ := intsV_at hj
    rw [Nat.zero_add]
    exact growI_cell h2 hx
  rcases h1.2 with ⟨h0, _⟩ | ⟨g', cap, cur, hv, _, hg, hnc, hmax, hsz, _⟩
  · cases h0
  cases hv
  rcases h2.2 with ⟨h0, _⟩ | ⟨g2', cap2, cur2, hv2, _, hg2, hnc2, hmax2, hsz2, _⟩
  · cases h0
  cases hv2
  rw [Nat.mul_one] at hsz hsz2
  have hgs : ∀ j, j < c → (w.cell? ⟨g, j, none⟩).isSome = true := fun j hj => by
    rw [cell_of_row _ _ _ _ _ _ hg, Array.getElem?_eq_getElem (by omega)]
    rfl
  have hfz : ∀ j, w.frozen? ⟨g, j, none⟩ = false := fun j => frozen_of_row _ _ _ _ _ hg
  unfold maxLen at hmax
  by_cases hroom : l1.length + l2.length ≤ c
  · have hc : Calls Try.prog 169 #[.slice (some ⟨g, 0, none⟩) l1.length c, .int .i64 (m : Int), .slice (some ⟨g2, 0, none⟩) l2.length c2] w _ :=
      Any2.slices_Insert_int_shift Try.lays21 g 0 l1.length c m g2 0 l2.length c2 (intsV l1) (intsV l2) w hm hk hroom (by omega) hne (intsV_len _) (intsV_len _) hc1 (fun j hj => by rw [Nat.zero_add]; exact hgs j (by omega)) (fun j _ => hfz _) hc2 (intsV_one _) (intsV_one _)
        3 3 cur2.size cur.size (by unfold World.shape?; rw [hg2]) (by unfold World.shape?; rw [hg]) (by omega) (frozen_of_row _ _ _ _ _ hg2) (frozen_of_row _ _ _ _ _ hg2)
    refine hc.mono ?_
    rintro e w' ⟨rfl, rfl⟩
    rw [intsV_drop, Nat.zero_add, Nat.zero_add]
    have hbut : But g w ((w.drew.setCells g (m + l2.length) (intsV (l1.drop m))).setCells g m (intsV l2)) := ((But.of_below (Below.refl _ _).drew).trans (but_setCells _ _ _ _)).trans (but_setCells _ _ _ _)
    refine ⟨⟨g, c, rfl, fun _ => ⟨g, 0, rfl, Nat.lt_of_lt_of_le (lt_of_block hg) hbut.size, fun k x hx => ?_⟩, .inl rfl⟩, hbut⟩
    rw [Nat.zero_add]
    have hs1 : ∀ i, i < (l1.drop m).length → (w.drew.cell? ⟨g, m + l2.length + i, none⟩).isSome = true := fun i hi => by rw [List.length_drop] at hi; exact hgs _ (by omega)
    rcases ins_split (by omega) hx with ⟨a, b⟩ | ⟨a, b, d⟩ | ⟨a, b⟩
    · rw [set_out (.inl a), set_out (.inl (by omega))]
      exact growI_cell h1 b
    · have := set_in (w := w.drew.setCells g (m + l2.length) (intsV (l1.drop m))) (g := g) (o := m) (l := l2) (fun i hi => by
        rw [set_out (.inl (by omega))]
        exact hgs _ (by omega)) d
      rwa [show m + (k - m) = k by omega] at this
    · rw [set_out (.inr a)]
      have := set_in hs1 b
      rwa [show m + l2.length + (k - (m + l2.length)) = k by omega] at this
  · have hc : Calls Try.prog 169 #[.slice (some ⟨g, 0, none⟩) l1.length c, .int .i64 (m : Int), .slice (some ⟨g2, 0, none⟩) l2.length c2] w _ :=
      Any2.slices_Insert_int_grow Try.lays21 g 0 l1.length c m g2 0 l2.length c2 (intsV l1) (intsV l2) w hm hk hnc (by omega) (by omega) (intsV_len _) (intsV_len _) hc1 hc2 (intsV_one _) (intsV_one _)
    refine hc.mono ?_
    rintro e w' ⟨rfl, rfl⟩
    rw [intsV_drop, show Try.lays21_ren.t 3 = 3 from rfl]
    generalize hG : grownCap w _ _ _ = G
    generalize hROW : ((intsV l1).take m).toArray ++ _ ++ _ = ROW
    have hrl : l1.length + l2.length ≤ ROW.size := by
      rw [← hROW]
      simp [Builtin.zeroCells, Value.cells, intsV_len]
      omega
    have hrow : ∀ (k : Nat) (x : Int), k < m → l1[k]? = some x → ROW[k]? = some (.int .i64 x) := fun k x hk hx => by
      rw [← hROW, Array.append_assoc, Array.getElem?_append_left (by simp [intsV_len]; omega)]
      rw [List.getElem?_toArray, List.getElem?_take_of_lt hk]
      exact intsV_get hx
    clear hROW hG
    have hN := heap_new0 w (.cells ROW 3)
    have hns : ∀ j, j < l1.length + l2.length → ((w.alloc (.cells ROW 3)).drew.cell? ⟨w.heap.size, j, none⟩).isSome = true := fun j hj => by
      show ((w.alloc (.cells ROW 3)).cell? ⟨w.heap.size, j, none⟩).isSome = true
      rw [cell_of_row _ _ _ _ _ _ hN, Array.getElem?_eq_getElem (by omega)]
      rfl
    have hbb : Below w.heap.size w ((((w.alloc (.cells ROW 3)).drew.setCells w.heap.size m (intsV l2)).drew).setCells w.heap.size (m + l2.length) (intsV (l1.drop m))) := by
      have b1 : Below w.heap.size w (w.alloc (.cells ROW 3)).drew := ((Below.refl _ w).alloc (Nat.le_refl _) _).drew
      have b2 := b1.trans ((but_setCells w.heap.size (intsV l2) m _).below (Nat.le_refl _) b1.size)
      have b3 := b2.drew
      exact b3.trans ((but_setCells w.heap.size (intsV (l1.drop m)) (m + l2.length) _).below (Nat.le_refl _) b3.size)
    refine ⟨⟨w.heap.size, G, rfl, fun _ => ⟨w.heap.size, 0, rfl, ?_, fun k x hx => ?_⟩, .inr (Nat.le_refl _)⟩, But.of_below hbb⟩
    · have h3 := (but_setCells w.heap.size (intsV l2) m (w.alloc (.cells ROW 3)).drew).size
      have h4 := (but_setCells w.heap.size (intsV (l1.drop m)) (m + l2.length) ((w.alloc (.cells ROW 3)).drew.setCells w.heap.size m (intsV l2)).drew).size
      have h5 : (w.alloc (.cells ROW 3)).drew.heap.size = w.heap.size + 1 := by
        show (w.alloc (.cells ROW 3)).heap.size = _
        simp
      have h6 : ((w.alloc (.cells ROW 3)).drew.setCells w.heap.size m (intsV l2)).drew.heap.size = ((w.alloc (.cells ROW 3)).drew.setCells w.heap.size m (intsV l2)).heap.size := rfl
      omega
    · rw [Nat.zero_add]
      have hs1 : ∀ i, i < l2.length → ((w.alloc (.cells ROW 3)).drew.cell? ⟨w.heap.size, m + i, none⟩).isSome = true := fun i hi => hns _ (by omega)
      have hd : ∀ q, ((w.alloc (.cells ROW 3)).drew.setCells w.heap.size m (intsV l2)).drew.cell? q = ((w.alloc (.cells ROW 3)).drew.setCells w.heap.size m (intsV l2)).cell? q := fun _ => rfl
      rcases ins_split (by omega) hx with ⟨a, b⟩ | ⟨a, b, d⟩ | ⟨a, b⟩
      · rw [set_out (.inl (by omega)), hd, set_out (.inl a)]
        show (w.alloc (.cells ROW 3)).cell? ⟨w.heap.size, k, none⟩ = _
        rw [cell_of_row _ _ _ _ _ _ hN]
        exact hrow k x a b
      · rw [set_out (.inl b), hd]
        have := set_in hs1 d
        rwa [show m + (k - m) = k by omega] at this
      · have := set_in (w := ((w.alloc (.cells ROW 3)).drew.setCells w.heap.size m (intsV l2)).drew) (g := w.heap.size) (o := m + l2.length) (l := l1.drop m) (fun i hi => by
          rw [List.length_drop] at hi
          rw [hd, set_out (.inr (by omega))]
          exact hns _ (by omega)) b
        rwa [show m + l2.length + (k - (m + l2.length)) = k by omega] at this
end Go.Proofs.Ytonhnmpgikmlpaa
