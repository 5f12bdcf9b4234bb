/- How many cells a beam goes through twice: two ways to count. No program is named but the numbers' list. -/
import Derived.Test.YtpbppkidglmacaaTimes
namespace Go.Proofs.Ytpbppkidglmacaa

theorem count_cells (n m : Nat) (t : Int → Int → UInt8) (p c : Nat) : (cellsI m (bway n m t p) (blen n m t p)).count ((c : Nat) : Int) = (bcells n m t p).count c := by
  unfold cellsI bcells
  rw [List.count, List.count, List.countP_map, List.countP_map]
  refine List.countP_congr fun j _ => ?_
  simp only [Function.comp, beq_iff_eq]
  omega
theorem bcells_lt {n m : Nat} {t : Int → Int → UInt8} {p : Nat} : ∀ x ∈ bcells n m t p, x < n * m := fun x hx => by
  unfold bcells at hx
  obtain ⟨j, hj, rfl⟩ := List.mem_map.1 hx
  exact cellN_lt (blen_in (List.mem_range.1 hj))
theorem count_le2 {n m : Nat} {t : Int → Int → UInt8} {p c : Nat} (hp : p < 2 * (n + m)) (hm : 1 ≤ m) : (bcells n m t p).count c ≤ 2 := by
  have h1 := times_count (n := n) (m := m) (t := t) (p := p) (i := c / m) (k := c % m) hp (Nat.mod_lt _ (by omega))
  rw [Nat.div_add_mod'] at h1
  rw [← h1]
  exact times_le _ _
theorem times_at {n m : Nat} {t : Int → Int → UInt8} {p c : Nat} (hp : p < 2 * (n + m)) (hm : 1 ≤ m) : upT (fun d => goesTo (bway n m t p) (blen n m t p) ⟨((c / m : Nat) : Int), ((c % m : Nat) : Int), d⟩) 4 = (bcells n m t p).count c := by
  have h1 := times_count (n := n) (m := m) (t := t) (p := p) (i := c / m) (k := c % m) hp (Nat.mod_lt _ (by omega))
  rw [Nat.div_add_mod'] at h1
  exact h1
theorem sumN_two (f : Nat → Nat) : ∀ N, (∀ c, c < N → f c ≤ 2) → sumN (fun c => f c * (f c - 1)) N = 2 * (List.range N).countP fun c => f c == 2
  | 0, _ => rfl
  | N + 1, h => by
    rw [sumN, sumN_two f N (fun c hc => h c (by omega)), List.range_succ, List.countP_append, List.countP_cons, List.countP_nil]
    have := h N (by omega)
    have h3 : f N = 0 ∨ f N = 1 ∨ f N = 2 := by omega
    rcases h3 with e | e | e <;> simp [e] <;> omega
/-- What the specification adds up. -/
def spare (l : List Nat) (k : Nat) : Nat := ((l.take k).map fun c => l.count c - 1).sum
theorem spare_succ (l : List Nat) (k c : Nat) (h : l[k]? = some c) : spare l (k + 1) = spare l k + (l.count c - 1) := by
  obtain ⟨hlt, rfl⟩ := List.getElem?_eq_some_iff.1 h
  unfold spare
  rw [List.take_succ_eq_append_getElem hlt, List.map_append, List.sum_append]
  simp
theorem spare_le (l : List Nat) (k : Nat) (h : ∀ c, l.count c ≤ 2) : spare l k ≤ k := by
  unfold spare
  have : ∀ xs : List Nat, (xs.map fun c => l.count c - 1).sum ≤ xs.length := fun xs => by
    induction xs with
    | nil => simp
    | cons x xs ih =>
      have := h x
      simp only [List.map_cons, List.sum_cons, List.length_cons]
      omega
  refine Nat.le_trans (this _) ?_
  rw [List.length_take]
  omega
def twiceR (n m : Nat) (t : Int → Int → UInt8) (q : Nat) : Int × Bool := ((((List.range (n * m)).countP fun c => (bcells n m t q).count c == 2 : Nat) : Int), true)
theorem spare_all {n m : Nat} {t : Int → Int → UInt8} {p : Nat} (hp : p < 2 * (n + m)) (hm : 1 ≤ m) : spare (bcells n m t p) (blen n m t p) = 2 * (List.range (n * m)).countP fun c => (bcells n m t p).count c == 2 := by
  unfold spare
  rw [List.take_of_length_le (by rw [bcells_length]; exact Nat.le_refl _), sum_swap _ (n * m) _ bcells_lt]
  exact sumN_two _ _ fun c _ => count_le2 hp hm
end Go.Proofs.Ytpbppkidglmacaa
