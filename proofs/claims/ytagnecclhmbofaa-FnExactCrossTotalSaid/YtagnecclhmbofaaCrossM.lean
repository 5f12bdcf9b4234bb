/- Plain words on crossings: cells that are empty, gone through twice, or by two beams. No program is named but the places. -/
import Derived.Test.YtagnecclhmbofaaTwiceL
import Derived.Test.YtagnecclhmbofaaMeetsM
namespace Go.Proofs.Ytagnecclhmbofaa

/-- The cell is empty. -/
def emptyC (m : Nat) (t : Int → Int → UInt8) (c : Nat) : Bool := t ((c / m : Nat) : Int) ((c % m : Nat) : Int) == 46
def selfN (n m : Nat) (t : Int → Int → UInt8) (q : Nat) : Nat := (List.range (n * m)).countP fun c => (bcells n m t q).count c == 2 && emptyC m t c
def bothN (n m : Nat) (t : Int → Int → UInt8) (p q : Nat) : Nat := (List.range (n * m)).countP fun c => goesC n m t p c && goesC n m t q c && emptyC m t c
theorem countP_filter_map {α β : Type} (p : α → Bool) (f : α → β) (q : β → Bool) (l : List α) : ((l.filter p).map f).countP q = l.countP fun x => p x && q (f x) := by
  rw [List.countP_map, List.countP_filter]
  refine List.countP_congr fun x _ => ?_
  simp [Bool.and_comm]
theorem empt_twP {n m : Nat} {ls : List UInt8} {q : Nat} : emptN m ls (twP n m (lett m ls) q) = selfN n m (lett m ls) q := by
  unfold emptN twP
  rw [countP_filter_map]
  rfl
theorem sumN_two' (f : Nat → Nat) (e : Nat → Bool) : ∀ N, (∀ c, c < N → f c ≤ 2) → sumN (fun c => f c * (if e c = true then f c - 1 else 0)) N = 2 * (List.range N).countP fun c => f c == 2 && e c
  | 0, _ => rfl
  | N + 1, h => by
    rw [sumN, sumN_two' f e N (fun c hc => h c (by omega)), List.range_succ, List.countP_append, List.countP_cons, List.countP_nil]
    have := h N (by omega)
    have h3 : f N = 0 ∨ f N = 1 ∨ f N = 2 := by omega
    cases he : e N <;> rcases h3 with e | e | e <;> simp [e] <;> omega
/-- What the specification adds up for one way. -/
def spareE (m : Nat) (t : Int → Int → UInt8) (l : List Nat) (k : Nat) : Nat := ((l.take k).map fun c => if emptyC m t c = true then l.count c - 1 else 0).sum
theorem spareE_succ (m : Nat) (t : Int → Int → UInt8) (l : List Nat) (k c : Nat) (h : l[k]? = some c) : spareE m t l (k + 1) = spareE m t l k + (if emptyC m t c = true then l.count c - 1 else 0) := by
  obtain ⟨hlt, rfl⟩ := List.getElem?_eq_some_iff.1 h
  unfold spareE
  rw [List.take_succ_eq_append_getElem hlt, List.map_append, List.sum_append]
  simp
theorem sum_le {α : Type} (f : α → Nat) (b : Nat) : ∀ xs : List α, (∀ x ∈ xs, f x ≤ b) → (xs.map f).sum ≤ b * xs.length
  | [], _ => by simp
  | x :: xs, h => by
    have h1 := h x (by simp)
    have h2 := sum_le f b xs (fun y hy => h y (by simp [hy]))
    rw [List.map_cons, List.sum_cons, List.length_cons, Nat.mul_add, Nat.mul_one]
    omega
theorem spareE_le (m : Nat) (t : Int → Int → UInt8) (l : List Nat) (k : Nat) (h : ∀ c, l.count c ≤ 2) : spareE m t l k ≤ k := by
  have := sum_le (fun c => if emptyC m t c = true then l.count c - 1 else 0) 1 (l.take k) (fun c _ => by
    have := h c
    split <;> omega)
  rw [Nat.one_mul, List.length_take] at this
  unfold spareE
  omega
theorem spareE_all {n m : Nat} {t : Int → Int → UInt8} {p : Nat} (hp : p < 2 * (n + m)) (hm : 1 ≤ m) : spareE m t (bcells n m t p) (blen n m t p) = 2 * selfN n m t p := by
  unfold spareE
  rw [List.take_of_length_le (by rw [bcells_length]; exact Nat.le_refl _), sum_swap _ (n * m) _ bcells_lt]
  exact sumN_two' _ _ _ fun c _ => count_le2 hp hm
/-- What the specification adds up for two ways. -/
def bothE (m : Nat) (t : Int → Int → UInt8) (a b : List Nat) (k : Nat) : Nat := ((a.take k).map fun c => if emptyC m t c = true then b.count c else 0).sum
theorem bothE_succ (m : Nat) (t : Int → Int → UInt8) (a b : List Nat) (k c : Nat) (h : a[k]? = some c) : bothE m t a b (k + 1) = bothE m t a b k + (if emptyC m t c = true then b.count c else 0) := by
  obtain ⟨hlt, rfl⟩ := List.getElem?_eq_some_iff.1 h
  unfold bothE
  rw [List.take_succ_eq_append_getElem hlt, List.map_append, List.sum_append]
  simp
theorem bothE_le (m : Nat) (t : Int → Int → UInt8) (a b : List Nat) (k : Nat) (h : ∀ c, b.count c ≤ 2) : bothE m t a b k ≤ 2 * k := by
  have := sum_le (fun c => if emptyC m t c = true then b.count c else 0) 2 (a.take k) (fun c _ => by
    have := h c
    split <;> omega)
  rw [List.length_take] at this
  unfold bothE
  omega
theorem bothE_all {n m : Nat} {t : Int → Int → UInt8} {p q : Nat} (hn : 1 ≤ n) (hm : 1 ≤ m) (hp : p < 2 * (n + m)) (hq : q < 2 * (n + m)) (h1 : p ≠ q) (h2 : bend_ n m t p ≠ q) (h3 : p ≠ bend_ n m t q) :
    bothE m t (bcells n m t p) (bcells n m t q) (blen n m t p) = bothN n m t p q := by
  unfold bothE
  rw [List.take_of_length_le (by rw [bcells_length]; exact Nat.le_refl _), sum_swap _ (n * m) _ bcells_lt]
  unfold bothN
  rw [← sumN_countP]
  refine sumN_congr _ fun c _ => ?_
  cases he : emptyC m t c with
  | false => simp
  | true =>
    by_cases hc : 0 < (bcells n m t p).count c
    · have h4 := count_other hn hm hp hq h1 h3 hc
      have hg : goesC n m t p c = true := decide_eq_true hc
      by_cases hd : 0 < (bcells n m t q).count c
      · have h5 := count_other hn hm hq hp (fun e => h1 e.symm) (fun e => h2 e.symm) hd
        have hg2 : goesC n m t q c = true := decide_eq_true hd
        rw [hg, hg2]
        simp
        have e1 : (bcells n m t p).count c = 1 := by omega
        have e2 : (bcells n m t q).count c = 1 := by omega
        rw [e1, e2]
      · have hg2 : goesC n m t q c = false := decide_eq_false hd
        rw [hg, hg2]
        simp
        rw [show List.count c (bcells n m t q) = 0 by omega, Nat.mul_zero]
    · have hg : goesC n m t p c = false := decide_eq_false hc
      rw [hg]
      simp
      rw [show List.count c (bcells n m t p) = 0 by omega, Nat.zero_mul]
end Go.Proofs.Ytagnecclhmbofaa
