/- Settled texts in one file. Each begins with what it holds. -/
import Derived.Test.YtgildagmliadeaaBunF
import Derived.Test.YtgildagmliadeaaBunO
import Derived.Test.YtgildagmliadeaaBunC
import Derived.Test.YtgildagmliadeaaBunB
import Derived.Test.YtgildagmliadeaaBunG
import Derived.Deep.MidRow
import Derived.Test.YtgildagmliadeaaTwiceS
/- Slices of places: grown by append, read; empties of the program, by its contract. -/
namespace Go.Proofs.Ytgildagmliadeaa
open Go.RowKit Go.Shelf

theorem Try.info_place3 : (Try.prog.info? 83).map (fun i => (i.zero, i.size, i.bytes)) = some (some (.agg #[.int .i64 0, .int .i64 0]), 2, 16) := by kernel_rfl
/-- The cells of places. -/
def plV (l : List (Int × Int)) : List Value := l.flatMap fun p => [.int .i64 p.1, .int .i64 p.2]
theorem plV_length : ∀ l : List (Int × Int), (plV l).length = l.length * 2
  | [] => rfl
  | p :: l => by
    have ih := plV_length l
    unfold plV at ih ⊢
    rw [List.flatMap_cons, List.length_append, ih, List.length_cons]
    simp
    omega
theorem plV_snoc (l : List (Int × Int)) (p : Int × Int) : plV (l ++ [p]) = plV l ++ [.int .i64 p.1, .int .i64 p.2] := by
  unfold plV
  rw [List.flatMap_append]
  rfl
theorem plV_at : ∀ (l : List (Int × Int)) (k : Nat) (p : Int × Int), l[k]? = some p → (plV l)[k * 2]? = some (.int .i64 p.1) ∧ (plV l)[k * 2 + 1]? = some (.int .i64 p.2)
  | [], k, p, h => by simp at h
  | q :: l, 0, p, h => by
    simp at h
    subst h
    exact ⟨rfl, rfl⟩
  | q :: l, k + 1, p, h => by
    obtain ⟨h1, h2⟩ := plV_at l k p (by simpa using h)
    unfold plV at h1 h2 ⊢
    rw [List.flatMap_cons, show (k + 1) * 2 = k * 2 + 2 by omega, show k * 2 + 2 + 1 = k * 2 + 1 + 2 by omega]
    exact ⟨h1, h2⟩
/-- A slice of places of the call's own. -/
def GrowPl (w : World) (base : Nat) (v : Value) (l : List (Int × Int)) : Prop := w.ownsRow base 83 2 v l.length (plV l)
theorem growPl_new (w : World) (base : Nat) (hb : base ≤ w.heap.size) : GrowPl (w.alloc (.cells #[] 83)) base (.slice (some ⟨w.heap.size, 0, none⟩) 0 0) [] :=
  World.ownsRow_made w #[] 0 hb (by unfold maxLen; omega) rfl
theorem GrowPl.below {w w' : World} {base : Nat} {v : Value} {l : List (Int × Int)} (h : GrowPl w base v l) (hb : Below w.heap.size w w') : GrowPl w' base v l := by
  refine World.ownsRow.kept h (Cls.grown hb) ?_
  cases v.ownBlock with
  | none => exact .inl rfl
  | some k => exact .inr (fun e => by cases e)
theorem GrowPl.lower {w : World} {b b' : Nat} {v : Value} {l : List (Int × Int)} (h : GrowPl w b v l) (hb : b' ≤ b) : GrowPl w b' v l :=
  ⟨h.1, h.2.imp id fun ⟨g, cap, cur, e, hlo, r⟩ => ⟨g, cap, cur, e, Nat.le_trans hb hlo, r⟩⟩
theorem GrowPl.slice {w : World} {base : Nat} {v : Value} {l : List (Int × Int)} (h : GrowPl w base v l) : ∃ A c, v = .slice A l.length c := by
  rcases h.2 with ⟨rfl, h0⟩ | ⟨g, cap, cur, rfl, _⟩
  · exact ⟨none, 0, by rw [h0]⟩
  · exact ⟨_, _, rfl⟩
/-- The slice reads as the places. -/
def Plcs (w : World) (A : Option Addr) (l : List (Int × Int)) : Prop :=
  0 < l.length → ∃ g, A = some ⟨g, 0, none⟩ ∧ g < w.heap.size ∧ ∀ (k : Nat) (p : Int × Int), l[k]? = some p → w.rangeAt g (2 * k) [.int .i64 p.1, .int .i64 p.2]
theorem Plcs.below {w w' : World} {A : Option Addr} {l : List (Int × Int)} (h : Plcs w A l) (hb : Below w.heap.size w w') : Plcs w' A l := fun hn => by
  obtain ⟨g, e, hlt, hc⟩ := h hn
  refine ⟨g, e, Nat.lt_of_lt_of_le hlt hb.size, fun k p hk j u hj => ?_⟩
  have := hc k p hk j u hj
  exact (hb.cell (p := ⟨g, 2 * k + j, none⟩) hlt).trans this
theorem GrowPl.plcs {w : World} {base : Nat} {v : Value} {l : List (Int × Int)} (h : GrowPl w base v l) : ∃ A c, v = .slice A l.length c ∧ Plcs w A l := by
  rcases h.2 with ⟨rfl, h0⟩ | ⟨g, cap, cur, rfl, _, hg, _⟩
  · exact ⟨none, 0, by rw [h0], fun hl => by omega⟩
  · refine ⟨_, _, rfl, fun _ => ⟨g, rfl, lt_of_block hg, fun k p hk j u hj => ?_⟩⟩
    obtain ⟨h1, h2⟩ := plV_at l k p hk
    have hcc : ∀ i u, (plV l)[i]? = some u → w.cell? ⟨g, i, none⟩ = some u := fun i u hi => by
      have := World.ownsRow.cells h (g := g) rfl i u hi
      have ea : (Addr.add ⟨g, 0, none⟩ i : Addr) = ⟨g, i, none⟩ := by unfold Addr.add; split <;> simp_all
      rwa [ea] at this
    match j, hj with
    | 0, hj =>
      simp at hj; subst hj
      have := hcc _ _ h1
      rw [Nat.mul_comm] at this
      exact this
    | 1, hj =>
      simp at hj; subst hj
      have := hcc _ _ h2
      rw [Nat.mul_comm] at this
      exact this
    | j + 2, hj => simp at hj
theorem grownPl_heap {base b : Nat} {W W' : World} {v : Value} {l : List (Int × Int)} {cs : Array Value} {t : TypeId} (hrow : GrowPl W base v l) (hg : W.grownBy W' v.ownBlock) (hb : W.heap[b]? = some (.cells cs t (0, 0))) (ht : t ≠ 83) : W'.heap[b]? = some (.cells cs t (0, 0)) := by
  refine (hg.block b (lt_of_block hb) ?_).trans hb
  rcases hrow.2 with ⟨rfl, _⟩ | ⟨g', cap, cur, rfl, _, hgb, _⟩
  · simp [Value.ownBlock]
  · intro e'
    have : b = g' := by simpa [Value.ownBlock] using e'
    subst this
    rw [hb] at hgb
    cases hgb
    exact ht rfl

section
variable {F : Fence} {n : Nat} {ops : Array Oper} {rest : List Oper} {o : Oper} {a : Act} {w : World} {Q : Exit → Act → World → Prop}
end
end Go.Proofs.Ytgildagmliadeaa

/- empties of the program, by its contract. -/
namespace Go.Proofs.Ytgildagmliadeaa
open Go.RowKit Go.Shelf

/-- How many of some places are those of empty cells. -/
def emptN (m : Nat) (ls : List UInt8) (l : List (Int × Int)) : Nat := l.countP fun p => lett m ls p.1 p.2 == 46
theorem emptN_snoc (m : Nat) (ls : List UInt8) (l : List (Int × Int)) (k : Nat) (p : Int × Int) (h : l[k]? = some p) : emptN m ls (l.take (k + 1)) = emptN m ls (l.take k) + (if (lett m ls p.1 p.2 == 46) = true then 1 else 0) := by
  obtain ⟨hlt, rfl⟩ := List.getElem?_eq_some_iff.1 h
  unfold emptN
  rw [List.take_succ_eq_append_getElem hlt, List.countP_append, List.countP_cons, List.countP_nil]
  omega

end Go.Proofs.Ytgildagmliadeaa

/- The places through which a traced beam goes twice, by the contract of twice. -/
namespace Go.Proofs.Ytgildagmliadeaa
open Go.RowKit Go.Shelf
attribute [local go_sem] Oper.semAt_some

/-- The place of a cell. -/
def plcI (m c : Nat) : Int × Int := (((c / m : Nat) : Int), ((c % m : Nat) : Int))
/-- The places gone through twice among those that have come. -/
def twL {N : Nat} (m : Nat) (g : Nat → Nat) (pre : List (Fin N)) : List (Int × Int) := (pre.filter fun x => g x.val == 2).map fun x => plcI m x.val
theorem twL_yes {N m : Nat} (g : Nat → Nat) (pre : List (Fin N)) (x : Fin N) (h : (g x.val == 2) = true) : twL m g (pre ++ [x]) = twL m g pre ++ [plcI m x.val] := by
  simp [twL, List.filter_append, h]
theorem twL_no {N m : Nat} (g : Nat → Nat) (pre : List (Fin N)) (x : Fin N) (h : (g x.val == 2) = false) : twL m g (pre ++ [x]) = twL m g pre := by
  simp [twL, List.filter_append, h]
theorem twL_le {N m : Nat} (g : Nat → Nat) (pre : List (Fin N)) : (twL m g pre).length ≤ pre.length := by
  unfold twL
  rw [List.length_map]
  exact List.length_filter_le _ _
/-- All of them. -/
def twP (n m : Nat) (t : Int → Int → UInt8) (q : Nat) : List (Int × Int) := ((List.range (n * m)).filter fun c => (bcells n m t q).count c == 2).map (plcI m)
theorem twL_all (N m : Nat) (g : Nat → Nat) : twL m g (List.finRange N) = ((List.range N).filter fun c => g c == 2).map (plcI m) := by
  unfold twL
  have e := upto_val (N := N) (k := N) (Nat.le_refl _)
  rw [upto_all] at e
  rw [← e, List.filter_map, List.map_map]
  rfl
theorem nat_beq2' (a : Nat) : ((a : Int) == 2) = (a == 2) := by
  rw [Bool.eq_iff_iff, beq_iff_eq, beq_iff_eq]; omega
def placeC' (m x : Nat) : Array Value := #[.int .i64 ((x / m : Nat) : Int), .int .i64 ((x % m : Nat) : Int)]
theorem KeepsAt.grownPl {g base : Nat} {W W' : World} {v : Value} {l : List (Int × Int)} {cs : Array Value} (hrow : GrowPl W base v l) (hg : W.grownBy W' v.ownBlock) (hB : W.heap[g]? = some (.cells cs 54 (0, 0))) : KeepsAt g W W' :=
  ⟨hg.size, (grownPl_heap hrow hg hB (by decide)).trans hB.symm⟩
theorem grownPl_map {base b : Nat} {W W' : World} {v : Value} {l : List (Int × Int)} {xs : List Wy} (hrow : GrowPl W base v l) (hg : W.grownBy W' v.ownBlock) (h : MapOf W b xs) : MapOf W' b xs := by
  refine h.kept (hg.block b h.lt ?_)
  obtain ⟨es, clock, hb⟩ := h.isMap
  rcases hrow.2 with ⟨rfl, _⟩ | ⟨g', cap, cur, rfl, _, hgb, _⟩
  · simp [Value.ownBlock]
  · intro e'
    have : b = g' := by simpa [Value.ownBlock] using e'
    subst this
    rw [hb] at hgb
    cases hgb
theorem Plcs.put {W : World} {base D : Nat} {v : Value} {l : List (Int × Int)} {o' : Obj} (h : GrowPl W base v l) (hk : W.heap[D]? = some (.deferred (some []))) : GrowPl (W.putObj D o') base v l := by
  rcases h with ⟨h1, h | ⟨g, cap, cur, e, hlo, hg, r⟩⟩
  · exact ⟨h1, .inl h⟩
  · refine ⟨h1, .inr ⟨g, cap, cur, e, hlo, ?_, r⟩⟩
    rw [World.putObj_heap_other (fun e => by subst e; rw [hg] at hk; cases hk)]
    exact hg

end Go.Proofs.Ytgildagmliadeaa

/- Plain words on crossings: cells that are empty, gone through twice, or by two beams. No program is named but the places. -/
namespace Go.Proofs.Ytgildagmliadeaa

/-- The cell is empty. -/
def emptyC (m : Nat) (t : Int → Int → UInt8) (c : Nat) : Bool := t ((c / m : Nat) : Int) ((c % m : Nat) : Int) == 46
def selfN (n m : Nat) (t : Int → Int → UInt8) (q : Nat) : Nat := (List.range (n * m)).countP fun c => (bcells n m t q).count c == 2 && emptyC m t c
def bothN (n m : Nat) (t : Int → Int → UInt8) (p q : Nat) : Nat := (List.range (n * m)).countP fun c => goesC n m t p c && goesC n m t q c && emptyC m t c
theorem countP_filter_map {α β : Type} (p : α → Bool) (f : α → β) (q : β → Bool) (l : List α) : ((l.filter p).map f).countP q = l.countP fun x => p x && q (f x) := by
  rw [List.countP_map, List.countP_filter]
  refine List.countP_congr fun x _ => ?_
  simp [Bool.and_comm]
theorem empt_twP {n m : Nat} {ls : List UInt8} {q : Nat} : emptN m ls (twP n m (lett m ls) q) = selfN n m (lett m ls) q := by
  unfold emptN twP
  rw [countP_filter_map]
  rfl
theorem sumN_two' (f : Nat → Nat) (e : Nat → Bool) : ∀ N, (∀ c, c < N → f c ≤ 2) → sumN (fun c => f c * (if e c = true then f c - 1 else 0)) N = 2 * (List.range N).countP fun c => f c == 2 && e c
  | 0, _ => rfl
  | N + 1, h => by
    rw [sumN, sumN_two' f e N (fun c hc => h c (by omega)), List.range_succ, List.countP_append, List.countP_cons, List.countP_nil]
    have := h N (by omega)
    have h3 : f N = 0 ∨ f N = 1 ∨ f N = 2 := by omega
    cases he : e N <;> rcases h3 with e | e | e <;> simp [e] <;> omega
/-- What the specification adds up for one way. -/
def spareE (m : Nat) (t : Int → Int → UInt8) (l : List Nat) (k : Nat) : Nat := ((l.take k).map fun c => if emptyC m t c = true then l.count c - 1 else 0).sum
theorem spareE_succ (m : Nat) (t : Int → Int → UInt8) (l : List Nat) (k c : Nat) (h : l[k]? = some c) : spareE m t l (k + 1) = spareE m t l k + (if emptyC m t c = true then l.count c - 1 else 0) := by
  obtain ⟨hlt, rfl⟩ := List.getElem?_eq_some_iff.1 h
  unfold spareE
  rw [List.take_succ_eq_append_getElem hlt, List.map_append, List.sum_append]
  simp
theorem sum_le {α : Type} (f : α → Nat) (b : Nat) : ∀ xs : List α, (∀ x ∈ xs, f x ≤ b) → (xs.map f).sum ≤ b * xs.length
  | [], _ => by simp
  | x :: xs, h => by
    have h1 := h x (by simp)
    have h2 := sum_le f b xs (fun y hy => h y (by simp [hy]))
    rw [List.map_cons, List.sum_cons, List.length_cons, Nat.mul_add, Nat.mul_one]
    omega
theorem spareE_le (m : Nat) (t : Int → Int → UInt8) (l : List Nat) (k : Nat) (h : ∀ c, l.count c ≤ 2) : spareE m t l k ≤ k := by
  have := sum_le (fun c => if emptyC m t c = true then l.count c - 1 else 0) 1 (l.take k) (fun c _ => by
    have := h c
    split <;> omega)
  rw [Nat.one_mul, List.length_take] at this
  unfold spareE
  omega
theorem spareE_all {n m : Nat} {t : Int → Int → UInt8} {p : Nat} (hp : p < 2 * (n + m)) (hm : 1 ≤ m) : spareE m t (bcells n m t p) (blen n m t p) = 2 * selfN n m t p := by
  unfold spareE
  rw [List.take_of_length_le (by rw [bcells_length]; exact Nat.le_refl _), sum_swap _ (n * m) _ bcells_lt]
  exact sumN_two' _ _ _ fun c _ => count_le2 hp hm
/-- What the specification adds up for two ways. -/
def bothE (m : Nat) (t : Int → Int → UInt8) (a b : List Nat) (k : Nat) : Nat := ((a.take k).map fun c => if emptyC m t c = true then b.count c else 0).sum
theorem bothE_succ (m : Nat) (t : Int → Int → UInt8) (a b : List Nat) (k c : Nat) (h : a[k]? = some c) : bothE m t a b (k + 1) = bothE m t a b k + (if emptyC m t c = true then b.count c else 0) := by
  obtain ⟨hlt, rfl⟩ := List.getElem?_eq_some_iff.1 h
  unfold bothE
  rw [List.take_succ_eq_append_getElem hlt, List.map_append, List.sum_append]
  simp
theorem bothE_le (m : Nat) (t : Int → Int → UInt8) (a b : List Nat) (k : Nat) (h : ∀ c, b.count c ≤ 2) : bothE m t a b k ≤ 2 * k := by
  have := sum_le (fun c => if emptyC m t c = true then b.count c else 0) 2 (a.take k) (fun c _ => by
    have := h c
    split <;> omega)
  rw [List.length_take] at this
  unfold bothE
  omega
theorem bothE_all {n m : Nat} {t : Int → Int → UInt8} {p q : Nat} (hn : 1 ≤ n) (hm : 1 ≤ m) (hp : p < 2 * (n + m)) (hq : q < 2 * (n + m)) (h1 : p ≠ q) (h2 : bend_ n m t p ≠ q) (h3 : p ≠ bend_ n m t q) :
    bothE m t (bcells n m t p) (bcells n m t q) (blen n m t p) = bothN n m t p q := by
  unfold bothE
  rw [List.take_of_length_le (by rw [bcells_length]; exact Nat.le_refl _), sum_swap _ (n * m) _ bcells_lt]
  unfold bothN
  rw [← sumN_countP]
  refine sumN_congr _ fun c _ => ?_
  cases he : emptyC m t c with
  | false => simp
  | true =>
    by_cases hc : 0 < (bcells n m t p).count c
    · have h4 := count_other hn hm hp hq h1 h3 hc
      have hg : goesC n m t p c = true := decide_eq_true hc
      by_cases hd : 0 < (bcells n m t q).count c
      · have h5 := count_other hn hm hq hp (fun e => h1 e.symm) (fun e => h2 e.symm) hd
        have hg2 : goesC n m t q c = true := decide_eq_true hd
        rw [hg, hg2]
        simp
        have e1 : (bcells n m t p).count c = 1 := by omega
        have e2 : (bcells n m t q).count c = 1 := by omega
        rw [e1, e2]
      · have hg2 : goesC n m t q c = false := decide_eq_false hd
        rw [hg, hg2]
        simp
        rw [show List.count c (bcells n m t q) = 0 by omega, Nat.mul_zero]
    · have hg : goesC n m t p c = false := decide_eq_false hc
      rw [hg]
      simp
      rw [show List.count c (bcells n m t p) = 0 by omega, Nat.zero_mul]
end Go.Proofs.Ytgildagmliadeaa

/- BeamTwice and CrossSelf of the program, by their contracts. -/
namespace Go.Proofs.Ytgildagmliadeaa
open Go.RowKit Go.Shelf

theorem twP_length (n m : Nat) (t : Int → Int → UInt8) (q : Nat) : (twP n m t q).length = (List.range (n * m)).countP fun c => (bcells n m t q).count c == 2 := by
  unfold twP
  rw [List.length_map, List.countP_eq_length_filter]
theorem twP_in {n m : Nat} {t : Int → Int → UInt8} {q : Nat} : ∀ p ∈ twP n m t q, 0 ≤ p.1 ∧ p.1 < n ∧ 0 ≤ p.2 ∧ p.2 < m := fun p hp => by
  unfold twP at hp
  obtain ⟨c, hc, rfl⟩ := List.mem_map.1 hp
  have hlt := List.mem_range.1 (List.mem_filter.1 hc).1
  have hm : 0 < m := by
    rcases Nat.eq_zero_or_pos m with h0 | h0
    · subst h0; simp at hlt
    · exact h0
  have h2 : c / m < n := by rw [Nat.div_lt_iff_lt_mul hm]; exact hlt
  have h3 : c % m < m := Nat.mod_lt _ hm
  exact ⟨Int.natCast_nonneg _, Int.ofNat_lt.2 h2, Int.natCast_nonneg _, Int.ofNat_lt.2 h3⟩
def selfR (n m : Nat) (t : Int → Int → UInt8) (q : Nat) : Int × Bool := (((selfN n m t q : Nat) : Int), true)

/-- What the operations of CrossSelf's last statement hand back. -/
def crossSelfRel (m : Nat) (ls : List UInt8) (cs : Array Value) (b : Nat) (tp : List (Int × Int)) (i : Nat) (v : Value) (W : World) : Prop :=
  match i with
  | 0 => v = .agg cs
  | 1 => v = .agg (tcells cs b)
  | 2 => ∃ A c, v = .slice A tp.length c ∧ Plcs W A tp
  | 3 => v = .int .i64 ((emptN m ls tp : Nat) : Int)
  | 4 => v = .int .i64 ((emptN m ls tp : Nat) : Int)
  | 5 => v = .bool true
  | _ => True

end Go.Proofs.Ytgildagmliadeaa

/- l5Self, l5Both, CrossSelf of the specification, by their contracts. -/
namespace Go.Proofs.Ytgildagmliadeaa
open Go.RowKit Go.Shelf

/-- Numbers as integers. -/
def natI (l : List Nat) : List Int := l.map fun x : Nat => (x : Int)
theorem natI_length (l : List Nat) : (natI l).length = l.length := by simp [natI]
theorem natI_at {l : List Nat} {k x : Nat} (h : l[k]? = some x) : (natI l)[k]? = some (x : Int) := by simp [natI, h]
theorem natI_count (l : List Nat) (x : Nat) : (natI l).count (x : Int) = l.count x := by
  unfold natI
  rw [List.count, List.count, List.countP_map]
  refine List.countP_congr fun y _ => ?_
  simp only [Function.comp, beq_iff_eq]
  omega
theorem cellsI_nat (n m : Nat) (t : Int → Int → UInt8) (p : Nat) : cellsI m (bway n m t p) (blen n m t p) = natI (bcells n m t p) := by
  unfold cellsI natI bcells
  rw [List.map_map]
  rfl
theorem flat_empty {n m c : Nat} {ss : List ByteArray} (hg : IsGrid n m ss) (hc : c < n * m) : ∃ bt : UInt8, (flat ss)[c]? = some bt ∧ emptyC m (lett m (pad (flat ss))) c = (bt == 46) ∧ ((bt.toNat : Int) == 46) = (bt == 46) := by
  have hm : 0 < m := by
    rcases Nat.eq_zero_or_pos m with h0 | h0
    · subst h0; simp at hc
    · exact h0
  have hx : inG n m ⟨((c / m : Nat) : Int), ((c % m : Nat) : Int), 0⟩ := ⟨Int.natCast_nonneg _, Int.ofNat_lt.2 (by rw [Nat.div_lt_iff_lt_mul hm]; exact hc), Int.natCast_nonneg _, Int.ofNat_lt.2 (Nat.mod_lt _ hm)⟩
  have h1 := lett_flat hg hx
  have h2 : cellN m ⟨((c / m : Nat) : Int), ((c % m : Nat) : Int), 0⟩ = c := by
    unfold cellN
    simp only [Int.toNat_natCast]
    rw [Nat.mul_comm]
    exact Nat.div_add_mod c m
  rw [h2] at h1
  refine ⟨_, h1, rfl, ?_⟩
  generalize lett m (pad (flat ss)) _ _ = b
  rw [Bool.eq_iff_iff, beq_iff_eq, beq_iff_eq]
  constructor
  · intro e
    have : b.toNat = 46 := by omega
    exact UInt8.toNat_inj.1 this
  · rintro rfl; rfl

end Go.Proofs.Ytgildagmliadeaa
