/- The map of ways: what it holds, told as a list of ways. -/
import Derived.Test.YtpbppkidglmacaaBunG
import Derived.Maps.OwnIn
import Derived.DeepKeys4
namespace Go.Proofs.Ytpbppkidglmacaa
open Go.RowKit Go.Shelf Go.Maps

theorem wayRow : (58 : TypeId) < Try.prog.types.size := of_decide_eq_true (by kernel_rfl)
theorem wayRow2 : (2 : Nat) < Try.prog.types.size := of_decide_eq_true (by kernel_rfl)
theorem wayWide : (match Try.prog.underlying 58 with | some (.array _ _) | some (.struct _) => true | _ => false) = true := by kernel_rfl
theorem wayKeyed : Keyed Try.prog 58 := Keyed.of_law (deep_law (m := 3) (by omega) (by kernel_rfl) (by kernel_rfl) (by kernel_rfl))
theorem wayKeyType : Try.prog.keyType 58 = true := by kernel_rfl
theorem wayTypes : ∃ n, Try.prog.types.size + 1 = n + 3 := ⟨Try.prog.types.size - 2, by have := wayRow2; omega⟩

deriving instance DecidableEq for Wy
theorem elem_bool_inv {P : Program} {e : TypeId} (he : P.underlying e = some .bool) {v : Value} {x : Bool} {ps : List MemPlace} (h : plainElem (H := Unit) P e v = some (.lit (.bool x), ps)) : v = .bool x := by
  unfold plainElem at h
  rw [he] at h
  cases v <;> simp at h
  obtain ⟨rfl, _⟩ := h
  rfl

/-- The ways of which the map's laws speak: their numbers are a machine's. -/
def okW (x : Wy) : Prop := -100 ≤ x.i ∧ x.i ≤ 100 ∧ -100 ≤ x.k ∧ x.k ≤ 100 ∧ x.d ≤ 100

theorem wf_small {a : Int} (h1 : -100 ≤ a) (h2 : a ≤ 100) : (Lit.int .i64 a).wf = true := by
  simp only [Lit.wf, Bool.and_eq_true, decide_eq_true_eq]
  have e1 : IntKind.min .i64 = -9223372036854775808 := by decide
  have e2 : IntKind.max .i64 = 9223372036854775807 := by decide
  omega
theorem way_key {x : Wy} (h : okW x) : ∃ l, keyOf Try.prog 58 (wayV x) = some l := by
  obtain ⟨n, hn⟩ := wayTypes
  have f1 := wf_small h.1 h.2.1
  have f2 := wf_small h.2.2.1 h.2.2.2.1
  have f3 := wf_small (a := ((x.d : Nat) : Int)) (by omega) (by have := h.2.2.2.2; omega)
  have hd : keyOf Try.prog 58 (wayV x) = if Try.prog.keyType 58 && (wayV x).formed Try.prog 58 then (Try.prog.keyLits (Try.prog.types.size + 1) 58 (wayV x).cells.toList).map fun ls => .string (keyBytes ls) else none := by
    unfold keyOf
    have hu := Try.underlying58
    rw [hu]
  have hc1 : Try.prog.cellsOf 58 = 3 := by kernel_rfl
  have hc2 : Try.prog.cellsOf 55 = 2 := by kernel_rfl
  have hc3 : Try.prog.cellsOf 3 = 1 := by kernel_rfl
  have hc4 : Try.prog.cellsOf 56 = 1 := by kernel_rfl
  rw [hd, wayKeyType, hn]
  simp [wayV, Value.formed, Value.cells, Try.underlying58, Try.underlying55, Try.underlying56, Try.underlying3, Program.keyLits, hc1, hc2, hc3, hc4, f1, f2, f3]
  rw [if_pos (by
    intro i hi
    rcases i with _ | _ | i
    · simp
    · simp
    · omega)]
  exact ⟨_, rfl⟩

noncomputable def wkl (x : Wy) : Lit := (keyOf Try.prog 58 (wayV x)).getD (.bool false)
theorem wkl_eq {x : Wy} (h : okW x) : keyOf Try.prog 58 (wayV x) = some (wkl x) := by
  obtain ⟨l, hl⟩ := way_key h
  unfold wkl
  rw [hl]; rfl
attribute [irreducible] wkl
theorem wkl_inj {x y : Wy} (hx : okW x) (hy : okW y) (e : wkl x = wkl y) : x = y := by
  have h1 := wkl_eq hx
  have h2 := wkl_eq hy
  rw [e] at h1
  have := wayKeyed.inj h1 h2
  obtain ⟨i, k, d⟩ := x
  obtain ⟨i', k', d'⟩ := y
  simp [wayV] at this
  obtain ⟨rfl, rfl, h3⟩ := this
  obtain rfl : d = d' := by omega
  rfl
theorem wkl_key {x : Wy} (h : okW x) : WideAt.IsKeyLit (wkl x) := by
  have e := wkl_eq h
  generalize wkl x = l at *
  generalize wayV x = v at *
  exact wayKeyed.key e

/-- The element of a way that is there. -/
def tt : DataW Unit := .lit (.bool true)
def ff : DataW Unit := .lit (.bool false)
noncomputable abbrev mapR : Value → Option (DataW Unit × List MemPlace) := plainElem Try.prog 4
theorem mapR_mk (x : Bool) : mapR (.bool x) = some (.lit (.bool x), []) := plainElem_bool Try.underlying4 x
theorem mapR_inv {v : Value} {x : Bool} {ps : List MemPlace} (h : mapR v = some (.lit (.bool x), ps)) : v = .bool x := elem_bool_inv Try.underlying4 h

/-- THE MAP IN BLOCK b HAS JUST THE WAYS OF A LIST, each with true. -/
def MapOf (w : World) (b : Nat) (xs : List Wy) : Prop := w.ownsMap Try.prog 58 mapR b xs.length (setOf tt (xs.map wkl))
theorem MapOf.lt {w : World} {b : Nat} {xs : List Wy} (h : MapOf w b xs) : b < w.heap.size := World.ownsMap.lt h
theorem MapOf.kept {w w' : World} {b : Nat} {xs : List Wy} (h : MapOf w b xs) (e : w'.heap[b]? = w.heap[b]?) : MapOf w' b xs := by
  obtain ⟨es, clock, hb, r⟩ := h
  exact ⟨es, clock, e.trans hb, r⟩
theorem MapOf.isMap {w : World} {b : Nat} {xs : List Wy} (h : MapOf w b xs) : ∃ es clock, w.heap[b]? = some (.map es clock) := by
  obtain ⟨es, clock, hb, _⟩ := h
  exact ⟨es, clock, hb⟩
theorem MapOf.alloc {w : World} {b : Nat} {xs : List Wy} (h : MapOf w b xs) (o : Obj) : MapOf (w.alloc o) b xs := World.ownsMap.alloc h o
theorem MapOf.made (w : World) : MapOf (w.alloc (.map #[] 0)) w.heap.size [] := World.ownsMap_made w _ _ _

/-- What a list of different ways has in it. -/
theorem has_ways {xs : List Wy} (hx : ∀ x ∈ xs, okW x) {y : Wy} (hy : okW y) : Maps.has (setOf tt (xs.map wkl)) (wkl y) = decide (y ∈ xs) := by
  rw [has_setOf _ _ _ (fun l hl => by obtain ⟨x, hx', rfl⟩ := List.mem_map.1 hl; exact wkl_key (hx x hx'))]
  rw [Bool.eq_iff_iff, List.any_eq_true, decide_eq_true_eq]
  constructor
  · rintro ⟨l, hl, hs⟩
    obtain ⟨x, hx', rfl⟩ := List.mem_map.1 hl
    rw [← wkl_inj (hx x hx') hy (WideAt.sameKey_eq hs)]
    exact hx'
  · intro h
    exact ⟨_, List.mem_map_of_mem h, WideAt.sameKey_self (wkl_key hy)⟩
theorem snoc_ways (xs : List Wy) (x : Wy) : setOf tt ((xs ++ [x]).map wkl) = (setOf tt (xs.map wkl)).put (wkl x) tt := by
  rw [List.map_append, List.map_cons, List.map_nil, setOf_snoc]
theorem tidy_ways {xs : List Wy} (hx : ∀ x ∈ xs, okW x) : Tidy (setOf tt (xs.map wkl)) := tidy_setOf _ _ (fun l hl => by obtain ⟨x, hx', rfl⟩ := List.mem_map.1 hl; exact wkl_key (hx x hx'))
theorem size_ways : ∀ (n : Nat) (xs : List Wy), xs.length = n → (∀ x ∈ xs, okW x) → xs.Nodup → Maps.size (setOf tt (xs.map wkl)) = xs.length
  | 0, xs, hn, _, _ => by
    obtain rfl := List.length_eq_zero_iff.1 hn
    rfl
  | n + 1, xs, hn, hx, hd => by
    obtain ⟨ys, y, rfl⟩ : ∃ ys y, xs = ys ++ [y] := ⟨xs.dropLast, xs.getLast (by intro e; subst e; cases hn), (List.dropLast_concat_getLast _).symm⟩
    have hy : ∀ x ∈ ys, okW x := fun x h => hx x (by simp [h])
    have hdd := List.nodup_append.1 hd
    have hny : y ∉ ys := fun h => hdd.2.2 y h y (by simp) rfl
    have ih := size_ways n ys (by simpa using hn) hy hdd.1
    rw [snoc_ways, size_put (tidy_ways hy), has_ways hy (hx y (by simp)), decide_eq_false hny, ih]
    simp
theorem at_ways {xs : List Wy} (hx : ∀ x ∈ xs, okW x) {y : Wy} (hy : okW y) : (setOf tt (xs.map wkl)).atKey (wkl y) ff = .lit (.bool (decide (y ∈ xs))) := by
  by_cases h : y ∈ xs
  · rw [decide_eq_true h]
    have : ∀ (n : Nat) (xs : List Wy), xs.length = n → (∀ x ∈ xs, okW x) → y ∈ xs → (setOf tt (xs.map wkl)).atKey (wkl y) ff = tt := by
      intro n
      induction n with
      | zero =>
        intro xs hn _ hm
        obtain rfl := List.length_eq_zero_iff.1 hn
        cases hm
      | succ n ih =>
        intro xs hn hx hm
        obtain ⟨ys, z, rfl⟩ : ∃ ys z, xs = ys ++ [z] := ⟨xs.dropLast, xs.getLast (by intro e; subst e; cases hn), (List.dropLast_concat_getLast _).symm⟩
        rw [snoc_ways]
        by_cases e : y = z
        · subst e
          exact atKey_put_same (tidy_ways fun x h => hx x (by simp [h])).isMap (wkl_key hy) _ _
        · rw [atKey_put_other (fun q => e (wkl_inj hy (hx z (by simp)) q))]
          refine ih ys (by simpa using hn) (fun x h => hx x (by simp [h])) ?_
          rcases List.mem_append.1 hm with h | h
          · exact h
          · exact absurd (by simpa using h) e
    exact this _ xs rfl hx h
  · rw [decide_eq_false h]
    exact atKey_of_not_has (by rw [has_ways hx hy, decide_eq_false h]) _
end Go.Proofs.Ytpbppkidglmacaa
