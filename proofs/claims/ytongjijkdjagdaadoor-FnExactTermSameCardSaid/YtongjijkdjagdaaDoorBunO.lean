/- Settled texts in one file. Each begins with what it holds. -/
import Derived.Test.YtongjijkdjagdaaDoorBunG
import Derived.Maps.OwnIn
import Derived.DeepKeys4
import Derived.Test.YtongjijkdjagdaaDoorBunF
import Derived.Test.YtongjijkdjagdaaDoorBunE
import Derived.Test.YtongjijkdjagdaaDoorBunD
import Derived.Deep.MidRow
import Derived.Deep.QuietTactic
import Derived.BigQuiet
import Derived.Test.YtongjijkdjagdaaDoorBunB
/- The map of ways: what it holds, told as a list of ways. -/
namespace Go.Proofs.YtongjijkdjagdaaDoor
open Go.RowKit Go.Shelf Go.Maps

theorem wayRow : (105 : TypeId) < Tryd.prog.types.size := of_decide_eq_true (by kernel_rfl)
theorem wayRow2 : (2 : Nat) < Tryd.prog.types.size := of_decide_eq_true (by kernel_rfl)
theorem wayWide : (match Tryd.prog.underlying 105 with | some (.array _ _) | some (.struct _) => true | _ => false) = true := by kernel_rfl
theorem wayKeyed : Keyed Tryd.prog 105 := Keyed.of_law (deep_law (m := 3) (by omega) (by kernel_rfl) (by kernel_rfl) (by kernel_rfl))
theorem wayKeyType : Tryd.prog.keyType 105 = true := by kernel_rfl
theorem wayTypes : ∃ n, Tryd.prog.types.size + 1 = n + 3 := ⟨Tryd.prog.types.size - 2, by have := wayRow2; omega⟩

deriving instance DecidableEq for Wy
theorem elem_bool_inv {P : Program} {e : TypeId} (he : P.underlying e = some .bool) {v : Value} {x : Bool} {ps : List MemPlace} (h : plainElem (H := Unit) P e v = some (.lit (.bool x), ps)) : v = .bool x := by
  unfold plainElem at h
  rw [he] at h
  cases v <;> simp at h
  obtain ⟨rfl, _⟩ := h
  rfl

/-- The ways of which the map's laws speak: their numbers are a machine's. -/
def okW (x : Wy) : Prop := -100 ≤ x.i ∧ x.i ≤ 100 ∧ -100 ≤ x.k ∧ x.k ≤ 100 ∧ x.d ≤ 100

theorem wf_small {a : Int} (h1 : -100 ≤ a) (h2 : a ≤ 100) : (Lit.int .i64 a).wf = true := by
  simp only [Lit.wf, Bool.and_eq_true, decide_eq_true_eq]
  have e1 : IntKind.min .i64 = -9223372036854775808 := by decide
  have e2 : IntKind.max .i64 = 9223372036854775807 := by decide
  omega
theorem way_key {x : Wy} (h : okW x) : ∃ l, keyOf Tryd.prog 105 (wayV x) = some l := by
  obtain ⟨n, hn⟩ := wayTypes
  have f1 := wf_small h.1 h.2.1
  have f2 := wf_small h.2.2.1 h.2.2.2.1
  have f3 := wf_small (a := ((x.d : Nat) : Int)) (by omega) (by have := h.2.2.2.2; omega)
  have hd : keyOf Tryd.prog 105 (wayV x) = if Tryd.prog.keyType 105 && (wayV x).formed Tryd.prog 105 then (Tryd.prog.keyLits (Tryd.prog.types.size + 1) 105 (wayV x).cells.toList).map fun ls => .string (keyBytes ls) else none := by
    unfold keyOf
    have hu := Tryd.underlying105
    rw [hu]
  have hc1 : Tryd.prog.cellsOf 105 = 3 := by kernel_rfl
  have hc2 : Tryd.prog.cellsOf 97 = 2 := by kernel_rfl
  have hc3 : Tryd.prog.cellsOf 3 = 1 := by kernel_rfl
  have hc4 : Tryd.prog.cellsOf 102 = 1 := by kernel_rfl
  rw [hd, wayKeyType, hn]
  simp [wayV, Value.formed, Value.cells, Tryd.underlying105, Tryd.underlying97, Tryd.underlying102, Tryd.underlying3, Program.keyLits, hc1, hc2, hc3, hc4, f1, f2, f3]
  rw [if_pos (by
    intro i hi
    rcases i with _ | _ | i
    · simp
    · simp
    · omega)]
  exact ⟨_, rfl⟩

noncomputable def wkl (x : Wy) : Lit := (keyOf Tryd.prog 105 (wayV x)).getD (.bool false)
theorem wkl_eq {x : Wy} (h : okW x) : keyOf Tryd.prog 105 (wayV x) = some (wkl x) := by
  obtain ⟨l, hl⟩ := way_key h
  unfold wkl
  rw [hl]; rfl
attribute [irreducible] wkl
theorem wkl_inj {x y : Wy} (hx : okW x) (hy : okW y) (e : wkl x = wkl y) : x = y := by
  have h1 := wkl_eq hx
  have h2 := wkl_eq hy
  rw [e] at h1
  have := wayKeyed.inj h1 h2
  obtain ⟨i, k, d⟩ := x
  obtain ⟨i', k', d'⟩ := y
  simp [wayV] at this
  obtain ⟨rfl, rfl, h3⟩ := this
  obtain rfl : d = d' := by omega
  rfl
theorem wkl_key {x : Wy} (h : okW x) : WideAt.IsKeyLit (wkl x) := by
  have e := wkl_eq h
  generalize wkl x = l at *
  generalize wayV x = v at *
  exact wayKeyed.key e

/-- The element of a way that is there. -/
def tt : DataW Unit := .lit (.bool true)
def ff : DataW Unit := .lit (.bool false)
noncomputable abbrev mapR : Value → Option (DataW Unit × List MemPlace) := plainElem Tryd.prog 4
theorem mapR_mk (x : Bool) : mapR (.bool x) = some (.lit (.bool x), []) := plainElem_bool Tryd.underlying4 x
theorem mapR_inv {v : Value} {x : Bool} {ps : List MemPlace} (h : mapR v = some (.lit (.bool x), ps)) : v = .bool x := elem_bool_inv Tryd.underlying4 h

/-- THE MAP IN BLOCK b HAS JUST THE WAYS OF A LIST, each with true. -/
def MapOf (w : World) (b : Nat) (xs : List Wy) : Prop := w.ownsMap Tryd.prog 105 mapR b xs.length (setOf tt (xs.map wkl))
theorem MapOf.lt {w : World} {b : Nat} {xs : List Wy} (h : MapOf w b xs) : b < w.heap.size := World.ownsMap.lt h
theorem MapOf.kept {w w' : World} {b : Nat} {xs : List Wy} (h : MapOf w b xs) (e : w'.heap[b]? = w.heap[b]?) : MapOf w' b xs := by
  obtain ⟨es, clock, hb, r⟩ := h
  exact ⟨es, clock, e.trans hb, r⟩
theorem MapOf.isMap {w : World} {b : Nat} {xs : List Wy} (h : MapOf w b xs) : ∃ es clock, w.heap[b]? = some (.map es clock) := by
  obtain ⟨es, clock, hb, _⟩ := h
  exact ⟨es, clock, hb⟩
theorem MapOf.alloc {w : World} {b : Nat} {xs : List Wy} (h : MapOf w b xs) (o : Obj) : MapOf (w.alloc o) b xs := World.ownsMap.alloc h o
theorem MapOf.made (w : World) : MapOf (w.alloc (.map #[] 0)) w.heap.size [] := World.ownsMap_made w _ _ _

/-- What a list of different ways has in it. -/
theorem has_ways {xs : List Wy} (hx : ∀ x ∈ xs, okW x) {y : Wy} (hy : okW y) : Maps.has (setOf tt (xs.map wkl)) (wkl y) = decide (y ∈ xs) := by
  rw [has_setOf _ _ _ (fun l hl => by obtain ⟨x, hx', rfl⟩ := List.mem_map.1 hl; exact wkl_key (hx x hx'))]
  rw [Bool.eq_iff_iff, List.any_eq_true, decide_eq_true_eq]
  constructor
  · rintro ⟨l, hl, hs⟩
    obtain ⟨x, hx', rfl⟩ := List.mem_map.1 hl
    rw [← wkl_inj (hx x hx') hy (WideAt.sameKey_eq hs)]
    exact hx'
  · intro h
    exact ⟨_, List.mem_map_of_mem h, WideAt.sameKey_self (wkl_key hy)⟩
theorem snoc_ways (xs : List Wy) (x : Wy) : setOf tt ((xs ++ [x]).map wkl) = (setOf tt (xs.map wkl)).put (wkl x) tt := by
  rw [List.map_append, List.map_cons, List.map_nil, setOf_snoc]
theorem tidy_ways {xs : List Wy} (hx : ∀ x ∈ xs, okW x) : Tidy (setOf tt (xs.map wkl)) := tidy_setOf _ _ (fun l hl => by obtain ⟨x, hx', rfl⟩ := List.mem_map.1 hl; exact wkl_key (hx x hx'))
theorem size_ways : ∀ (n : Nat) (xs : List Wy), xs.length = n → (∀ x ∈ xs, okW x) → xs.Nodup → Maps.size (setOf tt (xs.map wkl)) = xs.length
  | 0, xs, hn, _, _ => by
    obtain rfl := List.length_eq_zero_iff.1 hn
    rfl
  | n + 1, xs, hn, hx, hd => by
    obtain ⟨ys, y, rfl⟩ : ∃ ys y, xs = ys ++ [y] := ⟨xs.dropLast, xs.getLast (by intro e; subst e; cases hn), (List.dropLast_concat_getLast _).symm⟩
    have hy : ∀ x ∈ ys, okW x := fun x h => hx x (by simp [h])
    have hdd := List.nodup_append.1 hd
    have hny : y ∉ ys := fun h => hdd.2.2 y h y (by simp) rfl
    have ih := size_ways n ys (by simpa using hn) hy hdd.1
    rw [snoc_ways, size_put (tidy_ways hy), has_ways hy (hx y (by simp)), decide_eq_false hny, ih]
    simp
theorem at_ways {xs : List Wy} (hx : ∀ x ∈ xs, okW x) {y : Wy} (hy : okW y) : (setOf tt (xs.map wkl)).atKey (wkl y) ff = .lit (.bool (decide (y ∈ xs))) := by
  by_cases h : y ∈ xs
  · rw [decide_eq_true h]
    have : ∀ (n : Nat) (xs : List Wy), xs.length = n → (∀ x ∈ xs, okW x) → y ∈ xs → (setOf tt (xs.map wkl)).atKey (wkl y) ff = tt := by
      intro n
      induction n with
      | zero =>
        intro xs hn _ hm
        obtain rfl := List.length_eq_zero_iff.1 hn
        cases hm
      | succ n ih =>
        intro xs hn hx hm
        obtain ⟨ys, z, rfl⟩ : ∃ ys z, xs = ys ++ [z] := ⟨xs.dropLast, xs.getLast (by intro e; subst e; cases hn), (List.dropLast_concat_getLast _).symm⟩
        rw [snoc_ways]
        by_cases e : y = z
        · subst e
          exact atKey_put_same (tidy_ways fun x h => hx x (by simp [h])).isMap (wkl_key hy) _ _
        · rw [atKey_put_other (fun q => e (wkl_inj hy (hx z (by simp)) q))]
          refine ih ys (by simpa using hn) (fun x h => hx x (by simp [h])) ?_
          rcases List.mem_append.1 hm with h | h
          · exact h
          · exact absurd (by simpa using h) e
    exact this _ xs rfl hx h
  · rw [decide_eq_false h]
    exact atKey_of_not_has (by rw [has_ways hx hy, decide_eq_false h]) _
end Go.Proofs.YtongjijkdjagdaaDoor

/- grid.entry and grid.exit, by their contracts. -/
namespace Go.Proofs.YtongjijkdjagdaaDoor
open Go.RowKit

set_option maxRecDepth 100000 in
set_option maxHeartbeats 1000000 in
theorem entry_any (n m p : Nat) (ls : List UInt8) (w : World) (hn : n ≤ 5) (hm : m ≤ 5) (hp : p < 2 * (n + m)) :
    Calls Tryd.prog 127 #[.agg (gcells n m ls), .int .i64 p] w fun e w' => e = .returned (wayV (entr n m p)) ∧ Below w.heap.size w w' := by
  have h0 := gcells_0 n m ls
  have h1 := gcells_1 n m ls
  generalize gcells n m ls = cs at h0 h1
  unfold entr
  by_cases c1 : p < m
  · rw [if_pos c1]
    show Calls _ _ _ _ fun e w' => e = .returned (.agg #[.int .i64 0, .int .i64 (p : Int), .int .i64 2]) ∧ _
    have c1' : (p : Int) < (m : Int) := by omega
    clear c1
    go_enter Tryd.func127, Tryd.ntmps127
    go_wp2
    exact bodyPost_ret (v := .agg #[.int .i64 0, .int .i64 (p : Int), .int .i64 2]) (by simp [results, Tryd.results127, go_sem]) rfl ⟨rfl, ((Below.refl _ w).alloc (Nat.le_refl _) _).alloc (by simp) _⟩
  rw [if_neg c1]
  have c1' : ¬ (p : Int) < (m : Int) := by omega
  by_cases c2 : p < m + n
  · rw [if_pos c2]
    show Calls _ _ _ _ fun e w' => e = .returned (.agg #[.int .i64 ((p : Int) - m), .int .i64 ((m : Int) - 1), .int .i64 3]) ∧ _
    have c2' : (p : Int) < (m : Int) + (n : Int) := by omega
    clear c1 c2
    go_enter Tryd.func127, Tryd.ntmps127
    go_wp2
    exact bodyPost_ret (v := .agg #[.int .i64 ((p : Int) - m), .int .i64 ((m : Int) - 1), .int .i64 3]) (by simp [results, Tryd.results127, go_sem]) rfl ⟨rfl, ((Below.refl _ w).alloc (Nat.le_refl _) _).alloc (by simp) _⟩
  rw [if_neg c2]
  have c2' : ¬ (p : Int) < (m : Int) + (n : Int) := by omega
  by_cases c3 : p < 2 * m + n
  · rw [if_pos c3]
    have e3 : (2 * (m : Int) + n - 1 - p) = (m : Int) + (n : Int) + (m : Int) - 1 - (p : Int) := by omega
    rw [e3]
    show Calls _ _ _ _ fun e w' => e = .returned (.agg #[.int .i64 ((n : Int) - 1), .int .i64 ((m : Int) + (n : Int) + (m : Int) - 1 - (p : Int)), .int .i64 0]) ∧ _
    have c3' : (p : Int) < (m : Int) + (n : Int) + (m : Int) := by omega
    clear c1 c2 c3 e3
    go_enter Tryd.func127, Tryd.ntmps127
    go_wp2
    exact bodyPost_ret (v := .agg #[.int .i64 ((n : Int) - 1), .int .i64 ((m : Int) + (n : Int) + (m : Int) - 1 - (p : Int)), .int .i64 0]) (by simp [results, Tryd.results127, go_sem]) rfl ⟨rfl, ((Below.refl _ w).alloc (Nat.le_refl _) _).alloc (by simp) _⟩
  rw [if_neg c3]
  have c3' : ¬ (p : Int) < (m : Int) + (n : Int) + (m : Int) := by omega
  have e4 : (2 * ((n : Int) + m) - 1 - p) = 2 * ((m : Int) + (n : Int)) - 1 - (p : Int) := by omega
  rw [e4]
  show Calls _ _ _ _ fun e w' => e = .returned (.agg #[.int .i64 (2 * ((m : Int) + (n : Int)) - 1 - (p : Int)), .int .i64 0, .int .i64 1]) ∧ _
  clear c1 c2 c3 e4
  go_enter Tryd.func127, Tryd.ntmps127
  go_wp2
  exact bodyPost_ret (v := .agg #[.int .i64 (2 * ((m : Int) + (n : Int)) - 1 - (p : Int)), .int .i64 0, .int .i64 1]) (by simp [results, Tryd.results127, go_sem]) rfl ⟨rfl, ((Below.refl _ w).alloc (Nat.le_refl _) _).alloc (by simp) _⟩

set_option maxRecDepth 100000 in
set_option maxHeartbeats 1000000 in
theorem exit_any (n m : Nat) (ls : List UInt8) (x : Wy) (w : World) (hn : n ≤ 5) (hm : m ≤ 5) (hd : x.d < 4) (hi : -100 ≤ x.i ∧ x.i ≤ 100) (hk : -100 ≤ x.k ∧ x.k ≤ 100) :
    Calls Tryd.prog 129 #[.agg (gcells n m ls), wayV x] w fun e w' => e = .returned (.int .i64 (leav n m x)) ∧ Below w.heap.size w w' := by
  have h0 := gcells_0 n m ls
  have h1 := gcells_1 n m ls
  generalize gcells n m ls = cs at h0 h1
  obtain ⟨i, k, d⟩ := x
  obtain ⟨i1, i2⟩ := hi
  obtain ⟨k1, k2⟩ := hk
  simp only at hd i1 i2 k1 k2
  rcases four hd with rfl | rfl | rfl | rfl
  · have hv : leav n m ⟨i, k, 0⟩ = k := by simp [leav] <;> omega
    rw [hv]
    clear hv
    show Calls Tryd.prog _ #[.agg cs, .agg #[.int .i64 i, .int .i64 k, .int .i64 0]] w _
    go_enter Tryd.func129, Tryd.ntmps129
    go_wp2
    go_ret
    exact ⟨rfl, ((Below.refl _ w).alloc (Nat.le_refl _) _).alloc (by simp) _⟩
  · have hv : leav n m ⟨i, k, 1⟩ = (m : Int) + i := by simp [leav] <;> omega
    rw [hv]
    clear hv
    show Calls Tryd.prog _ #[.agg cs, .agg #[.int .i64 i, .int .i64 k, .int .i64 1]] w _
    go_enter Tryd.func129, Tryd.ntmps129
    go_wp2
    go_ret
    exact ⟨rfl, ((Below.refl _ w).alloc (Nat.le_refl _) _).alloc (by simp) _⟩
  · have hv : leav n m ⟨i, k, 2⟩ = (m : Int) + (n : Int) + (m : Int) - 1 - k := by simp [leav] <;> omega
    rw [hv]
    clear hv
    show Calls Tryd.prog _ #[.agg cs, .agg #[.int .i64 i, .int .i64 k, .int .i64 2]] w _
    go_enter Tryd.func129, Tryd.ntmps129
    go_wp2
    go_ret
    exact ⟨rfl, ((Below.refl _ w).alloc (Nat.le_refl _) _).alloc (by simp) _⟩
  · have hv : leav n m ⟨i, k, 3⟩ = 2 * ((m : Int) + (n : Int)) - 1 - i := by simp [leav] <;> omega
    rw [hv]
    clear hv
    show Calls Tryd.prog _ #[.agg cs, .agg #[.int .i64 i, .int .i64 k, .int .i64 3]] w _
    go_enter Tryd.func129, Tryd.ntmps129
    go_wp2
    go_ret
    exact ⟨rfl, ((Below.refl _ w).alloc (Nat.le_refl _) _).alloc (by simp) _⟩

end Go.Proofs.YtongjijkdjagdaaDoor

/- GridPut of the program, by its contract. -/
namespace Go.Proofs.YtongjijkdjagdaaDoor
open Go.RowKit Go.Shelf
attribute [local go_sem] Oper.semAt_some

/-- What GridPut takes. -/
def PutIn (ss : List ByteArray) (cell : Int) (t : ByteArray) (n m c : Nat) (b : UInt8) : Prop := IsGrid n m ss ∧ cell = (c : Int) ∧ c < n * m ∧ t = ⟨#[b]⟩ ∧ isLet b = true
def PutOut (ss : List ByteArray) (cell : Int) (t : ByteArray) (ok : Bool) (res : List ByteArray) : Prop :=
  (∃ n m c b, PutIn ss cell t n m c b ∧ ok = true ∧ res = textsOf n m ((pad (flat ss)).set c b)) ∨ ((∀ n m c b, ¬ PutIn ss cell t n m c b) ∧ ok = false ∧ res = [])
theorem PutOut.uniq {ss : List ByteArray} {cell : Int} {t : ByteArray} {ok ok' : Bool} {res res' : List ByteArray} (h : PutOut ss cell t ok res) (h' : PutOut ss cell t ok' res') : ok' = ok ∧ res' = res := by
  rcases h with ⟨n, m, c, b, hg, rfl, rfl⟩ | ⟨hn, rfl, rfl⟩ <;> rcases h' with ⟨n', m', c', b', hg', rfl, rfl⟩ | ⟨hn', rfl, rfl⟩
  · obtain ⟨g1, g2, _, g4, _⟩ := hg
    obtain ⟨k1, k2, _, k4, _⟩ := hg'
    obtain ⟨rfl, rfl⟩ := g1.uniq k1
    obtain rfl : c = c' := by omega
    rw [g4] at k4
    obtain rfl : b = b' := by simpa using k4
    exact ⟨rfl, rfl⟩
  · exact absurd hg (hn' _ _ _ _)
  · exact absurd hg' (hn _ _ _ _)
  · exact ⟨rfl, rfl⟩
theorem PutOut.len {ss : List ByteArray} {cell : Int} {t : ByteArray} {ok : Bool} {res : List ByteArray} (h : PutOut ss cell t ok res) : res.length ≤ 1048576 := by
  rcases h with ⟨n, m, c, b, hg, _, rfl⟩ | ⟨_, _, rfl⟩
  · have h1 := hg.1.2.2.1
    rw [textsOf_length]; omega
  · simp

set_option maxHeartbeats 400000 in
theorem letterIn_other (t : ByteArray) (w : World) (ht : t.size ≠ 1) :
    Calls Tryd.prog 51 #[.string t] w fun e w' => e = .returned (.bool false) ∧ w = w' := by
  have hne : ((t.size : Int) == 1) = false := by rw [beq_eq_false_iff_ne]; omega
  go_enter Tryd.func51, Tryd.ntmps51
  go_wp2_with fail
  go_ret
  exact ⟨rfl, rfl⟩

set_option maxHeartbeats 400000 in
theorem hasCell_any (n m : Nat) (ls : List UInt8) (cell : Int) (w : World) (hl : ls.length = 25) (hn : n ≤ 5) (hm : m ≤ 5) :
    Calls Tryd.prog 67 #[.agg (gcells n m ls), .int .i64 cell] w fun e w' => e = .returned (.bool (decide (0 ≤ cell ∧ cell < ((n * m : Nat) : Int)))) ∧ Below w.heap.size w w' := by
  have HS := hid (size_any n m ls (w.alloc (.cells (gcells n m ls) 39)) hn hm)
  have HG := hid (show (Tryd.prog.info? 39).map (·.size) = some (gcells n m ls).size by rw [gcells_size hl]; exact Tryd.size_grid)
  obtain ⟨Ni, hNi⟩ : ∃ Ni : Int, ((n * m : Nat) : Int) = Ni := ⟨_, rfl⟩
  rw [hNi] at HS ⊢
  clear hNi
  by_cases h0 : 0 ≤ cell
  · have e0 : decide (0 ≤ cell) = true := by simpa using h0
    go_enter Tryd.func67, Tryd.ntmps67
    go_wp2_with (refine wpList_load_row_g (by rfl) 39 _ rfl w.heap.size rfl 39 (gcells n m ls) (0, 0) _ (heap_new0 w _) Tryd.underlying39 rfl HG.out ?_)
    refine HS.out.mono ?_
    rintro e w2 ⟨rfl, hb⟩
    have HB := hid hb
    clear hb
    go_wp2_with fail
    go_ret
    refine ⟨?_, ((Below.refl _ w).alloc (Nat.le_refl _) _).trans (HB.out.mono (by simp))⟩
    simp [h0]
  · have e0 : decide (0 ≤ cell) = false := by simpa using h0
    have h0' : ¬ (0 ≤ cell) := h0
    go_enter Tryd.func67, Tryd.ntmps67
    go_wp2_with fail
    go_ret
    refine ⟨?_, (Below.refl _ w).alloc (Nat.le_refl _) _⟩
    simp

theorem one_byte {t : ByteArray} (h : t.size = 1) : ∃ b, t = ⟨#[b]⟩ := by
  obtain ⟨⟨l⟩⟩ := t
  match l, h with
  | [b], _ => exact ⟨b, rfl⟩
section
variable {F : Fence} {m : Nat} {P : Program} {ops : Array Oper} {rest : List Oper} {o : Oper} {a : Act} {w : World} {Q : Exit → Act → World → Prop}
theorem wpListIn_load_row_g (hO : Open F P) (hw : Region.wanted o (yielded ops a.tmps) = true) (ty : TypeId) (x : Operand) (ho : o.op = .load ty x)
    (g : Nat) (hx : a.eval x = .pointer (some ⟨g, 0, none⟩)) (t : TypeId) (cs : Array Value) (fr : Nat × Nat) (d : TypeDesc) (hg : w.heap[g]? = some (.cells cs t fr))
    (hu : P.underlying ty = some d) (hd : (match d with | .struct _ | .array _ _ => true | _ => false) = true) (hi : (P.info? ty).map (·.size) = some cs.size)
    (h : wpListIn F m P ops Q rest (a.put o.dst (.agg cs)) w) : wpListIn F m P ops Q (o :: rest) a w := by
  unfold wpListIn
  rw [if_pos hw]
  refine ⟨fun f _ => hO.fn f, ?_⟩
  rw [Oper.semAt_eq _ _ _ (fun c e => by rw [ho] at e; cases e)]
  unfold execOp
  simp only [ho, hx, Instr.loadAt, Instr.sureAddr, Sem.run_bind, Sem.run_pure, Result.andThen_ok, run_loadVar_row w g t ty cs fr d hg hu hd hi]
  rw [Oper.uponIn_value]
  exact h
end

end Go.Proofs.YtongjijkdjagdaaDoor

/- The iterator over the ways of a beam: all of them in order, or a part where a round has said no more. -/
namespace Go.Proofs.YtongjijkdjagdaaDoor
open Go.RowKit Go.Shelf
attribute [local go_sem] Oper.semAt_some

/-- What yield is handed for a way. -/
def encW (bw : Nat → Wy) (L : Nat) (x : Fin L) : Array Value := #[wayV (bw x.val)]
def leftW (W : Nat → Wy) (L : Nat) (v : Value) (wr : World) : Nat :=
  match v with
  | .pointer (some a) => match wr.heap[a.block]? with
    | some (.cells cs _ _) => L - idxW W L (readWay cs)
    | _ => 0
  | _ => 0
theorem leftW_eq {W : Nat → Wy} {L j b : Nat} {wr : World} {t : TypeId} {fr : Nat × Nat} (h : wr.heap[b]? = some (.cells (wayC (W j)) t fr)) (hj : j ≤ L) (hne : ∀ a b, a < b → b ≤ L → W a ≠ W b) :
    leftW W L (.pointer (some ⟨b, 0, none⟩)) wr = L - j := by
  unfold leftW
  simp only [h]
  rw [readWay_wayC, idxW_eq hj hne]

/-- What a round must keep for the iterator: the grid's block, and the ways that have been laid since. -/
def KeepsW (g n0 : Nat) (W W' : World) : Prop :=
  W.heap.size ≤ W'.heap.size ∧ W'.heap[g]? = W.heap[g]? ∧ ∀ b cs, n0 ≤ b → W.heap[b]? = some (.cells cs 105 (0, 0)) → W'.heap[b]? = some (.cells cs 105 (0, 0))
theorem KeepsW.trans {g n0 : Nat} {A B C : World} (h : KeepsW g n0 A B) (k : KeepsW g n0 B C) : KeepsW g n0 A C :=
  ⟨Nat.le_trans h.1 k.1, k.2.1.trans h.2.1, fun b cs hb hc => k.2.2 b cs hb (h.2.2 b cs hb hc)⟩
theorem KeepsW.below {g n0 : Nat} {A B : World} (h : Below A.heap.size A B) (hg : g < A.heap.size) : KeepsW g n0 A B :=
  ⟨h.size, h.block g hg, fun b _ _ hc => (h.block b (lt_of_block hc)).trans hc⟩
theorem keepsW_b {g n0 : Nat} {w : World} (hg : g < w.heap.size) (W : World) (l : Nat) (o o' : Obj) (hl : w.heap.size ≤ l) (h1 : W.heap[l]? = some o) (h2 : o.isCells = false) (_ : o.isWalk = false) : KeepsW g n0 W (W.putObj l o') := by
  refine ⟨by simp, World.putObj_heap_other (by omega), fun b _ hb hc => ?_⟩
  rw [World.putObj_heap_other (fun e => ?_)]
  · exact hc
  · subst e
    rw [hc] at h1
    cases h1
    cases h2
theorem abide_below2 {α : Type} {J : List α → World → Prop} {B : Nat} (hJ : AbidesFrom B J) {pre : List α} {A A' : World} (h : J pre A) (hb : Below A.heap.size A A') : J pre A' := abide_below hJ h hb
def WayRel2 (bw : Nat → Wy) (L g n0 : Nat) (J : List (Fin L) → World → Prop) (W : World) (v : Value) (wr : World) : Prop :=
  ∃ j b : Nat, j ≤ L ∧ v = .pointer (some ⟨b, 0, none⟩) ∧ n0 ≤ b ∧ wr.heap[b]? = some (.cells (wayC (bw j)) 105 (0, 0)) ∧ J (upto L j) wr ∧ KeepsW g n0 W wr

set_option maxRecDepth 100000 in
set_option maxHeartbeats 2000000 in
theorem ways1_in (d l Bg Bp n m p L n0 : Nat) (ls : List UInt8) (hL : L = blen n m (lett m ls) p) (hl : ls.length = 25) (hn : n ≤ 5) (hm : m ≤ 5) (hp : p < 2 * (n + m)) (J Jx : List (Fin L) → World → Prop) (W : World) (hb : Bg < W.heap.size) (hn0 : n0 ≤ W.heap.size)
    (hJ : AbidesFrom W.heap.size J)
    (hY : ∀ pre x W1, J pre W1 → pre.length < L → YieldAt Fence.wide (d - 1) Tryd.prog l (encW (bway n m (lett m ls) p) L x) W1 fun e W' =>
      (e = .returned (.bool true) ∧ J (pre ++ [x]) W' ∧ KeepsW Bg n0 W1 W') ∨ (e = .returned (.bool false) ∧ Jx (pre ++ [x]) W'))
    (hBg : W.heap[Bg]? = some (.cells (gcells n m ls) 39 (0, 0))) (hBp : Boxed W Bp 3 (.int .i64 p)) (h0 : J [] W) :
    CallsIn Fence.wide d Tryd.prog 139 #[.func (.yield l) #[] #[], .pointer (some ⟨Bg, 0, none⟩), .pointer (some ⟨Bp, 0, none⟩)] W fun e W' => (∃ v, e = .returned v) ∧
      ((∃ ys, ys = List.finRange L ∧ J ys W') ∨ (∃ pre, (∃ k, k ≤ L ∧ pre = upto L k) ∧ Jx pre W')) := by
  have HE := hid (fun w' => entry_any n m p ls w' hn hm hp)
  have HHO := hid (fun x w' => holds_any n m ls x w')
  have HON := hid (fun x w' hx hd => onward_any n m ls x w' hl hn hm hx hd)
  have HNE := hid (show ∀ a b, a < b → b ≤ L → bway n m (lett m ls) p a ≠ bway n m (lett m ls) p b from fun a b h1 h2 => bway_ne hp h1 (by rw [← hL]; exact h2))
  have HIN := hid (show ∀ j, j < L → inG n m (bway n m (lett m ls) p j) from fun j h => blen_in (by rw [← hL]; exact h))
  have HOUT := hid (show ¬ inG n m (bway n m (lett m ls) p L) by rw [hL]; exact blen_out hp)
  have HD := hid (show ∀ j, (bway n m (lett m ls) p j).d < 4 from fun j => bway_d p j)
  have HST := hid (show ∀ j, bway n m (lett m ls) p (j + 1) = nxt (lett m ls) (bway n m (lett m ls) p j) from fun j => rfl)
  have HZ := hid (show bway n m (lett m ls) p 0 = entr n m p from rfl)
  have HG := hid (show (Tryd.prog.info? 39).map (·.size) = some (gcells n m ls).size by rw [gcells_size hl]; exact Tryd.size_grid)
  have HB := hid hBg
  have hpc := hBp.cell
  clear hBg
  refine callsIn_of_wp Tryd.func139 rfl trivial ?_ rfl
  simp only [Tryd.ntmps139, List.size_toArray, List.length_cons, List.length_nil, Nat.reduceAdd, Nat.reduceSub, Array.replicate_succ, Array.replicate_zero, List.push_toArray, List.append_toArray, List.nil_append, List.cons_append]
  gi_wp2_with (refine wpListIn_load_row (Open.wide _) rfl 39 _ rfl Bg rfl 39 (gcells n m ls) (0, 0) _ HB.out Tryd.underlying39 rfl HG.out ?_)
  refine ⟨trivial, (fun h => by cases h), callsIn_wide.2 ((HE.out W).mono ?_)⟩
  rintro e w1 ⟨rfl, hbel⟩
  have HL := hid hbel
  have hJ1 := hid (abide_below hJ h0 hbel)
  have HJ := hid hJ
  have HY := hid hY
  have HN := hid hn0
  have hbw := hid hb
  clear hbel h0 hJ hY hL hpc hBp hb hn0
  rw [← HZ.out]
  unfold encW at HY
  generalize bway n m (lett m ls) p = bw at *
  generalize hgc : gcells n m ls = cs at *
  clear hgc
  generalize hx0 : bw 0 = x0
  have HX0 := hid hx0
  clear hx0
  obtain ⟨i0, k0, d0⟩ := x0
  simp only [wayV] at HY ⊢
  gi_wp2
  gi_loopw [4] (WayRel2 bw L Bg n0 J W) (fun v wr => leftW bw L v wr)
  case atStart =>
    have e0 : wayC (bw 0) = #[.int .i64 i0, .int .i64 k0, .int .i64 ((d0 : Nat) : Int)] := by rw [HX0.out]; rfl
    have hba : Below W.heap.size W (w1.alloc (.cells #[.int .i64 i0, .int .i64 k0, .int .i64 ((d0 : Nat) : Int)] 105)) := HL.out.alloc HL.out.size _
    refine ⟨0, w1.heap.size, Nat.zero_le _, rfl, Nat.le_trans HN.out HL.out.size, ?_, ?_, KeepsW.below hba hbw.out⟩
    · rw [e0]; exact heap_new0 w1 _
    · rw [upto_zero]; exact abide_below2 HJ.out hJ1.out ((Below.refl w1.heap.size w1).alloc (Nat.le_refl _) _)
  case round =>
    obtain ⟨j, b, hj, rfl, hnb, hcell, hJj, hk⟩ := hrel
    have HC := hid hcell
    have HK := hid hJj
    have HB2 := hid hk
    have hbg := hid ((hk.2.1).trans HB.out)
    clear hcell hJj hk
    obtain ⟨x, hx⟩ : ∃ x, bw j = x := ⟨_, rfl⟩
    have HX := hid hx
    have hd4 := HD.out j
    rw [hx] at hd4
    have hC2 := HC.out
    rw [hx] at hC2
    have HHx := hid (fun w' => HHO.out x w')
    obtain ⟨i, k, d'⟩ := x
    have c0 : wr.cell? ⟨b, 0, none⟩ = some (.int .i64 i) := by rw [cell_of_row _ _ _ _ _ _ hC2]; rfl
    have c1 : wr.cell? ⟨b, 1, none⟩ = some (.int .i64 k) := by rw [cell_of_row _ _ _ _ _ _ hC2]; rfl
    have HCX := hid hC2
    clear hx hC2
    by_cases hlt : j < L
    · have hin := HIN.out j hlt
      rw [HX.out] at hin
      have HI := hid hin
      have hho : ∀ w', Calls Tryd.prog 90 #[.agg cs, .agg #[.int .i64 i, .int .i64 k]] w' fun e w'' => e = .returned (.bool true) ∧ Below w'.heap.size w' w'' := fun w' => by
        have := HHx.out w'
        rw [decide_eq_true hin] at this
        exact this
      have HH := hid hho
      clear hho hin HHx
      gi_wp2_with (refine wpListIn_load_row (Open.wide _) rfl 39 _ rfl Bg rfl 39 cs (0, 0) _ hbg.out Tryd.underlying39 rfl HG.out ?_)
      refine ⟨trivial, (fun h => by cases h), callsIn_wide.2 ((HH.out wr).mono ?_)⟩
      rintro e w2 ⟨rfl, hb2⟩
      have HW2 := hid hb2
      have g2 := (hb2.block _ (lt_of_block HCX.out)).trans HCX.out
      have a0 : w2.cell? ⟨b, 0, none⟩ = some (.int .i64 i) := by rw [cell_of_row _ _ _ _ _ _ g2]; rfl
      have a1 : w2.cell? ⟨b, 1, none⟩ = some (.int .i64 k) := by rw [cell_of_row _ _ _ _ _ _ g2]; rfl
      have a2 : w2.cell? ⟨b, 2, none⟩ = some (.int .i64 ((d' : Nat) : Int)) := by rw [cell_of_row _ _ _ _ _ _ g2]; rfl
      have G2 := hid g2
      obtain ⟨fn, tmps, assign, body, hy, hyR⟩ := HY.out (upto L j) ⟨j, hlt⟩ w2 (abide_below2 HJ.out HK.out hb2) (by rw [upto_length hj]; exact hlt)
      simp only [HX.out] at hy
      clear hb2 g2 c0 c1
      gi_wp2
      refine ⟨(fun h => by cases h), hyR.mono ?_⟩
      rintro e W3 (⟨rfl, hJ3, hk3⟩ | ⟨rfl, hJx3⟩)
      · have g3 := hk3.2.2 b _ hnb G2.out
        have b0 : W3.cell? ⟨b, 0, none⟩ = some (.int .i64 i) := by rw [cell_of_row _ _ _ _ _ _ g3]; rfl
        have b1 : W3.cell? ⟨b, 1, none⟩ = some (.int .i64 k) := by rw [cell_of_row _ _ _ _ _ _ g3]; rfl
        have b2 : W3.cell? ⟨b, 2, none⟩ = some (.int .i64 ((d' : Nat) : Int)) := by rw [cell_of_row _ _ _ _ _ _ g3]; rfl
        have K2 := KeepsW.below (n0 := n0) HW2.out (lt_of_block hbg.out)
        have hbg3 : W3.heap[Bg]? = some (.cells cs 39 (0, 0)) := hk3.2.1.trans (K2.2.1.trans hbg.out)
        have HBG3 := hid ((Below.heap_alloc W3 (.cells #[.int .i64 i, .int .i64 k, .int .i64 ((d' : Nat) : Int)] 105) _ (lt_of_block hbg3)).trans hbg3)
        have HJ3 := hid hJ3
        have HK3 := hid ((HB2.out.trans K2).trans hk3)
        have HS3 := hid (Nat.le_trans HN.out HK3.out.1)
        have HBg3 := hid (lt_of_block hbg3)
        clear g3 K2 hbg3 hJ3 hk3 a0 a1 a2
        obtain ⟨y, hyy⟩ : ∃ y, nxt (lett m ls) ⟨i, k, d'⟩ = y := ⟨_, rfl⟩
        have HON2 := hid (fun w' => HON.out ⟨i, k, d'⟩ w' HI.out hd4)
        have HST2 := HST.out j
        rw [HX.out, hyy] at HST2
        have HY2 := hid HST2
        rw [hyy] at HON2
        clear hyy HST2
        obtain ⟨i2, k2, d2⟩ := y
        simp only [wayV] at HON2
        gi_wp2_with (refine wpListIn_load_row (Open.wide _) rfl 39 _ rfl Bg rfl 39 cs (0, 0) _ HBG3.out Tryd.underlying39 rfl HG.out ?_)
        refine ⟨trivial, (fun h => by cases h), callsIn_wide.2 ((HON2.out _).mono ?_)⟩
        rintro e w5 ⟨rfl, hb5⟩
        have g5 := (hb5.block _ (by simp)).trans (heap_new0 W3 (.cells #[.int .i64 i, .int .i64 k, .int .i64 ((d' : Nat) : Int)] 105))
        have q0 : w5.cell? ⟨W3.heap.size, 0, none⟩ = some (.int .i64 i) := by rw [cell_of_row _ _ _ _ _ _ g5]; rfl
        have q1 : w5.cell? ⟨W3.heap.size, 1, none⟩ = some (.int .i64 k) := by rw [cell_of_row _ _ _ _ _ _ g5]; rfl
        have q2 : w5.cell? ⟨W3.heap.size, 2, none⟩ = some (.int .i64 ((d' : Nat) : Int)) := by rw [cell_of_row _ _ _ _ _ _ g5]; rfl
        have f0 : w5.frozen? ⟨W3.heap.size, 0, none⟩ = false := frozen_of_row _ _ _ _ _ g5
        have f1 : w5.frozen? ⟨W3.heap.size, 1, none⟩ = false := frozen_of_row _ _ _ _ _ g5
        have f2 : w5.frozen? ⟨W3.heap.size, 2, none⟩ = false := frozen_of_row _ _ _ _ _ g5
        have HB5 := hid (show Below W3.heap.size W3 w5 from ((Below.refl _ W3).alloc (Nat.le_refl _) _).trans (hb5.mono (by simp)))
        have G5 := hid g5
        clear hb5 g5 b0 b1 b2
        gi_wp2
        have r0 := heap_setCell_same _ _ 0 _ _ (.int .i64 i2) G5.out
        have r1 := heap_setCell_same _ _ 1 _ _ (.int .i64 k2) r0
        have r2 := heap_setCell_same _ _ 2 _ _ (.int .i64 ((d2 : Nat) : Int)) r1
        have hB6 := ((HB5.out.setCell (p := ⟨W3.heap.size, 0, none⟩) (Nat.le_refl _) (.int .i64 i2)).setCell (p := ⟨W3.heap.size, 1, none⟩) (Nat.le_refl _) (.int .i64 k2)).setCell (p := ⟨W3.heap.size, 2, none⟩) (Nat.le_refl _) (.int .i64 ((d2 : Nat) : Int))
        have R2 := hid r2
        have HB6 := hid hB6
        clear r0 r1 r2 hB6 q0 q1 q2 f0 f1 f2
        go_roundw
        case rel => exact ⟨j + 1, W3.heap.size, by omega, rfl, HS3.out, by rw [HY2.out]; exact R2.out, by rw [upto_succ hlt]; exact abide_below2 HJ.out HJ3.out HB6.out, HK3.out.trans (KeepsW.below HB6.out HBg3.out)⟩
        case measure =>
          rw [leftW_eq (j := j + 1) (by rw [HY2.out]; exact R2.out) (by omega) HNE.out, leftW_eq HC.out hj HNE.out]
          omega
      · have H3 := hid hJx3
        clear hJx3
        gi_wp2
        refine bodyPost_ret (results_none rfl _ _ _) rfl ?_
        exact ⟨⟨_, rfl⟩, .inr ⟨_, ⟨j + 1, by omega, rfl⟩, by rw [upto_succ hlt]; exact H3.out⟩⟩
    · obtain rfl : j = L := by omega
      have hout := HOUT.out
      rw [HX.out] at hout
      have hho : ∀ w', Calls Tryd.prog 90 #[.agg cs, .agg #[.int .i64 i, .int .i64 k]] w' fun e w'' => e = .returned (.bool false) ∧ Below w'.heap.size w' w'' := fun w' => by
        have := HHx.out w'
        rw [decide_eq_false hout] at this
        exact this
      have HH := hid hho
      clear hho hout HHx
      gi_wp2_with (refine wpListIn_load_row (Open.wide _) rfl 39 _ rfl Bg rfl 39 cs (0, 0) _ hbg.out Tryd.underlying39 rfl HG.out ?_)
      refine ⟨trivial, (fun h => by cases h), callsIn_wide.2 ((HH.out wr).mono ?_)⟩
      rintro e w2 ⟨rfl, hb2⟩
      have HW2 := hid hb2
      clear hb2 c0 c1
      gi_wp2
      go_end0
      exact ⟨⟨_, rfl⟩, .inl ⟨_, rfl, by rw [← upto_all]; exact abide_below2 HJ.out HK.out HW2.out⟩⟩

/-- The iterator's contract, for the law on loops over iterators. -/
theorem ways_stops (d Bg Bp n m p L : Nat) (ls : List UInt8) (hL : L = blen n m (lett m ls) p) (hl : ls.length = 25) (hn : n ≤ 5) (hm : m ≤ 5) (hp : p < 2 * (n + m)) (w : World) (hBg : w.heap[Bg]? = some (.cells (gcells n m ls) 39 (0, 0))) (hBp : Boxed w Bp 3 (.int .i64 p)) :
    SeqStopsK Fence.wide d Tryd.prog 139 #[.pointer (some ⟨Bg, 0, none⟩), .pointer (some ⟨Bp, 0, none⟩)] (encW (bway n m (lett m ls) p) L) (KeepsW Bg w.heap.size) (fun xs => xs = List.finRange L) (fun pre => ∃ k, k ≤ L ∧ pre = upto L k) L w := fun l J Jx W hW hJ _ hY h0 => by
  have hb := lt_of_block hBg
  exact ways1_in d l Bg Bp n m p L w.heap.size ls hL hl hn hm hp J Jx W (Nat.lt_of_lt_of_le hb hW.size) hW.size hJ hY ((hW.block Bg hb).trans hBg) ((hW.block Bp hBp.lt).trans hBp) h0

set_option maxHeartbeats 400000 in
theorem ways_any (cs : Array Value) (p : Int) (w : World) :
    Calls Tryd.prog 128 #[.agg cs, .int .i64 p] w fun e w' => e = .returned (.func (.func 139) #[] #[.pointer (some ⟨w.heap.size, 0, none⟩), .pointer (some ⟨w.heap.size + 1, 0, none⟩)]) ∧ w' = (w.alloc (.cells cs 39)).alloc (.cells #[.int .i64 p] 3) := by
  go_enter Tryd.func128, Tryd.ntmps128
  go_wp2
  go_ret
  exact ⟨rfl, rfl⟩

end Go.Proofs.YtongjijkdjagdaaDoor

/- The partner of a port, by its contract. -/
namespace Go.Proofs.YtongjijkdjagdaaDoor
open Go.RowKit Go.Shelf
attribute [local go_sem] Oper.semAt_some

theorem KeepsW.setCell {g n0 b : Nat} (W : World) (o : Nat) (v : Value) (hg : b ≠ g) (hb : b < n0) : KeepsW g n0 W (W.setCell ⟨b, o, none⟩ v) :=
  ⟨by simp, Below.heap_setCell _ _ _ _ (Ne.symm hg), fun c _ hc h => by rw [Below.heap_setCell _ _ _ _ (by simp; omega)]; exact h⟩
theorem KeepsW.refl {g n0 : Nat} (W : World) : KeepsW g n0 W W := ⟨Nat.le_refl _, rfl, fun _ _ _ h => h⟩
/-- The last way that has come. -/
def lastOf {L : Nat} (pre : List (Fin L)) : Nat := match pre.getLast? with
  | some x => x.val
  | none => 0
theorem lastOf_snoc {L : Nat} (pre : List (Fin L)) (x : Fin L) : lastOf (pre ++ [x]) = x.val := by simp [lastOf]
theorem lastOf_all {L : Nat} (h : 1 ≤ L) : lastOf (List.finRange L) = L - 1 := by
  obtain ⟨k, rfl⟩ : ∃ k, L = k + 1 := ⟨L - 1, by omega⟩
  have := upto_succ (N := k + 1) (k := k) (by omega)
  rw [upto_all] at this
  rw [this, lastOf_snoc]; simp

set_option maxRecDepth 100000 in
set_option maxHeartbeats 2000000 in
theorem partner_any (n m p : Nat) (ls : List UInt8) (w : World) (hl : ls.length = 25) (hn1 : 1 ≤ n) (hn : n ≤ 5) (hm1 : 1 ≤ m) (hm : m ≤ 5) (hp : p < 2 * (n + m)) :
    Calls Tryd.prog 103 #[.agg (gcells n m ls), .int .i64 p] w fun e w' => e = .returned (.int .i64 ((bend_ n m (lett m ls) p : Nat) : Int)) ∧ Below w.heap.size w w' := by
  refine (callsIn_wide (n := 3)).1 ?_
  have HG := hid (show (Tryd.prog.info? 39).map (·.size) = some (gcells n m ls).size by rw [gcells_size hl]; exact Tryd.size_grid)
  have H0 := hid (heap_new0 w (.cells (gcells n m ls) 39))
  have HE := hid (fun w' => entry_any n m p ls w' hn hm hp)
  have hpos := blen_pos (t := lett m ls) hn1 hm1 hp
  obtain ⟨L, hL⟩ : ∃ L, L = blen n m (lett m ls) p := ⟨_, rfl⟩
  rw [← hL] at hpos
  have HLast := hid (show inG n m (bway n m (lett m ls) p (L - 1)) from blen_in (by omega))
  have HDL := hid (bway_d (n := n) (m := m) (t := lett m ls) p (L - 1))
  have HON := hid (fun w' => onward_any n m ls (bway n m (lett m ls) p (L - 1)) w' hl hn hm HLast.out HDL.out)
  have HNX := hid (show bway n m (lett m ls) p L = nxt (lett m ls) (bway n m (lett m ls) p (L - 1)) by obtain ⟨k, hk⟩ : ∃ k, L = k + 1 := ⟨L - 1, by omega⟩; rw [hk]; rfl)
  have HEND := hid (show ((bend_ n m (lett m ls) p : Nat) : Int) = leav n m (bway n m (lett m ls) p L) by rw [hL]; exact (bend_facts hn1 hm1 hp).1)
  have HWS := hid (fun (Bg Bp : Nat) (w' : World) h1 h2 => ways_stops 2 Bg Bp n m p L ls hL hl hn hm hp w' h1 h2)
  have HEX := hid (show ∀ w', Calls Tryd.prog 129 #[.agg (gcells n m ls), wayV (bway n m (lett m ls) p L)] w' fun e w'' => e = .returned (.int .i64 (leav n m (bway n m (lett m ls) p L))) ∧ Below w'.heap.size w' w'' from fun w' => by
    obtain ⟨y1, y2, y3, y4⟩ := HLast.out
    have hb4 := bend_lt (lett m ls (bway n m (lett m ls) p (L - 1)).i (bway n m (lett m ls) p (L - 1)).k) HDL.out
    have hbd : -100 ≤ (bway n m (lett m ls) p L).i ∧ (bway n m (lett m ls) p L).i ≤ 100 ∧ -100 ≤ (bway n m (lett m ls) p L).k ∧ (bway n m (lett m ls) p L).k ≤ 100 := by
      rw [HNX.out]
      unfold nxt
      simp only
      rcases four hb4 with e | e | e | e <;> rw [e] <;> simp [stepI, stepK] <;> omega
    exact exit_any n m ls _ w' hn hm (bway_d p L) ⟨hbd.1, hbd.2.1⟩ hbd.2.2)
  have HZ := hid (show bway n m (lett m ls) p 0 = entr n m p from rfl)
  rw [HEND.out]
  clear hL
  rw [← HZ.out] at HE
  rw [← HNX.out] at HON
  generalize bway n m (lett m ls) p = bw at *
  generalize hgc : gcells n m ls = cs at *
  generalize hlv : leav n m (bw L) = lv at *
  clear hlv HEND HZ HNX HDL HLast
  clear hgc
  generalize hx0 : bw 0 = x0 at HE
  have HX0 := hid hx0
  clear hx0
  obtain ⟨i0, k0, d0⟩ := x0
  simp only [wayV] at HE
  refine callsIn_of_wp_marks Tryd.func103 rfl trivial ?_ rfl
  simp only [Tryd.ntmps103, List.size_toArray, List.length_cons, List.length_nil, Nat.reduceAdd, Nat.reduceSub, Array.replicate_succ, Array.replicate_zero, List.push_toArray, List.append_toArray, List.nil_append, List.cons_append]
  gi_wp2_with (refine wpListIn_load_row (Open.wide _) rfl 39 _ rfl w.heap.size rfl 39 cs (0, 0) _ H0.out Tryd.underlying39 rfl HG.out ?_)
  refine ⟨trivial, callsIn_wide.2 ((HE.out _).mono ?_)⟩
  rintro e w1 ⟨rfl, hb1⟩
  have N0 := hid ((hb1.block _ (lt_of_block H0.out)).trans H0.out)
  have NB := hid (((Below.refl _ w).alloc (Nat.le_refl _) (.cells cs 39)).trans (hb1.mono (by simp)))
  have NS := hid (show w.heap.size + 1 ≤ w1.heap.size by have := hb1.size; simpa using this)
  have N1 := hid ((Below.heap_alloc w1 (.cells #[.int .i64 i0, .int .i64 k0, .int .i64 ((d0 : Nat) : Int)] 105) _ (lt_of_block N0.out)).trans N0.out)
  clear hb1
  gi_wp2_with (refine wpListIn_load_row (Open.wide _) rfl 39 _ rfl w.heap.size rfl 39 cs (0, 0) _ N1.out Tryd.underlying39 rfl HG.out ?_)
  refine ⟨trivial, callsIn_wide.2 ((ways_any cs p _).mono ?_)⟩
  rintro e w2 ⟨rfl, hw2⟩
  have hs2 : w2.heap.size = w1.heap.size + 1 + 1 + 1 := by rw [hw2]; simp
  have K0 := hid (show w2.heap[w.heap.size]? = some (.cells cs 39 (0, 0)) by
    rw [hw2, Below.heap_alloc _ _ _ (by have := NS.out; simp; omega), Below.heap_alloc _ _ _ (by have := NS.out; simp; omega)]; exact N1.out)
  have K1 := hid (show w2.heap[w1.heap.size]? = some (.cells (wayC (bw (lastOf ([] : List (Fin L))))) 105 (0, 0)) by
    rw [hw2]; exact (heap_new2 w1 _ _ _).trans (by rw [show lastOf ([] : List (Fin L)) = 0 from rfl, HX0.out]; rfl))
  have KX := hid (show w2.heap[w1.heap.size + 1]? = some (.cells cs 39 (0, 0)) by
    rw [hw2]; simpa using heap_new1 (w1.alloc (.cells #[.int .i64 i0, .int .i64 k0, .int .i64 ((d0 : Nat) : Int)] 105)) _ _)
  have KP := hid (show Boxed w2 (w1.heap.size + 1 + 1) 3 (.int .i64 p) by
    unfold Boxed
    rw [hw2]; simpa using heap_new0 ((w1.alloc (.cells #[.int .i64 i0, .int .i64 k0, .int .i64 ((d0 : Nat) : Int)] 105)).alloc (.cells cs 39)) (.cells #[.int .i64 p] 3))
  have KB := hid (show Below w.heap.size w w2 by
    rw [hw2]; exact ((NB.out.alloc NB.out.size _).alloc (by have := NB.out.size; simp; omega) _).alloc (by have := NB.out.size; simp; omega) _)
  have KS := hid hs2
  clear hw2 hs2
  rw [World.size_alloc]
  gi_wp2
  refine wpIn_rangeFunc_ownH rfl (by omega) (gf := 139) (lb := #[.pointer (some ⟨w1.heap.size + 1, 0, none⟩), .pointer (some ⟨w1.heap.size + 1 + 1, 0, none⟩)]) rfl trivial (enters_of Tryd.func139 (by kernel_rfl) rfl)
    (HWS.out (w1.heap.size + 1) (w1.heap.size + 1 + 1) w2 KX.out KP.out) KeepsW.trans (keepsW_b (lt_of_block KX.out)) (Below.refl _ _) (fun _ => rfl)
    (fun pre W => (W.heap[w.heap.size]? = some (.cells cs 39 (0, 0)) ∧ W.heap[w1.heap.size]? = some (.cells (wayC (bw (lastOf pre))) 105 (0, 0))) ∧ Below w.heap.size w2 W)
    (fun _ _ _ => False)
    (OwnFrom.and (OwnFrom.and (ownFrom_heap _ _ (fun _ => _) (fun _ => rfl)) (ownFrom_heap _ _ (fun pre => .cells (wayC (bw (lastOf pre))) 105 (0, 0)) (fun _ => rfl))) (ownFrom_below (by have := KS.out; have := NS.out; omega) (by have := KS.out; have := NS.out; omega)))
    (fun _ _ _ _ _ hs _ _ => hs)
    ⟨⟨K0.out, K1.out⟩, Below.refl _ _⟩
    (fun x a' W => ∃ Bx, w2.heap.size ≤ Bx ∧ W.heap[Bx]? = some (.cells (wayC (bw x.val)) 105 (0, 0)) ∧ ∃ u0 u1 u2 u3 u4 u7 u8 u9 u10 u11 u12 u13 u14 u15 u16 u17 u18 u19 : Value,
      a' = { tmps := #[u0, u1, u2, u3, u4, .pointer (some ⟨w1.heap.size, 0, none⟩), .pointer (some ⟨Bx, 0, none⟩), u7, u8, u9, u10, u11, u12, u13, u14, u15, u16, u17, u18, u19], defers := [] })
    (fun x a' _ X Y row hs hg hr => by
      obtain ⟨Bx, h1, h2, h3⟩ := hs
      exact ⟨Bx, h1, ownFrom_heap _ Bx (fun (_ : Unit) => Obj.cells (wayC (bw x.val)) 105 (0, 0)) (fun _ => rfl) () X Y row h2 hg hr, h3⟩)
    ?assign ?body ?done ?stop
  case assign =>
    rintro l pre x W K ⟨⟨i0, i1⟩, i2⟩ hK
    have J0 := hid i0
    have J1 := hid i1
    have J2 := hid i2
    have JK := hid hK
    clear i0 i1 i2 hK
    obtain ⟨y, hy⟩ : ∃ y, bw x.val = y := ⟨_, rfl⟩
    unfold encW
    rw [hy] at JK ⊢
    clear hy
    obtain ⟨iv, kv, dv⟩ := y
    simp only [wayV, wayC] at JK ⊢
    gi_wp2
    have hsz : w2.heap.size ≤ W.heap.size := J2.out.size
    have hsz2 : w1.heap.size + 1 < W.heap.size := by have := KS.out; omega
    have hsz3 : w.heap.size < W.heap.size := by have := NS.out; omega
    exact JK.out _ _ ((KeepsOthers.alloc _ _).from _) (KeepsW.below ((Below.refl _ W).alloc (Nat.le_refl _) _) hsz2)
      ⟨⟨(Below.heap_alloc _ _ _ hsz3).trans J0.out, (Below.heap_alloc _ _ _ (by omega)).trans J1.out⟩, J2.out.alloc (by omega) _⟩
      ⟨W.heap.size, hsz, heap_new0 W _, _, _, _, _, _, _, _, _, _, _, _, _, _, _, _, _, _, _, rfl⟩
  case body =>
    rintro l pre x a' W hlw ⟨r, hr⟩ ⟨⟨i0, i1⟩, i2⟩ ⟨Bx, hBx, hX, u0, u1, u2, u3, u4, u7, u8, u9, u10, u11, u12, u13, u14, u15, u16, u17, u18, u19, rfl⟩ hlt
    have hsnoc := lastOf_snoc pre x
    obtain ⟨y, hy⟩ : ∃ y, bw x.val = y := ⟨_, rfl⟩
    obtain ⟨z, hz⟩ : ∃ z, bw (lastOf pre) = z := ⟨_, rfl⟩
    rw [hy] at hX
    rw [hz] at i1
    have HY := hid (show bw (lastOf (pre ++ [x])) = y by rw [hsnoc, hy])
    clear hsnoc hy hz hr hlt hlw
    obtain ⟨iv, kv, dv⟩ := y
    obtain ⟨iz, kz, dz⟩ := z
    have c0 : W.cell? ⟨Bx, 0, none⟩ = some (.int .i64 iv) := by rw [cell_of_row _ _ _ _ _ _ hX]; rfl
    have c1 : W.cell? ⟨Bx, 1, none⟩ = some (.int .i64 kv) := by rw [cell_of_row _ _ _ _ _ _ hX]; rfl
    have c2 : W.cell? ⟨Bx, 2, none⟩ = some (.int .i64 ((dv : Nat) : Int)) := by rw [cell_of_row _ _ _ _ _ _ hX]; rfl
    have o0 : W.cell? ⟨w1.heap.size, 0, none⟩ = some (.int .i64 iz) := by rw [cell_of_row _ _ _ _ _ _ i1]; rfl
    have o1 : W.cell? ⟨w1.heap.size, 1, none⟩ = some (.int .i64 kz) := by rw [cell_of_row _ _ _ _ _ _ i1]; rfl
    have o2 : W.cell? ⟨w1.heap.size, 2, none⟩ = some (.int .i64 ((dz : Nat) : Int)) := by rw [cell_of_row _ _ _ _ _ _ i1]; rfl
    have f0 : W.frozen? ⟨w1.heap.size, 0, none⟩ = false := frozen_of_row _ _ _ _ _ i1
    have f1 : W.frozen? ⟨w1.heap.size, 1, none⟩ = false := frozen_of_row _ _ _ _ _ i1
    have f2 : W.frozen? ⟨w1.heap.size, 2, none⟩ = false := frozen_of_row _ _ _ _ _ i1
    have I0 := hid i0
    have I1 := hid i1
    have I2 := hid i2
    clear i0 i1 i2 hX
    gi_wp2
    have r0 := heap_setCell_same _ _ 0 _ _ (.int .i64 iv) I1.out
    have r1 := heap_setCell_same _ _ 1 _ _ (.int .i64 kv) r0
    have r2 := heap_setCell_same _ _ 2 _ _ (.int .i64 ((dv : Nat) : Int)) r1
    refine ⟨(((KeepsOthers.setCell _ _ _).trans (KeepsOthers.setCell _ _ _)).trans (KeepsOthers.setCell _ _ _)).from _,
      ((KeepsW.setCell _ _ _ (by omega) (by have := KS.out; omega)).trans (KeepsW.setCell _ _ _ (by omega) (by have := KS.out; omega))).trans (KeepsW.setCell _ _ _ (by omega) (by have := KS.out; omega)), ⟨?_, ?_⟩, ?_⟩
    · have hne : w.heap.size ≠ w1.heap.size := by have := NS.out; omega
      rw [Below.heap_setCell _ _ _ _ hne, Below.heap_setCell _ _ _ _ hne, Below.heap_setCell _ _ _ _ hne]; exact I0.out
    · rw [HY.out]; exact r2
    · have hle : w.heap.size ≤ w1.heap.size := by have := NS.out; omega
      exact ((I2.out.setCell (p := ⟨w1.heap.size, 0, none⟩) hle _).setCell (p := ⟨w1.heap.size, 1, none⟩) hle _).setCell (p := ⟨w1.heap.size, 2, none⟩) hle _
  case done =>
    rintro D xs W hD rfl ⟨⟨i0, i1⟩, i2⟩ hK
    rw [lastOf_all hpos] at i1
    have J0 := hid i0
    have J1 := hid i1
    have J2 := hid i2
    have JK := hid hK
    clear i0 i1 i2 hK
    rw [wayV_eq] at HON
    gi_wp2
    refine wpIn_region_quiet_tail (Open.wide _) 5 (Cls W) (by kernel_rfl) (by kernel_rfl) (Below.refl _ W).drew ?_
    simp only [List.take_succ_cons, List.take_zero, List.drop_succ_cons, List.drop_zero]
    refine wpQuiet_load_row rfl 39 _ rfl w.heap.size rfl 39 cs (0, 0) _ (fun w' hw => (hw.block _ (lt_of_block J0.out)).trans J0.out) Tryd.underlying39 rfl HG.out ?_
    refine wpQuiet_load_row rfl 39 _ rfl w.heap.size rfl 39 cs (0, 0) _ (fun w' hw => (hw.block _ (lt_of_block J0.out)).trans J0.out) Tryd.underlying39 rfl HG.out ?_
    refine wpQuiet_load_row rfl 105 _ rfl w1.heap.size rfl 105 (wayC (bw (L - 1))) (0, 0) _ (fun w' hw => (hw.block _ (lt_of_block J1.out)).trans J1.out) Tryd.underlying105 rfl Tryd.size_way ?_
    refine wpQuiet_call rfl 88 #[.agg cs, .agg (wayC (bw (L - 1)))] (wayV (bw L)) (fun w _ => by go_simp) (fun w' hw => (HON.out w').mono fun e w'' ⟨he, hb'⟩ => ⟨he, hw.trans (hb'.mono hw.size)⟩) ?_
    refine wpQuiet_call rfl 129 #[.agg cs, wayV (bw L)] (.int .i64 lv) (fun w _ => by go_simp) (fun w' hw => (HEX.out w').mono fun e w'' ⟨he, hb'⟩ => ⟨he, hw.trans (hb'.mono hw.size)⟩) ?_
    refine wpQuiet_nil ?_
    intro w3 hw3
    have hK3 := (hw3.block _ (lt_of_block JK.out)).trans JK.out
    have HB3 := hid (J2.out.trans (hw3.mono (Nat.le_trans KB.out.size J2.out.size)))
    have HK3 := hid hK3
    clear hw3 hK3
    gi_wp2
    refine ⟨by simp, .inl ⟨_, _, rfl, run_takeDeferred HK3.out, ?_⟩⟩
    refine ⟨_, results_tmp rfl _ _ _, rfl, ?_⟩
    exact (KB.out.trans HB3.out).trans (belowK_b (w := w) (Nat.le_refl _) _ D _ _ (by have := KS.out; have := NS.out; omega) HK3.out rfl rfl)
  case stop =>
    rintro D c pre W _ _ h _
    exact h.elim

end Go.Proofs.YtongjijkdjagdaaDoor

/- A grid with a port, and BeamEnd of the program, by their contracts. -/
namespace Go.Proofs.YtongjijkdjagdaaDoor
open Go.RowKit Go.Shelf
attribute [local go_sem] Oper.semAt_some

/-- A grid, and a number of one of its ports. -/
def PortIn (ss : List ByteArray) (p : Int) (n m q : Nat) : Prop := IsGrid n m ss ∧ p = q ∧ q < 2 * (n + m)
def NoPort (ss : List ByteArray) (p : Int) : Prop := ∀ n m q, ¬ PortIn ss p n m q
/-- What gridWithPort comes to. -/
def GPEnd (ss : List ByteArray) (p : Int) (w : World) (e : Ending) (w' : World) : Prop :=
  Below w.heap.size w w' ∧ ((∃ n m q, PortIn ss p n m q ∧ e = .returned (.tuple #[.agg (gcells n m (pad (flat ss))), .bool true])) ∨ (NoPort ss p ∧ e = .returned (.tuple #[.agg zeroG, .bool false])))

/-- BeamEnd of the program and of the specification. -/
def EndOut (ss : List ByteArray) (p : Int) (x : Int) (ok : Bool) : Prop :=
  (∃ n m q, PortIn ss p n m q ∧ x = ((bend_ n m (lett m (pad (flat ss))) q : Nat) : Int) ∧ ok = true) ∨ (NoPort ss p ∧ x = 0 ∧ ok = false)
theorem PortIn.uniq {ss : List ByteArray} {p : Int} {n m q n' m' q' : Nat} (h : PortIn ss p n m q) (h' : PortIn ss p n' m' q') : n = n' ∧ m = m' ∧ q = q' := by
  obtain ⟨h1, h2⟩ := h.1.uniq h'.1
  exact ⟨h1, h2, by have := h.2.1; have := h'.2.1; omega⟩
theorem EndOut.uniq {ss : List ByteArray} {p x x' : Int} {ok ok' : Bool} (h : EndOut ss p x ok) (h' : EndOut ss p x' ok') : x' = x ∧ ok' = ok := by
  rcases h with ⟨n, m, q, h1, rfl, rfl⟩ | ⟨h1, rfl, rfl⟩ <;> rcases h' with ⟨n', m', q', h1', rfl, rfl⟩ | ⟨h1', rfl, rfl⟩
  · obtain ⟨rfl, rfl, rfl⟩ := h1.uniq h1'
    exact ⟨rfl, rfl⟩
  · exact absurd h1 (h1' _ _ _)
  · exact absurd h1' (h1 _ _ _)
  · exact ⟨rfl, rfl⟩

end Go.Proofs.YtongjijkdjagdaaDoor

/- l2Given and BeamEnd of the specification, by their contracts. -/
namespace Go.Proofs.YtongjijkdjagdaaDoor
open Go.RowKit Go.Shelf

/-- What l2Given comes to. -/
def GivenEnd (ss : List ByteArray) (p : Int) (w : World) (e : Ending) (w' : World) : Prop :=
  ∃ ok : Bool, e = .returned (.bool ok) ∧ ((ok = true ∧ ∃ n m q, PortIn ss p n m q) ∨ (ok = false ∧ NoPort ss p)) ∧ ∃ d, w' = w.drewN d

end Go.Proofs.YtongjijkdjagdaaDoor

/- The operations on the map of ways, at the operation: clear, store, len, look-up; a struct that is the head of a greater one, loaded. -/
namespace Go.Proofs.YtongjijkdjagdaaDoor
open Go.RowKit Go.Shelf Go.Maps Go.ChangeMaps

theorem grown_refl (w : World) (r : Option Nat) : w.grownBy w r := ⟨rfl, rfl, rfl, Nat.le_refl _, fun _ _ _ => rfl⟩
theorem grown_trans {a b c : World} {r : Option Nat} (h : a.grownBy b r) (k : b.grownBy c r) : a.grownBy c r :=
  ⟨k.os.trans h.os, k.tape.trans h.tape, k.output.trans h.output, Nat.le_trans h.size k.size, fun i hi hr => (k.block i (Nat.lt_of_lt_of_le hi h.size) hr).trans (h.block i hi hr)⟩
theorem grown_below {a b : World} (r : Option Nat) (h : Below a.heap.size a b) : a.grownBy b r := ⟨h.os, h.tape, h.output, h.size, fun k hk _ => h.block k hk⟩
theorem below_grown {a b : World} {B r : Nat} (h : a.grownBy b (some r)) (hB : B ≤ a.heap.size) (hr : B ≤ r) : Below B a b := ⟨h.os, h.tape, h.output, h.size, fun k hk => h.block k (by omega) (by intro e; cases e; omega)⟩
theorem own_grown {β : Type} (w : World) (r : Option Nat) (B : Nat) (hB : w.heap.size ≤ B) : OwnFrom B (fun (_ : β) W => w.grownBy W r) := fun _ W W' row hs hg hr =>
  ⟨hg.os.trans hs.os, hg.tape.trans hs.tape, hg.output.trans hs.output, Nat.le_trans hs.size hg.size, fun k hk hne => by
    refine (hg.block k (Nat.lt_of_lt_of_le hk hs.size) (fun e => ?_)).trans (hs.block k hk hne)
    have := (hr k e.symm).1
    omega⟩
theorem own_map {β : Type} (b B : Nat) (f : β → List Wy) (hb : b < B) : OwnFrom B (fun s W => MapOf W b (f s)) := fun s W W' row hs hg hr => by
  refine hs.kept (hg.block b hs.lt (fun e => ?_))
  have := (hr b e.symm).1
  omega
theorem keeps_map {W W' : World} {b B : Nat} (hb : b < B) (h : W.grownBy W' (some b)) : KeepsFrom B W W' :=
  ⟨h.size, fun k o hB hk _ => (h.block k (lt_of_block hk) (by intro e; cases e; omega)).trans hk⟩
theorem keepsW_map {W W' : World} {g n0 b : Nat} {xs : List Wy} (hm : MapOf W b xs) (hgb : g ≠ b) (hg : g < W.heap.size) (h : W.grownBy W' (some b)) : KeepsW g n0 W W' := by
  obtain ⟨es, clock, hb⟩ := hm.isMap
  refine ⟨h.size, h.block g hg (by intro e; cases e; exact hgb rfl), fun k cs _ hk => ?_⟩
  refine (h.block k (lt_of_block hk) (fun e => ?_)).trans hk
  cases e
  rw [hb] at hk
  cases hk

section
variable {F : Fence} {n : Nat} {ops : Array Oper} {rest : List Oper} {o : Oper} {a : Act} {w : World} {Q : Exit → Act → World → Prop} {b : Nat} {xs : List Wy}

theorem wpListIn_clear_way (hg : o.guard = none) (m : Operand) (hop : o.op = Op.call { callee := Callee.builtin Builtin.clear, args := #[m], argTypes := #[163] })
    (hm : a.eval m = .map (some b)) (hown : MapOf w b xs) (hK : ∀ w', MapOf w' b [] → w.grownBy w' (some b) → wpListIn F n Tryd.prog ops Q rest (a.put o.dst (.tuple #[])) w') :
    wpListIn F n Tryd.prog ops Q (o :: rest) a w := by
  refine wpListIn_plain hg fun K' hK' => ?_
  obtain ⟨es, clock, hb⟩ := hown.isMap
  have hrun : (Builtin.clear_ #[163] o.type #[.map (some b)]).run Tryd.prog w = .ok (.tuple #[]) (setBlock w b (.map #[] clock)) := by
    simp [Builtin.clear_, run_underlying Tryd.underlying163, MapKept.run_getObj_map hb, MapKept.run_setObj_map _ hb, Result.andThen, setBlock]
  have r1 : MapOf (setBlock w b (.map #[] clock)) b [] := ⟨#[], clock, heap_setBlock_same hb _, ⟨by simp, MapKept.stamped_empty clock, by simp⟩, Nat.le_refl _, rfl⟩
  have r2 : w.grownBy (setBlock w b (.map #[] clock)) (some b) := ⟨rfl, rfl, rfl, by simp [setBlock], fun i _ hi => heap_setBlock_other hb _ (fun e => hi (by rw [e]))⟩
  unfold Oper.wpIn
  refine ⟨by simp [Oper.about, hop, resolve, Target.leads, Sem.run_pure], ?_⟩
  rw [Oper.semAt_plain F _ _ (by rw [hop]; intro c hc'; cases hc')]
  simp [execOp, hop, resolve, invoke, builtin, hm, hrun, Result.andThen]
  exact hK' _ _ (hK _ r1 r2)

theorem wpListIn_store_way (hg : o.guard = none) (m x v : Operand) (hop : o.op = Op.mapUpdate 163 m x v) (y : Wy) (hy : okW y) (hn : xs.length < maxLen)
    (hm : a.eval m = .map (some b)) (hown : MapOf w b xs) (hx : a.eval x = wayV y) (hv : a.eval v = .bool true)
    (hK : ∀ w', MapOf w' b (xs ++ [y]) → w.grownBy w' (some b) → wpListIn F n Tryd.prog ops Q rest (a.put o.dst undef) w') :
    wpListIn F n Tryd.prog ops Q (o :: rest) a w :=
  wpListIn_mapUpdate_own w hg m x v _ hop _ _ wayKeyed Tryd.underlying163 mapR b xs.length _ hm hown hn _ _ _ hx hv (wkl_eq hy) tt [] (mapR_mk true) (fun w' h1 h2 => hK w' (by
    unfold MapOf
    rw [snoc_ways, List.length_append]
    exact h1) h2)

theorem wpListIn_len_way (hg : o.guard = none) (m : Operand) (hop : o.op = Op.call { callee := Callee.builtin Builtin.len, args := #[m], argTypes := #[163] })
    (hm : a.eval m = .map (some b)) (hown : MapOf w b xs) (hx : ∀ x ∈ xs, okW x) (hd : xs.Nodup)
    (hK : wpListIn F n Tryd.prog ops Q rest (a.put o.dst (.int .i64 ((xs.length : Nat) : Int))) w) : wpListIn F n Tryd.prog ops Q (o :: rest) a w := by
  refine wpListIn_len_own w hg m _ hop _ _ Tryd.underlying163 mapR b xs.length _ hm hown ?_
  rw [size_ways _ xs rfl hx hd]
  exact hK

theorem wpListIn_look_way (hg : o.guard = none) (m x : Operand) (hop : o.op = Op.lookup 163 m x false) (y : Wy) (hy : okW y)
    (hm : a.eval m = .map (some b)) (hown : MapOf w b xs) (hxs : ∀ x ∈ xs, okW x) (hx : a.eval x = wayV y)
    (hK : wpListIn F n Tryd.prog ops Q rest (a.put o.dst (.bool (decide (y ∈ xs)))) w) : wpListIn F n Tryd.prog ops Q (o :: rest) a w := by
  refine wpListIn_plain hg fun K' hK' => ?_
  have hz : (zeroValue 4).run Tryd.prog w = .ok (.bool false) w := by kernel_rfl
  obtain ⟨v, ps, hrun, hv⟩ := World.ownsMap.lookup hown wayKeyed Tryd.underlying163 hz (mapR_mk false) (wkl_eq hy)
  have hat := at_ways hxs hy
  unfold ff at hat
  rw [hat] at hv
  obtain rfl := mapR_inv hv
  unfold Oper.wpIn
  refine ⟨by simp [Oper.about, hop], ?_⟩
  rw [Oper.semAt_plain F _ _ (by rw [hop]; intro c hc'; cases hc')]
  simp [execOp, hop, hm, hx, hrun, Result.andThen]
  exact hK' _ _ hK
end

section
variable {P : Program} {F : Fence} {m : Nat} {ops : Array Oper} {rest : List Oper} {o : Oper} {a : Act} {w : World} {Q : Exit → Act → World → Prop}
theorem wpListIn_load_head (hO : Open F P) (hgd : o.guard = none) (ty : TypeId) (x : Operand) (ho : o.op = .load ty x)
    (g : Nat) (hx : a.eval x = .pointer (some ⟨g, 0, none⟩)) (t : TypeId) (all : Array Value) (fr : Nat × Nat) (cs : Array Value) (d : TypeDesc) (hg : w.heap[g]? = some (.cells all t fr)) (hpre : ∀ (j : Nat) (v : Value), cs[j]? = some v → all[j]? = some v)
    (hu : P.underlying ty = some d) (hd : d.isRow = true) (hi : (P.info? ty).map (·.size) = some cs.size)
    (h : wpListIn F m P ops Q rest (a.put o.dst (.agg cs)) w) : wpListIn F m P ops Q (o :: rest) a w := by
  unfold wpListIn
  have hw : Region.wanted o (yielded ops a.tmps) = true := by simp [Region.wanted, hgd]
  rw [if_pos hw]
  refine ⟨fun f _ => hO.fn f, ?_⟩
  rw [Oper.semAt_eq _ _ _ (fun c e => by rw [ho] at e; cases e)]
  unfold execOp
  have hr : w.rangeAt g 0 cs.toList := fun j v hv => by
    rw [cell_of_row _ _ _ _ _ _ hg, Nat.zero_add]
    exact hpre j v (by simpa using hv)
  have := run_loadVar_mid (P := P) w g 0 ty cs.toList d hr hu hd (by simpa using hi)
  simp only [ho, hx, Instr.loadAt, Instr.sureAddr, Sem.run_bind, Sem.run_pure, Result.andThen_ok, this]
  rw [Oper.uponIn_value]
  simpa using h
end

/-- The cells of a trace: the grid's, and the map. -/
def tcells (cs : Array Value) (b : Nat) : Array Value := cs.push (.map (some b))
theorem tcells_pre (cs : Array Value) (b : Nat) (j : Nat) (v : Value) (h : cs[j]? = some v) : (tcells cs b)[j]? = some v := by
  unfold tcells
  rw [Array.getElem?_push, if_neg (by have := (Array.getElem?_eq_some_iff.1 h).1; omega)]
  exact h
theorem tcells_map {cs : Array Value} (h : cs.size = 27) (b : Nat) : (tcells cs b)[27]? = some (.map (some b)) := by
  unfold tcells
  rw [Array.getElem?_push, if_pos h.symm]
theorem tcells_size {cs : Array Value} (h : cs.size = 27) (b : Nat) : (tcells cs b).size = 28 := by simp [tcells, h]
theorem Tryd.size_trace : (Tryd.prog.info? 165).map (·.size) = some 28 := by kernel_rfl
end Go.Proofs.YtongjijkdjagdaaDoor

/- A trace: made, asked, its length. -/
namespace Go.Proofs.YtongjijkdjagdaaDoor
open Go.RowKit Go.Shelf Go.Maps
attribute [local go_sem] Oper.semAt_some

theorem grown_belowB {a b c : World} {r : Option Nat} (h : a.grownBy b r) (k : Below a.heap.size b c) : a.grownBy c r :=
  ⟨k.os.trans h.os, k.tape.trans h.tape, k.output.trans h.output, Nat.le_trans h.size k.size, fun i hi hr => (k.block i hi).trans (h.block i hi hr)⟩
theorem lits27 {cs : Array Value} (h : cs.size = 27) : ∃ c0 c1 c2 c3 c4 c5 c6 c7 c8 c9 c10 c11 c12 c13 c14 c15 c16 c17 c18 c19 c20 c21 c22 c23 c24 c25 c26 : Value, cs = #[c0, c1, c2, c3, c4, c5, c6, c7, c8, c9, c10, c11, c12, c13, c14, c15, c16, c17, c18, c19, c20, c21, c22, c23, c24, c25, c26] := by
  refine ⟨cs[0], cs[1], cs[2], cs[3], cs[4], cs[5], cs[6], cs[7], cs[8], cs[9], cs[10], cs[11], cs[12], cs[13], cs[14], cs[15], cs[16], cs[17], cs[18], cs[19], cs[20], cs[21], cs[22], cs[23], cs[24], cs[25], cs[26], ?_⟩
  refine Array.ext (by simp [h]) (fun i h1 h2 => ?_)
  rw [h] at h1
  have : i = 0 ∨ i = 1 ∨ i = 2 ∨ i = 3 ∨ i = 4 ∨ i = 5 ∨ i = 6 ∨ i = 7 ∨ i = 8 ∨ i = 9 ∨ i = 10 ∨ i = 11 ∨ i = 12 ∨ i = 13 ∨ i = 14 ∨ i = 15 ∨ i = 16 ∨ i = 17 ∨ i = 18 ∨ i = 19 ∨ i = 20 ∨ i = 21 ∨ i = 22 ∨ i = 23 ∨ i = 24 ∨ i = 25 ∨ i = 26 := by omega
  rcases this with rfl | rfl | rfl | rfl | rfl | rfl | rfl | rfl | rfl | rfl | rfl | rfl | rfl | rfl | rfl | rfl | rfl | rfl | rfl | rfl | rfl | rfl | rfl | rfl | rfl | rfl | rfl <;> rfl
abbrev zeroT : Array Value := #[.int .i64 0, .int .i64 0, .int .u8 0, .int .u8 0, .int .u8 0, .int .u8 0, .int .u8 0, .int .u8 0, .int .u8 0, .int .u8 0, .int .u8 0, .int .u8 0, .int .u8 0, .int .u8 0, .int .u8 0, .int .u8 0, .int .u8 0, .int .u8 0, .int .u8 0, .int .u8 0, .int .u8 0, .int .u8 0, .int .u8 0, .int .u8 0, .int .u8 0, .int .u8 0, .int .u8 0, .map none]
theorem run_build_trace {cs : Array Value} (h : cs.size = 27) (b : Nat) (w : World) : (Instr.build 165 #[(0, .agg cs), (1, .map (some b))]).run Tryd.prog w = .ok (.agg (tcells cs b)) w := by
  obtain ⟨c0, c1, c2, c3, c4, c5, c6, c7, c8, c9, c10, c11, c12, c13, c14, c15, c16, c17, c18, c19, c20, c21, c22, c23, c24, c25, c26, rfl⟩ := lits27 h
  kernel_rfl

theorem wpListIn_build_trace {F : Fence} {n : Nat} {ops : Array Oper} {rest : List Oper} {o : Oper} {a : Act} {w : World} {Q : Exit → Act → World → Prop} (hO : Open F Tryd.prog) (hg : o.guard = none) (x m : Operand) (ho : o.op = Op.build 165 #[(0, x), (1, m)])
    (cs : Array Value) (hc : cs.size = 27) (b : Nat) (hx : a.eval x = .agg cs) (hm : a.eval m = .map (some b)) (hK : wpListIn F n Tryd.prog ops Q rest (a.put o.dst (.agg (tcells cs b))) w) : wpListIn F n Tryd.prog ops Q (o :: rest) a w := by
  have hrun := run_build_trace hc b w
  unfold wpListIn
  have hw : Region.wanted o (yielded ops a.tmps) = true := by simp [Region.wanted, hg]
  rw [if_pos hw]
  refine ⟨fun f _ => hO.fn f, ?_⟩
  rw [Oper.semAt_eq _ _ _ (fun c e => by rw [ho] at e; cases e)]
  have he : (execOp a.eval o).run Tryd.prog w = .ok (.value (.agg (tcells cs b))) w := by
    unfold execOp
    simp only [ho]
    have : (#[(0, x), (1, m)] : Array (Nat × Operand)).map (fun p => (p.1, a.eval p.2)) = #[(0, .agg cs), (1, .map (some b))] := by simp [hx, hm]
    rw [this]
    simp only [Sem.run_bind, hrun, Result.andThen_ok, Sem.run_pure]
  rw [he, Oper.uponIn_value]
  exact hK

theorem tcells_one {cs : Array Value} (h : cs.all (·.oneCell') = true) (b : Nat) : (tcells cs b).all (·.oneCell') = true := by
  unfold tcells
  rw [Array.all_push, h]
  rfl

set_option maxRecDepth 100000 in
set_option maxHeartbeats 2000000 in
theorem newTrace_any (cs : Array Value) (hc : cs.size = 27) (h1 : cs.all (·.oneCell') = true) (w : World) :
    Calls Tryd.prog 101 #[.agg cs] w fun e w' => e = .returned (.agg (tcells cs (w.heap.size + 2))) ∧ MapOf w' (w.heap.size + 2) [] ∧ Below w.heap.size w w' := by
  have hmm := @run_makeMap Tryd.prog
  have HS := hid (show (Tryd.prog.info? 39).map (·.size) = some cs.size by rw [hc]; exact Tryd.size_grid)
  have HC := hid hc
  have H1 := hid h1
  have HN := hid (show ∀ c o, (((w.alloc c).alloc (.cells zeroT 165)).alloc o).heap[w.heap.size + 1]? = some (.cells zeroT 165 (0, 0)) from fun c o => by
    have := heap_new1 (w.alloc c) (.cells zeroT 165) o
    simpa using this)
  have HL := hid (fun o => heap_new1 w (.cells cs 39) o)
  clear hc h1
  refine (callsIn_wide (n := 3)).1 ?_
  refine callsIn_of_wp Tryd.func101 rfl trivial ?_ rfl
  simp only [Tryd.ntmps101, List.size_toArray, List.length_cons, List.length_nil, Nat.reduceAdd, Nat.reduceSub, Array.replicate_succ, Array.replicate_zero, List.push_toArray, List.append_toArray, List.nil_append, List.cons_append]
  gi_wp2_with (first
      | (refine wpListIn_load_row (Open.wide _) rfl 39 _ rfl w.heap.size rfl 39 cs (0, 0) _ (HL.out _) Tryd.underlying39 rfl HS.out ?_)
      | (refine wpListIn_build_trace (Open.wide _) rfl _ _ rfl cs HC.out (w.heap.size + 1 + 1) rfl rfl ?_)
      | (refine wpListIn_store_row (Open.wide _) rfl 165 _ _ rfl (w.heap.size + 1) (tcells cs (w.heap.size + 1 + 1)) rfl rfl 165 zeroT (HN.out _ _) (by rw [tcells_size HC.out]; exact Tryd.size_trace) (by rw [tcells_size HC.out]; rfl) (tcells_one H1.out _) ?_))
  refine bodyPost_ret (results_cell_row Tryd.results101 _ _ (w.heap.size + 1) 165 (tcells cs (w.heap.size + 1 + 1)) (0, 0) _ (by rfl) (setRow_heap _ _ _ _ _ _ (HN.out _ _)) Tryd.underlying165 rfl (by rw [tcells_size HC.out]; exact Tryd.size_trace)) rfl ?_
  refine ⟨rfl, ?_, ?_⟩
  · have h0 := MapOf.made ((w.alloc (.cells cs 39)).alloc (.cells zeroT 165))
    rw [World.size_alloc, World.size_alloc] at h0
    exact h0.kept (setRow_other _ _ _ _ (by omega))
  · exact below_setRow' ((((Below.refl _ w).alloc (Nat.le_refl _) _).alloc (by simp) _).alloc (by simp; omega) _) (by omega) _

set_option maxRecDepth 100000 in
set_option maxHeartbeats 2000000 in
theorem length_any (cs : Array Value) (hc : cs.size = 27) (b : Nat) (xs : List Wy) (w : World) (hm : MapOf w b xs) (hx : ∀ x ∈ xs, okW x) (hd : xs.Nodup) :
    Calls Tryd.prog 105 #[.agg (tcells cs b)] w fun e w' => e = .returned (.int .i64 ((xs.length : Nat) : Int)) ∧ Below w.heap.size w w' := by
  have HM := hid (hm.alloc (.cells (tcells cs b) 165))
  have HX := hid hx
  have HD := hid hd
  have hcell : (w.alloc (.cells (tcells cs b) 165)).cell? ⟨w.heap.size, 27, none⟩ = some (.map (some b)) := by
    rw [cell_of_row _ _ _ _ _ _ (heap_new0 w _)]; exact tcells_map hc b
  have HC := hid hcell
  clear hm hx hd hc hcell
  generalize tcells cs b = ts at *
  refine (callsIn_wide (n := 3)).1 ?_
  refine callsIn_of_wp Tryd.func105 rfl trivial ?_ rfl
  simp only [Tryd.ntmps105, List.size_toArray, List.length_cons, List.length_nil, Nat.reduceAdd, Nat.reduceSub, Array.replicate_succ, Array.replicate_zero, List.push_toArray, List.append_toArray, List.nil_append, List.cons_append]
  have hcell := HC.out
  gi_wp2_with (refine wpListIn_len_way rfl _ rfl rfl HM.out HX.out HD.out ?_)
  refine bodyPost_ret (results_tmp rfl _ _ _) rfl ?_
  exact ⟨rfl, (Below.refl _ w).alloc (Nat.le_refl _) _⟩

set_option maxRecDepth 100000 in
set_option maxHeartbeats 2000000 in
theorem ask_any (n m q L b : Nat) (ls : List UInt8) (xs : List Wy) (w : World) (hL : L = blen n m (lett m ls) q) (hl : ls.length = 25) (hn : n ≤ 5) (hm5 : m ≤ 5) (hq : q < 2 * (n + m)) (hm : MapOf w b xs) :
    Calls Tryd.prog 104 #[.agg (tcells (gcells n m ls) b), .int .i64 q] w fun e w' => (∃ v, e = .returned v) ∧ MapOf w' b ((List.finRange L).map fun x => bway n m (lett m ls) q x.val) ∧ w.grownBy w' (some b) := by
  have HM := hid (hm.alloc (.cells (tcells (gcells n m ls) b) 165))
  have HB := hid (hm.lt)
  have HG := hid (show (Tryd.prog.info? 39).map (·.size) = some (gcells n m ls).size by rw [gcells_size hl]; exact Tryd.size_grid)
  have HP := hid (tcells_pre (gcells n m ls) b)
  have HC := hid (show (w.alloc (.cells (tcells (gcells n m ls) b) 165)).cell? ⟨w.heap.size, 27, none⟩ = some (.map (some b)) by
    rw [cell_of_row _ _ _ _ _ _ (heap_new0 w _)]; exact tcells_map (gcells_size hl) b)
  have HWS := hid (fun (Bg Bp : Nat) (w' : World) h1 h2 => ways_stops 2 Bg Bp n m q L ls hL hl hn hm5 hq w' h1 h2)
  have HOK := hid (show ∀ j, j < L → okW (bway n m (lett m ls) q j) from fun j hj => by
    have hin := blen_in (n := n) (m := m) (t := lett m ls) (p := q) (j := j) (by rw [← hL]; exact hj)
    have hd := bway_d (n := n) (m := m) (t := lett m ls) q j
    unfold inG at hin
    unfold okW
    omega)
  have HL100 := hid (show L ≤ 100 by
    have h1 := blen_lt (t := lett m ls) hq
    have h2 : n * m ≤ 25 := Nat.mul_le_mul hn hm5
    omega)
  clear hm hL hl hn hm5 hq
  generalize bway n m (lett m ls) q = bw at *
  generalize gcells n m ls = cs at *
  generalize hts : tcells cs b = ts at *
  clear hts
  refine (callsIn_wide (n := 3)).1 ?_
  refine callsIn_of_wp_marks Tryd.func104 rfl trivial ?_ rfl
  simp only [Tryd.ntmps104, List.size_toArray, List.length_cons, List.length_nil, Nat.reduceAdd, Nat.reduceSub, Array.replicate_succ, Array.replicate_zero, List.push_toArray, List.append_toArray, List.nil_append, List.cons_append]
  have hcell := HC.out
  gi_wp2_with (refine wpListIn_clear_way rfl _ rfl rfl HM.out ?_)
  intro w1 hm1 hg1
  have HM1 := hid hm1
  have HT1 := hid (show w1.heap[w.heap.size]? = some (.cells ts 165 (0, 0)) from (hg1.block _ (by simp) (by have := HB.out; intro e; cases e; omega)).trans (heap_new0 w _))
  have HG1 := hid (show w.grownBy w1 (some b) from grown_trans (World.grownBy_alloc w _ _) hg1)
  have HS1 := hid (show w.heap.size < w1.heap.size from lt_of_block HT1.out)
  clear hm1 hg1 hcell
  gi_wp2_with (refine wpListIn_load_head (Open.wide _) rfl 39 _ rfl w.heap.size rfl 165 ts (0, 0) cs _ HT1.out HP.out Tryd.underlying39 rfl HG.out ?_)
  refine ⟨trivial, callsIn_wide.2 ((ways_any cs q _).mono ?_)⟩
  rintro e w2 ⟨rfl, hw2⟩
  have KX := hid (show w2.heap[w1.heap.size]? = some (.cells cs 39 (0, 0)) by rw [hw2]; exact heap_new1 w1 _ _)
  have KP := hid (show Boxed w2 (w1.heap.size + 1) 3 (.int .i64 q) by
    unfold Boxed
    rw [hw2]; simpa using heap_new0 (w1.alloc (.cells cs 39)) (.cells #[.int .i64 q] 3))
  have KS := hid (show w2.heap.size = w1.heap.size + 2 by rw [hw2]; simp)
  have KB := hid (show Below w1.heap.size w1 w2 by rw [hw2]; exact ((Below.refl _ w1).alloc (Nat.le_refl _) _).alloc (by simp) _)
  have KT := hid (show w2.heap[w.heap.size]? = some (.cells ts 165 (0, 0)) from (KB.out.block _ HS1.out).trans HT1.out)
  have KM := hid (show MapOf w2 b ([] : List Wy) from HM1.out.kept (KB.out.block _ HM1.out.lt))
  have KG := hid (show w.grownBy w2 (some b) from grown_trans HG1.out (grown_below _ KB.out))
  clear hw2
  gi_wp2
  refine wpIn_rangeFunc_ownH rfl (by omega) (gf := 139) (lb := #[.pointer (some ⟨w1.heap.size, 0, none⟩), .pointer (some ⟨w1.heap.size + 1, 0, none⟩)]) rfl trivial (enters_of Tryd.func139 (by kernel_rfl) rfl)
      (HWS.out w1.heap.size (w1.heap.size + 1) w2 KX.out KP.out) KeepsW.trans (keepsW_b (lt_of_block KX.out)) (Below.refl _ _) (fun _ => rfl)
      (fun pre W => (W.heap[w.heap.size]? = some (.cells ts 165 (0, 0)) ∧ MapOf W b (pre.map fun x => bw x.val)) ∧ w2.grownBy W (some b))
      (fun _ _ _ => False)
      (OwnFrom.and (OwnFrom.and (ownFrom_heap _ _ (fun _ => _) (fun _ => rfl)) (own_map b _ (fun pre : List (Fin L) => pre.map fun x => bw x.val) KM.out.lt)) (own_grown w2 (some b) _ (Nat.le_refl _)))
      (fun _ _ _ _ _ hs _ _ => hs)
      ⟨⟨KT.out, KM.out⟩, grown_refl _ _⟩
      (fun x a' W => ∃ Bx, w2.heap.size ≤ Bx ∧ W.heap[Bx]? = some (.cells (wayC (bw x.val)) 105 (0, 0)) ∧ ∃ u0 u1 u3 u5 u6 u7 u8 u9 u10 u11 u12 u13 u14 : Value,
        a' = { tmps := #[u0, u1, .pointer (some ⟨w.heap.size, 0, none⟩), u3, .pointer (some ⟨Bx, 0, none⟩), u5, u6, u7, u8, u9, u10, u11, u12, u13, u14], defers := [] })
      (fun x a' _ X Y row hs hg hr => by
        obtain ⟨Bx, h1, h2, h3⟩ := hs
        exact ⟨Bx, h1, ownFrom_heap _ Bx (fun (_ : Unit) => Obj.cells (wayC (bw x.val)) 105 (0, 0)) (fun _ => rfl) () X Y row h2 hg hr, h3⟩)
      ?assign ?body ?done ?stop
  case assign =>
    rintro l pre x W K ⟨⟨i0, i1⟩, i2⟩ hK
    have J0 := hid i0
    have J1 := hid i1
    have J2 := hid i2
    have JK := hid hK
    clear i0 i1 i2 hK
    obtain ⟨y, hy⟩ : ∃ y, bw x.val = y := ⟨_, rfl⟩
    unfold encW
    rw [hy] at JK ⊢
    clear hy
    obtain ⟨iv, kv, dv⟩ := y
    simp only [wayV, wayC] at JK ⊢
    gi_wp2
    have hsz : w2.heap.size ≤ W.heap.size := J2.out.size
    exact JK.out _ _ ((KeepsOthers.alloc _ _).from _) (KeepsW.below ((Below.refl _ W).alloc (Nat.le_refl _) _) (by have := KS.out; omega))
      ⟨⟨(Below.heap_alloc _ _ _ (lt_of_block J0.out)).trans J0.out, J1.out.alloc _⟩, grown_trans J2.out (World.grownBy_alloc W _ _)⟩
      ⟨W.heap.size, hsz, heap_new0 W _, _, _, _, _, _, _, _, _, _, _, _, _, _, rfl⟩
  case body =>
    rintro l pre x a' W hlw ⟨r, hr⟩ ⟨⟨i0, i1⟩, i2⟩ ⟨Bx, hBx, hX, u0, u1, u3, u5, u6, u7, u8, u9, u10, u11, u12, u13, u14, rfl⟩ hlt
    have hok := HOK.out x.val x.isLt
    have hsn : (pre ++ [x]).map (fun x => bw x.val) = pre.map (fun x => bw x.val) ++ [bw x.val] := by simp
    have hln : (pre.map (fun x => bw x.val)).length < maxLen := by
      have h9 : 1000 ≤ maxLen := by decide
      have := HL100.out
      rw [List.length_map]; omega
    obtain ⟨y, hy⟩ : ∃ y, bw x.val = y := ⟨_, rfl⟩
    rw [hy] at hX hok hsn
    clear hy
    obtain ⟨iv, kv, dv⟩ := y
    have c0 : W.cell? ⟨Bx, 0, none⟩ = some (.int .i64 iv) := by rw [cell_of_row _ _ _ _ _ _ hX]; rfl
    have c1 : W.cell? ⟨Bx, 1, none⟩ = some (.int .i64 kv) := by rw [cell_of_row _ _ _ _ _ _ hX]; rfl
    have c2 : W.cell? ⟨Bx, 2, none⟩ = some (.int .i64 ((dv : Nat) : Int)) := by rw [cell_of_row _ _ _ _ _ _ hX]; rfl
    have c3 : W.cell? ⟨w.heap.size, 27, none⟩ = some (.map (some b)) := by
      rw [cell_of_row _ _ _ _ _ _ i0, ← cell_of_row _ _ _ _ _ _ (heap_new0 w (.cells ts 165))]; exact HC.out
    have I0 := hid i0
    have I1 := hid i1
    have I2 := hid i2
    have HOKx := hid hok
    have HLN := hid hln
    have HSN := hid hsn
    clear i0 i1 i2 hok hln hsn hX hr hlw hlt
    gi_wp2_with (refine wpListIn_store_way rfl _ _ _ rfl ⟨iv, kv, dv⟩ HOKx.out HLN.out rfl I1.out rfl rfl ?_)
    intro W1 hmW hgW
    have HMW := hid hmW
    have HGW := hid hgW
    clear hmW hgW c0 c1 c2 c3
    gi_wp2
    refine ⟨keeps_map KM.out.lt HGW.out, keepsW_map I1.out (by have := HM1.out.lt; omega) (by have := I2.out.size; have := KS.out; omega) HGW.out, ⟨?_, ?_⟩, grown_trans I2.out HGW.out⟩
    · exact (HGW.out.block _ (lt_of_block I0.out) (by have := HB.out; intro e; cases e; omega)).trans I0.out
    · rw [HSN.out]; exact HMW.out
  case done =>
    rintro D xs' W hD rfl ⟨⟨i0, i1⟩, i2⟩ hK
    have J1 := hid i1
    have J2 := hid i2
    have JK := hid hK
    clear i0 i1 i2 hK
    gi_wp2
    refine ⟨by simp, .inl ⟨_, _, rfl, run_takeDeferred JK.out, ?_⟩⟩
    refine ⟨_, results_none rfl _ _ _, ⟨_, rfl⟩, ?_, ?_⟩
    · exact J1.out.kept (World.putObj_heap_other (by have := KM.out.lt; omega))
    · exact grown_trans KG.out (grown_belowB J2.out (belowK_b (w := w2) (Nat.le_refl _) _ D _ _ hD JK.out rfl rfl))
  case stop =>
    rintro D c pre W _ _ h _
    exact h.elim
end Go.Proofs.YtongjijkdjagdaaDoor

/- Outcomes of questions on a port. -/
namespace Go.Proofs.YtongjijkdjagdaaDoor
open Go.RowKit Go.Shelf

/-- What a question on a port comes to, where the answer is an integer and a bool. -/
def BeamOut (R : Nat → Nat → (Int → Int → UInt8) → Nat → Int × Bool) (ss : List ByteArray) (p x : Int) (ok : Bool) : Prop :=
  (∃ n m q, PortIn ss p n m q ∧ (x, ok) = R n m (lett m (pad (flat ss))) q) ∨ (NoPort ss p ∧ x = 0 ∧ ok = false)
theorem BeamOut.uniq {R : Nat → Nat → (Int → Int → UInt8) → Nat → Int × Bool} {ss : List ByteArray} {p x x' : Int} {ok ok' : Bool} (h : BeamOut R ss p x ok) (h' : BeamOut R ss p x' ok') : x' = x ∧ ok' = ok := by
  rcases h with ⟨n, m, q, h1, h2⟩ | ⟨h1, rfl, rfl⟩ <;> rcases h' with ⟨n', m', q', h1', h2'⟩ | ⟨h1', rfl, rfl⟩
  · obtain ⟨rfl, rfl, rfl⟩ := h1.uniq h1'
    have := h2'.trans h2.symm
    cases this
    exact ⟨rfl, rfl⟩
  · exact absurd h1 (h1' _ _ _)
  · exact absurd h1' (h1 _ _ _)
  · exact ⟨rfl, rfl⟩
/-- Is there a mirror on the way's cell? -/
def mirrorAt (t : Int → Int → UInt8) (bw : Nat → Wy) (j : Nat) : Bool := t (bw j).i (bw j).k != 46
def turnsR (n m : Nat) (t : Int → Int → UInt8) (q : Nat) : Int × Bool := ((((List.range (blen n m t q)).countP (mirrorAt t (bway n m t q)) : Nat) : Int), true)
def firstR (n m : Nat) (t : Int → Int → UInt8) (q : Nat) : Int × Bool :=
  match (List.range (blen n m t q)).find? (mirrorAt t (bway n m t q)) with
  | some j => (((cellN m (bway n m t q j) : Nat) : Int), true)
  | none => (0, false)

end Go.Proofs.YtongjijkdjagdaaDoor

/- BeamTurns and BeamFirst of the specification, by their contracts. -/
namespace Go.Proofs.YtongjijkdjagdaaDoor
open Go.RowKit Go.Shelf

/-- The first k ways with a mirror. -/
def turnsTo (t : Int → Int → UInt8) (bw : Nat → Wy) (k : Nat) : Nat := (List.range k).countP (mirrorAt t bw)
theorem turnsTo_succ (t : Int → Int → UInt8) (bw : Nat → Wy) (k : Nat) : turnsTo t bw (k + 1) = turnsTo t bw k + (if mirrorAt t bw k = true then 1 else 0) := by
  unfold turnsTo
  rw [List.range_succ, List.countP_append, List.countP_cons, List.countP_nil, Nat.zero_add]
theorem turnsTo_le (t : Int → Int → UInt8) (bw : Nat → Wy) (k : Nat) : turnsTo t bw k ≤ k := by
  have := List.countP_le_length (p := mirrorAt t bw) (l := List.range k)
  rwa [List.length_range] at this
def TurnRel (t : Int → Int → UInt8) (bw : Nat → Wy) (L : Nat) (w : World) (n i : Value) (wr : World) : Prop :=
  ∃ k : Nat, k ≤ L ∧ n = .int .i64 ((turnsTo t bw k : Nat) : Int) ∧ i = .int .i64 k ∧ ∃ d, wr = w.drewN d
def FirstRel (t : Int → Int → UInt8) (bw : Nat → Wy) (L : Nat) (w : World) (i : Value) (wr : World) : Prop :=
  ∃ k : Nat, k ≤ L ∧ i = .int .i64 k ∧ (∀ j, j < k → mirrorAt t bw j = false) ∧ ∃ d, wr = w.drewN d

theorem cellsI_atT {m L k : Nat} {bw : Nat → Wy} (h : k < L) : (cellsI m bw L)[k]? = some ((cellN m (bw k) : Nat) : Int) := by simp [cellsI, h]

end Go.Proofs.YtongjijkdjagdaaDoor

/- BeamLength of the specification and of the program, by their contracts. -/
namespace Go.Proofs.YtongjijkdjagdaaDoor
open Go.RowKit Go.Shelf

def lengthR (n m : Nat) (t : Int → Int → UInt8) (q : Nat) : Int × Bool := (((blen n m t q : Nat) : Int), true)

/-- The ways of a beam, as a list. -/
def waysL (bw : Nat → Wy) (L : Nat) : List Wy := (List.finRange L).map fun x => bw x.val
theorem waysL_length (bw : Nat → Wy) (L : Nat) : (waysL bw L).length = L := by simp [waysL]
theorem waysL_mem {bw : Nat → Wy} {L : Nat} {y : Wy} : y ∈ waysL bw L ↔ ∃ j, j < L ∧ bw j = y := by
  unfold waysL
  rw [List.mem_map]
  constructor
  · rintro ⟨x, _, rfl⟩
    exact ⟨x.val, x.isLt, rfl⟩
  · rintro ⟨j, hj, rfl⟩
    exact ⟨⟨j, hj⟩, List.mem_finRange _, rfl⟩
theorem waysL_nodup {bw : Nat → Wy} {L : Nat} (h : ∀ a b, a < b → b < L → bw a ≠ bw b) : (waysL bw L).Nodup := by
  unfold waysL List.Nodup
  rw [List.pairwise_map]
  rw [List.pairwise_iff_getElem]
  intro i j hi hj hij
  simp only [List.getElem_finRange, Fin.val_cast]
  exact h i j hij (by simpa using hj)
theorem okW_in {n m : Nat} {t : Int → Int → UInt8} {q j : Nat} (hn : n ≤ 5) (hm : m ≤ 5) (hj : j < blen n m t q) : okW (bway n m t q j) := by
  have hin := blen_in (n := n) (m := m) (t := t) (p := q) (j := j) hj
  have hd := bway_d (n := n) (m := m) (t := t) q j
  unfold inG at hin
  unfold okW
  omega
theorem okW_ways {n m : Nat} {t : Int → Int → UInt8} {q : Nat} (hn : n ≤ 5) (hm : m ≤ 5) : ∀ x ∈ waysL (bway n m t q) (blen n m t q), okW x := fun x hx => by
  obtain ⟨j, hj, rfl⟩ := waysL_mem.1 hx
  exact okW_in hn hm hj

attribute [local go_sem] Oper.semAt_some

end Go.Proofs.YtongjijkdjagdaaDoor

/- How often a number stands in a list: l2Often of the specification, by its contract. -/
namespace Go.Proofs.YtongjijkdjagdaaDoor
open Go.RowKit Go.Shelf

def OftenRel (l : List Int) (x : Int) (w : World) (nv iv : Value) (wr : World) : Prop :=
  ∃ k : Nat, k ≤ l.length ∧ nv = .int .i64 (((l.take k).count x : Nat) : Int) ∧ iv = .int .i64 (k : Int) ∧ ∃ d, wr = w.drewN d
theorem count_snoc (l : List Int) (x y : Int) (k : Nat) (h : l[k]? = some y) : (l.take (k + 1)).count x = (l.take k).count x + (if y = x then 1 else 0) := by
  obtain ⟨hlt, rfl⟩ := List.getElem?_eq_some_iff.1 h
  rw [List.take_succ_eq_append_getElem hlt, List.count_append]
  simp [List.count_cons]

end Go.Proofs.YtongjijkdjagdaaDoor

/- How often a trace goes through a place; how often a number stands on a list (the specification's l2Often). -/
namespace Go.Proofs.YtongjijkdjagdaaDoor
open Go.RowKit Go.Shelf Go.Maps

theorem mem_goes {bw : Nat → Wy} {L : Nat} {y : Wy} : decide (y ∈ waysL bw L) = goesTo bw L y := by
  rw [Bool.eq_iff_iff, decide_eq_true_iff, goesTo_iff, waysL_mem]

def TimesRel (g : Nat → Bool) (w : World) (tv hv : Value) (wr : World) : Prop :=
  ∃ j : Nat, j ≤ 4 ∧ tv = .int .i64 ((upT g j : Nat) : Int) ∧ hv = .int .i64 (j : Int) ∧ wr = w

section
attribute [local go_sem] Oper.semAt_some
end

end Go.Proofs.YtongjijkdjagdaaDoor

/- How many cells a beam goes through twice: two ways to count. No program is named but the numbers' list. -/
namespace Go.Proofs.YtongjijkdjagdaaDoor

theorem count_cells (n m : Nat) (t : Int → Int → UInt8) (p c : Nat) : (cellsI m (bway n m t p) (blen n m t p)).count ((c : Nat) : Int) = (bcells n m t p).count c := by
  unfold cellsI bcells
  rw [List.count, List.count, List.countP_map, List.countP_map]
  refine List.countP_congr fun j _ => ?_
  simp only [Function.comp, beq_iff_eq]
  omega
theorem bcells_lt {n m : Nat} {t : Int → Int → UInt8} {p : Nat} : ∀ x ∈ bcells n m t p, x < n * m := fun x hx => by
  unfold bcells at hx
  obtain ⟨j, hj, rfl⟩ := List.mem_map.1 hx
  exact cellN_lt (blen_in (List.mem_range.1 hj))
theorem count_le2 {n m : Nat} {t : Int → Int → UInt8} {p c : Nat} (hp : p < 2 * (n + m)) (hm : 1 ≤ m) : (bcells n m t p).count c ≤ 2 := by
  have h1 := times_count (n := n) (m := m) (t := t) (p := p) (i := c / m) (k := c % m) hp (Nat.mod_lt _ (by omega))
  rw [Nat.div_add_mod'] at h1
  rw [← h1]
  exact times_le _ _
theorem times_at {n m : Nat} {t : Int → Int → UInt8} {p c : Nat} (hp : p < 2 * (n + m)) (hm : 1 ≤ m) : upT (fun d => goesTo (bway n m t p) (blen n m t p) ⟨((c / m : Nat) : Int), ((c % m : Nat) : Int), d⟩) 4 = (bcells n m t p).count c := by
  have h1 := times_count (n := n) (m := m) (t := t) (p := p) (i := c / m) (k := c % m) hp (Nat.mod_lt _ (by omega))
  rw [Nat.div_add_mod'] at h1
  exact h1
theorem sumN_two (f : Nat → Nat) : ∀ N, (∀ c, c < N → f c ≤ 2) → sumN (fun c => f c * (f c - 1)) N = 2 * (List.range N).countP fun c => f c == 2
  | 0, _ => rfl
  | N + 1, h => by
    rw [sumN, sumN_two f N (fun c hc => h c (by omega)), List.range_succ, List.countP_append, List.countP_cons, List.countP_nil]
    have := h N (by omega)
    have h3 : f N = 0 ∨ f N = 1 ∨ f N = 2 := by omega
    rcases h3 with e | e | e <;> simp [e] <;> omega
/-- What the specification adds up. -/
def spare (l : List Nat) (k : Nat) : Nat := ((l.take k).map fun c => l.count c - 1).sum
theorem spare_succ (l : List Nat) (k c : Nat) (h : l[k]? = some c) : spare l (k + 1) = spare l k + (l.count c - 1) := by
  obtain ⟨hlt, rfl⟩ := List.getElem?_eq_some_iff.1 h
  unfold spare
  rw [List.take_succ_eq_append_getElem hlt, List.map_append, List.sum_append]
  simp
theorem spare_le (l : List Nat) (k : Nat) (h : ∀ c, l.count c ≤ 2) : spare l k ≤ k := by
  unfold spare
  have : ∀ xs : List Nat, (xs.map fun c => l.count c - 1).sum ≤ xs.length := fun xs => by
    induction xs with
    | nil => simp
    | cons x xs ih =>
      have := h x
      simp only [List.map_cons, List.sum_cons, List.length_cons]
      omega
  refine Nat.le_trans (this _) ?_
  rw [List.length_take]
  omega
def twiceR (n m : Nat) (t : Int → Int → UInt8) (q : Nat) : Int × Bool := ((((List.range (n * m)).countP fun c => (bcells n m t q).count c == 2 : Nat) : Int), true)
theorem spare_all {n m : Nat} {t : Int → Int → UInt8} {p : Nat} (hp : p < 2 * (n + m)) (hm : 1 ≤ m) : spare (bcells n m t p) (blen n m t p) = 2 * (List.range (n * m)).countP fun c => (bcells n m t p).count c == 2 := by
  unfold spare
  rw [List.take_of_length_le (by rw [bcells_length]; exact Nat.le_refl _), sum_swap _ (n * m) _ bcells_lt]
  exact sumN_two _ _ fun c _ => count_le2 hp hm
end Go.Proofs.YtongjijkdjagdaaDoor

/- Where two beams meet: two ways to count; what BeamMeets comes to. No program is named but the texts of a grid. -/
namespace Go.Proofs.YtongjijkdjagdaaDoor

theorem countP_sum {α : Type} (p : α → Bool) : ∀ l : List α, l.countP p = (l.map fun c => if p c = true then 1 else 0).sum
  | [] => rfl
  | x :: l => by
    rw [List.countP_cons, List.map_cons, List.sum_cons, countP_sum p l]
    omega
theorem sumN_countP (p : Nat → Bool) : ∀ N, sumN (fun c => if p c = true then 1 else 0) N = (List.range N).countP p
  | 0 => rfl
  | N + 1 => by
    rw [sumN, sumN_countP p N, List.range_succ, List.countP_append, List.countP_cons, List.countP_nil]
    omega
/-- Does the beam go through the cell? -/
def goesC (n m : Nat) (t : Int → Int → UInt8) (p c : Nat) : Bool := decide (0 < (bcells n m t p).count c)
def meetN (n m : Nat) (t : Int → Int → UInt8) (p q : Nat) : Nat := (List.range (n * m)).countP fun c => goesC n m t p c && goesC n m t q c
theorem count_other {n m : Nat} {t : Int → Int → UInt8} {p q c : Nat} (hn : 1 ≤ n) (hm : 1 ≤ m) (hp : p < 2 * (n + m)) (hq : q < 2 * (n + m)) (h1 : p ≠ q) (h2 : p ≠ bend_ n m t q) (h0 : 0 < (bcells n m t p).count c) : (bcells n m t q).count c ≤ 1 := by
  have e1 := times_count (n := n) (m := m) (t := t) (p := p) (i := c / m) (k := c % m) hp (Nat.mod_lt _ (by omega))
  have e2 := times_count (n := n) (m := m) (t := t) (p := q) (i := c / m) (k := c % m) hq (Nat.mod_lt _ (by omega))
  rw [Nat.div_add_mod'] at e1 e2
  rw [← e2]
  exact times_other hn hm hp hq h1 h2 _ _ (by rw [e1]; exact h0)
theorem meet_count {n m : Nat} {t : Int → Int → UInt8} {p q : Nat} (hn : 1 ≤ n) (hm : 1 ≤ m) (hp : p < 2 * (n + m)) (hq : q < 2 * (n + m)) (h1 : p ≠ q) (h2 : p ≠ bend_ n m t q) :
    (List.range (blen n m t q)).countP (fun j => goesC n m t p (cellN m (bway n m t q j))) = meetN n m t p q := by
  have e : (List.range (blen n m t q)).countP (fun j => goesC n m t p (cellN m (bway n m t q j))) = (bcells n m t q).countP (goesC n m t p) := by
    unfold bcells
    rw [List.countP_map]
    rfl
  rw [e, countP_sum, sum_swap _ (n * m) _ bcells_lt]
  unfold meetN
  rw [← sumN_countP]
  refine sumN_congr _ fun c _ => ?_
  by_cases hc : 0 < (bcells n m t p).count c
  · have h3 := count_other hn hm hp hq h1 h2 hc
    have hg : goesC n m t p c = true := decide_eq_true hc
    rw [hg]
    by_cases hd : 0 < (bcells n m t q).count c
    · have hg2 : goesC n m t q c = true := decide_eq_true hd
      rw [hg2]
      simp
      omega
    · have hg2 : goesC n m t q c = false := decide_eq_false hd
      rw [hg2]
      simp
      omega
  · have hg : goesC n m t p c = false := decide_eq_false hc
    rw [hg]
    simp

/-- Two ports of a grid that are not the ends of one beam. -/
def MeetIn (ss : List ByteArray) (p q : Int) (n m a b : Nat) : Prop := PortIn ss p n m a ∧ PortIn ss q n m b ∧ a ≠ b ∧ bend_ n m (lett m (pad (flat ss))) a ≠ b
def MeetOut (ss : List ByteArray) (p q x : Int) (ok : Bool) : Prop :=
  (∃ n m a b, MeetIn ss p q n m a b ∧ x = ((meetN n m (lett m (pad (flat ss))) a b : Nat) : Int) ∧ ok = true) ∨ ((∀ n m a b, ¬ MeetIn ss p q n m a b) ∧ x = 0 ∧ ok = false)
theorem MeetOut.uniq {ss : List ByteArray} {p q x x' : Int} {ok ok' : Bool} (h : MeetOut ss p q x ok) (h' : MeetOut ss p q x' ok') : x' = x ∧ ok' = ok := by
  rcases h with ⟨n, m, a, b, h1, rfl, rfl⟩ | ⟨h1, rfl, rfl⟩ <;> rcases h' with ⟨n', m', a', b', h1', rfl, rfl⟩ | ⟨h1', rfl, rfl⟩
  · obtain ⟨rfl, rfl, rfl⟩ := h1.1.uniq h1'.1
    obtain ⟨_, _, rfl⟩ := h1.2.1.uniq h1'.2.1
    exact ⟨rfl, rfl⟩
  · exact absurd h1 (h1' _ _ _ _)
  · exact absurd h1' (h1 _ _ _ _)
  · exact ⟨rfl, rfl⟩
/-- From the parts to the whole. -/
theorem meet_none_p {ss : List ByteArray} {p q : Int} (h : NoPort ss p) : ∀ n m a b, ¬ MeetIn ss p q n m a b := fun n m a _ hm => h n m a hm.1
theorem meet_none_q {ss : List ByteArray} {p q : Int} (h : NoPort ss q) : ∀ n m a b, ¬ MeetIn ss p q n m a b := fun n m _ b hm => h n m b hm.2.1
theorem meet_none_same {ss : List ByteArray} {p q : Int} {n m a b : Nat} (h1 : PortIn ss p n m a) (h2 : PortIn ss q n m b) (h : a = b ∨ bend_ n m (lett m (pad (flat ss))) a = b) : ∀ n m a b, ¬ MeetIn ss p q n m a b := fun n' m' a' b' hm => by
  obtain ⟨rfl, rfl, rfl⟩ := h1.uniq hm.1
  obtain ⟨_, _, rfl⟩ := h2.uniq hm.2.1
  rcases h with h | h
  · exact hm.2.2.1 h
  · exact hm.2.2.2 h
end Go.Proofs.YtongjijkdjagdaaDoor

/- BeamTurns of the program, by its contract. -/
namespace Go.Proofs.YtongjijkdjagdaaDoor
open Go.RowKit Go.Shelf
attribute [local go_sem] Oper.semAt_some

/-- The mirrors among the ways that have come. -/
def mirrW {L : Nat} (t : Int → Int → UInt8) (bw : Nat → Wy) (pre : List (Fin L)) : Nat := pre.countP fun x => mirrorAt t bw x.val
theorem mirrW_snoc {L : Nat} (t : Int → Int → UInt8) (bw : Nat → Wy) (pre : List (Fin L)) (x : Fin L) : mirrW t bw (pre ++ [x]) = mirrW t bw pre + (if mirrorAt t bw x.val = true then 1 else 0) := by
  simp [mirrW, List.countP_append, List.countP_cons]
theorem mirrW_le {L : Nat} (t : Int → Int → UInt8) (bw : Nat → Wy) (pre : List (Fin L)) : mirrW t bw pre ≤ pre.length := List.countP_le_length
theorem mirrW_all (L : Nat) (t : Int → Int → UInt8) (bw : Nat → Wy) : mirrW t bw (List.finRange L) = turnsTo t bw L := by
  unfold mirrW turnsTo
  have e := upto_val (N := L) (k := L) (Nat.le_refl _)
  rw [upto_all] at e
  rw [← e, List.countP_map]
  rfl

end Go.Proofs.YtongjijkdjagdaaDoor

/- What a question on a port comes to, where the answer is a list of integers. -/
namespace Go.Proofs.YtongjijkdjagdaaDoor

/-- What a question on a port comes to, where the answer is a list of integers and a bool. -/
def ListOut (R : Nat → Nat → (Int → Int → UInt8) → Nat → List Int) (ss : List ByteArray) (p : Int) (l : List Int) (ok : Bool) : Prop :=
  (∃ n m q, PortIn ss p n m q ∧ l = R n m (lett m (pad (flat ss))) q ∧ (R n m (lett m (pad (flat ss))) q).length ≤ 1000 ∧ ok = true) ∨ (NoPort ss p ∧ l = [] ∧ ok = false)
theorem ListOut.uniq {R : Nat → Nat → (Int → Int → UInt8) → Nat → List Int} {ss : List ByteArray} {p : Int} {l l' : List Int} {ok ok' : Bool} (h : ListOut R ss p l ok) (h' : ListOut R ss p l' ok') : ok' = ok ∧ l' = l := by
  rcases h with ⟨n, m, q, h1, rfl, _, rfl⟩ | ⟨h1, rfl, rfl⟩ <;> rcases h' with ⟨n', m', q', h1', rfl, _, rfl⟩ | ⟨h1', rfl, rfl⟩
  · obtain ⟨rfl, rfl, rfl⟩ := h1.uniq h1'
    exact ⟨rfl, rfl⟩
  · exact absurd h1 (h1' _ _ _)
  · exact absurd h1' (h1 _ _ _)
  · exact ⟨rfl, rfl⟩
theorem ListOut.len {R : Nat → Nat → (Int → Int → UInt8) → Nat → List Int} {ss : List ByteArray} {p : Int} {l : List Int} {ok : Bool} (h : ListOut R ss p l ok) : l.length ≤ 1048576 := by
  rcases h with ⟨n, m, q, _, rfl, h1, _⟩ | ⟨_, rfl, _⟩
  · omega
  · simp

end Go.Proofs.YtongjijkdjagdaaDoor
