/- Settled texts in one file. Each begins with what it holds. -/
import Derived.Test.YtongjijkdjagdaaBunD
import Derived.Test.YtongjijkdjagdaaBunA
import Derived.Test.YtongjijkdjagdaaHead
import Derived.Test.YtongjijkdjagdaaBunE
import Derived.StillTailTactics
import Derived.Deep.QuietTactic
/- What the laws on functions that hand back a list want: the ends opened, marks on an own list. -/
namespace Go.Proofs.Ytongjijkdjagdaa
open Go.RowKit

/-- The outcome and the list: the same for the program and the specification. -/
def Outcome (G : Nat → Nat → List UInt8 → List ByteArray) (ss : List ByteArray) (ok : Bool) (res : List ByteArray) : Prop :=
  (∃ n m, IsGrid n m ss ∧ ok = true ∧ res = G n m (pad (flat ss))) ∨ (NoGrid ss ∧ ok = false ∧ res = [])
theorem IsGrid.uniq {n m n' m' : Nat} {ss : List ByteArray} (h : IsGrid n m ss) (h' : IsGrid n' m' ss) : n = n' ∧ m = m' := by
  have a := h.nm
  have b := h'.nm
  have e : n = n' := a.1.trans b.1.symm
  have hl : 0 < ss.length := by have := h.1; have := h.2.1; omega
  exact ⟨e, (a.2 _ (List.getElem?_eq_getElem hl)).trans (b.2 _ (List.getElem?_eq_getElem hl)).symm⟩
theorem Outcome.uniq {G : Nat → Nat → List UInt8 → List ByteArray} {ss : List ByteArray} {ok ok' : Bool} {res res' : List ByteArray} (h : Outcome G ss ok res) (h' : Outcome G ss ok' res') : ok' = ok ∧ res' = res := by
  rcases h with ⟨n, m, hg, rfl, rfl⟩ | ⟨hn, rfl, rfl⟩ <;> rcases h' with ⟨n', m', hg', rfl, rfl⟩ | ⟨hn', rfl, rfl⟩
  · obtain ⟨rfl, rfl⟩ := hg.uniq hg'
    exact ⟨rfl, rfl⟩
  · exact absurd hg (hn' _ _)
  · exact absurd hg' (hn _ _)
  · exact ⟨rfl, rfl⟩
theorem SpecEnd.open_ {G : Nat → Nat → List UInt8 → List ByteArray} {ss : List ByteArray} {w w' : World} {e : Ending} (h : SpecEnd G ss w e w') :
    ∃ A c res ok, e = .returned (.tuple #[.slice A res.length c, .bool ok]) ∧ Outcome G ss ok res ∧ Strs w' w'.heap.size A res ∧ Below w.heap.size w w' := by
  obtain ⟨hb, ⟨n, m, A, c, hg, hs, rfl⟩ | ⟨hn, A, c, rfl⟩⟩ := h
  · exact ⟨A, c, _, true, rfl, .inl ⟨n, m, hg, rfl, rfl⟩, hs, hb⟩
  · exact ⟨A, c, [], false, rfl, .inr ⟨hn, rfl, rfl⟩, fun h => absurd h (by simp), hb⟩
theorem ChangeEnd.open_ {G : Nat → Nat → List UInt8 → List ByteArray} {ss : List ByteArray} {w w' : World} {e : Ending} (h : ChangeEnd G ss w e w') :
    ∃ A res ok, e = .returned (.tuple #[.slice A res.length res.length, .bool ok]) ∧ Outcome G ss ok res ∧ Own w' w.heap.size A res ∧ (res = [] → A = none ∨ ∃ g, A = some ⟨g, 0, none⟩ ∧ w.heap.size ≤ g ∧ Row9 w' g []) ∧ Below w.heap.size w w' := by
  obtain ⟨hb, ⟨n, m, g, hg, hlo, hrow, rfl⟩ | ⟨hn, rfl⟩⟩ := h
  · exact ⟨_, _, true, rfl, .inl ⟨n, m, hg, rfl, rfl⟩, fun _ => ⟨g, rfl, hlo, hrow⟩, fun he => .inr ⟨g, rfl, hlo, by rw [← he]; exact hrow⟩, hb⟩
  · exact ⟨none, [], false, rfl, .inr ⟨hn, rfl, rfl⟩, fun h => absurd h (by simp), fun _ => .inl rfl, hb⟩

/-- The list is of the call's own: nothing, or the head of a block from lo on. -/
def Own2 (w : World) (lo : Nat) (A : Option Addr) (ss : List ByteArray) : Prop := (A = none ∧ ss = []) ∨ ∃ g, A = some ⟨g, 0, none⟩ ∧ lo ≤ g ∧ Row9 w g ss
theorem Own2.of {w : World} {lo : Nat} {A : Option Addr} {ss : List ByteArray} (h : Own w lo A ss) (h0 : ss = [] → A = none ∨ ∃ g, A = some ⟨g, 0, none⟩ ∧ lo ≤ g ∧ Row9 w g []) : Own2 w lo A ss := by
  cases ss with
  | nil =>
    rcases h0 rfl with rfl | h
    · exact .inl ⟨rfl, rfl⟩
    · exact .inr h
  | cons s ss => exact .inr (h (by simp))
theorem Own2.strs {w : World} {lo : Nat} {A : Option Addr} {ss : List ByteArray} (h : Own2 w lo A ss) : Strs w w.heap.size A ss := by
  rcases h with ⟨rfl, rfl⟩ | ⟨g, rfl, _, hr⟩
  · exact Strs.nil_ _ _ _
  · exact hr.strs hr.lt
theorem Own2.below {w w' : World} {lo : Nat} {A : Option Addr} {ss : List ByteArray} (h : Own2 w lo A ss) (hb : Below w.heap.size w w') : Own2 w' lo A ss := by
  rcases h with h | ⟨g, rfl, hlo, hr⟩
  · exact .inl h
  · exact .inr ⟨g, rfl, hlo, hr.below hb hr.lt⟩
theorem Own2.but {w w' : World} {lo g : Nat} {A : Option Addr} {ss : List ByteArray} (h : Own2 w lo A ss) (hb : But g w w') (hg : g < lo) : Own2 w' lo A ss := by
  rcases h with h | ⟨b, rfl, hlo, hr⟩
  · exact .inl h
  · exact .inr ⟨b, rfl, hlo, hr.but hb (by omega)⟩
theorem Strs.but {w w' : World} {B g : Nat} {A : Option Addr} {ss : List ByteArray} (h : Strs w B A ss) (hb : But g w w') (hB : B ≤ g) (hw : B ≤ w.heap.size) : Strs w' B A ss := h.below (hb.below hB hw) (Nat.le_refl _)

end Go.Proofs.Ytongjijkdjagdaa

/- Lists of integers that are handed back: eqIntS on equal lists, marks, what holds its marks. -/
namespace Go.Proofs.Ytongjijkdjagdaa
open Go.RowKit

/-- Block g of w holds cells of integers, unfrozen, and its first l.length cells are l. -/
def Row8 (w : World) (g : Nat) (l : List Int) : Prop :=
  ∃ cs : Array Value, w.heap[g]? = some (.cells cs 3 (0, 0)) ∧ ∀ (k : Nat) (x : Int), l[k]? = some x → cs[k]? = some (Value.int .i64 x)
theorem Row8.lt {w : World} {g : Nat} {l : List Int} (h : Row8 w g l) : g < w.heap.size := by
  obtain ⟨cs, h, _⟩ := h
  exact lt_of_block h
theorem Row8.ints {w : World} {g : Nat} {l : List Int} (h : Row8 w g l) {B : Nat} (hB : g < B) : Ints w B (some ⟨g, 0, none⟩) l := fun _ => by
  obtain ⟨cs, h, hc⟩ := h
  refine ⟨g, 0, rfl, hB, fun k s hk => ?_⟩
  rw [Nat.zero_add, cell_of_row w g k cs 3 (0, 0) h]
  exact hc k s hk
theorem Row8.below {w w' : World} {g : Nat} {l : List Int} (h : Row8 w g l) {B : Nat} (hb : Below B w w') (hg : g < B) : Row8 w' g l := by
  obtain ⟨cs, h, hc⟩ := h
  exact ⟨cs, (hb.block g hg).trans h, hc⟩
theorem Row8.but {w w' : World} {b g : Nat} {l : List Int} (h : Row8 w b l) (hb : But g w w') (hn : b ≠ g) : Row8 w' b l := by
  have hl := h.lt
  obtain ⟨cs, h, hc⟩ := h
  exact ⟨cs, (hb.block b hl hn).trans h, hc⟩
/-- The list is of the call's own: nothing, or the head of a block from lo on. -/
def Own3 (w : World) (lo : Nat) (A : Option Addr) (l : List Int) : Prop := (A = none ∧ l = []) ∨ ∃ g, A = some ⟨g, 0, none⟩ ∧ lo ≤ g ∧ Row8 w g l
theorem Own3.ints {w : World} {lo : Nat} {A : Option Addr} {l : List Int} (h : Own3 w lo A l) : Ints w w.heap.size A l := by
  rcases h with ⟨rfl, rfl⟩ | ⟨g, rfl, _, hr⟩
  · exact fun h => absurd h (by simp)
  · exact hr.ints hr.lt
theorem Own3.below {w w' : World} {lo : Nat} {A : Option Addr} {l : List Int} (h : Own3 w lo A l) (hb : Below w.heap.size w w') : Own3 w' lo A l := by
  rcases h with h | ⟨g, rfl, hg, hr⟩
  · exact .inl h
  · exact .inr ⟨g, rfl, hg, hr.below hb hr.lt⟩
theorem Own3.but {w w' : World} {lo g : Nat} {A : Option Addr} {l : List Int} (h : Own3 w lo A l) (hb : But g w w') (hg : g < lo) : Own3 w' lo A l := by
  rcases h with h | ⟨b, rfl, hlo, hr⟩
  · exact .inl h
  · exact .inr ⟨b, rfl, hlo, hr.but hb (by omega)⟩
/-- A slice that has grown is of the call's own; its capacity is any. -/
theorem GrowI.own {w : World} {base : Nat} {v : Value} {l : List Int} (h : GrowI w base v l) : ∃ A c, v = .slice A l.length c ∧ Own3 w base A l := by
  rcases h.2 with ⟨rfl, h0⟩ | ⟨g, cap, cur, rfl, hb, hg, hn, _, _, ht⟩
  · rw [h0]; exact ⟨none, 0, rfl, .inl ⟨rfl, List.eq_nil_of_length_eq_zero h0⟩⟩
  · refine ⟨_, _, rfl, .inr ⟨g, rfl, hb, cur, hg, fun k s hk => ?_⟩⟩
    have hl := (List.getElem?_eq_some_iff.1 hk).1
    have e : (intsV l)[k]? = some (.int .i64 s) := by simp [intsV, hk]
    rw [← ht, List.getElem?_take_of_lt (by omega)] at e
    rw [← Array.getElem?_toList, e]

/-- The marks from a number on. -/
def marksI (k n : Nat) : List Int := (List.range n).map fun i => ((k + i : Nat) : Int)
theorem marksI_length (k n : Nat) : (marksI k n).length = n := by simp [marksI]
theorem marksI_at {k n i : Nat} (h : i < n) : (marksI k n)[i]? = some ((k + i : Nat) : Int) := by simp [marksI, h]

def MkIRel (g k0 n sz : Nat) (w : World) (kv iv : Value) (wr : World) : Prop :=
  ∃ i : Nat, i ≤ n ∧ kv = .int .i64 ((k0 + i : Nat) : Int) ∧ iv = .int .i64 i ∧ But g w wr ∧ ∃ cs : Array Value, wr.heap[g]? = some (.cells cs 3 (0, 0)) ∧ cs.size = sz ∧ ∀ j, j < i → cs[j]? = some (.int .i64 ((k0 + j : Nat) : Int))

def HdIRel (k0 n : Nat) (w : World) (kv iv : Value) (wr : World) : Prop :=
  ∃ i : Nat, i ≤ n ∧ kv = .int .i64 ((k0 + i : Nat) : Int) ∧ iv = .int .i64 i ∧ w = wr

theorem Ints.but {w w' : World} {B g : Nat} {A : Option Addr} {l : List Int} (h : Ints w B A l) (hb : But g w w') (hB : B ≤ g) (hw : B ≤ w.heap.size) : Ints w' B A l := h.below (hb.below hB hw) (Nat.le_refl _)

end Go.Proofs.Ytongjijkdjagdaa

/- l3Marks of the specification, by its contract; blocks of bools. -/
namespace Go.Proofs.Ytongjijkdjagdaa
open Go.RowKit Go.Shelf

theorem Try.info_bool : (Try.prog.info? 4).map (fun i => (i.zero, i.size, i.bytes)) = some (some (.bool false), 1, 1) := by kernel_rfl
/-- Block g holds N bools, told by M. -/
def MarksAt (w : World) (g N : Nat) (M : Nat → Prop) : Prop :=
  ∃ cs : Array Value, w.heap[g]? = some (.cells cs 4 (0, 0)) ∧ cs.size = N ∧ ∀ c, c < N → ∃ b : Bool, cs[c]? = some (.bool b) ∧ (b = true ↔ M c)
theorem MarksAt.lt {w : World} {g N : Nat} {M : Nat → Prop} (h : MarksAt w g N M) : g < w.heap.size := by
  obtain ⟨cs, h, _⟩ := h
  exact lt_of_block h
theorem MarksAt.keep {w w' : World} {g N : Nat} {M : Nat → Prop} (h : MarksAt w g N M) (hb : w'.heap[g]? = w.heap[g]?) : MarksAt w' g N M := by
  obtain ⟨cs, h, hr⟩ := h
  exact ⟨cs, hb.trans h, hr⟩
theorem MarksAt.below {w w' : World} {g N : Nat} {M : Nat → Prop} (h : MarksAt w g N M) (hb : Below w.heap.size w w') : MarksAt w' g N M := h.keep (hb.block g h.lt)
theorem MarksAt.congr {w : World} {g N : Nat} {M M' : Nat → Prop} (h : MarksAt w g N M) (e : ∀ c, c < N → (M c ↔ M' c)) : MarksAt w g N M' := by
  obtain ⟨cs, h, hs, hr⟩ := h
  refine ⟨cs, h, hs, fun c hc => ?_⟩
  obtain ⟨b, h1, h2⟩ := hr c hc
  exact ⟨b, h1, h2.trans (e c hc)⟩
theorem MarksAt.cell {w : World} {g N c : Nat} {M : Nat → Prop} (h : MarksAt w g N M) (hc : c < N) : ∃ b : Bool, w.cell? ⟨g, c, none⟩ = some (.bool b) ∧ (b = true ↔ M c) ∧ w.frozen? ⟨g, c, none⟩ = false := by
  obtain ⟨cs, h, hs, hr⟩ := h
  obtain ⟨b, h1, h2⟩ := hr c hc
  exact ⟨b, by rw [cell_of_row _ _ _ _ _ _ h]; exact h1, h2, frozen_of_row _ _ _ _ _ h⟩
theorem MarksAt.set {w : World} {g N c : Nat} {M : Nat → Prop} (h : MarksAt w g N M) : MarksAt (w.setCell ⟨g, c, none⟩ (.bool true)) g N (fun c' => M c' ∨ c = c') := by
  obtain ⟨cs, h, hs, hr⟩ := h
  refine ⟨_, heap_setCell_same _ _ c _ _ (.bool true) h, by simp [hs], fun c' hc' => ?_⟩
  by_cases e : c = c'
  · subst e
    exact ⟨true, by rw [Array.getElem?_setIfInBounds_self_of_lt (by omega)], by simp⟩
  · rw [Array.getElem?_setIfInBounds_ne e]
    obtain ⟨b, h1, h2⟩ := hr c' hc'
    exact ⟨b, h1, h2.trans ⟨.inl, fun h => h.resolve_right e⟩⟩
theorem MarksAt.made {w : World} {g N : Nat} (h : w.heap[g]? = some (.cells (madeCells #[.bool false] N) 4 (0, 0))) (M : Nat → Prop) (hM : ∀ c, ¬ M c) : MarksAt w g N M :=
  ⟨_, h, size_madeCells _ _, fun c hc => ⟨false, by simp [madeCells, hc, Nat.mod_one], by simpa using hM c⟩⟩

def MOut (n m : Nat) (t : Int → Int → UInt8) (N g : Nat) (w : World) (i : Value) (wr : World) : Prop :=
  ∃ k : Nat, k ≤ 2 * (n + m) ∧ i = .int .i64 k ∧ MarksAt wr g N (fun c => ∃ p, p < k ∧ ∃ j, j < blen n m t p ∧ wcode m (bway n m t p j) = c) ∧ Below w.heap.size w wr
def MIn (m L : Nat) (bw : Nat → Wy) (M : Nat → Prop) (N g : Nat) (wo : World) (i : Value) (wr : World) : Prop :=
  ∃ j : Nat, j ≤ L ∧ i = .int .i64 j ∧ MarksAt wr g N (fun c => M c ∨ ∃ i, i < j ∧ wcode m (bw i) = c) ∧ But g wo wr
theorem cellsI_at {m L j : Nat} {bw : Nat → Wy} (h : j < L) : (cellsI m bw L)[j]? = some ((cellN m (bw j) : Nat) : Int) := by simp [cellsI, h]
theorem headsI_at' {L j : Nat} {bw : Nat → Wy} (h : j < L) : (headsI bw L)[j]? = some (((bw j).d : Nat) : Int) := by simp [headsI, h]

end Go.Proofs.Ytongjijkdjagdaa

/- l3Rounds of the specification, by its contract. -/
namespace Go.Proofs.Ytongjijkdjagdaa
open Go.RowKit Go.Shelf

/-- The lengths of the rounds of the leading numbers below x. -/
def lensTo (n m : Nat) (t : Int → Int → UInt8) (x : Nat) : List Int := (leadsTo n m t x).map fun l => ((rlen n m t (wayN m l) : Nat) : Int)
theorem lensTo_le (n m : Nat) (t : Int → Int → UInt8) (x : Nat) : (lensTo n m t x).length ≤ x := by
  unfold lensTo
  rw [List.length_map]; exact leadsTo_le x
def ROut (n m : Nat) (t : Int → Int → UInt8) (N g : Nat) (w : World) (v i : Value) (wr : World) : Prop :=
  ∃ x : Nat, x ≤ N ∧ i = .int .i64 x ∧ GrowI wr w.heap.size v (lensTo n m t x) ∧ (∀ b, v.ownBlock = some b → b ≠ g) ∧ MarksAt wr g N (Mk n m t x) ∧ Below w.heap.size w wr
def RIn (m L : Nat) (t : Int → Int → UInt8) (bw : Nat → Wy) (M : Nat → Prop) (N g : Nat) (wo : World) (i : Value) (wr : World) : Prop :=
  ∃ j : Nat, j ≤ L ∧ i = .int .i64 j ∧ MarksAt wr g N (fun c => M c ∨ ∃ i, i < j ∧ (c = wcode m (bw i) ∨ c = wcode m (rev t (bw i)))) ∧ But g wo wr
theorem xor_opp {d : Nat} (h : d < 4) : bits .xor .i64 (d : Int) 2 = ((opp d : Nat) : Int) := by
  rcases four h with rfl | rfl | rfl | rfl <;> decide
theorem but_grown {g : Nat} {w w' : World} (h : But g w w') : w.grownBy w' (some g) := ⟨h.os, h.tape, h.output, h.size, fun k hk hne => h.block k hk (fun e => hne (by rw [e]))⟩
theorem GrowI.but {w w' : World} {base g : Nat} {v : Value} {l : List Int} (h : GrowI w base v l) (hb : But g w w') (hn : ∀ b, v.ownBlock = some b → b ≠ g) : GrowI w' base v l := by
  refine World.ownsRow.kept h (but_grown hb) ?_
  cases hv : v.ownBlock with
  | none => exact .inl rfl
  | some k => exact .inr (fun e => by cases e; exact hn g hv rfl)
theorem GrowI.below3 {w w' : World} {base : Nat} {v : Value} {l : List Int} (h : GrowI w base v l) (hb : Below w.heap.size w w') : GrowI w' base v l := by
  refine World.ownsRow.kept h (Cls.grown hb) ?_
  cases v.ownBlock with
  | none => exact .inl rfl
  | some k => exact .inr (fun e => by cases e)

end Go.Proofs.Ytongjijkdjagdaa

/- RoundMany, RoundLeast of the specification, by their contracts. -/
namespace Go.Proofs.Ytongjijkdjagdaa
open Go.RowKit Go.Shelf

/-- What a question on a grid comes to, where the answer is an integer and a bool. -/
def GridOut (R : Nat → Nat → (Int → Int → UInt8) → Int × Bool) (ss : List ByteArray) (x : Int) (ok : Bool) : Prop :=
  (∃ n m, IsGrid n m ss ∧ (x, ok) = R n m (lett m (pad (flat ss)))) ∨ (NoGrid ss ∧ x = 0 ∧ ok = false)
theorem GridOut.uniq {R : Nat → Nat → (Int → Int → UInt8) → Int × Bool} {ss : List ByteArray} {x x' : Int} {ok ok' : Bool} (h : GridOut R ss x ok) (h' : GridOut R ss x' ok') : x' = x ∧ ok' = ok := by
  rcases h with ⟨n, m, h1, h2⟩ | ⟨h1, rfl, rfl⟩ <;> rcases h' with ⟨n', m', h1', h2'⟩ | ⟨h1', rfl, rfl⟩
  · obtain ⟨rfl, rfl⟩ := h1.uniq h1'
    have := h2'.trans h2.symm
    cases this
    exact ⟨rfl, rfl⟩
  · exact absurd h1 (h1' _ _)
  · exact absurd h1' (h1 _ _)
  · exact ⟨rfl, rfl⟩
def manyR (n m : Nat) (t : Int → Int → UInt8) : Int × Bool := (((leads n m t).length : Int), true)
def pathsR (n m : Nat) (t : Int → Int → UInt8) : Int × Bool := (((leads n m t).length : Int) + (n : Int) + (m : Int), true)
def leastR (n m : Nat) (t : Int → Int → UInt8) : Int × Bool :=
  match (leads n m t).head? with
  | some l => (((l / 4 : Nat) : Int), true)
  | none => (0, false)
theorem lensTo_length (n m : Nat) (t : Int → Int → UInt8) (x : Nat) : (lensTo n m t x).length = (leadsTo n m t x).length := by simp [lensTo]

end Go.Proofs.Ytongjijkdjagdaa
