/- Settled texts in one file. Each begins with what it holds. -/
import Derived.Test.YtongjijkdjagdaaDoorBunD
import Derived.Test.YtongjijkdjagdaaDoorBunA
import Derived.Test.YtongjijkdjagdaaDoorHead
import Derived.Test.YtongjijkdjagdaaDoorBunE
import Derived.StillTailTactics
import Derived.Deep.QuietTactic
/- What the laws on functions that hand back a list want: the ends opened, marks on an own list. -/
namespace Go.Proofs.YtongjijkdjagdaaDoor
open Go.RowKit

/-- The outcome and the list: the same for the program and the specification. -/
def Outcome (G : Nat → Nat → List UInt8 → List ByteArray) (ss : List ByteArray) (ok : Bool) (res : List ByteArray) : Prop :=
  (∃ n m, IsGrid n m ss ∧ ok = true ∧ res = G n m (pad (flat ss))) ∨ (NoGrid ss ∧ ok = false ∧ res = [])
theorem IsGrid.uniq {n m n' m' : Nat} {ss : List ByteArray} (h : IsGrid n m ss) (h' : IsGrid n' m' ss) : n = n' ∧ m = m' := by
  have a := h.nm
  have b := h'.nm
  have e : n = n' := a.1.trans b.1.symm
  have hl : 0 < ss.length := by have := h.1; have := h.2.1; omega
  exact ⟨e, (a.2 _ (List.getElem?_eq_getElem hl)).trans (b.2 _ (List.getElem?_eq_getElem hl)).symm⟩
theorem Outcome.uniq {G : Nat → Nat → List UInt8 → List ByteArray} {ss : List ByteArray} {ok ok' : Bool} {res res' : List ByteArray} (h : Outcome G ss ok res) (h' : Outcome G ss ok' res') : ok' = ok ∧ res' = res := by
  rcases h with ⟨n, m, hg, rfl, rfl⟩ | ⟨hn, rfl, rfl⟩ <;> rcases h' with ⟨n', m', hg', rfl, rfl⟩ | ⟨hn', rfl, rfl⟩
  · obtain ⟨rfl, rfl⟩ := hg.uniq hg'
    exact ⟨rfl, rfl⟩
  · exact absurd hg (hn' _ _)
  · exact absurd hg' (hn _ _)
  · exact ⟨rfl, rfl⟩
theorem SpecEnd.open_ {G : Nat → Nat → List UInt8 → List ByteArray} {ss : List ByteArray} {w w' : World} {e : Ending} (h : SpecEnd G ss w e w') :
    ∃ A c res ok, e = .returned (.tuple #[.slice A res.length c, .bool ok]) ∧ Outcome G ss ok res ∧ Strs w' w'.heap.size A res ∧ Below w.heap.size w w' := by
  obtain ⟨hb, ⟨n, m, A, c, hg, hs, rfl⟩ | ⟨hn, A, c, rfl⟩⟩ := h
  · exact ⟨A, c, _, true, rfl, .inl ⟨n, m, hg, rfl, rfl⟩, hs, hb⟩
  · exact ⟨A, c, [], false, rfl, .inr ⟨hn, rfl, rfl⟩, fun h => absurd h (by simp), hb⟩
theorem ChangeEnd.open_ {G : Nat → Nat → List UInt8 → List ByteArray} {ss : List ByteArray} {w w' : World} {e : Ending} (h : ChangeEnd G ss w e w') :
    ∃ A res ok, e = .returned (.tuple #[.slice A res.length res.length, .bool ok]) ∧ Outcome G ss ok res ∧ Own w' w.heap.size A res ∧ (res = [] → A = none ∨ ∃ g, A = some ⟨g, 0, none⟩ ∧ w.heap.size ≤ g ∧ Row9 w' g []) ∧ Below w.heap.size w w' := by
  obtain ⟨hb, ⟨n, m, g, hg, hlo, hrow, rfl⟩ | ⟨hn, rfl⟩⟩ := h
  · exact ⟨_, _, true, rfl, .inl ⟨n, m, hg, rfl, rfl⟩, fun _ => ⟨g, rfl, hlo, hrow⟩, fun he => .inr ⟨g, rfl, hlo, by rw [← he]; exact hrow⟩, hb⟩
  · exact ⟨none, [], false, rfl, .inr ⟨hn, rfl, rfl⟩, fun h => absurd h (by simp), fun _ => .inl rfl, hb⟩

/-- The list is of the call's own: nothing, or the head of a block from lo on. -/
def Own2 (w : World) (lo : Nat) (A : Option Addr) (ss : List ByteArray) : Prop := (A = none ∧ ss = []) ∨ ∃ g, A = some ⟨g, 0, none⟩ ∧ lo ≤ g ∧ Row9 w g ss
theorem Own2.of {w : World} {lo : Nat} {A : Option Addr} {ss : List ByteArray} (h : Own w lo A ss) (h0 : ss = [] → A = none ∨ ∃ g, A = some ⟨g, 0, none⟩ ∧ lo ≤ g ∧ Row9 w g []) : Own2 w lo A ss := by
  cases ss with
  | nil =>
    rcases h0 rfl with rfl | h
    · exact .inl ⟨rfl, rfl⟩
    · exact .inr h
  | cons s ss => exact .inr (h (by simp))
theorem Own2.strs {w : World} {lo : Nat} {A : Option Addr} {ss : List ByteArray} (h : Own2 w lo A ss) : Strs w w.heap.size A ss := by
  rcases h with ⟨rfl, rfl⟩ | ⟨g, rfl, _, hr⟩
  · exact Strs.nil_ _ _ _
  · exact hr.strs hr.lt
theorem Own2.below {w w' : World} {lo : Nat} {A : Option Addr} {ss : List ByteArray} (h : Own2 w lo A ss) (hb : Below w.heap.size w w') : Own2 w' lo A ss := by
  rcases h with h | ⟨g, rfl, hlo, hr⟩
  · exact .inl h
  · exact .inr ⟨g, rfl, hlo, hr.below hb hr.lt⟩
theorem Own2.but {w w' : World} {lo g : Nat} {A : Option Addr} {ss : List ByteArray} (h : Own2 w lo A ss) (hb : But g w w') (hg : g < lo) : Own2 w' lo A ss := by
  rcases h with h | ⟨b, rfl, hlo, hr⟩
  · exact .inl h
  · exact .inr ⟨b, rfl, hlo, hr.but hb (by omega)⟩
theorem Strs.but {w w' : World} {B g : Nat} {A : Option Addr} {ss : List ByteArray} (h : Strs w B A ss) (hb : But g w w') (hB : B ≤ g) (hw : B ≤ w.heap.size) : Strs w' B A ss := h.below (hb.below hB hw) (Nat.le_refl _)

end Go.Proofs.YtongjijkdjagdaaDoor

/- Lists of integers that are handed back: eqIntS on equal lists, marks, what holds its marks. -/
namespace Go.Proofs.YtongjijkdjagdaaDoor
open Go.RowKit

/-- Block g of w holds cells of integers, unfrozen, and its first l.length cells are l. -/
def Row8 (w : World) (g : Nat) (l : List Int) : Prop :=
  ∃ cs : Array Value, w.heap[g]? = some (.cells cs 3 (0, 0)) ∧ ∀ (k : Nat) (x : Int), l[k]? = some x → cs[k]? = some (Value.int .i64 x)
theorem Row8.lt {w : World} {g : Nat} {l : List Int} (h : Row8 w g l) : g < w.heap.size := by
  obtain ⟨cs, h, _⟩ := h
  exact lt_of_block h
theorem Row8.ints {w : World} {g : Nat} {l : List Int} (h : Row8 w g l) {B : Nat} (hB : g < B) : Ints w B (some ⟨g, 0, none⟩) l := fun _ => by
  obtain ⟨cs, h, hc⟩ := h
  refine ⟨g, 0, rfl, hB, fun k s hk => ?_⟩
  rw [Nat.zero_add, cell_of_row w g k cs 3 (0, 0) h]
  exact hc k s hk
theorem Row8.below {w w' : World} {g : Nat} {l : List Int} (h : Row8 w g l) {B : Nat} (hb : Below B w w') (hg : g < B) : Row8 w' g l := by
  obtain ⟨cs, h, hc⟩ := h
  exact ⟨cs, (hb.block g hg).trans h, hc⟩
theorem Row8.but {w w' : World} {b g : Nat} {l : List Int} (h : Row8 w b l) (hb : But g w w') (hn : b ≠ g) : Row8 w' b l := by
  have hl := h.lt
  obtain ⟨cs, h, hc⟩ := h
  exact ⟨cs, (hb.block b hl hn).trans h, hc⟩
/-- The list is of the call's own: nothing, or the head of a block from lo on. -/
def Own3 (w : World) (lo : Nat) (A : Option Addr) (l : List Int) : Prop := (A = none ∧ l = []) ∨ ∃ g, A = some ⟨g, 0, none⟩ ∧ lo ≤ g ∧ Row8 w g l
theorem Own3.ints {w : World} {lo : Nat} {A : Option Addr} {l : List Int} (h : Own3 w lo A l) : Ints w w.heap.size A l := by
  rcases h with ⟨rfl, rfl⟩ | ⟨g, rfl, _, hr⟩
  · exact fun h => absurd h (by simp)
  · exact hr.ints hr.lt
theorem Own3.below {w w' : World} {lo : Nat} {A : Option Addr} {l : List Int} (h : Own3 w lo A l) (hb : Below w.heap.size w w') : Own3 w' lo A l := by
  rcases h with h | ⟨g, rfl, hg, hr⟩
  · exact .inl h
  · exact .inr ⟨g, rfl, hg, hr.below hb hr.lt⟩
theorem Own3.but {w w' : World} {lo g : Nat} {A : Option Addr} {l : List Int} (h : Own3 w lo A l) (hb : But g w w') (hg : g < lo) : Own3 w' lo A l := by
  rcases h with h | ⟨b, rfl, hlo, hr⟩
  · exact .inl h
  · exact .inr ⟨b, rfl, hlo, hr.but hb (by omega)⟩
/-- A slice that has grown is of the call's own; its capacity is any. -/
theorem GrowI.own {w : World} {base : Nat} {v : Value} {l : List Int} (h : GrowI w base v l) : ∃ A c, v = .slice A l.length c ∧ Own3 w base A l := by
  rcases h.2 with ⟨rfl, h0⟩ | ⟨g, cap, cur, rfl, hb, hg, hn, _, _, ht⟩
  · rw [h0]; exact ⟨none, 0, rfl, .inl ⟨rfl, List.eq_nil_of_length_eq_zero h0⟩⟩
  · refine ⟨_, _, rfl, .inr ⟨g, rfl, hb, cur, hg, fun k s hk => ?_⟩⟩
    have hl := (List.getElem?_eq_some_iff.1 hk).1
    have e : (intsV l)[k]? = some (.int .i64 s) := by simp [intsV, hk]
    rw [← ht, List.getElem?_take_of_lt (by omega)] at e
    rw [← Array.getElem?_toList, e]

/-- The marks from a number on. -/
def marksI (k n : Nat) : List Int := (List.range n).map fun i => ((k + i : Nat) : Int)
theorem marksI_length (k n : Nat) : (marksI k n).length = n := by simp [marksI]
theorem marksI_at {k n i : Nat} (h : i < n) : (marksI k n)[i]? = some ((k + i : Nat) : Int) := by simp [marksI, h]

def MkIRel (g k0 n sz : Nat) (w : World) (kv iv : Value) (wr : World) : Prop :=
  ∃ i : Nat, i ≤ n ∧ kv = .int .i64 ((k0 + i : Nat) : Int) ∧ iv = .int .i64 i ∧ But g w wr ∧ ∃ cs : Array Value, wr.heap[g]? = some (.cells cs 3 (0, 0)) ∧ cs.size = sz ∧ ∀ j, j < i → cs[j]? = some (.int .i64 ((k0 + j : Nat) : Int))

def HdIRel (k0 n : Nat) (w : World) (kv iv : Value) (wr : World) : Prop :=
  ∃ i : Nat, i ≤ n ∧ kv = .int .i64 ((k0 + i : Nat) : Int) ∧ iv = .int .i64 i ∧ w = wr

theorem Ints.but {w w' : World} {B g : Nat} {A : Option Addr} {l : List Int} (h : Ints w B A l) (hb : But g w w') (hB : B ≤ g) (hw : B ≤ w.heap.size) : Ints w' B A l := h.below (hb.below hB hw) (Nat.le_refl _)

end Go.Proofs.YtongjijkdjagdaaDoor

/- l3Marks of the specification, by its contract; blocks of bools. -/
namespace Go.Proofs.YtongjijkdjagdaaDoor
open Go.RowKit Go.Shelf

theorem Tryd.info_bool : (Tryd.prog.info? 4).map (fun i => (i.zero, i.size, i.bytes)) = some (some (.bool false), 1, 1) := by kernel_rfl
/-- Block g holds N bools, told by M. -/
def MarksAt (w : World) (g N : Nat) (M : Nat → Prop) : Prop :=
  ∃ cs : Array Value, w.heap[g]? = some (.cells cs 4 (0, 0)) ∧ cs.size = N ∧ ∀ c, c < N → ∃ b : Bool, cs[c]? = some (.bool b) ∧ (b = true ↔ M c)
theorem MarksAt.lt {w : World} {g N : Nat} {M : Nat → Prop} (h : MarksAt w g N M) : g < w.heap.size := by
  obtain ⟨cs, h, _⟩ := h
  exact lt_of_block h
theorem MarksAt.keep {w w' : World} {g N : Nat} {M : Nat → Prop} (h : MarksAt w g N M) (hb : w'.heap[g]? = w.heap[g]?) : MarksAt w' g N M := by
  obtain ⟨cs, h, hr⟩ := h
  exact ⟨cs, hb.trans h, hr⟩
theorem MarksAt.below {w w' : World} {g N : Nat} {M : Nat → Prop} (h : MarksAt w g N M) (hb : Below w.heap.size w w') : MarksAt w' g N M := h.keep (hb.block g h.lt)
theorem MarksAt.congr {w : World} {g N : Nat} {M M' : Nat → Prop} (h : MarksAt w g N M) (e : ∀ c, c < N → (M c ↔ M' c)) : MarksAt w g N M' := by
  obtain ⟨cs, h, hs, hr⟩ := h
  refine ⟨cs, h, hs, fun c hc => ?_⟩
  obtain ⟨b, h1, h2⟩ := hr c hc
  exact ⟨b, h1, h2.trans (e c hc)⟩
theorem MarksAt.cell {w : World} {g N c : Nat} {M : Nat → Prop} (h : MarksAt w g N M) (hc : c < N) : ∃ b : Bool, w.cell? ⟨g, c, none⟩ = some (.bool b) ∧ (b = true ↔ M c) ∧ w.frozen? ⟨g, c, none⟩ = false := by
  obtain ⟨cs, h, hs, hr⟩ := h
  obtain ⟨b, h1, h2⟩ := hr c hc
  exact ⟨b, by rw [cell_of_row _ _ _ _ _ _ h]; exact h1, h2, frozen_of_row _ _ _ _ _ h⟩
theorem MarksAt.set {w : World} {g N c : Nat} {M : Nat → Prop} (h : MarksAt w g N M) : MarksAt (w.setCell ⟨g, c, none⟩ (.bool true)) g N (fun c' => M c' ∨ c = c') := by
  obtain ⟨cs, h, hs, hr⟩ := h
  refine ⟨_, heap_setCell_same _ _ c _ _ (.bool true) h, by simp [hs], fun c' hc' => ?_⟩
  by_cases e : c = c'
  · subst e
    exact ⟨true, by rw [Array.getElem?_setIfInBounds_self_of_lt (by omega)], by simp⟩
  · rw [Array.getElem?_setIfInBounds_ne e]
    obtain ⟨b, h1, h2⟩ := hr c' hc'
    exact ⟨b, h1, h2.trans ⟨.inl, fun h => h.resolve_right e⟩⟩
theorem MarksAt.made {w : World} {g N : Nat} (h : w.heap[g]? = some (.cells (madeCells #[.bool false] N) 4 (0, 0))) (M : Nat → Prop) (hM : ∀ c, ¬ M c) : MarksAt w g N M :=
  ⟨_, h, size_madeCells _ _, fun c hc => ⟨false, by simp [madeCells, hc, Nat.mod_one], by simpa using hM c⟩⟩

def MOut (n m : Nat) (t : Int → Int → UInt8) (N g : Nat) (w : World) (i : Value) (wr : World) : Prop :=
  ∃ k : Nat, k ≤ 2 * (n + m) ∧ i = .int .i64 k ∧ MarksAt wr g N (fun c => ∃ p, p < k ∧ ∃ j, j < blen n m t p ∧ wcode m (bway n m t p j) = c) ∧ Below w.heap.size w wr
def MIn (m L : Nat) (bw : Nat → Wy) (M : Nat → Prop) (N g : Nat) (wo : World) (i : Value) (wr : World) : Prop :=
  ∃ j : Nat, j ≤ L ∧ i = .int .i64 j ∧ MarksAt wr g N (fun c => M c ∨ ∃ i, i < j ∧ wcode m (bw i) = c) ∧ But g wo wr
theorem cellsI_at {m L j : Nat} {bw : Nat → Wy} (h : j < L) : (cellsI m bw L)[j]? = some ((cellN m (bw j) : Nat) : Int) := by simp [cellsI, h]
theorem headsI_at' {L j : Nat} {bw : Nat → Wy} (h : j < L) : (headsI bw L)[j]? = some (((bw j).d : Nat) : Int) := by simp [headsI, h]

set_option maxRecDepth 100000 in
set_option maxHeartbeats 2000000 in
theorem l3Marks_any (A : Option Addr) (c B n m : Nat) (ss : List ByteArray) (w : World) (h : Strs w B A ss) (hB : B ≤ w.heap.size) (hg : IsGrid n m ss) :
    Calls Tryd.prog 24 #[.slice A ss.length c] w fun e w' => ∃ g, w.heap.size ≤ g ∧ e = .returned (.slice (some ⟨g, 0, none⟩) (4 * (n * m)) (4 * (n * m))) ∧
      MarksAt w' g (4 * (n * m)) (fun c => onR n m (lett m (pad (flat ss))) (wayN m c) = false) ∧ Below w.heap.size w w' := by
  have hn1 := hg.2.1
  have hn5 := hg.2.2.1
  have hm1 := hg.2.2.2.1
  have hm5 := hg.2.2.2.2.1
  have h25 := hg.le25
  have hnl := hg.1
  obtain ⟨b, off, s0, rfl, hb, hk0, hc0⟩ := h.at_ (k := 0) (by omega)
  rw [Nat.add_zero] at hc0
  have hs0 : s0.size = m := (hg.2.2.2.2.2 s0 (List.mem_of_getElem? hk0)).1
  have hs0i : ((s0.size : Nat) : Int) = (m : Int) := by rw [hs0]
  have hl0 : (0 : Int) < (ss.length : Int) := by omega
  have HP := hid (fun w => l2Ports_any n m w hn5 hm5)
  have HW := hid (fun q w' (hst : Strs w' B (some ⟨b, off, none⟩) ss) hB' hq => l2Way_port (some ⟨b, off, none⟩) c B n m q ss w' hst hB' hg hq)
  have HBM := hid (fun c hc => beam_marks (t := lett m (pad (flat ss))) (c := c) hn1 hm1 hc)
  have HBL := hid (fun q hq => blen_lt (n := n) (m := m) (t := lett m (pad (flat ss))) (p := q) hq)
  have HIN := hid (fun q j hj => blen_in (n := n) (m := m) (t := lett m (pad (flat ss))) (p := q) (j := j) hj)
  have HDD := hid (fun q j => bway_d (n := n) (m := m) (t := lett m (pad (flat ss))) q j)
  have HH := hid h
  have HBB := hid hB
  have HKs := hid hk0
  have HNL := hid hnl
  clear hs0 hk0 h hB hg
  generalize lett m (pad (flat ss)) = t at *
  rw [HNL.out] at hl0 HW ⊢
  clear hnl
  obtain ⟨N, hN⟩ : ∃ N, 4 * (n * m) = N := ⟨_, rfl⟩
  have hN100 : N ≤ 100 := by omega
  have hNi : 4 * (n : Int) * (m : Int) = (N : Int) := by rw [← hN]; simp [Int.mul_assoc]
  have hN4 : 4 * ((n : Int) * (m : Int)) = (N : Int) := by rw [← Int.mul_assoc]; exact hNi
  have hNn : 0 ≤ (N : Int) := Int.natCast_nonneg _
  have hn4 : 4 * (n : Int) ≤ 20 := by omega
  have HNN := hid hN
  rw [hN] at HBM HBL ⊢
  have hmk := run_make_row' (P := Tryd.prog) 42 4 (.bool false) 1 Tryd.underlying42 Tryd.info_bool rfl .i64 .i64 N (by omega) (by omega)
  clear hN h25 hN4
  go_enter Tryd.func24, Tryd.ntmps24
  go_wp2_with fail
  have HX0 := hid (MarksAt.made (heap_new0 w (.cells (madeCells #[.bool false] N) 4)) (fun c => ∃ p, p < 0 ∧ ∃ j, j < blen n m t p ∧ wcode m (bway n m t p j) = c) (fun c hc => by obtain ⟨p, hp, _⟩ := hc; omega))
  have HXB := hid (show Below w.heap.size w (w.alloc (.cells (madeCells #[.bool false] N) 4)) from (Below.refl _ w).alloc (Nat.le_refl _) _)
  go_loopw [5] (MOut n m t N w.heap.size w) (fun i _ => 2 * (n + m) - (intOf i).toNat)
  case atStart => exact ⟨0, Nat.zero_le _, rfl, HX0.out, HXB.out⟩
  case round =>
    obtain ⟨k, hk, rfl, hma, hbel⟩ := hrel
    have HMA := hid hma
    have HB := hid hbel
    have hst := hid (HH.out.below hbel HBB.out)
    have hc0 := hst.out.cell_ HKs.out
    rw [Nat.add_zero] at hc0
    clear hma hbel
    have hkN : k ≤ 2 * (n + m) := hk
    go_wp2_with fail
    refine (HP.out _).mono ?_
    rintro e w' ⟨rfl, rfl⟩
    by_cases hlt : k < 2 * (n + m)
    · have hli : (k : Int) < 2 * ((n : Int) + (m : Int)) := by omega
      have hway := hid (HW.out k wr hst.out (Nat.le_trans HBB.out HB.out.size) hlt)
      have hL := HBL.out k hlt
      have HI := hid (fun j hj => HIN.out k j hj)
      have HD := hid (fun j => HDD.out k j)
      have HSU := hid (show ∀ c, (∃ p, p < k + 1 ∧ ∃ j, j < blen n m t p ∧ wcode m (bway n m t p j) = c) ↔ ((∃ p, p < k ∧ ∃ j, j < blen n m t p ∧ wcode m (bway n m t p j) = c) ∨ ∃ j, j < blen n m t k ∧ wcode m (bway n m t k j) = c) from fun c => by
        constructor
        · rintro ⟨p, hp, hr⟩
          rcases Nat.lt_or_ge p k with h1 | h1
          · exact .inl ⟨p, h1, hr⟩
          · obtain rfl : p = k := by omega
            exact .inr hr
        · rintro (⟨p, hp, hr⟩ | hr)
          · exact ⟨p, by omega, hr⟩
          · exact ⟨k, by omega, hr⟩)
      generalize hM : (fun c => ∃ p, p < k ∧ ∃ j, j < blen n m t p ∧ wcode m (bway n m t p j) = c) = M at HMA
      have HMM := hid hM
      clear hM
      generalize blen n m t k = L at hway hL HI HSU
      generalize bway n m t k = bw at hway HI HD HSU
      clear hc0
      go_wp2_with fail
      refine hway.out.mono ?_
      rintro e w1 ⟨v, v', rfl, hv1, hv2, hb1⟩
      obtain ⟨A1, c1, rfl, ho1⟩ := hv1.own
      obtain ⟨A2, c2, rfl, ho2⟩ := hv2.own
      rw [cellsI_length, headsI_length]
      have HO1 := hid ho1
      have HO2 := hid ho2
      have HM1 := hid (HMA.out.below hb1)
      have HB1 := hid (HB.out.trans (hb1.mono HB.out.size))
      have HGL := hid HMA.out.lt
      clear hv1 hv2 ho1 ho2 hb1 hway
      go_wp2_with fail
      go_loopw [9] (MIn m L bw M N w.heap.size w1) (fun i _ => L - (intOf i).toNat)
      case atStart => exact ⟨0, Nat.zero_le _, rfl, HM1.out.congr fun c _ => ⟨.inl, fun h => h.resolve_right (fun ⟨i, hi, _⟩ => by omega)⟩, But.refl _ _⟩
      case round =>
        obtain ⟨j, hj, rfl, hma, hbut⟩ := hrel
        have HMJ := hid hma
        have HBT := hid hbut
        clear hma hbut
        by_cases hjl : j < L
        · have i1 := (HO1.out.but HBT.out HGL.out).ints
          have i2 := (HO2.out.but HBT.out HGL.out).ints
          obtain ⟨b1, off1, x1, rfl, hbb1, hx1, hcx1⟩ := i1.at_ (k := j) (by rw [cellsI_length]; exact hjl)
          obtain ⟨b2, off2, x2, rfl, hbb2, hx2, hcx2⟩ := i2.at_ (k := j) (by rw [headsI_length]; exact hjl)
          rw [cellsI_at hjl] at hx1
          rw [headsI_at' hjl] at hx2
          obtain rfl := Option.some.inj hx1
          obtain rfl := Option.some.inj hx2
          have hin := HI.out j hjl
          have hd4 := HD.out j
          have hcn := wcode_cell (m := m) (bw j)
          have hcl := wcode_lt hin hd4
          rw [HNN.out] at hcl
          obtain ⟨cv, hcv⟩ : ∃ cv, cellN m (bw j) = cv := ⟨_, rfl⟩
          obtain ⟨dv, hdv⟩ : ∃ dv, (bw j).d = dv := ⟨_, rfl⟩
          obtain ⟨q, hq⟩ : ∃ q, wcode m (bw j) = q := ⟨_, rfl⟩
          rw [hcv, hdv, hq] at hcn
          rw [hq] at hcl
          rw [hcv] at hcx1
          rw [hdv] at hcx2 hd4
          have HQ := hid hq
          obtain ⟨bq, hcq, _, hfq⟩ := HMJ.out.cell hcl
          have hidx : 4 * (cv : Int) + (dv : Int) = (q : Int) := by omega
          have hw1 : IntKind.i64.wrap (4 * (cv : Int)) = 4 * (cv : Int) := IntWalk.i64_in _ (by omega)
          have hw2 : IntKind.i64.wrap (q : Int) = (q : Int) := IntWalk.i64_in _ (by omega)
          have hqi : (q : Int) < (N : Int) := by omega
          have hq0 : 0 ≤ (q : Int) := by omega
          have hji : (j : Int) < (L : Int) := by omega
          have hji0 : (0 : Int) ≤ (j : Int) := by omega
          have hcv4 : 4 * (cv : Int) ≤ 100 := by omega
          have hcv0 : 0 ≤ (cv : Int) := by omega
          clear hx1 hx2 i1 i2 hin hcv hdv hq hcn
          go_wp2_with fail
          go_still_tail 12, (by kernel_rfl)
          go_wp2_with fail
          go_roundw
          case rel =>
            refine ⟨j + 1, by omega, by go_num, ?_, HBT.out.trans ((But.of_below (Below.refl _ _).drew).trans (But.setCell _ _ _))⟩
            refine (MarksAt.set (c := q) (HMJ.out.keep (w' := World.drew _) rfl)).congr fun c _ => ?_
            constructor
            · rintro ((h | ⟨i, hi, h⟩) | h)
              · exact .inl h
              · exact .inr ⟨i, by omega, h⟩
              · exact .inr ⟨j, by omega, by rw [HQ.out]; exact h⟩
            · rintro (h | ⟨i, hi, h⟩)
              · exact .inl (.inl h)
              · rcases Nat.lt_or_ge i j with h1 | h1
                · exact .inl (.inr ⟨i, h1, h⟩)
                · obtain rfl : i = j := by omega
                  exact .inr (by rw [← HQ.out]; exact h)
          case measure => simp [intOf]; omega
        · obtain rfl : j = L := by omega
          go_wp2_with fail
          go_roundw
          case rel =>
            refine ⟨k + 1, by omega, by go_num, ?_, HB1.out.trans (HBT.out.below (Nat.le_refl _) HB1.out.size)⟩
            refine HMJ.out.congr fun c _ => ?_
            rw [← HMM.out]
            exact (HSU.out c).symm
          case measure => simp [intOf]; omega
    · have hli : ¬ (k : Int) < 2 * ((n : Int) + (m : Int)) := by omega
      obtain rfl : k = 2 * (n + m) := by omega
      go_wp2_with fail
      go_ret
      exact ⟨w.heap.size, Nat.le_refl _, rfl, HMA.out.congr fun c hc => HBM.out c hc, HB.out⟩

end Go.Proofs.YtongjijkdjagdaaDoor

/- l3Rounds of the specification, by its contract. -/
namespace Go.Proofs.YtongjijkdjagdaaDoor
open Go.RowKit Go.Shelf

/-- The lengths of the rounds of the leading numbers below x. -/
def lensTo (n m : Nat) (t : Int → Int → UInt8) (x : Nat) : List Int := (leadsTo n m t x).map fun l => ((rlen n m t (wayN m l) : Nat) : Int)
theorem lensTo_le (n m : Nat) (t : Int → Int → UInt8) (x : Nat) : (lensTo n m t x).length ≤ x := by
  unfold lensTo
  rw [List.length_map]; exact leadsTo_le x
def ROut (n m : Nat) (t : Int → Int → UInt8) (N g : Nat) (w : World) (v i : Value) (wr : World) : Prop :=
  ∃ x : Nat, x ≤ N ∧ i = .int .i64 x ∧ GrowI wr w.heap.size v (lensTo n m t x) ∧ (∀ b, v.ownBlock = some b → b ≠ g) ∧ MarksAt wr g N (Mk n m t x) ∧ Below w.heap.size w wr
def RIn (m L : Nat) (t : Int → Int → UInt8) (bw : Nat → Wy) (M : Nat → Prop) (N g : Nat) (wo : World) (i : Value) (wr : World) : Prop :=
  ∃ j : Nat, j ≤ L ∧ i = .int .i64 j ∧ MarksAt wr g N (fun c => M c ∨ ∃ i, i < j ∧ (c = wcode m (bw i) ∨ c = wcode m (rev t (bw i)))) ∧ But g wo wr
theorem xor_opp {d : Nat} (h : d < 4) : bits .xor .i64 (d : Int) 2 = ((opp d : Nat) : Int) := by
  rcases four h with rfl | rfl | rfl | rfl <;> decide
theorem but_grown {g : Nat} {w w' : World} (h : But g w w') : w.grownBy w' (some g) := ⟨h.os, h.tape, h.output, h.size, fun k hk hne => h.block k hk (fun e => hne (by rw [e]))⟩
theorem GrowI.but {w w' : World} {base g : Nat} {v : Value} {l : List Int} (h : GrowI w base v l) (hb : But g w w') (hn : ∀ b, v.ownBlock = some b → b ≠ g) : GrowI w' base v l := by
  refine World.ownsRow.kept h (but_grown hb) ?_
  cases hv : v.ownBlock with
  | none => exact .inl rfl
  | some k => exact .inr (fun e => by cases e; exact hn g hv rfl)
theorem GrowI.below3 {w w' : World} {base : Nat} {v : Value} {l : List Int} (h : GrowI w base v l) (hb : Below w.heap.size w w') : GrowI w' base v l := by
  refine World.ownsRow.kept h (Cls.grown hb) ?_
  cases v.ownBlock with
  | none => exact .inl rfl
  | some k => exact .inr (fun e => by cases e)

end Go.Proofs.YtongjijkdjagdaaDoor

/- RoundMany, RoundLeast of the specification, by their contracts. -/
namespace Go.Proofs.YtongjijkdjagdaaDoor
open Go.RowKit Go.Shelf

/-- What a question on a grid comes to, where the answer is an integer and a bool. -/
def GridOut (R : Nat → Nat → (Int → Int → UInt8) → Int × Bool) (ss : List ByteArray) (x : Int) (ok : Bool) : Prop :=
  (∃ n m, IsGrid n m ss ∧ (x, ok) = R n m (lett m (pad (flat ss)))) ∨ (NoGrid ss ∧ x = 0 ∧ ok = false)
theorem GridOut.uniq {R : Nat → Nat → (Int → Int → UInt8) → Int × Bool} {ss : List ByteArray} {x x' : Int} {ok ok' : Bool} (h : GridOut R ss x ok) (h' : GridOut R ss x' ok') : x' = x ∧ ok' = ok := by
  rcases h with ⟨n, m, h1, h2⟩ | ⟨h1, rfl, rfl⟩ <;> rcases h' with ⟨n', m', h1', h2'⟩ | ⟨h1', rfl, rfl⟩
  · obtain ⟨rfl, rfl⟩ := h1.uniq h1'
    have := h2'.trans h2.symm
    cases this
    exact ⟨rfl, rfl⟩
  · exact absurd h1 (h1' _ _)
  · exact absurd h1' (h1 _ _)
  · exact ⟨rfl, rfl⟩
def manyR (n m : Nat) (t : Int → Int → UInt8) : Int × Bool := (((leads n m t).length : Int), true)
def pathsR (n m : Nat) (t : Int → Int → UInt8) : Int × Bool := (((leads n m t).length : Int) + (n : Int) + (m : Int), true)
def leastR (n m : Nat) (t : Int → Int → UInt8) : Int × Bool :=
  match (leads n m t).head? with
  | some l => (((l / 4 : Nat) : Int), true)
  | none => (0, false)
theorem lensTo_length (n m : Nat) (t : Int → Int → UInt8) (x : Nat) : (lensTo n m t x).length = (leadsTo n m t x).length := by simp [lensTo]

end Go.Proofs.YtongjijkdjagdaaDoor
