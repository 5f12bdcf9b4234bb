/- Settled texts in one file. Each begins with what it holds. -/
import Derived.WalkKit
import Derived.Deep.Draws
import Derived.Test.YtongjijkdjagdaaDoorRows
import Derived.WalkSpells
import Derived.WalkLawsBesides
import Derived.Deep.QuietTactic
import Derived.BigQuiet
import Derived.Deep.OwnRows
import Derived.Lib.Strings
import Derived.Lib.Bytealg
import Derived.StillTailTactics
import Derived.Laws.ResultCell
import Derived.Deep.WholeRow
import Derived.StillTail
import Derived.Deep.Quiet
import Derived.OrdersIn
import Derived.TacticsIn
import Derived.RangeFuncCalls
import Derived.ProofKit
import Derived.OpenShut
import Derived.ShutString
import Derived.ChangeOld
import Derived.SliceStrings
/- Plain words for memory: a slice of strings that reads as a list of strings; one block that holds strings. No program is named. -/

namespace Go.Proofs.YtongjijkdjagdaaDoor
open Go.RowKit

/-- The slice at address A (its length is ss.length) reads as the strings ss, below block B. -/
def Strs (w : World) (B : Nat) (A : Option Addr) (ss : List ByteArray) : Prop :=
  0 < ss.length → ∃ b off, A = some ⟨b, off, none⟩ ∧ b < B ∧ ∀ (k : Nat) (s : ByteArray), ss[k]? = some s → w.cell? ⟨b, off + k, none⟩ = some (.string s)

theorem Strs.nil_ (w : World) (B : Nat) (A : Option Addr) : Strs w B A [] := fun h => absurd h (by simp)
theorem Strs.at_ {w : World} {B : Nat} {A : Option Addr} {ss : List ByteArray} {k : Nat} (h : Strs w B A ss) (hk : k < ss.length) :
    ∃ b off s, A = some ⟨b, off, none⟩ ∧ b < B ∧ ss[k]? = some s ∧ w.cell? ⟨b, off + k, none⟩ = some (.string s) := by
  obtain ⟨b, off, e, hb, hc⟩ := h (by omega)
  exact ⟨b, off, ss[k], e, hb, List.getElem?_eq_getElem hk, hc k _ (List.getElem?_eq_getElem hk)⟩
theorem Strs.below {w w' : World} {B : Nat} {A : Option Addr} {ss : List ByteArray} (h : Strs w B A ss) {B' : Nat} (hb : Below B' w w') (hB : B ≤ B') : Strs w' B A ss := fun hn => by
  obtain ⟨b, off, e, hlt, hc⟩ := h hn
  exact ⟨b, off, e, hlt, fun k s hk => (hb.cell (p := ⟨b, off + k, none⟩) (by show b < B'; omega)).trans (hc k s hk)⟩
theorem Strs.more {w : World} {B B' : Nat} {A : Option Addr} {ss : List ByteArray} (h : Strs w B A ss) (hB : B ≤ B') : Strs w B' A ss := fun hn => by
  obtain ⟨b, off, e, hlt, hc⟩ := h hn
  exact ⟨b, off, e, by omega, hc⟩
theorem Strs.drewN {w : World} {B : Nat} {A : Option Addr} {ss : List ByteArray} (h : Strs w B A ss) (n : Nat) : Strs (w.drewN n) B A ss := h

/-- Block g of w holds cells of strings, unfrozen, and its first ss.length cells are ss. -/
def Row9 (w : World) (g : Nat) (ss : List ByteArray) : Prop :=
  ∃ cs : Array Value, w.heap[g]? = some (.cells cs 9 (0, 0)) ∧ ∀ (k : Nat) (s : ByteArray), ss[k]? = some s → cs[k]? = some (Value.string s)
theorem Row9.lt {w : World} {g : Nat} {ss : List ByteArray} (h : Row9 w g ss) : g < w.heap.size := by
  obtain ⟨cs, h, _⟩ := h
  exact lt_of_block h
theorem Row9.strs {w : World} {g : Nat} {ss : List ByteArray} (h : Row9 w g ss) {B : Nat} (hB : g < B) : Strs w B (some ⟨g, 0, none⟩) ss := fun _ => by
  obtain ⟨cs, h, hc⟩ := h
  refine ⟨g, 0, rfl, hB, fun k s hk => ?_⟩
  rw [Nat.zero_add, cell_of_row w g k cs 9 (0, 0) h]
  exact hc k s hk
theorem Row9.below {w w' : World} {g : Nat} {ss : List ByteArray} (h : Row9 w g ss) {B : Nat} (hb : Below B w w') (hg : g < B) : Row9 w' g ss := by
  obtain ⟨cs, h, hc⟩ := h
  exact ⟨cs, (hb.block g hg).trans h, hc⟩

/-- The slice at A is of the call's own: empty, or the head of a block g from lo on. -/
def Own (w : World) (lo : Nat) (A : Option Addr) (ss : List ByteArray) : Prop :=
  0 < ss.length → ∃ g, A = some ⟨g, 0, none⟩ ∧ lo ≤ g ∧ Row9 w g ss
theorem Own.strs {w : World} {lo : Nat} {A : Option Addr} {ss : List ByteArray} (h : Own w lo A ss) : Strs w w.heap.size A ss := fun hn => by
  obtain ⟨g, rfl, _, hr⟩ := h hn
  exact hr.strs hr.lt hn
theorem Own.below {w w' : World} {lo : Nat} {A : Option Addr} {ss : List ByteArray} (h : Own w lo A ss) (hb : Below w.heap.size w w') : Own w' lo A ss := fun hn => by
  obtain ⟨g, rfl, hlo, hr⟩ := h hn
  exact ⟨g, rfl, hlo, hr.below hb hr.lt⟩
theorem Own.mono {w : World} {lo lo' : Nat} {A : Option Addr} {ss : List ByteArray} (h : Own w lo A ss) (hl : lo' ≤ lo) : Own w lo' A ss := fun hn => by
  obtain ⟨g, rfl, hlo, hr⟩ := h hn
  exact ⟨g, rfl, by omega, hr⟩

theorem hid {p : Prop} (h : p) : Hid p := h
theorem below_setRow' {B : Nat} {a w : World} (h : Below B a w) {g : Nat} (hg : B ≤ g) (cs : Array Value) : Below B a (w.setRow g cs) :=
  h.trans ⟨rfl, rfl, rfl, by simp, fun k hk => setRow_other w g k cs (by omega)⟩
theorem heap_new0 (w : World) (o : Obj) : (w.alloc o).heap[w.heap.size]? = some o := heap_alloc_new w o
theorem heap_new1 (w : World) (o p : Obj) : ((w.alloc o).alloc p).heap[w.heap.size]? = some o := by
  rw [Below.heap_alloc _ _ _ (by simp), heap_alloc_new]
theorem heap_new2 (w : World) (o p q : Obj) : (((w.alloc o).alloc p).alloc q).heap[w.heap.size]? = some o := by
  rw [Below.heap_alloc _ _ _ (by simp; omega), heap_new1]
theorem heap_new3 (w : World) (o p q r : Obj) : ((((w.alloc o).alloc p).alloc q).alloc r).heap[w.heap.size]? = some o := by
  rw [Below.heap_alloc _ _ _ (by simp; omega), heap_new2]
theorem below_drewN' {B : Nat} {a w : World} (h : Below B a w) (n : Nat) : Below B a (w.drewN n) := ⟨h.os, h.tape, h.output, h.size, h.block⟩

end Go.Proofs.YtongjijkdjagdaaDoor

/- The laws' own helpers on slices of strings, each by its contract: szStringS, toStringS, eqStringS. -/
namespace Go.Proofs.YtongjijkdjagdaaDoor
open Go.RowKit

/-- All the bytes of a list of strings. -/
def bytesOf (ss : List ByteArray) : Nat := (ss.map ByteArray.size).sum
theorem bytesOf_snoc (ss : List ByteArray) (k : Nat) (s : ByteArray) (h : ss[k]? = some s) : bytesOf (ss.take (k + 1)) = bytesOf (ss.take k) + s.size := by
  obtain ⟨hlt, rfl⟩ := List.getElem?_eq_some_iff.1 h
  unfold bytesOf
  rw [List.take_succ_eq_append_getElem hlt, List.map_append, List.sum_append]
  simp only [List.map_cons, List.map_nil, List.sum_cons, List.sum_nil, Nat.add_zero]

/-- What szStringS comes to: a number; where it is not negative, the strings are that much shorter. -/
def SzEnd (ss : List ByteArray) (left : Int) (w : World) (e : Ending) (w' : World) : Prop :=
  ∃ r : Int, e = .returned (.int .i64 r) ∧ w = w' ∧ (0 ≤ r → (ss.length : Int) + bytesOf ss + r = left)

/-- The loop's relation. -/
def SzRel (ss : List ByteArray) (left : Int) (l i : Value) : Prop :=
  ∃ k : Nat, k ≤ ss.length ∧ i = .int .i64 k ∧ ∃ x : Int, l = .int .i64 x ∧ 0 ≤ x ∧ x = left - ss.length - bytesOf (ss.take k)

set_option maxHeartbeats 400000 in
theorem szStringS_any (A : Option Addr) (c B : Nat) (ss : List ByteArray) (left : Int) (w : World) (h : Strs w B A ss) (hl : 0 ≤ left) (hl2 : left ≤ 1048576) (hn : ss.length ≤ 9223372036854775807) (hs : ∀ s ∈ ss, s.size ≤ 9223372036854775807) :
    Calls Tryd.prog 10 #[.slice A ss.length c, .int .i64 left] w (SzEnd ss left w) := by
  have HS := hid hs
  clear hs
  go_enter Tryd.func10, Tryd.ntmps10
  by_cases h0 : left < ss.length
  · have h1 : left - (ss.length : Int) < 0 := by omega
    go_wp2
    go_ret
    exact ⟨-1, rfl, rfl, fun h => absurd h (by omega)⟩
  · have h1 : decide (left - (ss.length : Int) < 0) = false := by simp; omega
    have h2 : 0 ≤ left - (ss.length : Int) := by omega
    go_wp2
    go_loop [1, 5] (SzRel ss left) (fun _ i => ss.length - (intOf i).toNat)
    case atStart => exact ⟨0, Nat.zero_le _, rfl, _, rfl, by omega, by simp [bytesOf]⟩
    case round =>
      obtain ⟨k, hk, rfl, x, rfl, hx, hxe⟩ := hrel
      have hx2 : x ≤ 1048576 := by omega
      have HX := hid hxe
      clear hxe
      by_cases hlt : k < ss.length
      · obtain ⟨b, off, s, rfl, hb, hks, hc⟩ := h.at_ hlt
        have hsz := HS.out s (List.mem_of_getElem? hks)
        have hbs := bytesOf_snoc ss k s hks
        have HK := hid hbs
        clear hbs hks
        by_cases hneg : x < s.size
        · have h3 : x - (s.size : Int) < 0 := by omega
          go_wp2
          go_ret
          exact ⟨-1, rfl, rfl, fun h => absurd h (by omega)⟩
        · have h3 : 0 ≤ x - (s.size : Int) := by omega
          go_wp2
          go_round
          case rel => exact ⟨k + 1, by omega, by go_num, _, rfl, by omega, by rw [HK.out]; have := HX.out; omega⟩
          case measure => simp [intOf]; omega
      · obtain rfl : k = ss.length := by omega
        go_wp2
        go_ret
        refine ⟨x, rfl, rfl, fun _ => ?_⟩
        have := HX.out
        rw [List.take_length] at this
        omega

/-- The cells that toStringS has filled after k rounds. -/
def Filled (ss : List ByteArray) (k : Nat) (C : Array Value) : Prop :=
  C.size = ss.length ∧ (∀ (i : Nat) (s : ByteArray), i < k → ss[i]? = some s → C[i]? = some (Value.string s)) ∧ ∀ i, i < ss.length → ∃ u : ByteArray, C[i]? = some (Value.string u)
theorem Filled.zero (ss : List ByteArray) : Filled ss 0 (madeCells #[Value.string ByteArray.empty] ss.length) :=
  ⟨size_madeCells _ _, fun i s h => absurd h (by omega), fun i hi => ⟨ByteArray.empty, by simp [madeCells, hi, Nat.mod_one]⟩⟩
theorem Filled.at_ {ss : List ByteArray} {k : Nat} {C : Array Value} (h : Filled ss k C) (hk : k < ss.length) : ∃ u : ByteArray, C[k]? = some (Value.string u) := h.2.2 k hk
theorem Filled.step {ss : List ByteArray} {k : Nat} {C : Array Value} (h : Filled ss k C) {s : ByteArray} (hs : ss[k]? = some s) : Filled ss (k + 1) (C.setIfInBounds k (.string s)) := by
  obtain ⟨hlt, _⟩ := List.getElem?_eq_some_iff.1 hs
  obtain ⟨h1, h2, h3⟩ := h
  refine ⟨by simpa using h1, fun i t hi ht => ?_, fun i hi => ?_⟩
  · rw [Array.getElem?_setIfInBounds]
    by_cases e : k = i
    · subst e
      rw [hs] at ht
      cases ht
      simp [h1, hlt]
    · simp only [e, if_false]
      exact h2 i t (by omega) ht
  · rw [Array.getElem?_setIfInBounds]
    by_cases e : k = i
    · subst e
      exact ⟨s, by simp [h1, hlt]⟩
    · simp only [e, if_false]
      exact h3 i hi

/-- What toStringS leaves: one new block, which holds the strings. -/
def MadeS (ss : List ByteArray) (w : World) (e : Ending) (w' : World) : Prop :=
  e = .returned (.slice (some ⟨w.heap.size, 0, none⟩) ss.length ss.length) ∧ ∃ C, w' = w.alloc (.cells C 9) ∧ Filled ss ss.length C
def FillRel (ss : List ByteArray) (w : World) (i : Value) (wr : World) : Prop :=
  ∃ k : Nat, k ≤ ss.length ∧ i = .int .i64 k ∧ ∃ C, wr = w.alloc (.cells C 9) ∧ Filled ss k C

theorem Tryd.info_string : (Tryd.prog.info? 9).map (fun i => (i.zero, i.size, i.bytes)) = some (some (.string ByteArray.empty), 1, 16) := by kernel_rfl

set_option maxHeartbeats 400000 in
theorem toStringS_any (A : Option Addr) (c B : Nat) (ss : List ByteArray) (w : World) (h : Strs w B A ss) (hB : B ≤ w.heap.size) (hn : ss.length ≤ 1048576) :
    Calls Tryd.prog 12 #[.slice A ss.length c] w (MadeS ss w) := by
  have hmk := run_make_row' (P := Tryd.prog) 23 9 (.string ByteArray.empty) 16 Tryd.underlying23 Tryd.info_string rfl .i64 .i64 ss.length (by omega) (by omega)
  go_enter Tryd.func12, Tryd.ntmps12
  go_wp2
  go_loopw [4] (FillRel ss w) (fun i _ => ss.length - (intOf i).toNat)
  case atStart => exact ⟨0, Nat.zero_le _, rfl, _, rfl, Filled.zero ss⟩
  case round =>
    obtain ⟨k, hk, rfl, C, rfl, hC⟩ := hrel
    by_cases hlt : k < ss.length
    · obtain ⟨b, off, s, rfl, hb, hks, hc⟩ := h.at_ hlt
      obtain ⟨u, hu⟩ := hC.at_ hlt
      have hbw : b < w.heap.size := by omega
      have hst := hC.step hks
      have HK := hid hks
      have HC := hid hC
      have HT := hid hst
      clear hks hC hst h
      go_wp2
      go_roundw
      case rel => exact ⟨k + 1, by omega, by go_num, _, rfl, HT.out⟩
      case measure => simp [intOf]; omega
    · obtain rfl : k = ss.length := by omega
      have HC := hid hC
      clear hC h
      go_wp2
      go_ret
      exact ⟨rfl, C, rfl, HC.out⟩

def DrewRel (n : Nat) (w : World) (i : Value) (wr : World) : Prop := ∃ k : Nat, k ≤ n ∧ i = .int .i64 k ∧ ∃ d, wr = w.drewN d
/-- Two slices that read as the same strings: true. -/
def TrueDrew (w : World) (e : Ending) (w' : World) : Prop := e = .returned (.bool true) ∧ ∃ n, w' = w.drewN n

set_option maxHeartbeats 400000 in
theorem eqStringS_same (A A' : Option Addr) (c c' B : Nat) (ss : List ByteArray) (w : World) (h : Strs w B A ss) (h' : Strs w B A' ss) (hn : ss.length ≤ 1048576) :
    Calls Tryd.prog 14 #[.slice A ss.length c, .slice A' ss.length c'] w (TrueDrew w) := by
  have hne : ((ss.length : Int) != (ss.length : Int)) = false := by simp
  go_enter Tryd.func14, Tryd.ntmps14
  go_wp2
  go_loopw [5] (DrewRel ss.length w) (fun i _ => ss.length - (intOf i).toNat)
  case atStart => exact ⟨0, Nat.zero_le _, rfl, 0, rfl⟩
  case round =>
    obtain ⟨k, hk, rfl, d, rfl⟩ := hrel
    by_cases hlt : k < ss.length
    · obtain ⟨b, off, s, rfl, hb, hks, hc⟩ := h.at_ hlt
      obtain ⟨b', off', s', rfl, hb', hks', hc'⟩ := h'.at_ hlt
      obtain rfl : s = s' := by rw [hks] at hks'; exact Option.some.inj hks'
      clear hks hks' h h'
      have hi : (k : Int) < (ss.length : Int) := by omega
      have hi0 : (0 : Int) ≤ (k : Int) := by omega
      go_wp2_with fail
      go_quiet (fail)
      go_wp2
      go_roundw
      case rel => exact ⟨k + 1, by omega, by go_num, _, rfl⟩
      case measure => simp [intOf]; omega
    · obtain rfl : k = ss.length := by omega
      go_wp2
      go_ret
      exact ⟨rfl, _, rfl⟩

end Go.Proofs.YtongjijkdjagdaaDoor

/- Plain words on grids: lists of strings, letters, cells of the struct. No program is named. -/
namespace Go.Proofs.YtongjijkdjagdaaDoor
open Go.RowKit

/-- A letter of a cell. -/
def isLet (b : UInt8) : Bool := b == 46 || b == 114 || b == 102
/-- The letters of a list of strings, one string behind the other. -/
def flat (ss : List ByteArray) : List UInt8 := ss.flatMap fun s => s.data.toList
/-- A row of m letters. -/
def rowOk (m : Nat) (s : ByteArray) : Prop := s.size = m ∧ ∀ b ∈ s.data.toList, isLet b = true
/-- A grid of n rows and m columns. -/
def IsGrid (n m : Nat) (ss : List ByteArray) : Prop := ss.length = n ∧ 1 ≤ n ∧ n ≤ 5 ∧ 1 ≤ m ∧ m ≤ 5 ∧ ∀ s ∈ ss, rowOk m s
def NoGrid (ss : List ByteArray) : Prop := ∀ n m, ¬ IsGrid n m ss
/-- Letters filled up to 25. -/
def pad (l : List UInt8) : List UInt8 := l ++ List.replicate (25 - l.length) 0
/-- The cells of the struct: rows, columns, 25 letters. -/
def gcells (n m : Nat) (ls : List UInt8) : Array Value := (Value.int .i64 n :: Value.int .i64 m :: ls.map fun b => Value.int .u8 b.toNat).toArray

theorem pad_length {l : List UInt8} (h : l.length ≤ 25) : (pad l).length = 25 := by simp [pad]; omega
theorem gcells_size {n m : Nat} {ls : List UInt8} (h : ls.length = 25) : (gcells n m ls).size = 27 := by simp [gcells, h]
theorem gcells_one (n m : Nat) (ls : List UInt8) : (gcells n m ls).all (·.oneCell') = true := by
  rw [Array.all_eq_true_iff_forall_mem]
  intro x hx
  simp [gcells] at hx
  rcases hx with rfl | rfl | ⟨b, _, rfl⟩ <;> rfl
theorem gcells_0 (n m : Nat) (ls : List UInt8) : (gcells n m ls)[0]? = some (.int .i64 n) := by simp [gcells]
theorem gcells_1 (n m : Nat) (ls : List UInt8) : (gcells n m ls)[1]? = some (.int .i64 m) := by simp [gcells]
theorem gcells_at {n m p : Nat} {ls : List UInt8} {b : UInt8} (h : ls[p]? = some b) : (gcells n m ls)[2 + p]? = some (.int .u8 b.toNat) := by
  rw [Nat.add_comm]; simp [gcells, h]
theorem gcells_set (n m p : Nat) (ls : List UInt8) (b : UInt8) : (gcells n m ls).setIfInBounds (2 + p) (.int .u8 b.toNat) = gcells n m (ls.set p b) := by
  rw [Nat.add_comm]; simp [gcells, List.map_set]
theorem pad_set {l : List UInt8} {b : UInt8} (h : l.length < 25) : (pad l).set l.length b = pad (l ++ [b]) := by
  unfold pad
  rw [List.set_append_right _ _ (Nat.le_refl _), Nat.sub_self, show 25 - l.length = (25 - (l ++ [b]).length) + 1 by simp; omega, List.replicate_succ, List.set_cons_zero, List.append_assoc]
  rfl
theorem zero_gcells : gcells 0 0 (pad []) = #[.int .i64 0, .int .i64 0, .int .u8 0, .int .u8 0, .int .u8 0, .int .u8 0, .int .u8 0, .int .u8 0, .int .u8 0, .int .u8 0, .int .u8 0, .int .u8 0, .int .u8 0, .int .u8 0, .int .u8 0, .int .u8 0, .int .u8 0, .int .u8 0, .int .u8 0, .int .u8 0, .int .u8 0, .int .u8 0, .int .u8 0, .int .u8 0, .int .u8 0, .int .u8 0, .int .u8 0] := rfl

/-- The place of a letter: rows of m letters each. -/
theorem flat_at {m : Nat} : ∀ (ss : List ByteArray) (r c : Nat) (s : ByteArray), (∀ i t, i < r → ss[i]? = some t → t.size = m) → ss[r]? = some s → c < s.size → (flat ss)[r * m + c]? = s.data.toList[c]?
  | [], r, c, s, _, h, _ => by simp at h
  | t :: ss, 0, c, s, _, h, hc => by
    simp at h; subst h
    rw [flat, List.flatMap_cons, Nat.zero_mul, Nat.zero_add, List.getElem?_append_left (by rw [← Lib.size_eq]; exact hc)]
  | t :: ss, r + 1, c, s, hr, h, hc => by
    have ht : t.size = m := hr 0 t (by omega) (by simp)
    have ih := flat_at (m := m) ss r c s (fun i u hi hu => hr (i + 1) u (by omega) (by simpa using hu)) (by simpa using h) hc
    have e : t.data.toList.length = m := by rw [← Lib.size_eq]; exact ht
    have e2 : (r + 1) * m + c = m + (r * m + c) := by rw [Nat.add_mul]; omega
    rw [flat, List.flatMap_cons, e2, List.getElem?_append_right (by omega), e, Nat.add_sub_cancel_left]
    exact ih
theorem flat_length {m : Nat} : ∀ (ss : List ByteArray), (∀ s ∈ ss, s.size = m) → (flat ss).length = ss.length * m
  | [], _ => by simp [flat]
  | t :: ss, h => by
    have ih := flat_length ss (fun s hs => h s (by simp [hs]))
    rw [flat, List.flatMap_cons, List.length_append, ← Lib.size_eq, h t (by simp)]
    unfold flat at ih
    rw [ih, List.length_cons, Nat.add_mul]; omega
theorem flat_take_len {m : Nat} (ss : List ByteArray) (r c : Nat) (s : ByteArray) (hr : ∀ i t, i < r → ss[i]? = some t → t.size = m) (h : ss[r]? = some s) (hc : c ≤ s.size) : r * m + c ≤ (flat ss).length := by
  induction ss generalizing r with
  | nil => simp at h
  | cons t ss ih =>
    cases r with
    | zero =>
      simp at h; subst h
      rw [flat, List.flatMap_cons, List.length_append, ← Lib.size_eq]; omega
    | succ r =>
      have ht : t.size = m := hr 0 t (by omega) (by simp)
      have := ih r (fun i u hi hu => hr (i + 1) u (by omega) (by simpa using hu)) (by simpa using h)
      rw [flat, List.flatMap_cons, List.length_append, ← Lib.size_eq, ht, Nat.add_mul]
      unfold flat at this
      omega
/-- One letter more. -/
theorem pad_step {fl : List UInt8} {q : Nat} {b : UInt8} (h : fl[q]? = some b) (hq : q < 25) : (pad (fl.take q)).set q b = pad (fl.take (q + 1)) := by
  obtain ⟨hlt, rfl⟩ := List.getElem?_eq_some_iff.1 h
  have hl : (fl.take q).length = q := by simp; omega
  have e := pad_set (l := fl.take q) (b := fl[q]) (by omega)
  rw [hl] at e
  rw [e, List.take_succ_eq_append_getElem hlt]

theorem byte_of {s : ByteArray} {k : Nat} {b : UInt8} (h : s.data.toList[k]? = some b) (hk : k < s.size) : s[k]'hk = b := by
  obtain ⟨⟨l⟩⟩ := s
  obtain ⟨_, e⟩ := List.getElem?_eq_some_iff.1 h
  exact e

theorem noGrid_len {ss : List ByteArray} (h : ¬ (1 ≤ ss.length ∧ ss.length ≤ 5)) : NoGrid ss := fun n m hg => h ⟨by have := hg.1; have := hg.2.1; omega, by have := hg.1; have := hg.2.2.1; omega⟩
theorem noGrid_first {ss : List ByteArray} {s : ByteArray} (h0 : ss[0]? = some s) (h : ¬ (1 ≤ s.size ∧ s.size ≤ 5)) : NoGrid ss := fun n m hg => by
  have := (hg.2.2.2.2.2 s (List.mem_of_getElem? h0)).1
  exact h ⟨by have := hg.2.2.2.1; omega, by have := hg.2.2.2.2.1; omega⟩
theorem noGrid_size {ss : List ByteArray} {s t : ByteArray} {r : Nat} (h0 : ss[0]? = some s) (hr : ss[r]? = some t) (h : t.size ≠ s.size) : NoGrid ss := fun n m hg => by
  have a := (hg.2.2.2.2.2 s (List.mem_of_getElem? h0)).1
  have b := (hg.2.2.2.2.2 t (List.mem_of_getElem? hr)).1
  exact h (b.trans a.symm)
theorem noGrid_letter {ss : List ByteArray} {t : ByteArray} {r c : Nat} {b : UInt8} (hr : ss[r]? = some t) (hb : t.data.toList[c]? = some b) (h : isLet b = false) : NoGrid ss := fun n m hg => by
  have := (hg.2.2.2.2.2 t (List.mem_of_getElem? hr)).2 b (List.mem_of_getElem? hb)
  rw [h] at this; cases this
theorem IsGrid.flen {n m : Nat} {ss : List ByteArray} (h : IsGrid n m ss) : (flat ss).length = n * m := by
  rw [flat_length ss (fun s hs => (h.2.2.2.2.2 s hs).1), h.1]
theorem IsGrid.le25 {n m : Nat} {ss : List ByteArray} (h : IsGrid n m ss) : n * m ≤ 25 := Nat.mul_le_mul h.2.2.1 h.2.2.2.2.1
theorem IsGrid.plen {n m : Nat} {ss : List ByteArray} (h : IsGrid n m ss) : (pad (flat ss)).length = 25 := pad_length (by rw [h.flen]; exact h.le25)
theorem IsGrid.csize {n m : Nat} {ss : List ByteArray} (h : IsGrid n m ss) : (gcells n m (pad (flat ss))).size = 27 := gcells_size h.plen
theorem IsGrid.nm {n m : Nat} {ss : List ByteArray} (h : IsGrid n m ss) : n = ss.length ∧ ∀ s, ss[0]? = some s → m = s.size :=
  ⟨h.1.symm, fun s hs => ((h.2.2.2.2.2 s (List.mem_of_getElem? hs)).1).symm⟩

end Go.Proofs.YtongjijkdjagdaaDoor

/- letterIn, and what it calls of the library: the searched text is the three letters, the sought one has one byte. -/
namespace Go.Proofs.YtongjijkdjagdaaDoor
open Go.RowKit


theorem three_index (b : UInt8) : decide (0 ≤ Lib.indexByte [46, 114, 102] b) = isLet b := by
  simp only [Lib.indexByte, isLet]
  by_cases h1 : (46 : UInt8) == b
  · have : b = 46 := by simpa using (beq_iff_eq.1 h1).symm
    subst this; decide
  by_cases h2 : (114 : UInt8) == b
  · have : b = 114 := by simpa using (beq_iff_eq.1 h2).symm
    subst this; decide
  by_cases h3 : (102 : UInt8) == b
  · have : b = 102 := by simpa using (beq_iff_eq.1 h3).symm
    subst this; decide
  have e1 : (b == 46) = false := by rw [beq_eq_false_iff_ne]; rintro rfl; simp at h1
  have e2 : (b == 114) = false := by rw [beq_eq_false_iff_ne]; rintro rfl; simp at h2
  have e3 : (b == 102) = false := by rw [beq_eq_false_iff_ne]; rintro rfl; simp at h3
  simp [h1, h2, h3, e1, e2, e3]

set_option maxRecDepth 100000 in
set_option maxHeartbeats 400000 in
theorem stringslite_IndexByte (s : ByteArray) (c : Int) (w : World) :
    Calls Tryd.prog 99 #[.string s, .int .u8 c] w fun e w' => e = .returned (.int .i64 (Lib.indexByte s.data.toList c.toNat.toUInt8)) ∧ w = w' := by
  go_enter Tryd.func99, Tryd.ntmps99
  go_wp2
  rw [run_callFunc_extern Tryd.func125 (by kernel_rfl) (by kernel_rfl) (by kernel_rfl) (e := Extern.BytealgIndexByte.indexByte) (by kernel_rfl), Lib.run_indexByteString]
  simp only [Result.andThen]
  rw [Oper.upon_value]
  go_wp2
  go_ret
  exact ⟨rfl, rfl⟩

theorem strings_IndexByte (s : ByteArray) (c : Int) (w : World) :
    Calls Tryd.prog 68 #[.string s, .int .u8 c] w fun e w' => e = .returned (.int .i64 (Lib.indexByte s.data.toList c.toNat.toUInt8)) ∧ w = w' := by
  go_enter Tryd.func68, Tryd.ntmps68
  go_wp2_with (go_at_call 99; refine (stringslite_IndexByte _ _ _).mono ?_; rintro e w' ⟨rfl, rfl⟩)
  go_ret
  exact ⟨rfl, rfl⟩

theorem byte0 {t : ByteArray} {b : UInt8} (ht : t.data.toList = [b]) (h : 0 < t.size) : t[0]'h = b := by
  obtain ⟨⟨l⟩⟩ := t
  simp at ht
  subst ht
  rfl

set_option maxRecDepth 100000 in
set_option maxHeartbeats 400000 in
theorem stringslite_Index (t : ByteArray) (b : UInt8) (ht : t.data.toList = [b]) (w : World) :
    Calls Tryd.prog 119 #[.string ⟨#[46, 114, 102]⟩, .string t] w fun e w' => e = .returned (.int .i64 (Lib.indexByte [46, 114, 102] b)) ∧ w = w' := by
  have hsz : t.size = 1 := by rw [Lib.size_eq, ht]; rfl
  have h0 := byte0 ht (by omega)
  have hne : (t.toList == [46, 114, 102]) = false := by rw [Lib.toList_data, ht]; simp
  have HT := hid ht
  clear ht
  go_enter Tryd.func119, Tryd.ntmps119
  go_wp2_with fail
  refine (stringslite_IndexByte _ _ _).mono ?_
  rintro e w' ⟨rfl, rfl⟩
  go_wp2
  go_ret
  simp

set_option maxRecDepth 100000 in
set_option maxHeartbeats 400000 in
theorem strings_Contains (t : ByteArray) (b : UInt8) (ht : t.data.toList = [b]) (w : World) :
    Calls Tryd.prog 86 #[.string ⟨#[46, 114, 102]⟩, .string t] w fun e w' => e = .returned (.bool (isLet b)) ∧ w = w' := by
  have HT := hid ht
  clear ht
  have hp : Calls Tryd.prog 114 #[.string ⟨#[46, 114, 102]⟩, .string t] w fun e w' => e = .returned (.int .i64 (Lib.indexByte [46, 114, 102] b)) ∧ w = w' := by
    go_enter Tryd.func114, Tryd.ntmps114
    go_wp2_with fail
    refine (stringslite_Index t b HT.out _).mono ?_
    rintro e w' ⟨rfl, rfl⟩
    go_wp2
    go_ret
    exact ⟨rfl, rfl⟩
  have h3 := hid (three_index b)
  generalize Lib.indexByte [46, 114, 102] b = x at hp h3
  have HP := hid hp
  clear hp
  go_enter Tryd.func86, Tryd.ntmps86
  go_wp2_with fail
  refine HP.out.mono ?_
  rintro e w' ⟨rfl, rfl⟩
  go_wp2
  go_ret
  rw [← h3.out]
  exact ⟨rfl, rfl⟩

set_option maxHeartbeats 400000 in
theorem letterIn_one (t : ByteArray) (b : UInt8) (ht : t.data.toList = [b]) (w : World) :
    Calls Tryd.prog 51 #[.string t] w fun e w' => e = .returned (.bool (isLet b)) ∧ w = w' := by
  have hsz : t.size = 1 := by rw [Lib.size_eq, ht]; rfl
  have HT := hid ht
  clear ht
  go_enter Tryd.func51, Tryd.ntmps51
  go_wp2_with fail
  refine (strings_Contains t b HT.out _).mono ?_
  rintro e w' ⟨rfl, rfl⟩
  go_wp2
  go_ret
  exact ⟨rfl, rfl⟩

theorem sideIn_any (n : Int) (w : World) :
    Calls Tryd.prog 50 #[.int .i64 n] w fun e w' => e = .returned (.bool (decide (1 ≤ n ∧ n ≤ 5))) ∧ w = w' := by
  by_cases h1 : 1 ≤ n
  · by_cases h2 : n ≤ 5
    · have e : decide (1 ≤ n ∧ n ≤ 5) = true := by simp; omega
      rw [e]
      go_enter Tryd.func50, Tryd.ntmps50
      go_wp2
      go_ret
      exact ⟨rfl, rfl⟩
    · have e : decide (1 ≤ n ∧ n ≤ 5) = false := by simp; omega
      rw [e]
      have h3 : ¬ n ≤ 5 := h2
      go_enter Tryd.func50, Tryd.ntmps50
      go_wp2
      go_ret
      exact ⟨rfl, rfl⟩
  · have e : decide (1 ≤ n ∧ n ≤ 5) = false := by simp; omega
    rw [e]
    go_enter Tryd.func50, Tryd.ntmps50
    go_wp2
    go_ret
    exact ⟨rfl, rfl⟩

end Go.Proofs.YtongjijkdjagdaaDoor

/- The struct grid as one block of 27 cells: the method with, by its contract; a whole struct read in a region that draws its order. -/
namespace Go.Proofs.YtongjijkdjagdaaDoor
open Go.RowKit

/-- The cells of the zero grid. -/
abbrev zeroG : Array Value := #[.int .i64 0, .int .i64 0, .int .u8 0, .int .u8 0, .int .u8 0, .int .u8 0, .int .u8 0, .int .u8 0, .int .u8 0, .int .u8 0, .int .u8 0, .int .u8 0, .int .u8 0, .int .u8 0, .int .u8 0, .int .u8 0, .int .u8 0, .int .u8 0, .int .u8 0, .int .u8 0, .int .u8 0, .int .u8 0, .int .u8 0, .int .u8 0, .int .u8 0, .int .u8 0, .int .u8 0]
theorem Tryd.size_grid : (Tryd.prog.info? 39).map (·.size) = some 27 := by kernel_rfl

theorem one_set {cs : Array Value} (h : cs.all (·.oneCell') = true) (i : Nat) (v : Value) (hv : v.oneCell' = true) : (cs.setIfInBounds i v).all (·.oneCell') = true := by
  rw [Array.all_eq_true_iff_forall_mem] at h ⊢
  intro x hx
  obtain ⟨k, hk, rfl⟩ := Array.mem_iff_getElem.1 hx
  rw [Array.getElem_setIfInBounds]
  · split
    · exact hv
    · exact h _ (Array.getElem_mem _)
  · simpa using hk

set_option maxHeartbeats 400000 in
/-- The number of the cell at a place. -/
theorem cell_cells (cs : Array Value) (r c m : Int) (p : Nat) (w : World) (h1 : cs[1]? = some (.int .i64 m)) (hp : p < 25) (he : r * m + c = p) (hr : 0 ≤ r ∧ r < 5) (hm : 0 ≤ m ∧ m ≤ 5) :
    Calls Tryd.prog 58 #[.agg cs, .agg #[.int .i64 r, .int .i64 c]] w fun e w' => e = .returned (.int .i64 (p : Int)) ∧ Below w.heap.size w w' := by
  have hmul : 0 ≤ r * m ∧ r * m ≤ 25 := by
    constructor
    · exact Int.mul_nonneg hr.1 hm.1
    · have : r * m ≤ 5 * 5 := Int.mul_le_mul (by omega) (by omega) hm.1 (by omega)
      omega
  have hc1 : -25 ≤ c := by omega
  have hc2 : c < 25 := by omega
  have HE := hid he
  clear he
  go_enter Tryd.func58, Tryd.ntmps58
  go_wp2
  go_ret
  exact ⟨by rw [← HE.out]; rfl, ((Below.refl _ w).alloc (Nat.le_refl _) _).alloc (by simp) _⟩

set_option maxRecDepth 100000 in
set_option maxHeartbeats 400000 in
theorem with_cells (cs : Array Value) (r c l m : Int) (p : Nat) (u : Value) (w : World) (hs : cs.size = 27) (h1 : cs[1]? = some (.int .i64 m)) (hp : p < 25) (he : r * m + c = p) (hr : 0 ≤ r ∧ r < 5) (hm : 0 ≤ m ∧ m ≤ 5) (ho : cs[2 + p]? = some u) (hone : cs.all (·.oneCell') = true) :
    Calls Tryd.prog 52 #[.agg cs, .agg #[.int .i64 r, .int .i64 c], .int .u8 l] w fun e w' => e = .returned (.agg (cs.setIfInBounds (2 + p) (.int .u8 l))) ∧ Below w.heap.size w w' := by
  have HC := hid (fun w' => cell_cells cs r c m p w' h1 hp he hr hm)
  have HS := hid hs
  clear hs he h1
  have hpi : (p : Int) < 25 := by omega
  have hp0 : 0 ≤ (p : Int) := by omega
  go_enter Tryd.func52, Tryd.ntmps52
  have hsz : (Tryd.prog.info? 39).map (·.size) = some (cs.setIfInBounds (2 + p) (.int .u8 l)).size := by rw [Tryd.size_grid]; simp [HS.out]
  have hone' : (cs.setIfInBounds (2 + p) (.int .u8 l)).all (·.oneCell') = true := one_set hone _ _ rfl
  have hsz' : zeroG.size = (cs.setIfInBounds (2 + p) (.int .u8 l)).size := by simp [HS.out]
  have H1 := hid hsz
  have H2 := hid hone'
  have H3 := hid hsz'
  clear hsz hone' hsz' hone
  have H0 := hid (show (Tryd.prog.info? 39).map (·.size) = some cs.size by rw [Tryd.size_grid, HS.out])
  go_wp2_with (refine wpList_load_row rfl 39 _ rfl w.heap.size rfl 39 cs (0, 0) _ (heap_new2 w _ _ _) Tryd.underlying39 rfl H0.out ?_)
  refine (HC.out _).mono ?_
  rintro e w1 ⟨rfl, hbel⟩
  have hg0 : w1.heap[w.heap.size]? = some (.cells cs 39 (0, 0)) := (hbel.block _ (by simp; omega)).trans (heap_new2 w _ _ _)
  have hg2 : w1.heap[w.heap.size + 1 + 1]? = some (.cells zeroG 39 (0, 0)) := (hbel.block _ (by simp)).trans (by simpa using heap_new0 ((w.alloc _).alloc _) _)
  have hcell : w1.cell? ⟨w.heap.size, 2 + p, none⟩ = some u := by rw [cell_of_row _ _ _ _ _ _ hg0]; exact ho
  have hfr : w1.frozen? ⟨w.heap.size, 2 + p, none⟩ = false := frozen_of_row _ _ _ _ _ hg0
  have B0 : Below w.heap.size w w1 := ((((Below.refl _ w).alloc (Nat.le_refl _) _).alloc (by simp) _).alloc (by simp; omega) _).trans (hbel.mono (by simp; omega))
  have G0 := hid hg0
  have G2 := hid hg2
  have GB := hid B0
  clear hbel hg0 hg2 B0
  have K0 := hid (heap_setCell_same _ _ (2 + p) _ _ (.int .u8 l) G0.out)
  have K2 := hid (show (w1.setCell ⟨w.heap.size, 2 + p, none⟩ (.int .u8 l)).heap[w.heap.size + 1 + 1]? = some (.cells zeroG 39 (0, 0)) by rw [Below.heap_setCell _ _ _ _ (by simp; omega)]; exact G2.out)
  go_wp2_with (first
    | refine wpList_load_row rfl 39 _ rfl w.heap.size rfl 39 (cs.setIfInBounds (2 + p) (.int .u8 l)) (0, 0) _ K0.out Tryd.underlying39 rfl H1.out ?_
    | refine wpList_store_row rfl 39 _ _ rfl (w.heap.size + 1 + 1) (cs.setIfInBounds (2 + p) (.int .u8 l)) rfl rfl 39 zeroG K2.out H1.out H3.out H2.out ?_)
  refine bodyPost_ret (results_cell_row Tryd.results52 _ _ (w.heap.size + 1 + 1) 39 _ (0, 0) _ (by rfl) (setRow_heap _ _ _ _ _ _ K2.out) Tryd.underlying39 rfl H1.out) rfl ⟨rfl, ?_⟩
  exact below_setRow' (GB.out.setCell (p := ⟨w.heap.size, 2 + p, none⟩) (Nat.le_refl _) _) (by omega) _

/-- with, said of a grid. -/
theorem with_any (n m : Nat) (ls : List UInt8) (r c : Int) (p : Nat) (b : UInt8) (w : World) (hl : ls.length = 25) (hp : p < 25) (he : r * m + c = p) (hr : 0 ≤ r ∧ r < 5) (hm : m ≤ 5) :
    Calls Tryd.prog 52 #[.agg (gcells n m ls), .agg #[.int .i64 r, .int .i64 c], .int .u8 b.toNat] w fun e w' => e = .returned (.agg (gcells n m (ls.set p b))) ∧ Below w.heap.size w w' := by
  rw [← gcells_set]
  exact with_cells (gcells n m ls) r c b.toNat m p (.int .u8 (ls[p]'(by omega)).toNat) w (gcells_size hl) (gcells_1 n m ls) hp he hr ⟨by omega, by omega⟩ (gcells_at (List.getElem?_eq_getElem (by omega))) (gcells_one n m ls)

set_option maxRecDepth 100000 in
set_option maxHeartbeats 400000 in
/-- at, said of a grid. -/
theorem at_any (n m : Nat) (ls : List UInt8) (r c : Int) (p : Nat) (b : UInt8) (w : World) (hl : ls.length = 25) (hp : p < 25) (he : r * m + c = p) (hr : 0 ≤ r ∧ r < 5) (hm : m ≤ 5) (hb : ls[p]? = some b) :
    Calls Tryd.prog 116 #[.agg (gcells n m ls), .agg #[.int .i64 r, .int .i64 c]] w fun e w' => e = .returned (.int .u8 b.toNat) ∧ Below w.heap.size w w' := by
  have HC := hid (fun w' => cell_cells (gcells n m ls) r c m p w' (gcells_1 n m ls) hp he hr ⟨by omega, by omega⟩)
  have h2 := gcells_at (n := n) (m := m) hb
  have hsz := gcells_size (n := n) (m := m) hl
  have hpi : (p : Int) < 25 := by omega
  have hp0 : 0 ≤ (p : Int) := by omega
  generalize gcells n m ls = cs at h2 hsz HC
  have H0 := hid (show (Tryd.prog.info? 39).map (·.size) = some cs.size by rw [Tryd.size_grid, hsz])
  obtain ⟨bv, hbv⟩ : ∃ bv : Int, (b.toNat : Int) = bv := ⟨_, rfl⟩
  rw [hbv] at h2 ⊢
  clear hbv hb hl hsz he
  have H2 := hid h2
  clear h2
  go_enter Tryd.func116, Tryd.ntmps116
  go_wp2_with (refine wpList_load_row rfl 39 _ rfl w.heap.size rfl 39 cs (0, 0) _ (heap_new1 w _ _) Tryd.underlying39 rfl H0.out ?_)
  refine (HC.out _).mono ?_
  rintro e w1 ⟨rfl, hbel⟩
  have hg0 : w1.heap[w.heap.size]? = some (.cells cs 39 (0, 0)) := (hbel.block _ (by simp; omega)).trans (heap_new1 w _ _)
  have hcell : w1.cell? ⟨w.heap.size, 2 + p, none⟩ = some (.int .u8 bv) := by rw [cell_of_row _ _ _ _ _ _ hg0]; exact H2.out
  have B0 := hid (show Below w.heap.size w w1 from (((Below.refl _ w).alloc (Nat.le_refl _) _).alloc (by simp) _).trans (hbel.mono (by simp; omega)))
  clear hbel hg0
  go_wp2
  go_ret
  exact ⟨rfl, B0.out⟩

section
variable {P : Program} {ops : Array Oper} {w : World}
/-- A whole struct out of its block, as a step of a region that draws its order and only reads. -/
theorem wpStill_load_row {Q : Act → Prop} {a : Act} {o : Oper} {rest : List Oper} (hgd : o.guard = none) (ty : TypeId) (x : Operand) (ho : o.op = .load ty x)
    (g : Nat) (hx : a.eval x = .pointer (some ⟨g, 0, none⟩)) (t : TypeId) (cs : Array Value) (fr : Nat × Nat) (d : TypeDesc) (hg : w.heap[g]? = some (.cells cs t fr))
    (hu : P.underlying ty = some d) (hd : (match d with | .struct _ | .array _ _ => true | _ => false) = true) (hi : (P.info? ty).map (·.size) = some cs.size)
    (h : wpStill P ops w Q rest (a.put o.dst (.agg cs))) : wpStill P ops w Q (o :: rest) a := by
  unfold wpStill
  have hw : Region.wanted o (yielded ops a.tmps) = true := by simp [Region.wanted, hgd]
  rw [if_pos hw]
  unfold Oper.still execOp
  simp only [ho, hx, Instr.loadAt, Instr.sureAddr, Sem.run_bind, Sem.run_pure, Result.andThen_ok, run_loadVar_row w g t ty cs fr d hg hu hd hi]
  rw [Oper.stillUpon_value]
  exact h
theorem results_row_tmp {fn : Func} {p u : Tmp} {ty : TypeId} (h : fn.results = #[.cell p ty, .tmp u]) (tmps : Array Value) (g : Nat) (t : TypeId) (cs : Array Value) (fr : Nat × Nat) (d : TypeDesc)
    (hp : tmps.getD p undef = .pointer (some ⟨g, 0, none⟩)) (hg : w.heap[g]? = some (.cells cs t fr))
    (hu : P.underlying ty = some d) (hd : (match d with | .struct _ | .array _ _ => true | _ => false) = true) (hi : (P.info? ty).map (·.size) = some cs.size) :
    (results fn tmps).run P w = .ok (.tuple #[.agg cs, tmps.getD u undef]) w := by
  rw [results_cell_tmp h, hp]
  simp [asAddr, run_loadVar_row w g t ty cs fr d hg hu hd hi, Result.andThen]
end

end Go.Proofs.YtongjijkdjagdaaDoor

/- A region that draws its order inside a fence that lets every function in: its first n operations only read, or call what leaves a world of one class and hands back one value; the rest stands in one forced order. One walk in the order of the text serves every order. No program is named. -/
namespace Go.Proofs.YtongjijkdjagdaaDoor
open Go Go.RowKit

section
variable {F : Fence} {m : Nat} {P : Program} {ops : Array Oper} {md : Region.Mode} {C : World → Prop}

/-- A fence that lets every function in, to any depth: the wide one, and the wide one in a round. -/
structure Open (F : Fence) (P : Program) : Prop where
  fn : ∀ f, F.fn f
  depth : F.depth = none
  calls : ∀ {k : Nat} {f : FuncId} {args : Array Value} {w : World} {R : Ending → World → Prop}, Calls P f args w R → CallsIn F k P f args w R
theorem Open.wide (P : Program) : Open Fence.wide P := ⟨fun _ => trivial, rfl, fun h => callsIn_wide.2 h⟩
theorem Open.round (P : Program) (l : Nat) : Open (Fence.wide.inRound l) P := ⟨fun _ => trivial, rfl, fun h => CallsIn.inRound l (callsIn_wide.2 h)⟩

/-- No deferred call among the operations. -/
def noDefer (ops : Array Oper) : Bool := ops.all fun o => match o.op with | .defer _ => false | _ => true
theorem noDefer_spec (h : noDefer ops = true) {i : Nat} {o : Oper} (ho : ops[i]? = some o) (c) : o.op ≠ .defer c := by
  intro e
  have h1 := (Array.all_eq_true_iff_forall_mem.1 h) o (Array.mem_of_getElem? ho)
  rw [e] at h1
  cases h1

theorem wpOpIn_of_q (hO : Open F P) (hnd : noDefer ops = true) {i : Nat} {a : Act} {K : Act → Prop} {K' : Act → World → Prop} {Q' : Exit → Act → World → Prop} {w : World} (hC : C w)
    (h : ∀ a w', C w' → K a → K' a w') (hh : qOp P ops C i K a) : wpOpIn F m P ops Q' i K' a w := by
  unfold qOp at hh
  unfold wpOpIn
  cases ho : ops[i]? with
  | none => simp only [ho] at hh; exact h _ _ hC hh
  | some o =>
    simp only [ho] at hh ⊢
    by_cases hw : Region.wanted o (yielded ops a.tmps) = true
    · rw [if_pos hw] at hh ⊢
      obtain ⟨v, h1, h2⟩ := hh
      have h3 := h1 w hC
      unfold Oper.quietAt at h3
      unfold Oper.wpIn
      refine ⟨fun f _ => hO.fn f, ?_⟩
      rw [Oper.semAt_eq _ _ _ (noDefer_spec hnd ho)]
      generalize (execOp a.eval o).run P w = r at *
      cases r with
      | ok n w' =>
        cases n <;> simp only [Oper.quietUpon] at h3
        case value u =>
          obtain ⟨e1, e2⟩ := h3
          rw [Oper.uponIn_value, e1, e2]
          exact h _ _ hC h2
        case skip =>
          obtain ⟨e1, e2⟩ := h3
          rw [Oper.uponIn_skip, e1, ← e2]
          exact h _ _ hC h2
        case enter f args =>
          obtain ⟨e1, hc⟩ := h3
          rw [Oper.uponIn_enter, e1]
          refine ⟨fun hd => (by rw [hO.depth] at hd; cases hd), hO.calls (hc.mono fun e w'' ⟨he, hw''⟩ => ?_)⟩
          subst he
          exact h _ _ hw'' h2
      | halt x w' => simp only [Oper.quietUpon] at h3
    · rw [if_neg hw] at hh ⊢
      exact ⟨fun f _ => hO.fn f, h _ _ hC hh⟩

/-- Whatever order is picked from here on, till f operations more have come; only the first n come up. -/
def anyQL (P : Program) (md : Region.Mode) (ops : Array Oper) (C : World → Prop) (n : Nat) (L : Array Bool → Act → Prop) : Nat → Array Bool → Act → Prop
  | 0, listed, a => L listed a
  | f + 1, listed, a =>
    Region.ready md ops listed ≠ [] ∧ ∀ i ∈ Region.ready md ops listed, i < n ∧ qOp P ops C i (anyQL P md ops C n L f (listed.setIfInBounds i true)) a

theorem anyIn_of_head (hO : Open F P) (hnd : noDefer ops = true) {n g : Nat} {L : Array Bool → Act → Prop} {Q' : Exit → Act → World → Prop} (hL : ∀ listed a w, C w → L listed a → wpAnyIn F m P md ops Q' g listed a w) :
    ∀ (f : Nat) (listed : Array Bool) (a : Act) (w : World), C w → anyQL P md ops C n L f listed a → wpAnyIn F m P md ops Q' (f + g) listed a w
  | 0, listed, a, w, hw, h => by rw [Nat.zero_add]; exact hL _ _ _ hw h
  | f + 1, listed, a, w, hw, h => by
    rw [show f + 1 + g = (f + g) + 1 by omega]
    exact ⟨fun h0 => absurd h0 h.1, fun i hi => wpOpIn_of_q hO hnd hw (fun a' w' hw' h' => anyIn_of_head hO hnd hL f _ a' w' hw' h') (h.2 i hi).2⟩

theorem anyQL_first {n i : Nat} {oi : Oper} {v : Value} {L : Array Bool → Act → Prop} (hi : ops[i]? = some oi) (hsel : ∀ (j : Nat) (o : Oper) cs b, ops[j]? = some o → o.op ≠ .select cs b)
    (hs : Region.sinkB md ops n = true) (hc : Region.chainB md ops n = true) (hn : n < ops.size) (hin : i < n)
    (hdone : ∀ listed a, L listed a → ∀ j ∈ Region.ready md ops listed, n ≤ j) :
    ∀ (f : Nat) (listed : Array Bool) (a : Act), HeadInv md ops n listed →
      (∀ j oj, ops[j]? = some oj → j ≠ i → listed.getD j true = false → (∀ e ∈ oj.after, Region.binds md e = true → e.on ≠ i) → oi.apart ops oj = true) →
      i ∈ Region.ready md ops listed → YieldsIn P ops C oi v a →
      anyQL P md ops C n L f (listed.setIfInBounds i true) (a.put oi.dst v) → anyQL P md ops C n L (f + 1) listed a := by
  intro f
  induction f with
  | zero =>
    intro listed a inv _ hr hy H
    have hun := (mem_ready.1 hr).1
    refine ⟨fun h => (by rw [h] at hr; cases hr), fun j hj => ?_⟩
    have hjn : j < n := Nat.lt_of_not_le fun h => tail_waits hs hc hn inv _ i rfl hin hun j h hj
    refine ⟨hjn, ?_⟩
    by_cases hji : j = i
    · subst hji; exact hy.qOp hi H
    · have := hdone _ _ H j (ready_mono hj hji)
      omega
  | succ f ih =>
    intro listed a inv hfree hr hy H
    have hun := (mem_ready.1 hr).1
    refine ⟨fun h => (by rw [h] at hr; cases hr), fun j hj => ?_⟩
    have hjn : j < n := Nat.lt_of_not_le fun h => tail_waits hs hc hn inv _ i rfl hin hun j h hj
    refine ⟨hjn, ?_⟩
    by_cases hji : j = i
    · subst hji; exact hy.qOp hi H
    · have h1 := (H.2 j (ready_mono hj hji)).2
      obtain ⟨hjun, oj, hoj, hall⟩ := mem_ready.1 hj
      have hnot : ∀ e ∈ oj.after, Region.binds md e = true → e.on ≠ i := fun e he hb heq => by
        have h1 := hall e he hb
        rw [heq, getD_both hun] at h1
        cases h1
      have h2 := qOp_put hoj (hfree j oj hoj hji hjun hnot) (fun cs b => hsel i oi cs b hi) (fun cs b => hsel j oj cs b hoj) hy h1
      have hfree' : ∀ k ok, ops[k]? = some ok → k ≠ i → (listed.setIfInBounds j true).getD k true = false →
          (∀ e ∈ ok.after, Region.binds md e = true → e.on ≠ i) → oi.apart ops ok = true := fun k ok hk hki hun hno => by
        refine hfree k ok hk hki ?_ hno
        by_cases hjk : j = k
        · subst hjk; exact hjun
        · rw [getD_set_ne true hjk] at hun; exact hun
      refine qOp_mono (fun a' h3 => ih (listed.setIfInBounds j true) a' (inv.set hj hjn) hfree' (ready_mono hr (Ne.symm hji)) h3.1 ?_) h2
      rw [Array.setIfInBounds_comm _ _ hji]
      exact h3.2

theorem anyQL_lex {n g : Nat} {Lq : Act → Prop} (hsel : Region.noSelect ops = true) (hs : Region.sinkB md ops n = true) (hc : Region.chainB md ops n = true) (hn : n < ops.size) :
    ∀ (l : List Oper) (k : Nat) (listed : Array Bool) (a : Act), (∀ j, j < l.length → l[j]? = ops[k + j]?) → k + l.length = n → HeadInv md ops n listed →
    Region.lexHead md ops g l.length k listed = true → wpQuiet P ops C Lq l a →
    anyQL P md ops C n (fun listed' a' => Region.seqB md ops g n listed' = true ∧ Lq a') l.length listed a
  | [], k, listed, a, _, hk, _, hB, h => by
    have : k = n := by simpa using hk
    subst this
    exact ⟨by simpa [Region.lexHead] using hB, h⟩
  | o :: l, k, listed, a, hl, hk, inv, hB, h => by
    have h0 : ops[k]? = some o := by simpa using (hl 0 (by simp)).symm
    simp only [List.length_cons, Region.lexHead, Bool.and_eq_true] at hB
    obtain ⟨⟨hr, hf⟩, hB'⟩ := hB
    have hkn : k < n := by simp only [List.length_cons] at hk; omega
    have hr' : k ∈ Region.ready md ops listed := by simpa using hr
    have hst : qOp P ops C k (wpQuiet P ops C Lq l) a := by unfold qOp; simp only [h0]; exact h
    obtain ⟨v, hy, hK⟩ := yieldsIn_of_qOp h0 hst
    exact anyQL_first h0 (Region.noSelect_spec hsel) hs hc hn hkn (fun listed' a' hL => seqB_ready hL.1) l.length listed a inv (Region.free_spec h0 hf) hr' hy
      (anyQL_lex hsel hs hc hn l (k + 1) _ _ (fun j hj => by have := hl (j + 1) (by simp; omega); simpa [Nat.add_assoc, Nat.add_comm 1 j] using this) (by simp only [List.length_cons] at hk; omega) (inv.set hr' hkn) hB' hK)

theorem anyIn_of_seq {Q' : Exit → Act → World → Prop} : ∀ (l : List Oper) (k : Nat) (listed : Array Bool) (a : Act) (w : World), (∀ j, l[j]? = ops[k + j]?) →
    Region.seqB md ops l.length k listed = true → wpListIn F m P ops Q' l a w → wpAnyIn F m P md ops Q' l.length listed a w
  | [], _, _, _, _, _, hB, h => ⟨by simpa [Region.seqB] using hB, h⟩
  | o :: l, k, listed, a, w, hl, hB, h => by
    have h0 : ops[k]? = some o := by simpa using (hl 0).symm
    simp only [List.length_cons, Region.seqB, Bool.and_eq_true, decide_eq_true_eq] at hB
    refine ⟨fun h1 => (by rw [hB.1] at h1; cases h1), fun i hi => ?_⟩
    rw [hB.1] at hi
    have hik : i = k := by simpa using hi
    subst hik
    have hw : wpOpIn F m P ops Q' i (wpListIn F m P ops Q' l) a w := by unfold wpOpIn; simp only [h0]; exact h
    exact wpOpIn_mono (fun a' w' h' => anyIn_of_seq l (i + 1) _ a' w' (fun j => by have := hl (j + 1); simpa [Nat.add_assoc, Nat.add_comm 1 j] using this) hB.2 h') hw

/-- The law. -/
theorem wpIn_region_quiet_tail (hO : Open F P) {id : Nat} {Q : Exit → Act → World → Prop} {a : Act} {w : World} {l : List Oper} (n : Nat) (C : World → Prop) (hm : P.follows .mixedOrders = true) (hB : (Region.lexTailB .any l.toArray n && noDefer l.toArray) = true) (hC : C w.drew)
    (h : wpQuiet P l.toArray C (fun a' => ∀ w', C w' → wpListIn F m P l.toArray Q (l.drop n) a' w') (l.take n) a) : (Code.region id l.toArray true).wpIn F m P Q a w := by
  simp only [Region.lexTailB, Bool.and_eq_true, decide_eq_true_eq] at hB
  obtain ⟨⟨⟨⟨⟨hsel, hn⟩, hs⟩, hc⟩, hlex⟩, hnd⟩ := hB
  have hn' : n < l.length := by simpa using hn
  have htl : (l.take n).length = n := by simp; omega
  have hdl : (l.drop n).length = l.toArray.size - n := by simp
  have inv0 : HeadInv .any l.toArray n (Array.replicate l.toArray.size false) :=
    ⟨by simp, fun j oj _ hl => (by rw [getD_replicate_false] at hl; cases hl), fun t _ ht => getD_in (by simpa using ht) (getD_replicate_false _ _)⟩
  have H := anyQL_lex (md := .any) (C := C) (g := l.toArray.size - n) hsel hs hc hn (l.take n) 0 _ a (fun j hj => by
    have hj' : j < n := by rw [htl] at hj; exact hj
    simp [hj']) (by simpa using htl) inv0 (by rw [htl]; exact hlex) h
  refine wpIn_region_any hm ?_
  have := anyIn_of_head hO hnd (m := m) (Q' := Q) (g := l.toArray.size - n) (fun listed a' w' hw' hL => by
    have := anyIn_of_seq (md := .any) (F := F) (m := m) (P := P) (Q' := Q) (l.drop n) n listed a' w' (fun j => by simp [List.getElem?_drop]) (by rw [hdl]; exact hL.1) (hL.2 w' hw')
    rwa [hdl] at this) _ _ _ _ hC H
  rw [htl, show n + (l.toArray.size - n) = l.toArray.size by omega] at this
  exact this
end

section
variable {P : Program} {ops : Array Oper} {C : World → Prop} {Q : Act → Prop} {a : Act} {o : Oper} {rest : List Oper}
/-- A whole struct out of its block, in every world of the class. -/
theorem wpQuiet_load_row (hgd : o.guard = none) (ty : TypeId) (x : Operand) (ho : o.op = .load ty x)
    (g : Nat) (hx : a.eval x = .pointer (some ⟨g, 0, none⟩)) (t : TypeId) (cs : Array Value) (fr : Nat × Nat) (d : TypeDesc) (hg : ∀ w, C w → w.heap[g]? = some (.cells cs t fr))
    (hu : P.underlying ty = some d) (hd : (match d with | .struct _ | .array _ _ => true | _ => false) = true) (hi : (P.info? ty).map (·.size) = some cs.size)
    (h : wpQuiet P ops C Q rest (a.put o.dst (.agg cs))) : wpQuiet P ops C Q (o :: rest) a := by
  unfold wpQuiet
  have hw : Region.wanted o (yielded ops a.tmps) = true := by simp [Region.wanted, hgd]
  rw [if_pos hw]
  refine ⟨.agg cs, fun w hC => ?_, h⟩
  unfold Oper.quietAt execOp
  simp only [ho, hx, Instr.loadAt, Instr.sureAddr, Sem.run_bind, Sem.run_pure, Result.andThen_ok, run_loadVar_row w g t ty cs fr d (hg w hC) hu hd hi]
  exact ⟨rfl, rfl⟩
/-- An operation that, in every world of the class, yields one value and leaves the world. -/
theorem wpQuiet_value (hgd : o.guard = none) (v : Value) (hv : ∀ w, C w → (execOp a.eval o).run P w = .ok (.value v) w) (h : wpQuiet P ops C Q rest (a.put o.dst v)) : wpQuiet P ops C Q (o :: rest) a := by
  unfold wpQuiet
  have hw : Region.wanted o (yielded ops a.tmps) = true := by simp [Region.wanted, hgd]
  rw [if_pos hw]
  refine ⟨v, fun w hC => ?_, h⟩
  unfold Oper.quietAt
  rw [hv w hC]
  exact ⟨rfl, rfl⟩
/-- A call that, in every world of the class, hands back one value and leaves a world of the class. -/
theorem wpQuiet_call (hgd : o.guard = none) (f : FuncId) (args : Array Value) (v : Value) (hv : ∀ w, C w → (execOp a.eval o).run P w = .ok (.enter f args) w) (hc : ∀ w, C w → Calls P f args w fun e w' => e = .returned v ∧ C w')
    (h : wpQuiet P ops C Q rest (a.put o.dst v)) : wpQuiet P ops C Q (o :: rest) a := by
  unfold wpQuiet
  have hw : Region.wanted o (yielded ops a.tmps) = true := by simp [Region.wanted, hgd]
  rw [if_pos hw]
  refine ⟨v, fun w hC => ?_, h⟩
  unfold Oper.quietAt
  rw [hv w hC]
  exact ⟨rfl, hc w hC⟩
end

section
variable {F : Fence} {m : Nat} {P : Program} {ops : Array Oper} {Q : Exit → Act → World → Prop} {a : Act} {w : World} {rest : List Oper} {o : Oper}
/-- A whole struct out of its block, in a fence. -/
theorem wpListIn_load_row (hO : Open F P) (hgd : o.guard = none) (ty : TypeId) (x : Operand) (ho : o.op = .load ty x)
    (g : Nat) (hx : a.eval x = .pointer (some ⟨g, 0, none⟩)) (t : TypeId) (cs : Array Value) (fr : Nat × Nat) (d : TypeDesc) (hg : w.heap[g]? = some (.cells cs t fr))
    (hu : P.underlying ty = some d) (hd : (match d with | .struct _ | .array _ _ => true | _ => false) = true) (hi : (P.info? ty).map (·.size) = some cs.size)
    (h : wpListIn F m P ops Q rest (a.put o.dst (.agg cs)) w) : wpListIn F m P ops Q (o :: rest) a w := by
  unfold wpListIn
  have hw : Region.wanted o (yielded ops a.tmps) = true := by simp [Region.wanted, hgd]
  rw [if_pos hw]
  refine ⟨fun f _ => hO.fn f, ?_⟩
  rw [Oper.semAt_eq _ _ _ (fun c e => by rw [ho] at e; cases e)]
  unfold execOp
  simp only [ho, hx, Instr.loadAt, Instr.sureAddr, Sem.run_bind, Sem.run_pure, Result.andThen_ok, run_loadVar_row w g t ty cs fr d hg hu hd hi]
  rw [Oper.uponIn_value]
  exact h
/-- A whole struct into its block, in a fence. -/
theorem wpListIn_store_row (hO : Open F P) (hgd : o.guard = none) (ty : TypeId) (x y : Operand) (ho : o.op = .store ty x y)
    (g : Nat) (cells : Array Value) (hx : a.eval x = .pointer (some ⟨g, 0, none⟩)) (hy : a.eval y = .agg cells)
    (t : TypeId) (old : Array Value) (hg : w.heap[g]? = some (.cells old t (0, 0))) (hi : (P.info? ty).map (·.size) = some cells.size)
    (hold : old.size = cells.size) (h1 : cells.all (·.oneCell') = true)
    (h : wpListIn F m P ops Q rest (a.put o.dst undef) (w.setRow g cells)) : wpListIn F m P ops Q (o :: rest) a w := by
  unfold wpListIn
  have hw : Region.wanted o (yielded ops a.tmps) = true := by simp [Region.wanted, hgd]
  rw [if_pos hw]
  refine ⟨fun f _ => hO.fn f, ?_⟩
  rw [Oper.semAt_eq _ _ _ (fun c e => by rw [ho] at e; cases e)]
  unfold execOp
  simp only [ho, hx, hy, Instr.storeAt, Instr.sureAddr, Sem.run_bind, Sem.run_pure, Result.andThen_ok, run_storeVar_row w g t ty old cells hg hi hold h1]
  rw [Oper.uponIn_skip]
  exact h
end

end Go.Proofs.YtongjijkdjagdaaDoor

/- A region that draws its order inside a fence: one invariant over what has been done serves every order. No program is named. -/
namespace Go.Proofs.YtongjijkdjagdaaDoor
open Go Go.RowKit

section
variable {F : Fence} {m : Nat} {P : Program} {ops : Array Oper} {md : Region.Mode} {Q : Exit → Act → World → Prop}

/-- Every operation waits for earlier ones alone. -/
def backB (ops : Array Oper) : Bool := (List.range ops.size).all fun i => match ops[i]? with | none => true | some o => o.after.all fun e => decide (e.on < i)
theorem backB_spec (h : backB ops = true) {i : Nat} {o : Oper} (ho : ops[i]? = some o) {e} (he : e ∈ o.after) : e.on < i := by
  have hi := (Array.getElem?_eq_some_iff.1 ho).1
  have h1 := List.all_eq_true.1 h i (List.mem_range.2 hi)
  simp only [ho] at h1
  exact of_decide_eq_true ((Array.all_eq_true_iff_forall_mem.1 h1) e he)
theorem all_listed (hB : backB ops = true) {listed : Array Bool} (hs : listed.size = ops.size) (hr : Region.ready md ops listed = []) : ∀ i, i < ops.size → listed.getD i true = true := by
  intro i
  induction i using Nat.strongRecOn with
  | _ i ih =>
    intro hi
    cases h : listed.getD i true with
    | true => rfl
    | false =>
      have hm : i ∈ Region.ready md ops listed := mem_ready.2 ⟨h, ops[i], Array.getElem?_eq_getElem hi, fun e he _ => by
        have hlt := backB_spec hB (Array.getElem?_eq_getElem hi) he
        have h1 := ih e.on hlt (by omega)
        rw [Array.getD_eq_getD_getElem?, Array.getElem?_eq_getElem (by omega)] at h1 ⊢
        exact h1⟩
      rw [hr] at hm
      cases hm
/-- How many operations are still to come. -/
def leftN (listed : Array Bool) : Nat := listed.toList.count false
theorem leftN_set {listed : Array Bool} {i : Nat} (h : listed.getD i true = false) : leftN (listed.setIfInBounds i true) + 1 = leftN listed := by
  have hi : i < listed.size := by
    refine Nat.lt_of_not_le fun hle => ?_
    rw [Array.getD_eq_getD_getElem?, Array.getElem?_eq_none hle] at h
    cases h
  have he : listed.toList[i]'(by simpa using hi) = false := by
    rw [Array.getD_eq_getD_getElem?, Array.getElem?_eq_getElem hi] at h
    simpa using h
  unfold leftN
  rw [Array.toList_setIfInBounds, List.count_set (by simpa using hi), he]
  have hp : 0 < listed.toList.count false := List.count_pos_iff.2 (by rw [← he]; exact List.getElem_mem _)
  show listed.toList.count false - 1 + 0 + 1 = listed.toList.count false
  omega
theorem wpAnyIn_inv {Inv : Array Bool → Act → World → Prop}
    (hstep : ∀ listed a w i, Inv listed a w → i ∈ Region.ready md ops listed → wpOpIn F m P ops Q i (fun a' w' => Inv (listed.setIfInBounds i true) a' w') a w)
    (hdone : ∀ listed a w, Inv listed a w → Region.ready md ops listed = [] → Q .normal a w) :
    ∀ (f : Nat) (listed : Array Bool) (a : Act) (w : World), leftN listed ≤ f → Inv listed a w → wpAnyIn F m P md ops Q f listed a w
  | 0, listed, a, w, hl, h => by
    have hr : Region.ready md ops listed = [] := List.eq_nil_iff_forall_not_mem.2 fun i hi => by
      have := leftN_set (mem_ready.1 hi).1
      omega
    exact ⟨hr, hdone listed a w h hr⟩
  | f + 1, listed, a, w, hl, h => ⟨hdone listed a w h, fun i hi => wpOpIn_mono (fun a' w' h' => wpAnyIn_inv hstep hdone f _ a' w' (by have := leftN_set (mem_ready.1 hi).1; omega) h') (hstep listed a w i h hi)⟩

/-- The law. -/
theorem wpIn_region_inv {id : Nat} {l : List Oper} {a : Act} {w : World} (hm : P.follows .mixedOrders = true) (hB : backB l.toArray = true) (Inv : Array Bool → Act → World → Prop)
    (h0 : Inv (Array.replicate l.toArray.size false) a w.drew) (hsz : ∀ listed a w, Inv listed a w → listed.size = l.toArray.size)
    (hstep : ∀ listed a w i, Inv listed a w → i ∈ Region.ready .any l.toArray listed → wpOpIn F m P l.toArray Q i (fun a' w' => Inv (listed.setIfInBounds i true) a' w') a w)
    (hdone : ∀ listed a w, Inv listed a w → (∀ i, i < l.toArray.size → listed.getD i true = true) → Q .normal a w) : (Code.region id l.toArray true).wpIn F m P Q a w := by
  refine wpIn_region_any hm ?_
  refine wpAnyIn_inv hstep (fun listed a w h hr => hdone listed a w h (all_listed hB (hsz _ _ _ h) hr)) _ _ _ _ ?_ h0
  unfold leftN
  refine Nat.le_trans List.count_le_length ?_
  simp

theorem wpOpIn_val (hO : Open F P) {i : Nat} {o : Oper} (hi : ops[i]? = some o) (hg : o.guard = none) (hd : ∀ c, o.op ≠ .defer c) {u : Value} {a : Act} {w w' : World} {K : Act → World → Prop}
    (hr : (execOp a.eval o).run P w = .ok (.value u) w') (h : K (a.put o.dst u) w') : wpOpIn F m P ops Q i K a w := by
  unfold wpOpIn
  simp only [hi]
  rw [if_pos (by simp [Region.wanted, hg])]
  unfold Oper.wpIn
  refine ⟨fun f _ => hO.fn f, ?_⟩
  rw [Oper.semAt_eq _ _ _ hd, hr, Oper.uponIn_value]
  exact h
theorem wpOpIn_skip (hO : Open F P) {i : Nat} {o : Oper} (hi : ops[i]? = some o) (hg : o.guard = none) (hd : ∀ c, o.op ≠ .defer c) {a : Act} {w w' : World} {K : Act → World → Prop}
    (hr : (execOp a.eval o).run P w = .ok .skip w') (h : K (a.put o.dst undef) w') : wpOpIn F m P ops Q i K a w := by
  unfold wpOpIn
  simp only [hi]
  rw [if_pos (by simp [Region.wanted, hg])]
  unfold Oper.wpIn
  refine ⟨fun f _ => hO.fn f, ?_⟩
  rw [Oper.semAt_eq _ _ _ hd, hr, Oper.uponIn_skip]
  exact h
theorem wpOpIn_call (hO : Open F P) {i : Nat} {o : Oper} (hi : ops[i]? = some o) (hg : o.guard = none) (hd : ∀ c, o.op ≠ .defer c) {f : FuncId} {args : Array Value} {v : Value} {R : World → Prop} {a : Act} {w : World} {K : Act → World → Prop}
    (hr : (execOp a.eval o).run P w = .ok (.enter f args) w) (hc : Calls P f args w fun e w' => e = .returned v ∧ R w') (h : ∀ w', R w' → K (a.put o.dst v) w') : wpOpIn F m P ops Q i K a w := by
  unfold wpOpIn
  simp only [hi]
  rw [if_pos (by simp [Region.wanted, hg])]
  unfold Oper.wpIn
  refine ⟨fun f _ => hO.fn f, ?_⟩
  rw [Oper.semAt_eq _ _ _ hd, hr]
  simp only [Oper.uponIn]
  refine ⟨?_, ?_⟩
  · first | rfl | trivial | exact hO.depth | simp [hO.depth]
  · refine (hO.calls hc).mono fun e w' he => ?_
    obtain ⟨rfl, hw⟩ := he
    exact h w' hw
end

/- The same outside of a fence, and where what an operation hands back is told by a relation of its own: R i v w says what stands of operation i's value v in the world w. -/
section
variable {P : Program} {ops : Array Oper} {md : Region.Mode} {Q : Exit → Act → World → Prop}
theorem wpAny_inv {Inv : Array Bool → Act → World → Prop}
    (hstep : ∀ listed a w i, Inv listed a w → i ∈ Region.ready md ops listed → wpOp P ops Q i (fun a' w' => Inv (listed.setIfInBounds i true) a' w') a w)
    (hdone : ∀ listed a w, Inv listed a w → Region.ready md ops listed = [] → Q .normal a w) :
    ∀ (f : Nat) (listed : Array Bool) (a : Act) (w : World), leftN listed ≤ f → Inv listed a w → wpAny P md ops Q f listed a w
  | 0, listed, a, w, hl, h => by
    have hr : Region.ready md ops listed = [] := List.eq_nil_iff_forall_not_mem.2 fun i hi => by
      have := leftN_set (mem_ready.1 hi).1
      omega
    exact ⟨hr, hdone listed a w h hr⟩
  | f + 1, listed, a, w, hl, h => ⟨hdone listed a w h, fun i hi => wpOp_mono (fun a' w' h' => wpAny_inv hstep hdone f _ a' w' (by have := leftN_set (mem_ready.1 hi).1; omega) h') (hstep listed a w i h hi)⟩

/-- What an operation comes to, by its relation. -/
def RelQ (ops : Array Oper) (i : Nat) (R : Value → World → Prop) (a : Act) (w : World) (a' : Act) (w' : World) : Prop :=
  ∃ v, a' = a.put ((ops[i]?).bind (·.dst)) v ∧ R v w' ∧ Below w.heap.size w w'

theorem wp_region_rel {id : Nat} {l : List Oper} {a : Act} {w : World} (hm : P.follows .mixedOrders = true) (hB : backB l.toArray = true) (n : Nat) (hn : l.toArray.size = n)
    (fill : (Nat → Value) → Act) (us0 : Nat → Value) (ha : a = fill us0) (R : Nat → Value → World → Prop)
    (hstab : ∀ i v W W', R i v W → Below W.heap.size W W' → R i v W')
    (hput : ∀ i us v, i < n → (fill us).put ((l.toArray[i]?).bind (·.dst)) v = fill (fun k => if k = i then v else us k))
    (hstep : ∀ i us W, i < n → Below w.heap.size w W → (∀ o, l.toArray[i]? = some o → ∀ e ∈ o.after, Region.binds .any e = true → R e.on (us e.on) W) → wpOp P l.toArray Q i (RelQ l.toArray i (R i) (fill us) W) (fill us) W)
    (hdone : ∀ us W, Below w.heap.size w W → (∀ i, i < n → R i (us i) W) → Q .normal (fill us) W) : (Code.region id l.toArray true).wp P Q a w := by
  refine wp_region_any hm ?_
  refine wpAny_inv (Inv := fun listed a W => listed.size = n ∧ ∃ us, a = fill us ∧ Below w.heap.size w W ∧ ∀ i, i < n → listed.getD i true = true → R i (us i) W) ?_ ?_ _ _ _ _ ?_ ?_
  · rintro listed a' W i ⟨hls, us, rfl, hb, hr⟩ hi
    obtain ⟨hun, o, ho, hall⟩ := mem_ready.1 hi
    have hin : i < n := by rw [← hn]; exact (Array.getElem?_eq_some_iff.1 ho).1
    refine wpOp_mono ?_ (hstep i us W hin hb fun o' ho' e he hbd => ?_)
    · rintro a'' W' ⟨v, rfl, hv, hb'⟩
      refine ⟨by simpa using hls, _, hput i us v hin, hb.trans (hb'.mono hb.size), fun k hk hl => ?_⟩
      by_cases hki : k = i
      · rw [if_pos hki, hki]
        exact hv
      · rw [if_neg hki]
        refine hstab _ _ _ _ (hr k hk ?_) hb'
        rw [Array.getD_eq_getD_getElem?, Array.getElem?_setIfInBounds_ne (fun e => hki e.symm)] at hl
        rwa [Array.getD_eq_getD_getElem?]
    · rw [ho] at ho'
      cases ho'
      have hlt := backB_spec hB ho he
      have h1 := hall e he hbd
      refine hr e.on (Nat.lt_trans hlt hin) ?_
      rw [Array.getD_eq_getD_getElem?, Array.getElem?_eq_getElem (by omega)] at h1 ⊢
      exact h1
  · rintro listed a' W ⟨hls, us, rfl, hb, hr⟩ hrd
    exact hdone us W hb fun i hi => hr i hi (all_listed hB (by rw [hls, hn]) hrd i (by omega))
  · unfold leftN
    refine Nat.le_trans List.count_le_length ?_
    simp
  · refine ⟨by simpa using hn, us0, ha, (Below.refl _ w).drew, fun i hi hl => ?_⟩
    have hin : i < l.length := by have : l.toArray.size = l.length := by simp
                                  omega
    rw [Array.getD_eq_getD_getElem?, Array.getElem?_replicate] at hl
    simp [hin] at hl

theorem wpOp_val {i : Nat} {o : Oper} (hi : ops[i]? = some o) (hg : o.guard = none) {u : Value} {a : Act} {w : World} {R : Value → World → Prop}
    (hr : (execOp a.eval o).run P w = .ok (.value u) w) (h : R u w) : wpOp P ops Q i (RelQ ops i R a w) a w := by
  unfold wpOp
  simp only [hi]
  rw [if_pos (by simp [Region.wanted, hg])]
  refine .inl ?_
  unfold Oper.wp
  rw [hr]
  simp only [Oper.upon]
  exact ⟨u, by rw [hi]; rfl, h, Below.refl _ _⟩
theorem wpOp_call {i : Nat} {o : Oper} (hi : ops[i]? = some o) (hg : o.guard = none) {f : FuncId} {args : Array Value} {a : Act} {w : World} {R : Value → World → Prop}
    (hr : (execOp a.eval o).run P w = .ok (.enter f args) w) (hc : Calls P f args w fun e w' => ∃ v, e = .returned v ∧ R v w' ∧ Below w.heap.size w w') : wpOp P ops Q i (RelQ ops i R a w) a w := by
  unfold wpOp
  simp only [hi]
  rw [if_pos (by simp [Region.wanted, hg])]
  refine .inl ?_
  unfold Oper.wp
  rw [hr]
  simp only [Oper.upon]
  refine hc.mono fun e w' he => ?_
  obtain ⟨v, rfl, h1, h2⟩ := he
  exact ⟨v, by rw [hi]; rfl, h1, h2⟩
end

theorem exec_load_row {P : Program} {o : Oper} {a : Act} {w : World} (ty : TypeId) (x : Operand) (ho : o.op = .load ty x)
    (g : Nat) (hx : a.eval x = .pointer (some ⟨g, 0, none⟩)) (t : TypeId) (cs : Array Value) (fr : Nat × Nat) (d : TypeDesc) (hg : w.heap[g]? = some (.cells cs t fr))
    (hu : P.underlying ty = some d) (hd : (match d with | .struct _ | .array _ _ => true | _ => false) = true) (hi : (P.info? ty).map (·.size) = some cs.size) : (execOp a.eval o).run P w = .ok (.value (.agg cs)) w := by
  unfold execOp
  simp only [ho, hx, Instr.loadAt, Instr.sureAddr, Sem.run_bind, Sem.run_pure, Result.andThen_ok, run_loadVar_row w g t ty cs fr d hg hu hd hi]

end Go.Proofs.YtongjijkdjagdaaDoor

/- The law of relations (XAnyInv) for a region whose last operations stand in one forced order behind all others. No program is named. -/
namespace Go.Proofs.YtongjijkdjagdaaDoor
open Go Go.RowKit

def tailArr (n g : Nat) : Array Bool := (List.replicate n true ++ List.replicate g false).toArray
def relTailB (ops : Array Oper) (n : Nat) : Bool :=
  backB ops && Region.sinkB .any ops n && Region.chainB .any ops n && decide (n < ops.size) && Region.seqB .any ops (ops.size - n) n (tailArr n (ops.size - n))

section
variable {P : Program} {Q : Exit → Act → World → Prop}
theorem head_left {n : Nat} {ops : Array Oper} {listed : Array Bool} (inv : HeadInv .any ops n listed) (hn : n < ops.size) {f : Nat} (h : (listed.toList.take n).count false = f + 1) : ∃ i, i < n ∧ listed.getD i true = false := by
  have h1 : false ∈ listed.toList.take n := List.count_pos_iff.1 (by omega)
  obtain ⟨i, hi, e⟩ := List.getElem_of_mem h1
  have hs := inv.size
  have hi' : i < n := by simp at hi; omega
  refine ⟨i, hi', ?_⟩
  rw [List.getElem_take] at e
  rw [Array.getD_eq_getD_getElem?, Array.getElem?_eq_getElem (by omega)]
  simpa using e
theorem head_set {n i : Nat} {listed : Array Bool} {f : Nat} (hi : i < n) (hs : n < listed.size) (hu : listed.getD i true = false) (h : (listed.toList.take n).count false = f + 1) : ((listed.setIfInBounds i true).toList.take n).count false = f := by
  have hil : i < listed.size := by omega
  rw [Array.getD_eq_getD_getElem?, Array.getElem?_eq_getElem hil] at hu
  have hu' : listed[i] = false := by simpa using hu
  rw [Array.toList_setIfInBounds, List.take_set, List.count_set (by simp; omega)]
  have e : (listed.toList.take n)[i]'(by simp; omega) = false := by rw [List.getElem_take]; simpa using hu'
  rw [e]
  simp
  omega
theorem head_full {n : Nat} {ops : Array Oper} {listed : Array Bool} (inv : HeadInv .any ops n listed) (hn : n < ops.size) (h : (listed.toList.take n).count false = 0) : listed = tailArr n (ops.size - n) := by
  have hs := inv.size
  refine Array.ext' ?_
  unfold tailArr
  rw [← List.take_append_drop n listed.toList]
  congr 1
  · refine List.eq_replicate_iff.2 ⟨by simp; omega, fun b hb => ?_⟩
    cases b with
    | true => rfl
    | false => exact absurd hb (List.count_eq_zero.1 h)
  · refine List.eq_replicate_iff.2 ⟨by simp; omega, fun b hb => ?_⟩
    obtain ⟨j, hj, e⟩ := List.getElem_of_mem hb
    rw [List.getElem_drop] at e
    have hj' : n + j < ops.size := by simp at hj; omega
    have h1 := inv.tail (n + j) (by omega) hj'
    rw [Array.getD_eq_getD_getElem?, Array.getElem?_eq_getElem (by omega)] at h1
    rw [← e]
    simpa using h1

theorem wp_region_rel_tail {id : Nat} {l : List Oper} {a : Act} {w : World} (hm : P.follows .mixedOrders = true) (n : Nat) (hB : relTailB l.toArray n = true)
    (fill : (Nat → Value) → Act) (us0 : Nat → Value) (ha : a = fill us0) (R : Nat → Value → World → Prop)
    (hstab : ∀ i v W W', R i v W → Below W.heap.size W W' → R i v W')
    (hput : ∀ i us v, i < n → (fill us).put ((l.toArray[i]?).bind (·.dst)) v = fill (fun k => if k = i then v else us k))
    (hstep : ∀ i us W, i < n → Below w.heap.size w W → (∀ o, l.toArray[i]? = some o → ∀ e ∈ o.after, Region.binds .any e = true → R e.on (us e.on) W) → wpOp P l.toArray Q i (RelQ l.toArray i (R i) (fill us) W) (fill us) W)
    (hdone : ∀ us W, Below w.heap.size w W → (∀ i, i < n → R i (us i) W) → wpList P l.toArray Q (l.drop n) (fill us) W) : (Code.region id l.toArray true).wp P Q a w := by
  unfold relTailB at hB
  simp only [Bool.and_eq_true, decide_eq_true_eq] at hB
  obtain ⟨⟨⟨⟨hbk, hs⟩, hc⟩, hn⟩, hseq⟩ := hB
  have hnl : n < l.length := by simpa using hn
  have hdl : (l.drop n).length = l.toArray.size - n := by simp
  have key : ∀ (f : Nat) (listed : Array Bool) (a' : Act) (W : World), HeadInv .any l.toArray n listed → (listed.toList.take n).count false = f →
      (∃ us, a' = fill us ∧ Below w.heap.size w W ∧ ∀ i, i < n → listed.getD i true = true → R i (us i) W) → wpAny P .any l.toArray Q (f + (l.toArray.size - n)) listed a' W := by
    intro f
    induction f with
    | zero =>
      rintro listed a' W inv hf ⟨us, rfl, hb, hr⟩
      obtain rfl := head_full inv hn hf
      rw [Nat.zero_add, ← hdl]
      refine wpAny_of_seq (l.drop n) n _ _ _ (fun j => by simp [List.getElem?_drop]) (by rw [hdl]; exact hseq) (hdone us W hb fun i hi => hr i hi ?_)
      unfold tailArr
      rw [Array.getD_eq_getD_getElem?, List.getElem?_toArray, List.getElem?_append_left (by simpa using hi), List.getElem?_replicate]
      simp [hi]
    | succ f ih =>
      rintro listed a' W inv hf ⟨us, rfl, hb, hr⟩
      obtain ⟨i0, hi0, hu0⟩ := head_left inv hn hf
      rw [show f + 1 + (l.toArray.size - n) = (f + (l.toArray.size - n)) + 1 by omega]
      refine ⟨fun h0 => ?_, fun i hi => ?_⟩
      · have := all_listed hbk inv.size h0 i0 (by omega)
        rw [hu0] at this
        cases this
      · have hin : i < n := Nat.lt_of_not_le fun h => tail_waits hs hc hn inv _ i0 rfl hi0 hu0 i h hi
        obtain ⟨hun, o, ho, hall⟩ := mem_ready.1 hi
        refine wpOp_mono ?_ (hstep i us W hin hb fun o' ho' e he hbd => ?_)
        · rintro a'' W' ⟨v, rfl, hv, hb'⟩
          refine ih _ _ _ (inv.set hi hin) (head_set hin (by rw [inv.size]; exact hn) hun hf) ⟨_, hput i us v hin, hb.trans (hb'.mono hb.size), fun k hk hl => ?_⟩
          by_cases hki : k = i
          · rw [if_pos hki, hki]
            exact hv
          · rw [if_neg hki]
            refine hstab _ _ _ _ (hr k hk ?_) hb'
            rw [Array.getD_eq_getD_getElem?, Array.getElem?_setIfInBounds_ne (fun e => hki e.symm)] at hl
            rwa [Array.getD_eq_getD_getElem?]
        · rw [ho] at ho'
          cases ho'
          have hlt := backB_spec hbk ho he
          have h1 := hall e he hbd
          refine hr e.on (Nat.lt_trans hlt hin) ?_
          rw [Array.getD_eq_getD_getElem?, Array.getElem?_eq_getElem (by have := inv.size; omega)] at h1 ⊢
          exact h1
  refine wp_region_any hm ?_
  have inv0 : HeadInv .any l.toArray n (Array.replicate l.toArray.size false) :=
    ⟨by simp, fun j oj _ hl => (by rw [getD_replicate_false] at hl; cases hl), fun t _ ht => getD_in (by simpa using ht) (getD_replicate_false _ _)⟩
  have H := key n _ a w.drew inv0 (by rw [Array.toList_replicate, List.take_replicate, List.count_replicate_self]; omega) ⟨us0, ha, (Below.refl _ w).drew, fun i hi hl => by
    rw [getD_in (by simp; omega) (getD_replicate_false _ _)] at hl
    cases hl⟩
  rw [show n + (l.toArray.size - n) = l.toArray.size by omega] at H
  exact H
end

end Go.Proofs.YtongjijkdjagdaaDoor

/- The law of relations (XAnyInv) where the operations also write: each moves the world by a relation T of one's own. No program is named. -/
namespace Go.Proofs.YtongjijkdjagdaaDoor
open Go Go.RowKit

/-- Every operation waits for earlier ones alone, of those that it must wait for. -/
def backB2 (ops : Array Oper) : Bool := (List.range ops.size).all fun i => match ops[i]? with | none => true | some o => o.after.all fun e => !Region.binds .any e || decide (e.on < i)
theorem backB2_spec {ops : Array Oper} (h : backB2 ops = true) {i : Nat} {o : Oper} (ho : ops[i]? = some o) {e} (he : e ∈ o.after) (hb : Region.binds .any e = true) : e.on < i := by
  have hi := (Array.getElem?_eq_some_iff.1 ho).1
  have h1 := List.all_eq_true.1 h i (List.mem_range.2 hi)
  simp only [ho] at h1
  have h2 := (Array.all_eq_true_iff_forall_mem.1 h1) e he
  rw [hb] at h2
  simpa using h2
theorem all_listed2 {ops : Array Oper} (hB : backB2 ops = true) {listed : Array Bool} (hs : listed.size = ops.size) (hr : Region.ready .any ops listed = []) : ∀ i, i < ops.size → listed.getD i true = true := by
  intro i
  induction i using Nat.strongRecOn with
  | _ i ih =>
    intro hi
    cases h : listed.getD i true with
    | true => rfl
    | false =>
      have hm : i ∈ Region.ready .any ops listed := mem_ready.2 ⟨h, ops[i], Array.getElem?_eq_getElem hi, fun e he hbd => by
        have hlt := backB2_spec hB (Array.getElem?_eq_getElem hi) he hbd
        have h1 := ih e.on hlt (by omega)
        rw [Array.getD_eq_getD_getElem?, Array.getElem?_eq_getElem (by omega)] at h1 ⊢
        exact h1⟩
      rw [hr] at hm
      cases hm

section
variable {P : Program} {ops : Array Oper} {Q : Exit → Act → World → Prop}
/-- What an operation comes to, by its relation. -/
def RelQT (T : World → World → Prop) (ops : Array Oper) (i : Nat) (R : Value → World → Prop) (a : Act) (w : World) (a' : Act) (w' : World) : Prop :=
  ∃ v, a' = a.put ((ops[i]?).bind (·.dst)) v ∧ R v w' ∧ T w w'

theorem wp_region_relT {id : Nat} {l : List Oper} {a : Act} {w : World} (hm : P.follows .mixedOrders = true) (hB : backB2 l.toArray = true) (n : Nat) (hn : l.toArray.size = n)
    (T : World → World → Prop) (htr : ∀ {x y z}, T x y → T y z → T x z) (h0 : T w w.drew)
    (fill : (Nat → Value) → Act) (us0 : Nat → Value) (ha : a = fill us0) (R : Nat → Value → World → Prop)
    (hstab : ∀ i v W W', R i v W → T W W' → R i v W')
    (hput : ∀ i us v, i < n → (fill us).put ((l.toArray[i]?).bind (·.dst)) v = fill (fun k => if k = i then v else us k))
    (hstep : ∀ i us W, i < n → T w W → (∀ o, l.toArray[i]? = some o → ∀ e ∈ o.after, Region.binds .any e = true → R e.on (us e.on) W) → wpOp P l.toArray Q i (RelQT T l.toArray i (R i) (fill us) W) (fill us) W)
    (hdone : ∀ us W, T w W → (∀ i, i < n → R i (us i) W) → Q .normal (fill us) W) : (Code.region id l.toArray true).wp P Q a w := by
  refine wp_region_any hm ?_
  refine wpAny_inv (Inv := fun listed a W => listed.size = n ∧ ∃ us, a = fill us ∧ T w W ∧ ∀ i, i < n → listed.getD i true = true → R i (us i) W) ?_ ?_ _ _ _ _ ?_ ?_
  · rintro listed a' W i ⟨hls, us, rfl, hb, hr⟩ hi
    obtain ⟨hun, o, ho, hall⟩ := mem_ready.1 hi
    have hin : i < n := by rw [← hn]; exact (Array.getElem?_eq_some_iff.1 ho).1
    refine wpOp_mono ?_ (hstep i us W hin hb fun o' ho' e he hbd => ?_)
    · rintro a'' W' ⟨v, rfl, hv, hb'⟩
      refine ⟨by simpa using hls, _, hput i us v hin, htr hb hb', fun k hk hl => ?_⟩
      by_cases hki : k = i
      · rw [if_pos hki, hki]
        exact hv
      · rw [if_neg hki]
        refine hstab _ _ _ _ (hr k hk ?_) hb'
        rw [Array.getD_eq_getD_getElem?, Array.getElem?_setIfInBounds_ne (fun e => hki e.symm)] at hl
        rwa [Array.getD_eq_getD_getElem?]
    · rw [ho] at ho'
      cases ho'
      have hlt := backB2_spec hB ho he hbd
      have h1 := hall e he hbd
      refine hr e.on (Nat.lt_trans hlt hin) ?_
      rw [Array.getD_eq_getD_getElem?, Array.getElem?_eq_getElem (by omega)] at h1 ⊢
      exact h1
  · rintro listed a' W ⟨hls, us, rfl, hb, hr⟩ hrd
    exact hdone us W hb fun i hi => hr i hi (all_listed2 hB (by rw [hls, hn]) hrd i (by omega))
  · unfold leftN
    refine Nat.le_trans List.count_le_length ?_
    simp
  · refine ⟨by simpa using hn, us0, ha, h0, fun i hi hl => ?_⟩
    have hin : i < l.length := by have : l.toArray.size = l.length := by simp
                                  omega
    rw [Array.getD_eq_getD_getElem?, Array.getElem?_replicate] at hl
    simp [hin] at hl

/-- The law of relations where an edge that does not bind leads forwards. -/
theorem wp_region_rel2 {id : Nat} {l : List Oper} {a : Act} {w : World} (hm : P.follows .mixedOrders = true) (hB : backB2 l.toArray = true) (n : Nat) (hn : l.toArray.size = n)
    (fill : (Nat → Value) → Act) (us0 : Nat → Value) (ha : a = fill us0) (R : Nat → Value → World → Prop)
    (hstab : ∀ i v W W', R i v W → Below W.heap.size W W' → R i v W')
    (hput : ∀ i us v, i < n → (fill us).put ((l.toArray[i]?).bind (·.dst)) v = fill (fun k => if k = i then v else us k))
    (hstep : ∀ i us W, i < n → Below w.heap.size w W → (∀ o, l.toArray[i]? = some o → ∀ e ∈ o.after, Region.binds .any e = true → R e.on (us e.on) W) → wpOp P l.toArray Q i (RelQ l.toArray i (R i) (fill us) W) (fill us) W)
    (hdone : ∀ us W, Below w.heap.size w W → (∀ i, i < n → R i (us i) W) → Q .normal (fill us) W) : (Code.region id l.toArray true).wp P Q a w :=
  wp_region_relT hm hB n hn (fun x y => Below x.heap.size x y) (fun h k => h.trans (k.mono h.size)) (Below.refl _ w).drew fill us0 ha R hstab hput hstep hdone

theorem wpOp_valT {T : World → World → Prop} {i : Nat} {o : Oper} (hi : ops[i]? = some o) (hg : o.guard = none) {u : Value} {a : Act} {w w' : World} {R : Value → World → Prop}
    (hr : (execOp a.eval o).run P w = .ok (.value u) w') (h : R u w') (ht : T w w') : wpOp P ops Q i (RelQT T ops i R a w) a w := by
  unfold wpOp
  simp only [hi]
  rw [if_pos (by simp [Region.wanted, hg])]
  refine .inl ?_
  unfold Oper.wp
  rw [hr]
  simp only [Oper.upon]
  exact ⟨u, by rw [hi]; rfl, h, ht⟩
theorem wpOp_skipT {T : World → World → Prop} {i : Nat} {o : Oper} (hi : ops[i]? = some o) (hg : o.guard = none) {a : Act} {w w' : World} {R : Value → World → Prop}
    (hr : (execOp a.eval o).run P w = .ok .skip w') (h : R undef w') (ht : T w w') : wpOp P ops Q i (RelQT T ops i R a w) a w := by
  unfold wpOp
  simp only [hi]
  rw [if_pos (by simp [Region.wanted, hg])]
  refine .inl ?_
  unfold Oper.wp
  rw [hr]
  simp only [Oper.upon]
  exact ⟨undef, by rw [hi]; rfl, h, ht⟩
theorem wpOp_callT {T : World → World → Prop} {i : Nat} {o : Oper} (hi : ops[i]? = some o) (hg : o.guard = none) {f : FuncId} {args : Array Value} {a : Act} {w : World} {R : Value → World → Prop}
    (hr : (execOp a.eval o).run P w = .ok (.enter f args) w) (hc : Calls P f args w fun e w' => ∃ v, e = .returned v ∧ R v w' ∧ T w w') : wpOp P ops Q i (RelQT T ops i R a w) a w := by
  unfold wpOp
  simp only [hi]
  rw [if_pos (by simp [Region.wanted, hg])]
  refine .inl ?_
  unfold Oper.wp
  rw [hr]
  simp only [Oper.upon]
  refine hc.mono fun e w' he => ?_
  obtain ⟨v, rfl, h1, h2⟩ := he
  exact ⟨v, by rw [hi]; rfl, h1, h2⟩
/-- A whole struct into its block, as one operation. -/
theorem exec_store_row {a : Act} {o : Oper} {w : World} (ty : TypeId) (x y : Operand) (ho : o.op = .store ty x y)
    (g : Nat) (cells : Array Value) (hx : a.eval x = .pointer (some ⟨g, 0, none⟩)) (hy : a.eval y = .agg cells)
    (t : TypeId) (old : Array Value) (hg : w.heap[g]? = some (.cells old t (0, 0))) (hi : (P.info? ty).map (·.size) = some cells.size)
    (hold : old.size = cells.size) (h1 : cells.all (·.oneCell') = true) : (execOp a.eval o).run P w = .ok .skip (w.setRow g cells) := by
  unfold execOp
  simp only [ho, hx, hy, Instr.storeAt, Instr.sureAddr, Sem.run_bind, Sem.run_pure, Result.andThen_ok, run_storeVar_row w g t ty old cells hg hi hold h1]
end

/-- Two blocks of the call's own, each as it was or filled; all else as it was. -/
def Fill2 (a b : Nat) (z0 z1 c0 c1 : Obj) (w w' : World) : Prop :=
  (w'.os = w.os ∧ w'.tape = w.tape ∧ w'.output = w.output ∧ w.heap.size ≤ w'.heap.size) ∧ (∀ k, k < w.heap.size → k ≠ a → k ≠ b → w'.heap[k]? = w.heap[k]?) ∧
  (w.heap[a]? = some z0 → w'.heap[a]? = some z0 ∨ w'.heap[a]? = some c0) ∧ (w.heap[a]? = some c0 → w'.heap[a]? = some c0) ∧
  (w.heap[b]? = some z1 → w'.heap[b]? = some z1 ∨ w'.heap[b]? = some c1) ∧ (w.heap[b]? = some c1 → w'.heap[b]? = some c1)
theorem Fill2.trans {a b : Nat} {z0 z1 c0 c1 : Obj} {x y z : World} (h : Fill2 a b z0 z1 c0 c1 x y) (k : Fill2 a b z0 z1 c0 c1 y z) : Fill2 a b z0 z1 c0 c1 x z := by
  obtain ⟨⟨a1, a2, a3, a4⟩, a5, a6, a7, a8, a9⟩ := h
  obtain ⟨⟨b1, b2, b3, b4⟩, b5, b6, b7, b8, b9⟩ := k
  refine ⟨⟨b1.trans a1, b2.trans a2, b3.trans a3, Nat.le_trans a4 b4⟩, fun k hk h1 h2 => (b5 k (Nat.lt_of_lt_of_le hk a4) h1 h2).trans (a5 k hk h1 h2), fun h => ?_, fun h => b7 (a7 h), fun h => ?_, fun h => b9 (a9 h)⟩
  · rcases a6 h with h | h
    · exact b6 h
    · exact .inr (b7 h)
  · rcases a8 h with h | h
    · exact b8 h
    · exact .inr (b9 h)
theorem Fill2.below {a b : Nat} {z0 z1 c0 c1 : Obj} {w w' : World} {B : Nat} {w0 : World} (h : Fill2 a b z0 z1 c0 c1 w w') (hb : Below B w0 w) (hB : B ≤ w.heap.size) (ha : B ≤ a) (hb2 : B ≤ b) : Below B w0 w' := by
  obtain ⟨⟨a1, a2, a3, a4⟩, a5, _⟩ := h
  exact ⟨a1.trans hb.os, a2.trans hb.tape, a3.trans hb.output, Nat.le_trans hb.size a4, fun k hk => (a5 k (Nat.lt_of_lt_of_le hk hB) (by omega) (by omega)).trans (hb.block k hk)⟩
theorem Fill2.of_below {a b : Nat} {z0 z1 c0 c1 : Obj} {w w' : World} (h : Below w.heap.size w w') (ha : a < w.heap.size) (hb : b < w.heap.size) : Fill2 a b z0 z1 c0 c1 w w' :=
  ⟨⟨h.os, h.tape, h.output, h.size⟩, fun k hk _ _ => h.block k hk, fun e => .inl ((h.block a ha).trans e), fun e => (h.block a ha).trans e, fun e => .inl ((h.block b hb).trans e), fun e => (h.block b hb).trans e⟩
theorem Fill2.set0 {a b : Nat} {t : TypeId} {z c : Array Value} {z1 c1 : Obj} {w : World} (h : w.heap[a]? = some (.cells z t (0, 0)) ∨ w.heap[a]? = some (.cells c t (0, 0))) (hab : a ≠ b) : Fill2 a b (.cells z t (0, 0)) z1 (.cells c t (0, 0)) c1 w (w.setRow a c) := by
  have h2 : (w.setRow a c).heap[a]? = some (.cells c t (0, 0)) := by rcases h with h | h <;> exact setRow_heap _ _ _ _ _ _ h
  exact ⟨⟨rfl, rfl, rfl, by simp⟩, fun k _ h1 _ => setRow_other _ _ _ _ h1, fun _ => .inr h2, fun _ => h2, fun e => .inl (by rw [setRow_other _ _ _ _ hab.symm]; exact e), fun e => by rw [setRow_other _ _ _ _ hab.symm]; exact e⟩
theorem Fill2.set1 {a b : Nat} {t : TypeId} {z c : Array Value} {z0 c0 : Obj} {w : World} (h : w.heap[b]? = some (.cells z t (0, 0)) ∨ w.heap[b]? = some (.cells c t (0, 0))) (hab : a ≠ b) : Fill2 a b z0 (.cells z t (0, 0)) c0 (.cells c t (0, 0)) w (w.setRow b c) := by
  have h2 : (w.setRow b c).heap[b]? = some (.cells c t (0, 0)) := by rcases h with h | h <;> exact setRow_heap _ _ _ _ _ _ h
  exact ⟨⟨rfl, rfl, rfl, by simp⟩, fun k _ _ h1 => setRow_other _ _ _ _ h1, fun e => .inl (by rw [setRow_other _ _ _ _ hab]; exact e), fun e => by rw [setRow_other _ _ _ _ hab]; exact e, fun _ => .inr h2, fun _ => h2⟩

end Go.Proofs.YtongjijkdjagdaaDoor

/- A region that draws its order and holds guarded operations: quiet steps. No program is named. -/
namespace Go.Proofs.YtongjijkdjagdaaDoor
open Go Go.RowKit

section
variable {P : Program} {ops : Array Oper} {C : World → Prop} {Q : Act → Prop} {a : Act} {o : Oper} {rest : List Oper}
theorem wpQuiet_skipW (hw : Region.wanted o (yielded ops a.tmps) = false) (h : wpQuiet P ops C Q rest (a.put o.dst undef)) : wpQuiet P ops C Q (o :: rest) a := by
  unfold wpQuiet
  rw [hw]
  exact h
theorem wpQuiet_load_rowW (hw : Region.wanted o (yielded ops a.tmps) = true) (ty : TypeId) (x : Operand) (ho : o.op = .load ty x)
    (g : Nat) (hx : a.eval x = .pointer (some ⟨g, 0, none⟩)) (t : TypeId) (cs : Array Value) (fr : Nat × Nat) (d : TypeDesc) (hg : ∀ w, C w → w.heap[g]? = some (.cells cs t fr))
    (hu : P.underlying ty = some d) (hd : (match d with | .struct _ | .array _ _ => true | _ => false) = true) (hi : (P.info? ty).map (·.size) = some cs.size)
    (h : wpQuiet P ops C Q rest (a.put o.dst (.agg cs))) : wpQuiet P ops C Q (o :: rest) a := by
  unfold wpQuiet
  rw [if_pos hw]
  refine ⟨.agg cs, fun w hC => ?_, h⟩
  unfold Oper.quietAt execOp
  simp only [ho, hx, Instr.loadAt, Instr.sureAddr, Sem.run_bind, Sem.run_pure, Result.andThen_ok, run_loadVar_row w g t ty cs fr d (hg w hC) hu hd hi]
  exact ⟨rfl, rfl⟩
theorem wpQuiet_valueW (hw : Region.wanted o (yielded ops a.tmps) = true) (v : Value) (hv : ∀ w, C w → (execOp a.eval o).run P w = .ok (.value v) w) (h : wpQuiet P ops C Q rest (a.put o.dst v)) : wpQuiet P ops C Q (o :: rest) a := by
  unfold wpQuiet
  rw [if_pos hw]
  refine ⟨v, fun w hC => ?_, h⟩
  unfold Oper.quietAt
  rw [hv w hC]
  exact ⟨rfl, rfl⟩
theorem wpQuiet_callW (hw : Region.wanted o (yielded ops a.tmps) = true) (f : FuncId) (args : Array Value) (v : Value) (hv : ∀ w, C w → (execOp a.eval o).run P w = .ok (.enter f args) w) (hc : ∀ w, C w → Calls P f args w fun e w' => e = .returned v ∧ C w')
    (h : wpQuiet P ops C Q rest (a.put o.dst v)) : wpQuiet P ops C Q (o :: rest) a := by
  unfold wpQuiet
  rw [if_pos hw]
  refine ⟨v, fun w hC => ?_, h⟩
  unfold Oper.quietAt
  rw [hv w hC]
  exact ⟨rfl, hc w hC⟩
end

end Go.Proofs.YtongjijkdjagdaaDoor

/- spec.GridIn, by its contract. -/
namespace Go.Proofs.YtongjijkdjagdaaDoor
open Go.RowKit

theorem l6In_any (n lo hi : Int) (w : World) :
    Calls Tryd.prog 43 #[.int .i64 n, .int .i64 lo, .int .i64 hi] w fun e w' => e = .returned (.bool (decide (lo ≤ n ∧ n ≤ hi))) ∧ w = w' := by
  by_cases h1 : lo ≤ n
  · by_cases h2 : n ≤ hi
    · have e : decide (lo ≤ n ∧ n ≤ hi) = true := by simp; omega
      rw [e]
      go_enter Tryd.func43, Tryd.ntmps43
      go_wp2
      go_ret
      exact ⟨rfl, rfl⟩
    · have e : decide (lo ≤ n ∧ n ≤ hi) = false := by simp; omega
      rw [e]
      go_enter Tryd.func43, Tryd.ntmps43
      go_wp2
      go_ret
      exact ⟨rfl, rfl⟩
  · have e : decide (lo ≤ n ∧ n ≤ hi) = false := by simp; omega
    rw [e]
    go_enter Tryd.func43, Tryd.ntmps43
    go_wp2
    go_ret
    exact ⟨rfl, rfl⟩

theorem byte_beq (b c : UInt8) : ((b.toNat : Int) == (c.toNat : Int)) = (b == c) := by
  by_cases h : b = c
  · subst h; simp
  · have h' : b.toNat ≠ c.toNat := fun e => h (UInt8.toNat_inj.1 e)
    rw [beq_eq_false_iff_ne.2 h, beq_eq_false_iff_ne]; omega

theorem l1Letter_any (b : UInt8) (w : World) :
    Calls Tryd.prog 44 #[.int .u8 b.toNat] w fun e w' => e = .returned (.bool (isLet b)) ∧ w = w' := by
  have e1 := byte_beq b 46
  have e2 := byte_beq b 114
  have e3 := byte_beq b 102
  unfold isLet
  rw [← e1, ← e2, ← e3]
  clear e1 e2 e3
  change Calls Tryd.prog 44 #[.int .u8 b.toNat] w fun e w' => e = .returned (.bool ((b.toNat : Int) == 46 || (b.toNat : Int) == 114 || (b.toNat : Int) == 102)) ∧ w = w'
  generalize (b.toNat : Int) = x
  by_cases h1 : (x == 46) = true
  · rw [h1]
    go_enter Tryd.func44, Tryd.ntmps44
    go_wp2
    go_ret
    exact ⟨rfl, rfl⟩
  have h1' : (x == 46) = false := by simpa using h1
  by_cases h2 : (x == 114) = true
  · rw [h1', h2]
    go_enter Tryd.func44, Tryd.ntmps44
    go_wp2
    go_ret
    exact ⟨rfl, rfl⟩
  have h2' : (x == 114) = false := by simpa using h2
  rw [h1', h2']
  go_enter Tryd.func44, Tryd.ntmps44
  go_wp2
  go_ret
  exact ⟨rfl, rfl⟩

theorem quiet_l {P : Program} {f : FuncId} {args : Array Value} {w : World} {n : Nat} {v : Value}
    (h : Calls P f args (w.drewN n) fun e w' => e = .returned v ∧ w.drewN n = w') : Calls P f args (w.drewN n) fun e w'' => e = .returned v ∧ ∃ m, w'' = w.drewN m :=
  h.mono fun _ _ ⟨he, hm⟩ => ⟨he, n, hm.symm⟩
theorem quiet_al {P : Program} {f : FuncId} {args : Array Value} {w : World} {a n : Nat} {v : Value}
    (h : Calls P f args (w.drewN (a + n)) fun e w' => e = .returned v ∧ w.drewN (a + n) = w') : Calls P f args (w.drewN (a + n)) fun e w'' => e = .returned v ∧ ∃ m, w'' = w.drewN (a + m) :=
  h.mono fun _ _ ⟨he, hm⟩ => ⟨he, n, hm.symm⟩

/-- What GridIn of the specification comes to. -/
def InEnd (ss : List ByteArray) (w : World) (e : Ending) (w' : World) : Prop :=
  ∃ ok : Bool, e = .returned (.bool ok) ∧ (ok = true ↔ ∃ n m, IsGrid n m ss) ∧ ∃ d, w' = w.drewN d
theorem InEnd.no {ss : List ByteArray} {w : World} (h : NoGrid ss) (d : Nat) : InEnd ss w (.returned (.bool false)) (w.drewN d) :=
  ⟨false, rfl, by simp; exact h, d, rfl⟩
def SOut (ss : List ByteArray) (m : Nat) (w : World) (i : Value) (wr : World) : Prop :=
  ∃ r : Nat, r ≤ ss.length ∧ i = .int .i64 r ∧ (∃ d, wr = w.drewN d) ∧ ∀ (j : Nat) (t : ByteArray), j < r → ss[j]? = some t → rowOk m t ∧ 1 ≤ m ∧ m ≤ 5
def SIn (s : ByteArray) (m : Nat) (w : World) (i : Value) (wr : World) : Prop :=
  ∃ c : Nat, c ≤ m ∧ i = .int .i64 c ∧ (∃ d, wr = w.drewN d) ∧ ∀ (j : Nat) (b : UInt8), j < c → s.data.toList[j]? = some b → isLet b = true

set_option maxRecDepth 100000 in
set_option maxHeartbeats 1000000 in
theorem specGridIn_core (b off c B m : Nat) (s0 : ByteArray) (ss : List ByteArray) (w : World) (h : Strs w B (some ⟨b, off, none⟩) ss) (h1 : 0 < ss.length) (hm0 : s0.size = m) (hk0 : ss[0]? = some s0) (hn : ss.length ≤ 1048576) (hs : ∀ s ∈ ss, s.size ≤ 1048576)
    (hc0 : w.cell? ⟨b, off, none⟩ = some (.string s0)) :
    Calls Tryd.prog 23 #[.slice (some ⟨b, off, none⟩) ss.length c] w (InEnd ss w) := by
  have hm1 : m ≤ 1048576 := by rw [← hm0]; exact hs s0 (List.mem_of_getElem? hk0)
  have HK := hid hk0
  have HH := hid h
  have HS := hid hs
  have HM0 := hid hm0
  have hl0 : (0 : Int) < (ss.length : Int) := by omega
  clear hk0 h hs hm0
  go_enter Tryd.func23, Tryd.ntmps23
  go_wp2_with fail
  go_loopw [3] (SOut ss m w) (fun i _ => ss.length - (intOf i).toNat)
  case atStart => exact ⟨0, Nat.zero_le _, rfl, ⟨0, rfl⟩, fun j t hj => absurd hj (by omega)⟩
  case round =>
    obtain ⟨r, hr, rfl, ⟨d, rfl⟩, hrows⟩ := hrel
    have HR := hid hrows
    clear hrows
    by_cases hlt : r < ss.length
    · obtain ⟨b', off', s, hA, hb', hks, hc⟩ := HH.out.at_ hlt
      obtain ⟨rfl, rfl⟩ : b = b' ∧ off = off' := by cases hA; exact ⟨rfl, rfl⟩
      have hssz := HS.out s (List.mem_of_getElem? hks)
      have HKs := hid hks
      have hri : (r : Int) < (ss.length : Int) := by omega
      have hri0 : (0 : Int) ≤ (r : Int) := by omega
      have hmi : ((s0.size : Nat) : Int) = m := by rw [HM0.out]
      clear hks hA
      by_cases hsm : s.size = m
      · have hsm' : ((s.size : Int) != (m : Int)) = false := by simp [hsm]
        have HM := hid hsm
        have hlin := hid (l6In_any (s.size : Int) 1 5)
        by_cases h15 : 1 ≤ m ∧ m ≤ 5
        · have d1 : decide (1 ≤ (s.size : Int) ∧ (s.size : Int) ≤ 5) = true := by simp; omega
          rw [d1] at hlin
          clear hsm d1
          go_wp2_with fail
          go_quiet ((go_at_call 43; exact quiet_al (hlin.out _)))
          go_wp2_with fail
          go_loopw [4] (SIn s m w) (fun i _ => m - (intOf i).toNat)
          case atStart => exact ⟨0, Nat.zero_le _, rfl, ⟨d + nq, by rw [World.drewN_drewN]⟩, fun j t hj => absurd hj (by omega)⟩
          case round =>
            obtain ⟨k, hk, rfl, ⟨d2, rfl⟩, hlet⟩ := hrel
            have HL := hid hlet
            clear hlet
            by_cases hlk : k < m
            · have hks : k < s.size := by rw [HM.out]; exact hlk
              obtain ⟨bt, hbt⟩ : ∃ bt, s.data.toList[k]? = some bt := ⟨_, List.getElem?_eq_getElem (by rw [← Lib.size_eq]; exact hks)⟩
              have hbyte : s[k] = bt := byte_of hbt hks
              have gl := hid (l1Letter_any bt)
              have HB := hid hbt
              clear hbt
              cases hlb : isLet bt with
              | false =>
                rw [hlb] at gl
                have HF := hid hlb
                clear hlb
                go_wp2_with fail
                refine (gl.out _).mono ?_
                rintro e w' ⟨rfl, rfl⟩
                go_wp2
                go_ret
                exact InEnd.no (noGrid_letter HKs.out HB.out HF.out) _
              | true =>
                rw [hlb] at gl
                have HF := hid hlb
                clear hlb
                go_wp2_with fail
                refine (gl.out _).mono ?_
                rintro e w' ⟨rfl, rfl⟩
                go_wp2
                go_roundw
                case rel => exact ⟨k + 1, by omega, by go_num, ⟨d2, rfl⟩, fun j b hj hb => by
                  by_cases hjk : j < k
                  · exact HL.out j b hjk hb
                  · obtain rfl : j = k := by omega
                    rw [HB.out] at hb; cases hb; exact HF.out⟩
                case measure => simp [intOf]; omega
            · obtain rfl : k = m := by omega
              have hks : ¬ k < s.size := by rw [HM.out]; omega
              have hki : decide ((k : Int) < (s.size : Int)) = false := by simp; omega
              go_wp2
              go_roundw
              case rel => exact ⟨r + 1, by omega, by go_num, ⟨d2, rfl⟩, fun j t hj ht => by
                by_cases hjr : j < r
                · exact HR.out j t hjr ht
                · obtain rfl : j = r := by omega
                  rw [HKs.out] at ht; cases ht
                  exact ⟨⟨HM.out, fun b hb => by
                    obtain ⟨i, hi, rfl⟩ := List.mem_iff_getElem.1 hb
                    exact HL.out i _ (by rw [← HM.out, Lib.size_eq]; exact hi) (List.getElem?_eq_getElem hi)⟩, h15⟩⟩
              case measure => simp [intOf]; omega
        · have d1 : decide (1 ≤ (s.size : Int) ∧ (s.size : Int) ≤ 5) = false := by simp; omega
          rw [d1] at hlin
          have HN := hid (noGrid_first HK.out (by rw [HM0.out]; exact h15))
          clear hsm d1
          go_wp2_with fail
          go_quiet ((go_at_call 43; exact quiet_al (hlin.out _)))
          go_wp2
          go_ret
          exact World.drewN_drewN w d nq ▸ InEnd.no HN.out _
      · have hsm' : ((s.size : Int) != (m : Int)) = true := by simp; omega
        have HN := hid (noGrid_size HK.out HKs.out (by rw [HM0.out]; exact hsm))
        clear hsm
        go_wp2_with fail
        go_quiet (fail)
        go_wp2
        go_ret
        exact World.drewN_drewN w d nq ▸ InEnd.no HN.out _
    · obtain rfl : r = ss.length := by omega
      have hlin := hid (l6In_any (ss.length : Int) 1 5)
      have hall : ∀ s ∈ ss, rowOk m s ∧ 1 ≤ m ∧ m ≤ 5 := fun s hs => by
        obtain ⟨i, hi, rfl⟩ := List.mem_iff_getElem.1 hs
        exact HR.out i _ hi (List.getElem?_eq_getElem hi)
      have HA := hid hall
      clear hall
      go_wp2_with fail
      refine (hlin.out _).mono ?_
      rintro e w' ⟨rfl, rfl⟩
      go_wp2
      go_ret
      refine ⟨_, rfl, ?_, d, rfl⟩
      rw [Bool.and_eq_true, decide_eq_true_iff, decide_eq_true_iff]
      refine ⟨fun hx => ⟨ss.length, m, rfl, by omega, by omega, (HA.out s0 (List.mem_of_getElem? HK.out)).2.1, (HA.out s0 (List.mem_of_getElem? HK.out)).2.2, fun s hs => (HA.out s hs).1⟩, ?_⟩
      rintro ⟨n, m', hg⟩
      have := hg.1; have := hg.2.1; have := hg.2.2.1
      omega

set_option maxHeartbeats 400000 in
theorem specGridIn_any (A : Option Addr) (c B : Nat) (ss : List ByteArray) (w : World) (h : Strs w B A ss) (hn : ss.length ≤ 1048576) (hs : ∀ s ∈ ss, s.size ≤ 1048576) :
    Calls Tryd.prog 23 #[.slice A ss.length c] w (InEnd ss w) := by
  by_cases h1 : 0 < ss.length
  · obtain ⟨b, off, s0, rfl, hb, hk0, hc0⟩ := h.at_ (k := 0) (by omega)
    rw [Nat.add_zero] at hc0
    exact specGridIn_core b off c B s0.size s0 ss w h h1 rfl hk0 hn hs hc0
  · obtain rfl : ss = [] := List.eq_nil_of_length_eq_zero (by omega)
    have hlin := hid (l6In_any 0 1 5)
    clear h hs
    simp only [List.length_nil]
    go_enter Tryd.func23, Tryd.ntmps23
    go_wp2_with fail
    refine wp_loop_rounds 1 ?_
    rw [rounds_succ]
    go_wp2_with fail
    refine (hlin.out _).mono ?_
    rintro e w' ⟨rfl, rfl⟩
    go_wp2
    go_ret
    exact InEnd.no (noGrid_len (by simp)) 0

end Go.Proofs.YtongjijkdjagdaaDoor

/- The laws' arguments opened: a slice of strings that came in. -/
namespace Go.Proofs.YtongjijkdjagdaaDoor
open Go.ChangeShapes Go.WideShapes Go.ChangeAt Go.RowKit
open Go.ChangeMaps (open_string shut_string)

theorem Tryd.own : ownKnob Tryd.prog.godebug = none := by kernel_rfl
theorem Tryd.laidOut : laidOutB Tryd.prog = true := by kernel_rfl

/-- What a law is told of a slice of strings. -/
def Came (W : World) (v : Value) : Prop :=
  ∃ (A : Option Addr) (c : Nat) (ss : List ByteArray), v = .slice A ss.length c ∧ Strs W W.heap.size A ss ∧ ss.length ≤ 9223372036854775807 ∧ ∀ s ∈ ss, s.size ≤ 9223372036854775807

set_option maxRecDepth 100000 in
theorem came_of {H : Type} {enc : TypeId × Value → H} {W : World} {spare : Nat → Bool} {held : Bool} {v : Value} {d : DataW H} {p : List MemPlace} {base : Nat}
    (hv : Value.okWide Tryd.prog W .any base 23 v) (h : DataW.Trod enc Tryd.prog W 0 spare held 23 v d p) : Came W v := by
  obtain ⟨a0, len0, cap0, rfl⟩ := okWide_slice Tryd.underlying23 hv
  obtain ⟨fuel, hf⟩ := h
  rcases open_strings Tryd.underlying23 Tryd.underlying9 (by kernel_rfl) hf with ⟨hcs, _⟩ | ⟨x, l, c, ss, hcs, _, hl, hm, hlen, _, hcell, hsz⟩
  · simp [Value.cells] at hcs
    obtain ⟨rfl, rfl, rfl⟩ := hcs
    exact ⟨none, 0, [], rfl, Strs.nil_ _ _ _, by simp, fun s hs => absurd hs (by simp)⟩
  · simp [Value.cells] at hcs
    obtain ⟨rfl, rfl, rfl⟩ := hcs
    unfold maxLen at hm hsz
    have hle : len0 ≤ ss.length := by
      rw [hlen]; split <;> omega
    have e : (ss.take len0).length = len0 := by simp; omega
    refine ⟨some x, cap0, ss.take len0, by rw [e], ?_, by omega, fun s hs => hsz s (List.mem_of_mem_take hs)⟩
    intro hn
    rw [e] at hn
    obtain ⟨b, off, spot⟩ := x
    have hc0 := hcell 0 (by omega)
    have hspot : spot = none := by simpa [Addr.add] using World.cell?_spot hc0
    subst hspot
    refine ⟨b, off, rfl, ?_, fun k s hk => ?_⟩
    · have := block_lt_of_cell hc0
      simpa [Addr.add] using this
    · have hkl : k < len0 := by
        have := (List.getElem?_eq_some_iff.1 hk).1
        rw [e] at this; exact this
      rw [List.getElem?_take_of_lt hkl] at hk
      have hc := hcell k (by omega)
      rw [List.getD_eq_getElem?_getD, hk] at hc
      have ha : (Addr.add ⟨b, off, none⟩ k : Addr) = ⟨b, off + k, none⟩ := by
        unfold Addr.add; split <;> simp_all
      rw [ha] at hc
      exact hc

theorem size_le_bytes {ss : List ByteArray} {s : ByteArray} (h : s ∈ ss) : s.size ≤ bytesOf ss := by
  induction ss with
  | nil => simp at h
  | cons t ss ih =>
    unfold bytesOf at *
    rw [List.map_cons, List.sum_cons]
    rcases List.mem_cons.1 h with rfl | h
    · omega
    · have := ih h; omega

end Go.Proofs.YtongjijkdjagdaaDoor

/- Guarded operations for the law of relations (XAnyInv): wanted or left out. No program is named. -/
namespace Go.Proofs.YtongjijkdjagdaaDoor
open Go Go.RowKit

section
variable {P : Program} {ops : Array Oper} {Q : Exit → Act → World → Prop}
theorem wpOp_skip {i : Nat} {o : Oper} (hi : ops[i]? = some o) {a : Act} (hw : Region.wanted o (yielded ops a.tmps) = false) {w : World} {R : Value → World → Prop} (h : R undef w) : wpOp P ops Q i (RelQ ops i R a w) a w := by
  unfold wpOp
  simp only [hi]
  rw [if_neg (by rw [hw]; decide)]
  exact ⟨undef, by rw [hi]; rfl, h, Below.refl _ _⟩
theorem wpOp_valW {i : Nat} {o : Oper} (hi : ops[i]? = some o) {a : Act} (hw : Region.wanted o (yielded ops a.tmps) = true) {u : Value} {w : World} {R : Value → World → Prop}
    (hr : (execOp a.eval o).run P w = .ok (.value u) w) (h : R u w) : wpOp P ops Q i (RelQ ops i R a w) a w := by
  unfold wpOp
  simp only [hi]
  rw [if_pos hw]
  refine .inl ?_
  unfold Oper.wp
  rw [hr]
  simp only [Oper.upon]
  exact ⟨u, by rw [hi]; rfl, h, Below.refl _ _⟩
theorem wpOp_callW {i : Nat} {o : Oper} (hi : ops[i]? = some o) {a : Act} (hw : Region.wanted o (yielded ops a.tmps) = true) {f : FuncId} {args : Array Value} {w : World} {R : Value → World → Prop}
    (hr : (execOp a.eval o).run P w = .ok (.enter f args) w) (hc : Calls P f args w fun e w' => ∃ v, e = .returned v ∧ R v w' ∧ Below w.heap.size w w') : wpOp P ops Q i (RelQ ops i R a w) a w := by
  unfold wpOp
  simp only [hi]
  rw [if_pos hw]
  refine .inl ?_
  unfold Oper.wp
  rw [hr]
  simp only [Oper.upon]
  refine hc.mono fun e w' he => ?_
  obtain ⟨v, rfl, h1, h2⟩ := he
  exact ⟨v, by rw [hi]; rfl, h1, h2⟩
end

end Go.Proofs.YtongjijkdjagdaaDoor

/- Guarded operations of a quiet region that are left out, many at once. No program is named. -/
namespace Go.Proofs.YtongjijkdjagdaaDoor
open Go Go.RowKit

section
variable {P : Program} {ops : Array Oper} {C : World → Prop} {Q : Act → Prop}
/-- Operations left out one behind the other: what is left of the list, and the frame. -/
def skipRun (ops : Array Oper) : Nat → List Oper → Act → Option (List Oper × Act)
  | 0, l, a => some (l, a)
  | _ + 1, [], _ => none
  | k + 1, o :: l, a => if Region.wanted o (yielded ops a.tmps) then none else skipRun ops k l (a.put o.dst undef)
theorem wpQuiet_skips (k : Nat) (l : List Oper) (a : Act) {l' : List Oper} {a' : Act} (hs : skipRun ops k l a = some (l', a')) (h : wpQuiet P ops C Q l' a') : wpQuiet P ops C Q l a := by
  induction k generalizing l a with
  | zero =>
    simp only [skipRun, Option.some.injEq, Prod.mk.injEq] at hs
    obtain ⟨rfl, rfl⟩ := hs
    exact h
  | succ k ih =>
    cases l with
    | nil => simp [skipRun] at hs
    | cons o l =>
      unfold skipRun at hs
      split at hs
      · cases hs
      · rename_i hw
        exact wpQuiet_skipW (by simpa using hw) (ih l _ hs)
theorem wpQuiet_skipsD (k : Nat) {l : List Oper} {a : Act} (hs : skipRun ops k l a = some (l.drop k, a)) (h : wpQuiet P ops C Q (l.drop k) a) : wpQuiet P ops C Q l a := wpQuiet_skips k l a hs h
/-- An operation that yields a value, and k behind it that are left out for it, the frame as it was but for the value: in one step, for a goal that begins with operations that are left out must not be looked into (whnf walks on through all of them). -/
theorem wpQuiet_value_skips (k : Nat) {o : Oper} {rest : List Oper} {a : Act} (hgd : o.guard = none) (v : Value) (hv : ∀ w, C w → (execOp a.eval o).run P w = .ok (.value v) w) (hs : skipRun ops k rest (a.put o.dst v) = some (rest.drop k, a.put o.dst v))
    (h : wpQuiet P ops C Q (rest.drop k) (a.put o.dst v)) : wpQuiet P ops C Q (o :: rest) a :=
  wpQuiet_value hgd v hv (wpQuiet_skips k rest _ hs h)
/-- The same where slots are emptied by what is left out: the frame behind it is told. -/
theorem wpQuiet_value_skipsF (k : Nat) (a' : Act) {o : Oper} {rest : List Oper} {a : Act} (hgd : o.guard = none) (v : Value) (hv : ∀ w, C w → (execOp a.eval o).run P w = .ok (.value v) w) (hs : skipRun ops k rest (a.put o.dst v) = some (rest.drop k, a'))
    (h : wpQuiet P ops C Q (rest.drop k) a') : wpQuiet P ops C Q (o :: rest) a :=
  wpQuiet_value hgd v hv (wpQuiet_skips k rest _ hs h)
end

end Go.Proofs.YtongjijkdjagdaaDoor
