/- Plain words for memory: a slice of strings that reads as a list of strings; one block that holds strings. No program is named. -/
import Derived.WalkKit
import Derived.Deep.Draws

namespace Go.Proofs.Ytmdgbcepjnfbnaa
open Go.RowKit

/-- The slice at address A (its length is ss.length) reads as the strings ss, below block B. -/
def Strs (w : World) (B : Nat) (A : Option Addr) (ss : List ByteArray) : Prop :=
  0 < ss.length → ∃ b off, A = some ⟨b, off, none⟩ ∧ b < B ∧ ∀ (k : Nat) (s : ByteArray), ss[k]? = some s → w.cell? ⟨b, off + k, none⟩ = some (.string s)

theorem Strs.nil_ (w : World) (B : Nat) (A : Option Addr) : Strs w B A [] := fun h => absurd h (by simp)
theorem Strs.at_ {w : World} {B : Nat} {A : Option Addr} {ss : List ByteArray} {k : Nat} (h : Strs w B A ss) (hk : k < ss.length) :
    ∃ b off s, A = some ⟨b, off, none⟩ ∧ b < B ∧ ss[k]? = some s ∧ w.cell? ⟨b, off + k, none⟩ = some (.string s) := by
  obtain ⟨b, off, e, hb, hc⟩ := h (by omega)
  exact ⟨b, off, ss[k], e, hb, List.getElem?_eq_getElem hk, hc k _ (List.getElem?_eq_getElem hk)⟩
theorem Strs.below {w w' : World} {B : Nat} {A : Option Addr} {ss : List ByteArray} (h : Strs w B A ss) {B' : Nat} (hb : Below B' w w') (hB : B ≤ B') : Strs w' B A ss := fun hn => by
  obtain ⟨b, off, e, hlt, hc⟩ := h hn
  exact ⟨b, off, e, hlt, fun k s hk => (hb.cell (p := ⟨b, off + k, none⟩) (by show b < B'; omega)).trans (hc k s hk)⟩
theorem Strs.more {w : World} {B B' : Nat} {A : Option Addr} {ss : List ByteArray} (h : Strs w B A ss) (hB : B ≤ B') : Strs w B' A ss := fun hn => by
  obtain ⟨b, off, e, hlt, hc⟩ := h hn
  exact ⟨b, off, e, by omega, hc⟩
theorem Strs.drewN {w : World} {B : Nat} {A : Option Addr} {ss : List ByteArray} (h : Strs w B A ss) (n : Nat) : Strs (w.drewN n) B A ss := h

/-- Block g of w holds cells of strings, unfrozen, and its first ss.length cells are ss. -/
def Row9 (w : World) (g : Nat) (ss : List ByteArray) : Prop :=
  ∃ cs : Array Value, w.heap[g]? = some (.cells cs 9 (0, 0)) ∧ ∀ (k : Nat) (s : ByteArray), ss[k]? = some s → cs[k]? = some (Value.string s)
theorem Row9.lt {w : World} {g : Nat} {ss : List ByteArray} (h : Row9 w g ss) : g < w.heap.size := by
  obtain ⟨cs, h, _⟩ := h
  exact lt_of_block h
theorem Row9.strs {w : World} {g : Nat} {ss : List ByteArray} (h : Row9 w g ss) {B : Nat} (hB : g < B) : Strs w B (some ⟨g, 0, none⟩) ss := fun _ => by
  obtain ⟨cs, h, hc⟩ := h
  refine ⟨g, 0, rfl, hB, fun k s hk => ?_⟩
  rw [Nat.zero_add, cell_of_row w g k cs 9 (0, 0) h]
  exact hc k s hk
theorem Row9.below {w w' : World} {g : Nat} {ss : List ByteArray} (h : Row9 w g ss) {B : Nat} (hb : Below B w w') (hg : g < B) : Row9 w' g ss := by
  obtain ⟨cs, h, hc⟩ := h
  exact ⟨cs, (hb.block g hg).trans h, hc⟩

/-- The slice at A is of the call's own: empty, or the head of a block g from lo on. -/
def Own (w : World) (lo : Nat) (A : Option Addr) (ss : List ByteArray) : Prop :=
  0 < ss.length → ∃ g, A = some ⟨g, 0, none⟩ ∧ lo ≤ g ∧ Row9 w g ss
theorem Own.strs {w : World} {lo : Nat} {A : Option Addr} {ss : List ByteArray} (h : Own w lo A ss) : Strs w w.heap.size A ss := fun hn => by
  obtain ⟨g, rfl, _, hr⟩ := h hn
  exact hr.strs hr.lt hn
theorem Own.below {w w' : World} {lo : Nat} {A : Option Addr} {ss : List ByteArray} (h : Own w lo A ss) (hb : Below w.heap.size w w') : Own w' lo A ss := fun hn => by
  obtain ⟨g, rfl, hlo, hr⟩ := h hn
  exact ⟨g, rfl, hlo, hr.below hb hr.lt⟩
theorem Own.mono {w : World} {lo lo' : Nat} {A : Option Addr} {ss : List ByteArray} (h : Own w lo A ss) (hl : lo' ≤ lo) : Own w lo' A ss := fun hn => by
  obtain ⟨g, rfl, hlo, hr⟩ := h hn
  exact ⟨g, rfl, by omega, hr⟩

theorem hid {p : Prop} (h : p) : Hid p := h
theorem below_setRow' {B : Nat} {a w : World} (h : Below B a w) {g : Nat} (hg : B ≤ g) (cs : Array Value) : Below B a (w.setRow g cs) :=
  h.trans ⟨rfl, rfl, rfl, by simp, fun k hk => setRow_other w g k cs (by omega)⟩
theorem heap_new0 (w : World) (o : Obj) : (w.alloc o).heap[w.heap.size]? = some o := heap_alloc_new w o
theorem heap_new1 (w : World) (o p : Obj) : ((w.alloc o).alloc p).heap[w.heap.size]? = some o := by
  rw [Below.heap_alloc _ _ _ (by simp), heap_alloc_new]
theorem heap_new2 (w : World) (o p q : Obj) : (((w.alloc o).alloc p).alloc q).heap[w.heap.size]? = some o := by
  rw [Below.heap_alloc _ _ _ (by simp; omega), heap_new1]
theorem heap_new3 (w : World) (o p q r : Obj) : ((((w.alloc o).alloc p).alloc q).alloc r).heap[w.heap.size]? = some o := by
  rw [Below.heap_alloc _ _ _ (by simp; omega), heap_new2]
theorem below_drewN' {B : Nat} {a w : World} (h : Below B a w) (n : Nat) : Below B a (w.drewN n) := ⟨h.os, h.tape, h.output, h.size, h.block⟩

end Go.Proofs.Ytmdgbcepjnfbnaa
