/- Plain words on grids: lists of strings, letters, cells of the struct. No program is named. -/
import Derived.Test.YtmdgbcepjnfbnaaMem
import Derived.Lib.Strings
namespace Go.Proofs.Ytmdgbcepjnfbnaa
open Go.RowKit

/-- A letter of a cell. -/
def isLet (b : UInt8) : Bool := b == 46 || b == 114 || b == 102
/-- The letters of a list of strings, one string behind the other. -/
def flat (ss : List ByteArray) : List UInt8 := ss.flatMap fun s => s.data.toList
/-- A row of m letters. -/
def rowOk (m : Nat) (s : ByteArray) : Prop := s.size = m ∧ ∀ b ∈ s.data.toList, isLet b = true
/-- A grid of n rows and m columns. -/
def IsGrid (n m : Nat) (ss : List ByteArray) : Prop := ss.length = n ∧ 1 ≤ n ∧ n ≤ 5 ∧ 1 ≤ m ∧ m ≤ 5 ∧ ∀ s ∈ ss, rowOk m s
def NoGrid (ss : List ByteArray) : Prop := ∀ n m, ¬ IsGrid n m ss
/-- Letters filled up to 25. -/
def pad (l : List UInt8) : List UInt8 := l ++ List.replicate (25 - l.length) 0
/-- The cells of the struct: rows, columns, 25 letters. -/
def gcells (n m : Nat) (ls : List UInt8) : Array Value := (Value.int .i64 n :: Value.int .i64 m :: ls.map fun b => Value.int .u8 b.toNat).toArray

theorem pad_length {l : List UInt8} (h : l.length ≤ 25) : (pad l).length = 25 := by simp [pad]; omega
theorem gcells_size {n m : Nat} {ls : List UInt8} (h : ls.length = 25) : (gcells n m ls).size = 27 := by simp [gcells, h]
theorem gcells_one (n m : Nat) (ls : List UInt8) : (gcells n m ls).all (·.oneCell') = true := by
  rw [Array.all_eq_true_iff_forall_mem]
  intro x hx
  simp [gcells] at hx
  rcases hx with rfl | rfl | ⟨b, _, rfl⟩ <;> rfl
theorem gcells_0 (n m : Nat) (ls : List UInt8) : (gcells n m ls)[0]? = some (.int .i64 n) := by simp [gcells]
theorem gcells_1 (n m : Nat) (ls : List UInt8) : (gcells n m ls)[1]? = some (.int .i64 m) := by simp [gcells]
theorem gcells_at {n m p : Nat} {ls : List UInt8} {b : UInt8} (h : ls[p]? = some b) : (gcells n m ls)[2 + p]? = some (.int .u8 b.toNat) := by
  rw [Nat.add_comm]; simp [gcells, h]
theorem gcells_set (n m p : Nat) (ls : List UInt8) (b : UInt8) : (gcells n m ls).setIfInBounds (2 + p) (.int .u8 b.toNat) = gcells n m (ls.set p b) := by
  rw [Nat.add_comm]; simp [gcells, List.map_set]
theorem pad_set {l : List UInt8} {b : UInt8} (h : l.length < 25) : (pad l).set l.length b = pad (l ++ [b]) := by
  unfold pad
  rw [List.set_append_right _ _ (Nat.le_refl _), Nat.sub_self, show 25 - l.length = (25 - (l ++ [b]).length) + 1 by simp; omega, List.replicate_succ, List.set_cons_zero, List.append_assoc]
  rfl
theorem zero_gcells : gcells 0 0 (pad []) = #[.int .i64 0, .int .i64 0, .int .u8 0, .int .u8 0, .int .u8 0, .int .u8 0, .int .u8 0, .int .u8 0, .int .u8 0, .int .u8 0, .int .u8 0, .int .u8 0, .int .u8 0, .int .u8 0, .int .u8 0, .int .u8 0, .int .u8 0, .int .u8 0, .int .u8 0, .int .u8 0, .int .u8 0, .int .u8 0, .int .u8 0, .int .u8 0, .int .u8 0, .int .u8 0, .int .u8 0] := rfl

/-- The place of a letter: rows of m letters each. -/
theorem flat_at {m : Nat} : ∀ (ss : List ByteArray) (r c : Nat) (s : ByteArray), (∀ i t, i < r → ss[i]? = some t → t.size = m) → ss[r]? = some s → c < s.size → (flat ss)[r * m + c]? = s.data.toList[c]?
  | [], r, c, s, _, h, _ => by simp at h
  | t :: ss, 0, c, s, _, h, hc => by
    simp at h; subst h
    rw [flat, List.flatMap_cons, Nat.zero_mul, Nat.zero_add, List.getElem?_append_left (by rw [← Lib.size_eq]; exact hc)]
  | t :: ss, r + 1, c, s, hr, h, hc => by
    have ht : t.size = m := hr 0 t (by omega) (by simp)
    have ih := flat_at (m := m) ss r c s (fun i u hi hu => hr (i + 1) u (by omega) (by simpa using hu)) (by simpa using h) hc
    have e : t.data.toList.length = m := by rw [← Lib.size_eq]; exact ht
    have e2 : (r + 1) * m + c = m + (r * m + c) := by rw [Nat.add_mul]; omega
    rw [flat, List.flatMap_cons, e2, List.getElem?_append_right (by omega), e, Nat.add_sub_cancel_left]
    exact ih
theorem flat_length {m : Nat} : ∀ (ss : List ByteArray), (∀ s ∈ ss, s.size = m) → (flat ss).length = ss.length * m
  | [], _ => by simp [flat]
  | t :: ss, h => by
    have ih := flat_length ss (fun s hs => h s (by simp [hs]))
    rw [flat, List.flatMap_cons, List.length_append, ← Lib.size_eq, h t (by simp)]
    unfold flat at ih
    rw [ih, List.length_cons, Nat.add_mul]; omega
theorem flat_take_len {m : Nat} (ss : List ByteArray) (r c : Nat) (s : ByteArray) (hr : ∀ i t, i < r → ss[i]? = some t → t.size = m) (h : ss[r]? = some s) (hc : c ≤ s.size) : r * m + c ≤ (flat ss).length := by
  induction ss generalizing r with
  | nil => simp at h
  | cons t ss ih =>
    cases r with
    | zero =>
      simp at h; subst h
      rw [flat, List.flatMap_cons, List.length_append, ← Lib.size_eq]; omega
    | succ r =>
      have ht : t.size = m := hr 0 t (by omega) (by simp)
      have := ih r (fun i u hi hu => hr (i + 1) u (by omega) (by simpa using hu)) (by simpa using h)
      rw [flat, List.flatMap_cons, List.length_append, ← Lib.size_eq, ht, Nat.add_mul]
      unfold flat at this
      omega
/-- One letter more. -/
theorem pad_step {fl : List UInt8} {q : Nat} {b : UInt8} (h : fl[q]? = some b) (hq : q < 25) : (pad (fl.take q)).set q b = pad (fl.take (q + 1)) := by
  obtain ⟨hlt, rfl⟩ := List.getElem?_eq_some_iff.1 h
  have hl : (fl.take q).length = q := by simp; omega
  have e := pad_set (l := fl.take q) (b := fl[q]) (by omega)
  rw [hl] at e
  rw [e, List.take_succ_eq_append_getElem hlt]

theorem byte_of {s : ByteArray} {k : Nat} {b : UInt8} (h : s.data.toList[k]? = some b) (hk : k < s.size) : s[k]'hk = b := by
  obtain ⟨⟨l⟩⟩ := s
  obtain ⟨_, e⟩ := List.getElem?_eq_some_iff.1 h
  exact e

theorem noGrid_len {ss : List ByteArray} (h : ¬ (1 ≤ ss.length ∧ ss.length ≤ 5)) : NoGrid ss := fun n m hg => h ⟨by have := hg.1; have := hg.2.1; omega, by have := hg.1; have := hg.2.2.1; omega⟩
theorem noGrid_first {ss : List ByteArray} {s : ByteArray} (h0 : ss[0]? = some s) (h : ¬ (1 ≤ s.size ∧ s.size ≤ 5)) : NoGrid ss := fun n m hg => by
  have := (hg.2.2.2.2.2 s (List.mem_of_getElem? h0)).1
  exact h ⟨by have := hg.2.2.2.1; omega, by have := hg.2.2.2.2.1; omega⟩
theorem noGrid_size {ss : List ByteArray} {s t : ByteArray} {r : Nat} (h0 : ss[0]? = some s) (hr : ss[r]? = some t) (h : t.size ≠ s.size) : NoGrid ss := fun n m hg => by
  have a := (hg.2.2.2.2.2 s (List.mem_of_getElem? h0)).1
  have b := (hg.2.2.2.2.2 t (List.mem_of_getElem? hr)).1
  exact h (b.trans a.symm)
theorem noGrid_letter {ss : List ByteArray} {t : ByteArray} {r c : Nat} {b : UInt8} (hr : ss[r]? = some t) (hb : t.data.toList[c]? = some b) (h : isLet b = false) : NoGrid ss := fun n m hg => by
  have := (hg.2.2.2.2.2 t (List.mem_of_getElem? hr)).2 b (List.mem_of_getElem? hb)
  rw [h] at this; cases this
theorem IsGrid.flen {n m : Nat} {ss : List ByteArray} (h : IsGrid n m ss) : (flat ss).length = n * m := by
  rw [flat_length ss (fun s hs => (h.2.2.2.2.2 s hs).1), h.1]
theorem IsGrid.le25 {n m : Nat} {ss : List ByteArray} (h : IsGrid n m ss) : n * m ≤ 25 := Nat.mul_le_mul h.2.2.1 h.2.2.2.2.1
theorem IsGrid.plen {n m : Nat} {ss : List ByteArray} (h : IsGrid n m ss) : (pad (flat ss)).length = 25 := pad_length (by rw [h.flen]; exact h.le25)
theorem IsGrid.csize {n m : Nat} {ss : List ByteArray} (h : IsGrid n m ss) : (gcells n m (pad (flat ss))).size = 27 := gcells_size h.plen
theorem IsGrid.nm {n m : Nat} {ss : List ByteArray} (h : IsGrid n m ss) : n = ss.length ∧ ∀ s, ss[0]? = some s → m = s.size :=
  ⟨h.1.symm, fun s hs => ((h.2.2.2.2.2 s (List.mem_of_getElem? hs)).1).symm⟩

end Go.Proofs.Ytmdgbcepjnfbnaa
