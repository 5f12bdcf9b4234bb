/- The laws' own helpers on slices of strings, each by its contract: szStringS, toStringS, eqStringS. -/
import Derived.Test.YtmdgbcepjnfbnaaRows
import Derived.Test.YtmdgbcepjnfbnaaMem
import Derived.WalkSpells
import Derived.WalkLawsBesides
import Derived.Deep.QuietTactic
import Derived.BigQuiet
import Derived.Deep.OwnRows
namespace Go.Proofs.Ytmdgbcepjnfbnaa
open Go.RowKit

/-- All the bytes of a list of strings. -/
def bytesOf (ss : List ByteArray) : Nat := (ss.map ByteArray.size).sum
theorem bytesOf_snoc (ss : List ByteArray) (k : Nat) (s : ByteArray) (h : ss[k]? = some s) : bytesOf (ss.take (k + 1)) = bytesOf (ss.take k) + s.size := by
  obtain ⟨hlt, rfl⟩ := List.getElem?_eq_some_iff.1 h
  unfold bytesOf
  rw [List.take_succ_eq_append_getElem hlt, List.map_append, List.sum_append]
  simp only [List.map_cons, List.map_nil, List.sum_cons, List.sum_nil, Nat.add_zero]

/-- What szStringS comes to: a number; where it is not negative, the strings are that much shorter. -/
def SzEnd (ss : List ByteArray) (left : Int) (w : World) (e : Ending) (w' : World) : Prop :=
  ∃ r : Int, e = .returned (.int .i64 r) ∧ w = w' ∧ (0 ≤ r → (ss.length : Int) + bytesOf ss + r = left)

/-- The loop's relation. -/
def SzRel (ss : List ByteArray) (left : Int) (l i : Value) : Prop :=
  ∃ k : Nat, k ≤ ss.length ∧ i = .int .i64 k ∧ ∃ x : Int, l = .int .i64 x ∧ 0 ≤ x ∧ x = left - ss.length - bytesOf (ss.take k)

set_option maxHeartbeats 400000 in
theorem szStringS_any (A : Option Addr) (c B : Nat) (ss : List ByteArray) (left : Int) (w : World) (h : Strs w B A ss) (hl : 0 ≤ left) (hl2 : left ≤ 1048576) (hn : ss.length ≤ 9223372036854775807) (hs : ∀ s ∈ ss, s.size ≤ 9223372036854775807) :
    Calls Try.prog 30 #[.slice A ss.length c, .int .i64 left] w (SzEnd ss left w) := by
  have HS := hid hs
  clear hs
  go_enter Try.func30, Try.ntmps30
  by_cases h0 : left < ss.length
  · have h1 : left - (ss.length : Int) < 0 := by omega
    go_wp2
    go_ret
    exact ⟨-1, rfl, rfl, fun h => absurd h (by omega)⟩
  · have h1 : decide (left - (ss.length : Int) < 0) = false := by simp; omega
    have h2 : 0 ≤ left - (ss.length : Int) := by omega
    go_wp2
    go_loop [1, 5] (SzRel ss left) (fun _ i => ss.length - (intOf i).toNat)
    case atStart => exact ⟨0, Nat.zero_le _, rfl, _, rfl, by omega, by simp [bytesOf]⟩
    case round =>
      obtain ⟨k, hk, rfl, x, rfl, hx, hxe⟩ := hrel
      have hx2 : x ≤ 1048576 := by omega
      have HX := hid hxe
      clear hxe
      by_cases hlt : k < ss.length
      · obtain ⟨b, off, s, rfl, hb, hks, hc⟩ := h.at_ hlt
        have hsz := HS.out s (List.mem_of_getElem? hks)
        have hbs := bytesOf_snoc ss k s hks
        have HK := hid hbs
        clear hbs hks
        by_cases hneg : x < s.size
        · have h3 : x - (s.size : Int) < 0 := by omega
          go_wp2
          go_ret
          exact ⟨-1, rfl, rfl, fun h => absurd h (by omega)⟩
        · have h3 : 0 ≤ x - (s.size : Int) := by omega
          go_wp2
          go_round
          case rel => exact ⟨k + 1, by omega, by go_num, _, rfl, by omega, by rw [HK.out]; have := HX.out; omega⟩
          case measure => simp [intOf]; omega
      · obtain rfl : k = ss.length := by omega
        go_wp2
        go_ret
        refine ⟨x, rfl, rfl, fun _ => ?_⟩
        have := HX.out
        rw [List.take_length] at this
        omega

/-- The cells that toStringS has filled after k rounds. -/
def Filled (ss : List ByteArray) (k : Nat) (C : Array Value) : Prop :=
  C.size = ss.length ∧ (∀ (i : Nat) (s : ByteArray), i < k → ss[i]? = some s → C[i]? = some (Value.string s)) ∧ ∀ i, i < ss.length → ∃ u : ByteArray, C[i]? = some (Value.string u)
theorem Filled.zero (ss : List ByteArray) : Filled ss 0 (madeCells #[Value.string ByteArray.empty] ss.length) :=
  ⟨size_madeCells _ _, fun i s h => absurd h (by omega), fun i hi => ⟨ByteArray.empty, by simp [madeCells, hi, Nat.mod_one]⟩⟩
theorem Filled.at_ {ss : List ByteArray} {k : Nat} {C : Array Value} (h : Filled ss k C) (hk : k < ss.length) : ∃ u : ByteArray, C[k]? = some (Value.string u) := h.2.2 k hk
theorem Filled.step {ss : List ByteArray} {k : Nat} {C : Array Value} (h : Filled ss k C) {s : ByteArray} (hs : ss[k]? = some s) : Filled ss (k + 1) (C.setIfInBounds k (.string s)) := by
  obtain ⟨hlt, _⟩ := List.getElem?_eq_some_iff.1 hs
  obtain ⟨h1, h2, h3⟩ := h
  refine ⟨by simpa using h1, fun i t hi ht => ?_, fun i hi => ?_⟩
  · rw [Array.getElem?_setIfInBounds]
    by_cases e : k = i
    · subst e
      rw [hs] at ht
      cases ht
      simp [h1, hlt]
    · simp only [e, if_false]
      exact h2 i t (by omega) ht
  · rw [Array.getElem?_setIfInBounds]
    by_cases e : k = i
    · subst e
      exact ⟨s, by simp [h1, hlt]⟩
    · simp only [e, if_false]
      exact h3 i hi

/-- What toStringS leaves: one new block, which holds the strings. -/
def MadeS (ss : List ByteArray) (w : World) (e : Ending) (w' : World) : Prop :=
  e = .returned (.slice (some ⟨w.heap.size, 0, none⟩) ss.length ss.length) ∧ ∃ C, w' = w.alloc (.cells C 9) ∧ Filled ss ss.length C
def FillRel (ss : List ByteArray) (w : World) (i : Value) (wr : World) : Prop :=
  ∃ k : Nat, k ≤ ss.length ∧ i = .int .i64 k ∧ ∃ C, wr = w.alloc (.cells C 9) ∧ Filled ss k C

theorem Try.info_string : (Try.prog.info? 9).map (fun i => (i.zero, i.size, i.bytes)) = some (some (.string ByteArray.empty), 1, 16) := by kernel_rfl

set_option maxHeartbeats 400000 in
theorem toStringS_any (A : Option Addr) (c B : Nat) (ss : List ByteArray) (w : World) (h : Strs w B A ss) (hB : B ≤ w.heap.size) (hn : ss.length ≤ 1048576) :
    Calls Try.prog 32 #[.slice A ss.length c] w (MadeS ss w) := by
  have hmk := run_make_row' (P := Try.prog) 23 9 (.string ByteArray.empty) 16 Try.underlying23 Try.info_string rfl .i64 .i64 ss.length (by omega) (by omega)
  go_enter Try.func32, Try.ntmps32
  go_wp2
  go_loopw [4] (FillRel ss w) (fun i _ => ss.length - (intOf i).toNat)
  case atStart => exact ⟨0, Nat.zero_le _, rfl, _, rfl, Filled.zero ss⟩
  case round =>
    obtain ⟨k, hk, rfl, C, rfl, hC⟩ := hrel
    by_cases hlt : k < ss.length
    · obtain ⟨b, off, s, rfl, hb, hks, hc⟩ := h.at_ hlt
      obtain ⟨u, hu⟩ := hC.at_ hlt
      have hbw : b < w.heap.size := by omega
      have hst := hC.step hks
      have HK := hid hks
      have HC := hid hC
      have HT := hid hst
      clear hks hC hst h
      go_wp2
      go_roundw
      case rel => exact ⟨k + 1, by omega, by go_num, _, rfl, HT.out⟩
      case measure => simp [intOf]; omega
    · obtain rfl : k = ss.length := by omega
      have HC := hid hC
      clear hC h
      go_wp2
      go_ret
      exact ⟨rfl, C, rfl, HC.out⟩

def DrewRel (n : Nat) (w : World) (i : Value) (wr : World) : Prop := ∃ k : Nat, k ≤ n ∧ i = .int .i64 k ∧ ∃ d, wr = w.drewN d
/-- Two slices that read as the same strings: true. -/
def TrueDrew (w : World) (e : Ending) (w' : World) : Prop := e = .returned (.bool true) ∧ ∃ n, w' = w.drewN n

set_option maxHeartbeats 400000 in
theorem eqStringS_same (A A' : Option Addr) (c c' B : Nat) (ss : List ByteArray) (w : World) (h : Strs w B A ss) (h' : Strs w B A' ss) (hn : ss.length ≤ 1048576) :
    Calls Try.prog 34 #[.slice A ss.length c, .slice A' ss.length c'] w (TrueDrew w) := by
  have hne : ((ss.length : Int) != (ss.length : Int)) = false := by simp
  go_enter Try.func34, Try.ntmps34
  go_wp2
  go_loopw [5] (DrewRel ss.length w) (fun i _ => ss.length - (intOf i).toNat)
  case atStart => exact ⟨0, Nat.zero_le _, rfl, 0, rfl⟩
  case round =>
    obtain ⟨k, hk, rfl, d, rfl⟩ := hrel
    by_cases hlt : k < ss.length
    · obtain ⟨b, off, s, rfl, hb, hks, hc⟩ := h.at_ hlt
      obtain ⟨b', off', s', rfl, hb', hks', hc'⟩ := h'.at_ hlt
      obtain rfl : s = s' := by rw [hks] at hks'; exact Option.some.inj hks'
      clear hks hks' h h'
      have hi : (k : Int) < (ss.length : Int) := by omega
      have hi0 : (0 : Int) ≤ (k : Int) := by omega
      go_wp2_with fail
      go_quiet (fail)
      go_wp2
      go_roundw
      case rel => exact ⟨k + 1, by omega, by go_num, _, rfl⟩
      case measure => simp [intOf]; omega
    · obtain rfl : k = ss.length := by omega
      go_wp2
      go_ret
      exact ⟨rfl, _, rfl⟩

end Go.Proofs.Ytmdgbcepjnfbnaa
