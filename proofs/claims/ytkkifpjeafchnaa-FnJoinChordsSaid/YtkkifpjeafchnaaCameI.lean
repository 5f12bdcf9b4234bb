/- The laws' arguments opened: a slice of integers that came in; toIntS, by its contract. -/
import Derived.Test.YtkkifpjeafchnaaBunF
namespace Go.Proofs.Ytkkifpjeafchnaa
open Go.ChangeShapes Go.WideShapes Go.ChangeAt Go.RowKit

/-- What a law is told of a slice of integers. -/
def CameI (W : World) (v : Value) : Prop :=
  ∃ (A : Option Addr) (c : Nat) (l : List Int), v = .slice A l.length c ∧ Ints W W.heap.size A l ∧ l.length ≤ 9223372036854775807

set_option maxRecDepth 100000 in
theorem cameI_of {H : Type} {enc : TypeId × Value → H} {W : World} {spare : Nat → Bool} {held : Bool} {v : Value} {d : DataW H} {p : List MemPlace} {base : Nat}
    (hv : Value.okWide Try.prog W .any base 25 v) (h : DataW.Trod enc Try.prog W 0 spare held 25 v d p) : CameI W v := by
  obtain ⟨a0, len0, cap0, rfl⟩ := okWide_slice Try.underlying25 hv
  obtain ⟨fuel, hf⟩ := h
  rcases open_ints Try.underlying25 Try.underlying3 (by kernel_rfl) hf with ⟨hcs, _⟩ | ⟨x, l, c, zs, hcs, _, hl, hm, hlen, _, hcell, hwf⟩
  · simp [Value.cells] at hcs
    obtain ⟨rfl, rfl, rfl⟩ := hcs
    exact ⟨none, 0, [], rfl, fun h => absurd h (by simp), by simp⟩
  · simp [Value.cells] at hcs
    obtain ⟨rfl, rfl, rfl⟩ := hcs
    unfold maxLen at hm
    have hle : len0 ≤ zs.length := by
      rw [hlen]; split <;> omega
    have e : (zs.take len0).length = len0 := by simp; omega
    refine ⟨some x, cap0, zs.take len0, by rw [e], ?_, by omega⟩
    intro hn
    rw [e] at hn
    obtain ⟨b, off, spot⟩ := x
    have hc0 := hcell 0 (by omega)
    have hspot : spot = none := by simpa [Addr.add] using World.cell?_spot hc0
    subst hspot
    refine ⟨b, off, rfl, ?_, fun k s hk => ?_⟩
    · have := block_lt_of_cell hc0
      simpa [Addr.add] using this
    · have hkl : k < len0 := by
        have := (List.getElem?_eq_some_iff.1 hk).1
        rw [e] at this; exact this
      rw [List.getElem?_take_of_lt hkl] at hk
      have hc := hcell k (by omega)
      rw [List.getD_eq_getElem?_getD, hk] at hc
      have ha : (Addr.add ⟨b, off, none⟩ k : Addr) = ⟨b, off + k, none⟩ := by
        unfold Addr.add; split <;> simp_all
      rw [ha] at hc
      exact hc

/-- The cells that toIntS has filled after k rounds. -/
def FilledI (l : List Int) (k : Nat) (C : Array Value) : Prop :=
  C.size = l.length ∧ (∀ (i : Nat) (s : Int), i < k → l[i]? = some s → C[i]? = some (Value.int .i64 s)) ∧ ∀ i, i < l.length → ∃ u : Int, C[i]? = some (Value.int .i64 u)
theorem FilledI.zero (l : List Int) : FilledI l 0 (madeCells #[Value.int .i64 0] l.length) :=
  ⟨size_madeCells _ _, fun i s h => absurd h (by omega), fun i hi => ⟨0, by simp [madeCells, hi, Nat.mod_one]⟩⟩
theorem FilledI.at_ {l : List Int} {k : Nat} {C : Array Value} (h : FilledI l k C) (hk : k < l.length) : ∃ u : Int, C[k]? = some (Value.int .i64 u) := h.2.2 k hk
theorem FilledI.step {l : List Int} {k : Nat} {C : Array Value} (h : FilledI l k C) {s : Int} (hs : l[k]? = some s) : FilledI l (k + 1) (C.setIfInBounds k (.int .i64 s)) := by
  obtain ⟨hlt, _⟩ := List.getElem?_eq_some_iff.1 hs
  obtain ⟨h1, h2, h3⟩ := h
  refine ⟨by simpa using h1, fun i t hi ht => ?_, fun i hi => ?_⟩
  · rw [Array.getElem?_setIfInBounds]
    by_cases e : k = i
    · subst e
      rw [hs] at ht
      cases ht
      simp [h1, hlt]
    · simp only [e, if_false]
      exact h2 i t (by omega) ht
  · rw [Array.getElem?_setIfInBounds]
    by_cases e : k = i
    · subst e
      exact ⟨s, by simp [h1, hlt]⟩
    · simp only [e, if_false]
      exact h3 i hi
theorem Try.info_intRow : (Try.prog.info? 3).map (fun i => (i.zero, i.size, i.bytes)) = some (some (.int .i64 0), 1, 8) := by kernel_rfl

set_option maxRecDepth 100000 in
set_option maxHeartbeats 1000000 in
theorem toIntS_any (A : Option Addr) (c B : Nat) (l : List Int) (w : World) (h : Ints w B A l) (hB : B ≤ w.heap.size) (hn : l.length ≤ 1048576) :
    Calls Try.prog 19 #[.slice A l.length c] w fun e w' => e = .returned (.slice (some ⟨w.heap.size, 0, none⟩) l.length l.length) ∧ Below w.heap.size w w' ∧ Row8 w' w.heap.size l := by
  have hmk := run_make_row' (P := Try.prog) 25 3 (.int .i64 0) 8 Try.underlying25 Try.info_intRow rfl .i64 .i64 l.length (by omega) (by omega)
  go_enter Try.func19, Try.ntmps19
  go_wp2
  go_loopw [4] (fun (i : Value) (wr : World) => ∃ k : Nat, k ≤ l.length ∧ i = .int .i64 k ∧ ∃ C, wr = w.alloc (.cells C 3) ∧ FilledI l k C) (fun i _ => l.length - (intOf i).toNat)
  case atStart => exact ⟨0, Nat.zero_le _, rfl, _, rfl, FilledI.zero l⟩
  case round =>
    obtain ⟨k, hk, rfl, C, rfl, hC⟩ := hrel
    by_cases hlt : k < l.length
    · obtain ⟨b, off, s, rfl, hb, hks, hc⟩ := h.at_ hlt
      obtain ⟨u, hu⟩ := hC.at_ hlt
      have hbw : b < w.heap.size := by omega
      have hst := hC.step hks
      have HK := hid hks
      have HC := hid hC
      have HT := hid hst
      clear hks hC hst h
      go_wp2
      go_roundw
      case rel => exact ⟨k + 1, by omega, by go_num, _, rfl, HT.out⟩
      case measure => simp [intOf]; omega
    · obtain rfl : k = l.length := by omega
      have HC := hid hC
      clear hC h
      go_wp2
      go_ret
      exact ⟨rfl, (Below.refl _ w).alloc (Nat.le_refl _) _, C, heap_new0 w _, fun k x hk => HC.out.2.1 k x (List.getElem?_eq_some_iff.1 hk).1 hk⟩
end Go.Proofs.Ytkkifpjeafchnaa
