/- The laws' arguments opened: a slice of integers that came in; toIntS, by its contract. -/
import Derived.Test.YtminailbhgimkaaBunF
namespace Go.Proofs.Ytminailbhgimkaa
open Go.ChangeShapes Go.WideShapes Go.ChangeAt Go.RowKit

/-- What a law is told of a slice of integers. -/
def CameI (W : World) (v : Value) : Prop :=
  ∃ (A : Option Addr) (c : Nat) (l : List Int), v = .slice A l.length c ∧ Ints W W.heap.size A l ∧ l.length ≤ 9223372036854775807

set_option maxRecDepth 100000 in
theorem cameI_of {H : Type} {enc : TypeId × Value → H} {W : World} {spare : Nat → Bool} {held : Bool} {v : Value} {d : DataW H} {p : List MemPlace} {base : Nat}
    (hv : Value.okWide Try.prog W .any base 25 v) (h : DataW.Trod enc Try.prog W 0 spare held 25 v d p) : CameI W v := by
  obtain ⟨a0, len0, cap0, rfl⟩ := okWide_slice Try.underlying25 hv
  obtain ⟨fuel, hf⟩ := h
  rcases open_ints Try.underlying25 Try.underlying3 (by kernel_rfl) hf with ⟨hcs, _⟩ | ⟨x, l, c, zs, hcs, _, hl, hm, hlen, _, hcell, hwf⟩
  · simp [Value.cells] at hcs
    obtain ⟨rfl, rfl, rfl⟩ := hcs
    exact ⟨none, 0, [], rfl, fun h => absurd h (by simp), by simp⟩
  · simp [Value.cells] at hcs
    obtain ⟨rfl, rfl, rfl⟩ := hcs
    unfold maxLen at hm
    have hle : len0 ≤ zs.length := by
      rw [hlen]; split <;> omega
    have e : (zs.take len0).length = len0 := by simp; omega
    refine ⟨some x, cap0, zs.take len0, by rw [e], ?_, by omega⟩
    intro hn
    rw [e] at hn
    obtain ⟨b, off, spot⟩ := x
    have hc0 := hcell 0 (by omega)
    have hspot : spot = none := by simpa [Addr.add] using World.cell?_spot hc0
    subst hspot
    refine ⟨b, off, rfl, ?_, fun k s hk => ?_⟩
    · have := block_lt_of_cell hc0
      simpa [Addr.add] using this
    · have hkl : k < len0 := by
        have := (List.getElem?_eq_some_iff.1 hk).1
        rw [e] at this; exact this
      rw [List.getElem?_take_of_lt hkl] at hk
      have hc := hcell k (by omega)
      rw [List.getD_eq_getElem?_getD, hk] at hc
      have ha : (Addr.add ⟨b, off, none⟩ k : Addr) = ⟨b, off + k, none⟩ := by
        unfold Addr.add; split <;> simp_all
      rw [ha] at hc
      exact hc

/-- The cells that toIntS has filled after k rounds. -/
def FilledI (l : List Int) (k : Nat) (C : Array Value) : Prop :=
  C.size = l.length ∧ (∀ (i : Nat) (s : Int), i < k → l[i]? = some s → C[i]? = some (Value.int .i64 s)) ∧ ∀ i, i < l.length → ∃ u : Int, C[i]? = some (Value.int .i64 u)
theorem FilledI.zero (l : List Int) : FilledI l 0 (madeCells #[Value.int .i64 0] l.length) :=
  ⟨size_madeCells _ _, fun i s h => absurd h (by omega), fun i hi => ⟨0, by simp [madeCells, hi, Nat.mod_one]⟩⟩
theorem FilledI.at_ {l : List Int} {k : Nat} {C : Array Value} (h : FilledI l k C) (hk : k < l.length) : ∃ u : Int, C[k]? = some (Value.int .i64 u) := h.2.2 k hk
theorem FilledI.step {l : List Int} {k : Nat} {C : Array Value} (h : FilledI l k C) {s : Int} (hs : l[k]? = some s) : FilledI l (k + 1) (C.setIfInBounds k (.int .i64 s)) := by
  obtain ⟨hlt, _⟩ := List.getElem?_eq_some_iff.1 hs
  obtain ⟨h1, h2, h3⟩ := h
  refine ⟨by simpa using h1, fun i t hi ht => ?_, fun i hi => ?_⟩
  · rw [Array.getElem?_setIfInBounds]
    by_cases e : k = i
    · subst e
      rw [hs] at ht
      cases ht
      simp [h1, hlt]
    · simp only [e, if_false]
      exact h2 i t (by omega) ht
  · rw [Array.getElem?_setIfInBounds]
    by_cases e : k = i
    · subst e
      exact ⟨s, by simp [h1, hlt]⟩
    · simp only [e, if_false]
      exact h3 i hi
theorem Try.info_intRow : (Try.prog.info? 3).map (fun i => (i.zero, i.size, i.bytes)) = some (some (.int .i64 0), 1, 8) := by kernel_rfl

end Go.Proofs.Ytminailbhgimkaa
