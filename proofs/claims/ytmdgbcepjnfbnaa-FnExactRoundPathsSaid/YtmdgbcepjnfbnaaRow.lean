/- The laws' arguments opened: a slice of strings that came in. -/
import Derived.Test.YtmdgbcepjnfbnaaKit1
import Derived.ProofKit
import Derived.OpenShut
import Derived.ShutString
import Derived.ChangeOld
import Derived.SliceStrings
namespace Go.Proofs.Ytmdgbcepjnfbnaa
open Go.ChangeShapes Go.WideShapes Go.ChangeAt Go.RowKit
open Go.ChangeMaps (open_string shut_string)

theorem Try.own : ownKnob Try.prog.godebug = none := by kernel_rfl
theorem Try.laidOut : laidOutB Try.prog = true := by kernel_rfl

/-- What a law is told of a slice of strings. -/
def Came (W : World) (v : Value) : Prop :=
  ∃ (A : Option Addr) (c : Nat) (ss : List ByteArray), v = .slice A ss.length c ∧ Strs W W.heap.size A ss ∧ ss.length ≤ 9223372036854775807 ∧ ∀ s ∈ ss, s.size ≤ 9223372036854775807

set_option maxRecDepth 100000 in
theorem came_of {H : Type} {enc : TypeId × Value → H} {W : World} {spare : Nat → Bool} {held : Bool} {v : Value} {d : DataW H} {p : List MemPlace} {base : Nat}
    (hv : Value.okWide Try.prog W .any base 23 v) (h : DataW.Trod enc Try.prog W 0 spare held 23 v d p) : Came W v := by
  obtain ⟨a0, len0, cap0, rfl⟩ := okWide_slice Try.underlying23 hv
  obtain ⟨fuel, hf⟩ := h
  rcases open_strings Try.underlying23 Try.underlying9 (by kernel_rfl) hf with ⟨hcs, _⟩ | ⟨x, l, c, ss, hcs, _, hl, hm, hlen, _, hcell, hsz⟩
  · simp [Value.cells] at hcs
    obtain ⟨rfl, rfl, rfl⟩ := hcs
    exact ⟨none, 0, [], rfl, Strs.nil_ _ _ _, by simp, fun s hs => absurd hs (by simp)⟩
  · simp [Value.cells] at hcs
    obtain ⟨rfl, rfl, rfl⟩ := hcs
    unfold maxLen at hm hsz
    have hle : len0 ≤ ss.length := by
      rw [hlen]; split <;> omega
    have e : (ss.take len0).length = len0 := by simp; omega
    refine ⟨some x, cap0, ss.take len0, by rw [e], ?_, by omega, fun s hs => hsz s (List.mem_of_mem_take hs)⟩
    intro hn
    rw [e] at hn
    obtain ⟨b, off, spot⟩ := x
    have hc0 := hcell 0 (by omega)
    have hspot : spot = none := by simpa [Addr.add] using World.cell?_spot hc0
    subst hspot
    refine ⟨b, off, rfl, ?_, fun k s hk => ?_⟩
    · have := block_lt_of_cell hc0
      simpa [Addr.add] using this
    · have hkl : k < len0 := by
        have := (List.getElem?_eq_some_iff.1 hk).1
        rw [e] at this; exact this
      rw [List.getElem?_take_of_lt hkl] at hk
      have hc := hcell k (by omega)
      rw [List.getD_eq_getElem?_getD, hk] at hc
      have ha : (Addr.add ⟨b, off, none⟩ k : Addr) = ⟨b, off + k, none⟩ := by
        unfold Addr.add; split <;> simp_all
      rw [ha] at hc
      exact hc

theorem size_le_bytes {ss : List ByteArray} {s : ByteArray} (h : s ∈ ss) : s.size ≤ bytesOf ss := by
  induction ss with
  | nil => simp at h
  | cons t ss ih =>
    unfold bytesOf at *
    rw [List.map_cons, List.sum_cons]
    rcases List.mem_cons.1 h with rfl | h
    · omega
    · have := ih h; omega

end Go.Proofs.Ytmdgbcepjnfbnaa
