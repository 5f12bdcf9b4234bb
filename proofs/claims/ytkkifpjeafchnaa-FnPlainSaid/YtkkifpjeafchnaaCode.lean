/- The laws' codes opened: a slice of bytes that came in. -/
import Derived.Test.YtkkifpjeafchnaaBunA
import Derived.Test.YtkkifpjeafchnaaDrawOne
namespace Go.Proofs.Ytkkifpjeafchnaa
open Go.ChangeShapes Go.WideShapes Go.ChangeAt Go.RowKit

/-- What a law is told of a slice of bytes. -/
def CameB (W : World) (v : Value) : Prop := ∃ (A : Option Addr) (len cap : Nat), v = .slice A len cap ∧ CodeAt W A len ∧ len ≤ cap ∧ cap ≤ 9223372036854775807

set_option maxRecDepth 100000 in
theorem cameB_of {H : Type} {enc : TypeId × Value → H} {W : World} {spare : Nat → Bool} {held : Bool} {v : Value} {d : DataW H} {p : List MemPlace} {base : Nat}
    (hv : Value.okWide Try.prog W .any base 38 v) (h : DataW.Trod enc Try.prog W 0 spare held 38 v d p) : CameB W v := by
  obtain ⟨a0, len0, cap0, rfl⟩ := okWide_slice Try.underlying38 hv
  obtain ⟨fuel, hf⟩ := h
  rcases open_ints Try.underlying38 Try.underlying5 (by kernel_rfl) hf with ⟨hcs, _⟩ | ⟨x, l, c, zs, hcs, _, hl, hm, hlen, _, hcell, hwf⟩
  · simp [Value.cells] at hcs
    obtain ⟨rfl, rfl, rfl⟩ := hcs
    exact ⟨none, 0, 0, rfl, .inl rfl, Nat.le_refl _, by omega⟩
  · simp [Value.cells] at hcs
    obtain ⟨rfl, rfl, rfl⟩ := hcs
    unfold maxLen at hm
    have hle : len0 ≤ zs.length := by
      rw [hlen]; split <;> omega
    refine ⟨some x, len0, cap0, rfl, ?_, hl, by omega⟩
    rcases Nat.eq_zero_or_pos len0 with h0 | h0
    · exact .inl h0
    obtain ⟨b, off, spot⟩ := x
    have hc0 := hcell 0 (by omega)
    have hspot : spot = none := by simpa [Addr.add] using World.cell?_spot hc0
    subst hspot
    refine .inr ⟨b, off, rfl, ?_, fun k hk => ?_⟩
    · have := block_lt_of_cell hc0
      simpa [Addr.add] using this
    · have hc := hcell k (by omega)
      have ha : (Addr.add ⟨b, off, none⟩ k : Addr) = ⟨b, off + k, none⟩ := by
        unfold Addr.add; split <;> simp_all
      rw [ha] at hc
      have hw := hwf (zs.getD k 0) (by
        rw [List.getD_eq_getElem?_getD, List.getElem?_eq_getElem (by omega)]
        exact List.getElem_mem _)
      have h1 := bounds_u8 hw
      exact ⟨_, h1.1, h1.2, hc⟩
theorem CodeAt.drewN {w : World} {A : Option Addr} {len : Nat} (h : CodeAt w A len) (n : Nat) : CodeAt (w.drewN n) A len := h
end Go.Proofs.Ytkkifpjeafchnaa
