/- l91One, l91At: a grid that is drawn from a code; a cell's number that is drawn. -/
import Derived.Test.YtkkifpjeafchnaaDrawOf
namespace Go.Proofs.Ytkkifpjeafchnaa
open Go.RowKit Go.Shelf

/-- A code: bytes that read. -/
def CodeAt (w : World) (A : Option Addr) (len : Nat) : Prop := len = 0 ∨ ∃ b off, A = some ⟨b, off, none⟩ ∧ b < w.heap.size ∧ Bytes w b off len
/-- A drawn list of texts. -/
def Drawn (R C : Nat) (ts : List ByteArray) : Prop := 1 ≤ ts.length ∧ ts.length ≤ R ∧ ∀ s ∈ ts, 1 ≤ s.size ∧ s.size ≤ C + 1
theorem open_rd {w : World} {A : Option Addr} {len len' cap : Nat} (h : CodeAt w A len) (h1 : len' ≤ len) (h2 : len' ≤ 2000) : Rd (w.alloc (.cells #[.slice A len' cap, .int .i64 0] 115)) w.heap.size 0 := by
  refine ⟨A, len', cap, 0, Nat.le_refl _, h2, heap_new0 w _, ?_⟩
  rcases h with rfl | ⟨b, off, rfl, hb, hr⟩
  · exact .inl (by omega)
  · refine .inr ⟨b, off, rfl, hb, fun k hk => ?_⟩
    obtain ⟨v, v0, v1, hv⟩ := hr k (by omega)
    exact ⟨v, v0, v1, (((Below.refl _ w).alloc (Nat.le_refl _) _).cell (p := ⟨b, off + k, none⟩) hb).trans hv⟩

/-- The texts lie as they lay: another block has grown. -/
theorem Row9.kept {w w' : World} {g b : Nat} {ts : List ByteArray} (h : Row9 w b ts) (hg : w.grownBy w' (some g)) (hne : b ≠ g) : Row9 w' b ts := by
  obtain ⟨cs, h1, h2⟩ := h
  exact ⟨cs, (hg.block b (lt_of_block h1) (fun e => hne (Option.some.inj e))).trans h1, h2⟩

end Go.Proofs.Ytkkifpjeafchnaa
