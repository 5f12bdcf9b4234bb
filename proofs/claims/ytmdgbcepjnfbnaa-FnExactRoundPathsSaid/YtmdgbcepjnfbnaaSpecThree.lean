/- GridCount, GridFull, GridNumber of the specification, by their contracts. -/
import Derived.Test.YtmdgbcepjnfbnaaImplCount
namespace Go.Proofs.Ytmdgbcepjnfbnaa
open Go.RowKit

/-- The cells that are still to come. -/
def NumRel (fl : List UInt8) (N : Nat) (w : World) (x i : Value) (wr : World) : Prop :=
  ∃ q : Nat, q ≤ N ∧ i = .int .i64 ((q : Int) - 1) ∧ x = .int .i64 ((numOf (fl.drop q) : Nat) : Int) ∧ ∃ d, wr = w.drewN d

theorem let3 (b : UInt8) (h : isLet b = true) : (b = 46 ∧ dig b = 0) ∨ (b = 114 ∧ dig b = 1) ∨ (b = 102 ∧ dig b = 2) := by
  simp only [isLet, Bool.or_eq_true, beq_iff_eq] at h
  rcases h with (rfl | rfl) | rfl <;> simp [dig]

theorem CountEnd_two {ss : List ByteArray} {e : Ending} (h : CountEnd ss e) : ∃ (x : Int) (ok : Bool), e = .returned (.tuple #[.int .i64 x, .bool ok]) := by
  rcases h with ⟨n, m, _, rfl⟩ | ⟨_, rfl⟩ <;> exact ⟨_, _, rfl⟩
theorem CountEnd_one {ss : List ByteArray} {e e' : Ending} (h : CountEnd ss e) (h' : CountEnd ss e') : e' = e := by
  rcases h with ⟨n, m, hg, rfl⟩ | ⟨hn, rfl⟩ <;> rcases h' with ⟨n', m', hg', rfl⟩ | ⟨hn', rfl⟩
  · rfl
  · exact absurd hg (hn' _ _)
  · exact absurd hg' (hn _ _)
  · rfl
theorem FullEnd_two {ss : List ByteArray} {e : Ending} (h : FullEnd ss e) : ∃ (ok : Bool), e = .returned (.bool ok) := by
  rcases h with ⟨n, m, _, rfl⟩ | ⟨_, rfl⟩ <;> exact ⟨_, rfl⟩
theorem FullEnd_one {ss : List ByteArray} {e e' : Ending} (h : FullEnd ss e) (h' : FullEnd ss e') : e' = e := by
  rcases h with ⟨n, m, hg, rfl⟩ | ⟨hn, rfl⟩ <;> rcases h' with ⟨n', m', hg', rfl⟩ | ⟨hn', rfl⟩
  · rfl
  · exact absurd hg (hn' _ _)
  · exact absurd hg' (hn _ _)
  · rfl
theorem NumberEnd_two {ss : List ByteArray} {e : Ending} (h : NumberEnd ss e) : ∃ (x : Int) (ok : Bool), e = .returned (.tuple #[.int .i64 x, .bool ok]) := by
  rcases h with ⟨n, m, _, ⟨_, rfl⟩ | ⟨_, rfl⟩⟩ | ⟨_, rfl⟩ <;> exact ⟨_, _, rfl⟩
theorem NumberEnd_one {ss : List ByteArray} {e e' : Ending} (h : NumberEnd ss e) (h' : NumberEnd ss e') : e' = e := by
  rcases h with ⟨n, m, hg, h1⟩ | ⟨hn, rfl⟩ <;> rcases h' with ⟨n', m', hg', h2⟩ | ⟨hn', rfl⟩
  · have e1 := hg.flen
    have e2 := hg'.flen
    rcases h1 with ⟨h1, rfl⟩ | ⟨h1, rfl⟩ <;> rcases h2 with ⟨h2, rfl⟩ | ⟨h2, rfl⟩
    · rfl
    · omega
    · omega
    · rfl
  · exact absurd hg (hn' _ _)
  · exact absurd hg' (hn _ _)
  · rfl
/-- The block that toStringS has made reads as the strings. -/
theorem madeRow {ss : List ByteArray} {w w' : World} {C : Array Value} (h : Filled ss ss.length C) (hw : w' = w.alloc (.cells C 9)) : Row9 w' w.heap.size ss := by
  subst hw
  exact ⟨C, heap_new0 w _, fun k s hk => h.2.1 k s (List.getElem?_eq_some_iff.1 hk).1 hk⟩

end Go.Proofs.Ytmdgbcepjnfbnaa
