/- BeamTurns and BeamFirst of the specification, by their contracts. -/
import Derived.Test.YtagnecclhmbofaaBeamOut
import Derived.Test.YtagnecclhmbofaaBunD
namespace Go.Proofs.Ytagnecclhmbofaa
open Go.RowKit Go.Shelf

/-- The first k ways with a mirror. -/
def turnsTo (t : Int → Int → UInt8) (bw : Nat → Wy) (k : Nat) : Nat := (List.range k).countP (mirrorAt t bw)
theorem turnsTo_succ (t : Int → Int → UInt8) (bw : Nat → Wy) (k : Nat) : turnsTo t bw (k + 1) = turnsTo t bw k + (if mirrorAt t bw k = true then 1 else 0) := by
  unfold turnsTo
  rw [List.range_succ, List.countP_append, List.countP_cons, List.countP_nil, Nat.zero_add]
theorem turnsTo_le (t : Int → Int → UInt8) (bw : Nat → Wy) (k : Nat) : turnsTo t bw k ≤ k := by
  have := List.countP_le_length (p := mirrorAt t bw) (l := List.range k)
  rwa [List.length_range] at this
def TurnRel (t : Int → Int → UInt8) (bw : Nat → Wy) (L : Nat) (w : World) (n i : Value) (wr : World) : Prop :=
  ∃ k : Nat, k ≤ L ∧ n = .int .i64 ((turnsTo t bw k : Nat) : Int) ∧ i = .int .i64 k ∧ ∃ d, wr = w.drewN d
def FirstRel (t : Int → Int → UInt8) (bw : Nat → Wy) (L : Nat) (w : World) (i : Value) (wr : World) : Prop :=
  ∃ k : Nat, k ≤ L ∧ i = .int .i64 k ∧ (∀ j, j < k → mirrorAt t bw j = false) ∧ ∃ d, wr = w.drewN d

theorem cellsI_atT {m L k : Nat} {bw : Nat → Wy} (h : k < L) : (cellsI m bw L)[k]? = some ((cellN m (bw k) : Nat) : Int) := by simp [cellsI, h]

end Go.Proofs.Ytagnecclhmbofaa
