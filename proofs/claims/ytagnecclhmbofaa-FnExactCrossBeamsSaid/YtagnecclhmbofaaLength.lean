/- BeamLength of the specification and of the program, by their contracts. -/
import Derived.Test.YtagnecclhmbofaaTrace
import Derived.Test.YtagnecclhmbofaaPort
import Derived.Test.YtagnecclhmbofaaSpecTurns
namespace Go.Proofs.Ytagnecclhmbofaa
open Go.RowKit Go.Shelf

def lengthR (n m : Nat) (t : Int → Int → UInt8) (q : Nat) : Int × Bool := (((blen n m t q : Nat) : Int), true)

/-- The ways of a beam, as a list. -/
def waysL (bw : Nat → Wy) (L : Nat) : List Wy := (List.finRange L).map fun x => bw x.val
theorem waysL_length (bw : Nat → Wy) (L : Nat) : (waysL bw L).length = L := by simp [waysL]
theorem waysL_mem {bw : Nat → Wy} {L : Nat} {y : Wy} : y ∈ waysL bw L ↔ ∃ j, j < L ∧ bw j = y := by
  unfold waysL
  rw [List.mem_map]
  constructor
  · rintro ⟨x, _, rfl⟩
    exact ⟨x.val, x.isLt, rfl⟩
  · rintro ⟨j, hj, rfl⟩
    exact ⟨⟨j, hj⟩, List.mem_finRange _, rfl⟩
theorem waysL_nodup {bw : Nat → Wy} {L : Nat} (h : ∀ a b, a < b → b < L → bw a ≠ bw b) : (waysL bw L).Nodup := by
  unfold waysL List.Nodup
  rw [List.pairwise_map]
  rw [List.pairwise_iff_getElem]
  intro i j hi hj hij
  simp only [List.getElem_finRange, Fin.val_cast]
  exact h i j hij (by simpa using hj)
theorem okW_in {n m : Nat} {t : Int → Int → UInt8} {q j : Nat} (hn : n ≤ 5) (hm : m ≤ 5) (hj : j < blen n m t q) : okW (bway n m t q j) := by
  have hin := blen_in (n := n) (m := m) (t := t) (p := q) (j := j) hj
  have hd := bway_d (n := n) (m := m) (t := t) q j
  unfold inG at hin
  unfold okW
  omega
theorem okW_ways {n m : Nat} {t : Int → Int → UInt8} {q : Nat} (hn : n ≤ 5) (hm : m ≤ 5) : ∀ x ∈ waysL (bway n m t q) (blen n m t q), okW x := fun x hx => by
  obtain ⟨j, hj, rfl⟩ := waysL_mem.1 hx
  exact okW_in hn hm hj

attribute [local go_sem] Oper.semAt_some

end Go.Proofs.Ytagnecclhmbofaa
