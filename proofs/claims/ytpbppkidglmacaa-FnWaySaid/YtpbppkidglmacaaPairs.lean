/- BeamPairs of the specification and of the program, by their contracts. -/
import Derived.Test.YtpbppkidglmacaaBunF
namespace Go.Proofs.Ytpbppkidglmacaa
open Go.RowKit Go.Shelf

def pairsR (n m : Nat) (t : Int → Int → UInt8) : List Int := (List.range (2 * (n + m))).map fun p => ((bend_ n m t p : Nat) : Int)
theorem pairsR_length (n m : Nat) (t : Int → Int → UInt8) : (pairsR n m t).length = 2 * (n + m) := by simp [pairsR]
theorem pairsR_at {n m p : Nat} {t : Int → Int → UInt8} (h : p < 2 * (n + m)) : (pairsR n m t)[p]? = some ((bend_ n m t p : Nat) : Int) := by simp [pairsR, h]
/-- What BeamPairs comes to. -/
def PairsOut (ss : List ByteArray) (l : List Int) (ok : Bool) : Prop :=
  (∃ n m, IsGrid n m ss ∧ l = pairsR n m (lett m (pad (flat ss))) ∧ ok = true) ∨ (NoGrid ss ∧ l = [] ∧ ok = false)
theorem PairsOut.uniq {ss : List ByteArray} {l l' : List Int} {ok ok' : Bool} (h : PairsOut ss l ok) (h' : PairsOut ss l' ok') : ok' = ok ∧ l' = l := by
  rcases h with ⟨n, m, h1, rfl, rfl⟩ | ⟨h1, rfl, rfl⟩ <;> rcases h' with ⟨n', m', h1', rfl, rfl⟩ | ⟨h1', rfl, rfl⟩
  · obtain ⟨rfl, rfl⟩ := h1.uniq h1'
    exact ⟨rfl, rfl⟩
  · exact absurd h1 (h1' _ _)
  · exact absurd h1' (h1 _ _)
  · exact ⟨rfl, rfl⟩
theorem PairsOut.len {ss : List ByteArray} {l : List Int} {ok : Bool} (h : PairsOut ss l ok) : l.length ≤ 1048576 := by
  rcases h with ⟨n, m, h1, rfl, _⟩ | ⟨_, rfl, _⟩
  · have h2 := h1.2.2.1
    have h3 := h1.2.2.2.2.1
    rw [pairsR_length]; omega
  · simp
theorem GrowI.below' {w w' : World} {base : Nat} {v : Value} {l : List Int} (h : GrowI w base v l) (hb : Below w.heap.size w w') : GrowI w' base v l := by
  refine World.ownsRow.kept h (Cls.grown hb) ?_
  cases v.ownBlock with
  | none => exact .inl rfl
  | some k => exact .inr (fun e => by cases e)

def PrRel (l : List Int) (w : World) (v i : Value) (wr : World) : Prop :=
  ∃ k : Nat, k ≤ l.length ∧ i = .int .i64 k ∧ GrowI wr w.heap.size v (l.take k) ∧ Below w.heap.size w wr

def PiRel (l : List Int) (N R g : Nat) (cs : Array Value) (w : World) (i : Value) (wr : World) : Prop :=
  ∃ k : Nat, k ≤ N ∧ i = .int .i64 k ∧ wr.heap[g]? = some (.cells cs 44 (0, 0)) ∧ Below w.heap.size w wr ∧
    ∃ rs : Array Value, wr.heap[R]? = some (.cells rs 3 (0, 0)) ∧ rs.size = N ∧ (∀ j x, j < k → l[j]? = some x → rs[j]? = some (.int .i64 x)) ∧ ∀ j, j < N → ∃ u : Int, rs[j]? = some (.int .i64 u)

end Go.Proofs.Ytpbppkidglmacaa
