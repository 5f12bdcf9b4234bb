/- A change of a cell: its number and a closure over boxed values; what the closure makes; the exchange of a mirror; how many paths more come. -/
import Derived.Test.YtagnecclhmbofaaBunH
import Derived.Test.YtagnecclhmbofaaBunA
namespace Go.Proofs.Ytagnecclhmbofaa
open Go.RowKit Go.Shelf

/-- The three blocks hold a grid, a place and a letter. -/
def MadeAt (W : World) (n m : Nat) (ls : List UInt8) (x : Wy) (b : UInt8) (g0 g1 g2 : Nat) : Prop :=
  W.heap[g0]? = some (.cells (gcells n m ls) 46 (0, 0)) ∧ W.heap[g1]? = some (.cells #[.int .i64 x.i, .int .i64 x.k] 90 (0, 0)) ∧ W.heap[g2]? = some (.cells #[.int .u8 (b.toNat : Int)] 5 (0, 0))
theorem MadeAt.below {W W' : World} {n m : Nat} {ls : List UInt8} {x : Wy} {b : UInt8} {g0 g1 g2 : Nat} (h : MadeAt W n m ls x b g0 g1 g2) (hb : Below W.heap.size W W') : MadeAt W' n m ls x b g0 g1 g2 :=
  ⟨(hb.block _ (lt_of_block h.1)).trans h.1, (hb.block _ (lt_of_block h.2.1)).trans h.2.1, (hb.block _ (lt_of_block h.2.2)).trans h.2.2⟩
end Go.Proofs.Ytagnecclhmbofaa
