/- l2Way of the specification at a port. -/
import Derived.Test.YtmdgbcepjnfbnaaSpecWay
namespace Go.Proofs.Ytmdgbcepjnfbnaa
open Go.RowKit Go.Shelf

/-- The ways of a port, at hand: what l2Way is asked for. -/
theorem l2Way_port (A : Option Addr) (c B n m q : Nat) (ss : List ByteArray) (w : World) (h : Strs w B A ss) (hB : B ≤ w.heap.size) (hg : IsGrid n m ss) (hq : q < 2 * (n + m)) :
    Calls Try.prog 130 #[.slice A ss.length c, .int .i64 q] w fun e w' => ∃ v v', e = .returned (.tuple #[v, v', .int .i64 ((bend_ n m (lett m (pad (flat ss))) q : Nat) : Int)]) ∧
      GrowI w' w.heap.size v (cellsI m (bway n m (lett m (pad (flat ss))) q) (blen n m (lett m (pad (flat ss))) q)) ∧ GrowI w' w.heap.size v' (headsI (bway n m (lett m (pad (flat ss))) q) (blen n m (lett m (pad (flat ss))) q)) ∧ Below w.heap.size w w' := by
  rw [(bend_facts (t := lett m (pad (flat ss))) hg.2.1 hg.2.2.2.1 hq).1]
  exact l2Way_any A c B n m q _ ss w h hB hg hq rfl

end Go.Proofs.Ytmdgbcepjnfbnaa
