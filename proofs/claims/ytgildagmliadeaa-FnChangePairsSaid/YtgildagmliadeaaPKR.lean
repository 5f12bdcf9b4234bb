/- The contracts of the functions of chapters 3 to 5 on grids, cells and pairings that are given, in one form. -/
import Derived.Test.YtgildagmliadeaaPKB
import Derived.Test.YtgildagmliadeaaPKL
import Derived.Test.YtgildagmliadeaaBunF
import Derived.Test.YtgildagmliadeaaBunQ
import Derived.Test.YtgildagmliadeaaBunR
import Derived.Test.YtgildagmliadeaaCrossI
import Derived.Test.YtgildagmliadeaaBunJ
import Derived.Test.YtgildagmliadeaaBunS
namespace Go.Proofs.Ytgildagmliadeaa
open Go.RowKit

theorem MirOut.yes {R : Nat → Nat → List UInt8 → Nat → Int × Bool} {ss : List ByteArray} {cell x : Int} {ok : Bool} {n m c : Nat} (h : MirOut R ss cell x ok) (hm : MirrorIn ss cell n m c) : (x, ok) = R n m (pad (flat ss)) c := by
  rcases h with ⟨n', m', c', h1, h2⟩ | ⟨h1, _, _⟩
  · obtain ⟨rfl, rfl, rfl⟩ := hm.1.uniq h1.1
    exact h2
  · exact absurd hm (h1 _ _ _)
theorem iend_mir {R : Nat → Nat → List UInt8 → Nat → Int × Bool} {ss : List ByteArray} {cell x : Int} {ok : Bool} {n m c : Nat} {w w' : World} {e : Ending}
    (hm : MirrorIn ss cell n m c) (hv : R n m (pad (flat ss)) c = (x, ok)) (h : Below w.heap.size w w' ∧ ∃ x ok, e = .returned (.tuple #[.int .i64 x, .bool ok]) ∧ MirOut R ss cell x ok) : IEnd x ok w e w' := by
  obtain ⟨hb, x', ok', rfl, ho⟩ := h
  have e := ho.yes hm
  rw [hv] at e
  cases e
  exact ⟨hb, rfl⟩
section
variable {n m c cc : Nat} {A : Option Addr} {ss : List ByteArray} {w : World} {x cell : Int} {ok : Bool} {l : List Int}
theorem nRoundLeast (h : LS w A ss) (hg : IsGrid n m ss) (hv : leastR n m (lett m (pad (flat ss))) = (x, ok)) :
    Calls Try.prog 39 #[.slice A ss.length c] w (IEnd x ok w) :=
  (implRoundLeast_any A c ss w h (gsmall hg).1 (gsmall hg).2).mono fun _ _ => iend_grid hg hv
theorem nRoundTwice (h : LS w A ss) (hg : IsGrid n m ss) (hv : rtwiceR n m (lett m (pad (flat ss))) = (x, ok)) :
    Calls Try.prog 24 #[.slice A ss.length c] w (IEnd x ok w) :=
  (implRoundTwice_any A c ss w h (gsmall hg).1 (gsmall hg).2).mono fun _ _ => iend_grid hg hv
theorem nChangeDelta (h : LS w A ss) (hm : MirrorIn ss cell n m cc) (hv : deltaR n m (pad (flat ss)) cc = (x, ok)) :
    Calls Try.prog 30 #[.slice A ss.length c, .int .i64 cell] w (IEnd x ok w) :=
  (implChangeDelta_any A c ss cell w h (gsmall hm.1.1).1 (gsmall hm.1.1).2).mono fun _ _ => iend_mir hm hv
theorem nCrossIn {b : Bool} (h : LI w A l) (hn : l.length ≤ 1048576) (hb : isPairB l = b) :
    Calls Try.prog 57 #[.slice A l.length c] w fun e w' => Below w.heap.size w w' ∧ e = .returned (.bool b) :=
  (implCrossIn_any A c l w h hn).mono fun _ _ ⟨he, hb'⟩ => ⟨hb', by rw [he, hb]⟩
end
end Go.Proofs.Ytgildagmliadeaa
