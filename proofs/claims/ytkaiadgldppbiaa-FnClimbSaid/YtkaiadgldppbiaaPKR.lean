/- The contracts of the functions of chapters 3 to 5 on grids, cells and pairings that are given, in one form. -/
import Derived.Test.YtkaiadgldppbiaaPKB
import Derived.Test.YtkaiadgldppbiaaBunF
import Derived.Test.YtkaiadgldppbiaaBunQ
import Derived.Test.YtkaiadgldppbiaaBunR
import Derived.Test.YtkaiadgldppbiaaCrossI
import Derived.Test.YtkaiadgldppbiaaBunJ
import Derived.Test.YtkaiadgldppbiaaBunS
namespace Go.Proofs.Ytkaiadgldppbiaa
open Go.RowKit

theorem GridOut.yes {R : Nat → Nat → (Int → Int → UInt8) → Int × Bool} {ss : List ByteArray} {x : Int} {ok : Bool} {n m : Nat} (h : GridOut R ss x ok) (hg : IsGrid n m ss) : (x, ok) = R n m (lett m (pad (flat ss))) := by
  rcases h with ⟨n', m', h1, h2⟩ | ⟨h1, _, _⟩
  · obtain ⟨rfl, rfl⟩ := hg.uniq h1
    exact h2
  · exact absurd hg (h1 _ _)
theorem iend_grid {R : Nat → Nat → (Int → Int → UInt8) → Int × Bool} {ss : List ByteArray} {x : Int} {ok : Bool} {n m : Nat} {w w' : World} {e : Ending}
    (hg : IsGrid n m ss) (hv : R n m (lett m (pad (flat ss))) = (x, ok)) (h : Below w.heap.size w w' ∧ ∃ x ok, e = .returned (.tuple #[.int .i64 x, .bool ok]) ∧ GridOut R ss x ok) : IEnd x ok w e w' := by
  obtain ⟨hb, x', ok', rfl, ho⟩ := h
  have e := ho.yes hg
  rw [hv] at e
  cases e
  exact ⟨hb, rfl⟩
theorem MirOut.yes {R : Nat → Nat → List UInt8 → Nat → Int × Bool} {ss : List ByteArray} {cell x : Int} {ok : Bool} {n m c : Nat} (h : MirOut R ss cell x ok) (hm : MirrorIn ss cell n m c) : (x, ok) = R n m (pad (flat ss)) c := by
  rcases h with ⟨n', m', c', h1, h2⟩ | ⟨h1, _, _⟩
  · obtain ⟨rfl, rfl, rfl⟩ := hm.1.uniq h1.1
    exact h2
  · exact absurd hm (h1 _ _ _)
theorem iend_mir {R : Nat → Nat → List UInt8 → Nat → Int × Bool} {ss : List ByteArray} {cell x : Int} {ok : Bool} {n m c : Nat} {w w' : World} {e : Ending}
    (hm : MirrorIn ss cell n m c) (hv : R n m (pad (flat ss)) c = (x, ok)) (h : Below w.heap.size w w' ∧ ∃ x ok, e = .returned (.tuple #[.int .i64 x, .bool ok]) ∧ MirOut R ss cell x ok) : IEnd x ok w e w' := by
  obtain ⟨hb, x', ok', rfl, ho⟩ := h
  have e := ho.yes hm
  rw [hv] at e
  cases e
  exact ⟨hb, rfl⟩
section
variable {n m c cc : Nat} {A : Option Addr} {ss : List ByteArray} {w : World} {x cell : Int} {ok : Bool} {l : List Int}
theorem nRoundMany (h : LS w A ss) (hg : IsGrid n m ss) (hv : manyR n m (lett m (pad (flat ss))) = (x, ok)) :
    Calls Try.prog 7 #[.slice A ss.length c] w (IEnd x ok w) :=
  (implRoundMany_any A c ss w h (gsmall hg).1 (gsmall hg).2).mono fun _ _ => iend_grid hg hv
theorem nRoundPaths (h : LS w A ss) (hg : IsGrid n m ss) (hv : pathsR n m (lett m (pad (flat ss))) = (x, ok)) :
    Calls Try.prog 16 #[.slice A ss.length c] w (IEnd x ok w) :=
  (implRoundPaths_any A c ss w h (gsmall hg).1 (gsmall hg).2).mono fun _ _ => iend_grid hg hv
theorem nRoundLeast (h : LS w A ss) (hg : IsGrid n m ss) (hv : leastR n m (lett m (pad (flat ss))) = (x, ok)) :
    Calls Try.prog 11 #[.slice A ss.length c] w (IEnd x ok w) :=
  (implRoundLeast_any A c ss w h (gsmall hg).1 (gsmall hg).2).mono fun _ _ => iend_grid hg hv
theorem nChangeDelta (h : LS w A ss) (hm : MirrorIn ss cell n m cc) (hv : deltaR n m (pad (flat ss)) cc = (x, ok)) :
    Calls Try.prog 17 #[.slice A ss.length c, .int .i64 cell] w (IEnd x ok w) :=
  (implChangeDelta_any A c ss cell w h (gsmall hm.1.1).1 (gsmall hm.1.1).2).mono fun _ _ => iend_mir hm hv
end
end Go.Proofs.Ytkaiadgldppbiaa
