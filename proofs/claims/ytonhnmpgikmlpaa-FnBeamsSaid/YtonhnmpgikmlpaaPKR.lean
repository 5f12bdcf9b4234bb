/- The contracts of the functions of chapters 3 to 5 on grids, cells and pairings that are given, in one form. -/
import Derived.Test.YtonhnmpgikmlpaaPKB
import Derived.Test.YtonhnmpgikmlpaaBunF
import Derived.Test.YtonhnmpgikmlpaaBunQ
import Derived.Test.YtonhnmpgikmlpaaBunR
import Derived.Test.YtonhnmpgikmlpaaCrossI
import Derived.Test.YtonhnmpgikmlpaaCrossJ
import Derived.Test.YtonhnmpgikmlpaaBunJ
import Derived.Test.YtonhnmpgikmlpaaBunS
namespace Go.Proofs.Ytonhnmpgikmlpaa
open Go.RowKit

theorem GridOut.yes {R : Nat → Nat → (Int → Int → UInt8) → Int × Bool} {ss : List ByteArray} {x : Int} {ok : Bool} {n m : Nat} (h : GridOut R ss x ok) (hg : IsGrid n m ss) : (x, ok) = R n m (lett m (pad (flat ss))) := by
  rcases h with ⟨n', m', h1, h2⟩ | ⟨h1, _, _⟩
  · obtain ⟨rfl, rfl⟩ := hg.uniq h1
    exact h2
  · exact absurd hg (h1 _ _)
theorem iend_grid {R : Nat → Nat → (Int → Int → UInt8) → Int × Bool} {ss : List ByteArray} {x : Int} {ok : Bool} {n m : Nat} {w w' : World} {e : Ending}
    (hg : IsGrid n m ss) (hv : R n m (lett m (pad (flat ss))) = (x, ok)) (h : Below w.heap.size w w' ∧ ∃ x ok, e = .returned (.tuple #[.int .i64 x, .bool ok]) ∧ GridOut R ss x ok) : IEnd x ok w e w' := by
  obtain ⟨hb, x', ok', rfl, ho⟩ := h
  have e := ho.yes hg
  rw [hv] at e
  cases e
  exact ⟨hb, rfl⟩
theorem MirOut.yes {R : Nat → Nat → List UInt8 → Nat → Int × Bool} {ss : List ByteArray} {cell x : Int} {ok : Bool} {n m c : Nat} (h : MirOut R ss cell x ok) (hm : MirrorIn ss cell n m c) : (x, ok) = R n m (pad (flat ss)) c := by
  rcases h with ⟨n', m', c', h1, h2⟩ | ⟨h1, _, _⟩
  · obtain ⟨rfl, rfl, rfl⟩ := hm.1.uniq h1.1
    exact h2
  · exact absurd hm (h1 _ _ _)
theorem iend_mir {R : Nat → Nat → List UInt8 → Nat → Int × Bool} {ss : List ByteArray} {cell x : Int} {ok : Bool} {n m c : Nat} {w w' : World} {e : Ending}
    (hm : MirrorIn ss cell n m c) (hv : R n m (pad (flat ss)) c = (x, ok)) (h : Below w.heap.size w w' ∧ ∃ x ok, e = .returned (.tuple #[.int .i64 x, .bool ok]) ∧ MirOut R ss cell x ok) : IEnd x ok w e w' := by
  obtain ⟨hb, x', ok', rfl, ho⟩ := h
  have e := ho.yes hm
  rw [hv] at e
  cases e
  exact ⟨hb, rfl⟩
section
variable {n m c cc : Nat} {A : Option Addr} {ss : List ByteArray} {w : World} {x cell : Int} {ok : Bool} {l : List Int}
theorem nRoundMany (h : LS w A ss) (hg : IsGrid n m ss) (hv : manyR n m (lett m (pad (flat ss))) = (x, ok)) :
    Calls Try.prog 49 #[.slice A ss.length c] w (IEnd x ok w) :=
  (implRoundMany_any A c ss w h (gsmall hg).1 (gsmall hg).2).mono fun _ _ => iend_grid hg hv
theorem nRoundTwice (h : LS w A ss) (hg : IsGrid n m ss) (hv : rtwiceR n m (lett m (pad (flat ss))) = (x, ok)) :
    Calls Try.prog 32 #[.slice A ss.length c] w (IEnd x ok w) :=
  (implRoundTwice_any A c ss w h (gsmall hg).1 (gsmall hg).2).mono fun _ _ => iend_grid hg hv
theorem nCrossTotal (h : LS w A ss) (hg : IsGrid n m ss) (hv : crossR [0, 1, 2] n m (lett m (pad (flat ss))) = (x, ok)) :
    Calls Try.prog 20 #[.slice A ss.length c] w (IEnd x ok w) :=
  (implCrossTotal_any A c ss w h (gsmall hg).1 (gsmall hg).2).mono fun _ _ => iend_grid hg hv
theorem nCrossBeams (h : LS w A ss) (hg : IsGrid n m ss) (hv : crossR [0] n m (lett m (pad (flat ss))) = (x, ok)) :
    Calls Try.prog 23 #[.slice A ss.length c] w (IEnd x ok w) :=
  (implCrossBeams_any A c ss w h (gsmall hg).1 (gsmall hg).2).mono fun _ _ => iend_grid hg hv
theorem nBeamPairs (h : LS w A ss) (hg : IsGrid n m ss) (hv : pairsR n m (lett m (pad (flat ss))) = l) :
    Calls Try.prog 26 #[.slice A ss.length c] w fun e w' => Below w.heap.size w w' ∧ ∃ A c, e = .returned (.tuple #[.slice A l.length c, .bool true]) ∧ LI w' A l :=
  (implBeamPairs_any A c ss w h (gsmall hg).1 (gsmall hg).2).mono fun _ _ h => (lend_own h).yes fun r ok ho => by
    subst hv
    exact (ho.uniq (.inl ⟨n, m, hg, rfl, rfl⟩ : PairsOut ss _ true)).symm.imp Eq.symm Eq.symm
theorem nCrossIn {b : Bool} (h : LI w A l) (hn : l.length ≤ 1048576) (hb : isPairB l = b) :
    Calls Try.prog 57 #[.slice A l.length c] w fun e w' => Below w.heap.size w w' ∧ e = .returned (.bool b) :=
  (implCrossIn_any A c l w h hn).mono fun _ _ ⟨he, hb'⟩ => ⟨hb', by rw [he, hb]⟩
theorem nCrossChords {k : Nat} (h : LI w A l) (hl : IsPair l) (hv : chordsC (intAt l) l.length l.length = k) :
    Calls Try.prog 27 #[.slice A l.length c] w (IEnd (k : Int) true w) :=
  (implCrossChords_any A c l w h (by have := hl.2.1; omega)).mono fun _ _ ⟨hb, x', ok', he, ho⟩ => ⟨hb, by
    rcases ho with ⟨_, rfl, rfl⟩ | ⟨h1, _, _⟩
    · rw [he, hv]
    · exact absurd hl h1⟩
end
end Go.Proofs.Ytonhnmpgikmlpaa
