/- ChangeDelta where there is no mirror. -/
import Derived.Test.YtgildagmliadeaaPKR
import Derived.Test.YtgildagmliadeaaBunR
namespace Go.Proofs.Ytgildagmliadeaa
open Go.RowKit

theorem nNoDelta {n m c : Nat} {A : Option Addr} {ss : List ByteArray} {w : World} {cell : Int} (h : LS w A ss) (hg : IsGrid n m ss) (hno : ∀ n m c, ¬ MirrorIn ss cell n m c) :
    Calls Try.prog 30 #[.slice A ss.length c, .int .i64 cell] w (IEnd 0 false w) :=
  (implChangeDelta_any A c ss cell w h (gsmall hg).1 (gsmall hg).2).mono fun _ _ ⟨hb, x', ok', he, ho⟩ => ⟨hb, by
    rcases ho with ⟨_, _, _, h1, _⟩ | ⟨_, rfl, rfl⟩
    · exact absurd h1 (hno _ _ _)
    · exact he⟩
end Go.Proofs.Ytgildagmliadeaa
