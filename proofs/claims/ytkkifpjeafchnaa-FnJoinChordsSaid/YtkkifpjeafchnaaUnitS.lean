/- JoinUnit of the specification, by its contract. -/
import Derived.Test.YtkkifpjeafchnaaClosed
import Derived.Test.YtkkifpjeafchnaaJoinSt
namespace Go.Proofs.Ytkkifpjeafchnaa
open Go.RowKit Go.Shelf

theorem made_pairC (N : Nat) : madeCells #[Value.int .i64 0] N = pairC (List.replicate N 0) := by
  refine Array.ext_getElem? fun k => ?_
  unfold pairC
  by_cases hk : k < N
  · simp [madeCells, hk, Nat.mod_one]
  · rw [Array.getElem?_eq_none (by rw [size_madeCells]; omega), Array.getElem?_eq_none (by simp; omega)]
/-- So far the ports in V have their partners, and these them. -/
def PairsIn (L : List Int) (N : Nat) (V : Nat → Prop) (s : Nat → Nat) : Prop := L.length = N ∧ ∀ q, q < N → V q → L[q]? = some ((s q : Nat) : Int) ∧ L[s q]? = some ((q : Nat) : Int)
theorem pairsIn_step {L : List Int} {N q0 : Nat} {V V' : Nat → Prop} {s : Nat → Nat} (hs : Mates N s) (h : PairsIn L N V s) (hq0 : q0 < N) (hV : ∀ q, V' q → V q ∨ q = q0) :
    PairsIn ((L.set q0 ((s q0 : Nat) : Int)).set (s q0) ((q0 : Nat) : Int)) N V' s := by
  obtain ⟨h1, h2⟩ := h
  have hs0 := hs.lt _ hq0
  have hne : s q0 ≠ q0 := hs.ne _ hq0
  have at0 : ((L.set q0 ((s q0 : Nat) : Int)).set (s q0) ((q0 : Nat) : Int))[q0]? = some ((s q0 : Nat) : Int) := by
    rw [List.getElem?_set_ne hne, List.getElem?_set_self (by omega)]
  have at1 : ((L.set q0 ((s q0 : Nat) : Int)).set (s q0) ((q0 : Nat) : Int))[s q0]? = some ((q0 : Nat) : Int) := by
    rw [List.getElem?_set_self (by rw [List.length_set]; omega)]
  refine ⟨by simp [h1], fun q hq hv => ?_⟩
  by_cases e : q = q0
  · subst e
    exact ⟨at0, at1⟩
  · rcases hV q hv with hv | hv
    · obtain ⟨k1, k2⟩ := h2 q hq hv
      by_cases e1 : q = s q0
      · subst e1
        rw [hs.back _ hq0]
        exact ⟨at1, at0⟩
      · have n3 : s q ≠ q0 := fun e2 => e1 (by rw [← e2, hs.back _ hq])
        have n5 : s q ≠ s q0 := fun e2 => e (by rw [← hs.back _ hq, e2, hs.back _ hq0])
        rw [List.getElem?_set_ne (fun x => e1 x.symm), List.getElem?_set_ne (fun x => e x.symm), List.getElem?_set_ne n5.symm, List.getElem?_set_ne n3.symm]
        exact ⟨k1, k2⟩
    · exact absurd hv e
theorem pairsIn_done {L : List Int} {N : Nat} {V : Nat → Prop} {s : Nat → Nat} (hs : Mates N s) (h : PairsIn L N V s) (hV : ∀ q, q < N → V q ∨ V (s q)) : L = listS N s := by
  refine listS_all h.1 fun q hq => ?_
  rcases hV q hq with hv | hv
  · exact (h.2 _ hq hv).1
  · have := (h.2 _ (hs.lt _ hq) hv).2
    rwa [hs.back _ hq] at this
theorem row8_pairC {w : World} {g : Nat} {l : List Int} (h : w.heap[g]? = some (.cells (pairC l) 3 (0, 0))) : Row8 w g l := ⟨_, h, fun _ _ hk => pairC_at hk⟩

end Go.Proofs.Ytkkifpjeafchnaa
