/- A region that draws its order and writes: one invariant over what has been listed, no operation behind all others. No program is named. -/
import Derived.Test.YtongjijkdjagdaaDoorLin
namespace Go.Proofs.YtongjijkdjagdaaDoor
open Go.RowKit

/-- The law for a region that draws its order, by one invariant over what has been listed; no operation stands behind all others. -/
theorem wp_region_linA {P : Program} {Q : Exit → Act → World → Prop} {id : Nat} {l : List Oper} {a : Act} {w : World} (hm : P.follows .mixedOrders = true) (hB : backB2 l.toArray = true) (n : Nat) (hn : l.toArray.size = n)
    (fill : (Nat → Value) → Act) (us0 : Nat → Value) (ha : a = fill us0) (I : (Nat → Bool) → (Nat → Value) → World → Prop)
    (h0 : ∀ s, (∀ i, i < n → s i = false) → I s us0 w.drew)
    (hput : ∀ i us v, i < n → (fill us).put ((l.toArray[i]?).bind (·.dst)) v = fill (fun k => if k = i then v else us k))
    (hstep : ∀ i s us W, i < n → s i = false → (∀ o, l.toArray[i]? = some o → ∀ e ∈ o.after, Region.binds .any e = true → s e.on = true) → I s us W →
      wpOp P l.toArray Q i (fun a' W' => ∃ v, a' = (fill us).put ((l.toArray[i]?).bind (·.dst)) v ∧ I (fun k => if k = i then true else s k) (fun k => if k = i then v else us k) W') (fill us) W)
    (hdone : ∀ s us W, (∀ i, i < n → s i = true) → I s us W → Q .normal (fill us) W) : (Code.region id l.toArray true).wp P Q a w := by
  refine wp_region_any hm ?_
  refine wpAny_inv (Inv := fun listed a W => listed.size = n ∧ ∃ us, a = fill us ∧ I (fun k => listed.getD k true) us W) ?_ ?_ _ _ _ _ ?_ ?_
  · rintro listed a' W i ⟨hls, us, rfl, hI⟩ hi
    obtain ⟨hun, o, ho, hall⟩ := mem_ready.1 hi
    have hin : i < n := by rw [← hn]; exact (Array.getElem?_eq_some_iff.1 ho).1
    refine wpOp_mono ?_ (hstep i _ us W hin hun (fun o' ho' e he hbd => ?_) hI)
    · rintro a'' W' ⟨v, rfl, hv⟩
      refine ⟨by simpa using hls, _, hput i us v hin, ?_⟩
      rw [getD_set_fun listed i (by omega)]
      exact hv
    · rw [ho] at ho'
      cases ho'
      have hlt := backB2_spec hB ho he hbd
      have h1 := hall e he hbd
      show listed.getD e.on true = true
      rw [Array.getD_eq_getD_getElem?, Array.getElem?_eq_getElem (by omega)] at h1 ⊢
      exact h1
  · rintro listed a' W ⟨hls, us, rfl, hI⟩ hrd
    exact hdone _ us W (fun i hi => all_listed2 hB (by rw [hls, hn]) hrd i (by omega)) hI
  · unfold leftN
    refine Nat.le_trans List.count_le_length ?_
    simp
  · refine ⟨by simpa using hn, us0, ha, h0 _ fun i hi => ?_⟩
    have hin : i < l.length := by have : l.toArray.size = l.length := by simp
                                  omega
    show (Array.replicate _ false).getD i true = false
    rw [Array.getD_eq_getD_getElem?, Array.getElem?_replicate]
    simp [hin]
section
variable {P : Program} {ops : Array Oper} {o : Oper} {a : Act} {w : World} {Q : Exit → Act → World → Prop}
/-- An operation that hands back a value, and one that hands back none. -/
theorem wpOp_runA {i : Nat} (hi : ops[i]? = some o) (hg : o.guard = none) {K : Act → World → Prop} {u : Value} {w' : World} (hr : (execOp a.eval o).run P w = .ok (.value u) w') (h : K (a.put o.dst u) w') : wpOp P ops Q i K a w := by
  unfold wpOp
  simp only [hi]
  rw [if_pos (by simp [Region.wanted, hg])]
  refine .inl ?_
  unfold Oper.wp
  rw [hr]
  exact h
theorem wpOp_skipA {i : Nat} (hi : ops[i]? = some o) (hg : o.guard = none) {K : Act → World → Prop} {w' : World} (hr : (execOp a.eval o).run P w = .ok .skip w') (h : K (a.put o.dst undef) w') : wpOp P ops Q i K a w := by
  unfold wpOp
  simp only [hi]
  rw [if_pos (by simp [Region.wanted, hg])]
  refine .inl ?_
  unfold Oper.wp
  rw [hr]
  exact h
end
theorem lin_stepA {n i : Nat} {R : Nat → Value → Prop} {s : Nat → Bool} {us : Nat → Value} {v : Value} (h : ∀ io, io < n → s io = true → R io (us io)) (hv : R i v) : ∀ io, io < n → (if io = i then true else s io) = true → R io (if io = i then v else us io) := by
  intro io h1 h2
  by_cases e : io = i
  · subst e
    rw [if_pos rfl]
    exact hv
  · rw [if_neg e] at h2 ⊢
    exact h io h1 h2
end Go.Proofs.YtongjijkdjagdaaDoor
