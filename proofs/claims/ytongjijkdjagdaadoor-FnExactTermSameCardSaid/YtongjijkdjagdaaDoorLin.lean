/- The law for a region that draws its order, by one invariant over what has been listed; its last operations stand in one forced order behind all others. No program is named. -/
import Derived.Test.YtongjijkdjagdaaDoorBunA
namespace Go.Proofs.YtongjijkdjagdaaDoor
open Go Go.RowKit

section
variable {P : Program} {Q : Exit → Act → World → Prop}
theorem getD_set_fun (listed : Array Bool) (i : Nat) (hi : i < listed.size) : (fun k => (listed.setIfInBounds i true).getD k true) = fun k => if k = i then true else listed.getD k true := by
  funext k
  by_cases h : k = i
  · subst h
    rw [if_pos rfl, Array.getD_eq_getD_getElem?, Array.getElem?_setIfInBounds_self_of_lt hi]
    rfl
  · rw [if_neg h, Array.getD_eq_getD_getElem?, Array.getElem?_setIfInBounds_ne (fun e => h e.symm), Array.getD_eq_getD_getElem?]
theorem wp_region_lin_tail {id : Nat} {l : List Oper} {a : Act} {w : World} (hm : P.follows .mixedOrders = true) (n : Nat) (hB : relTailB l.toArray n = true)
    (fill : (Nat → Value) → Act) (us0 : Nat → Value) (ha : a = fill us0) (I : (Nat → Bool) → (Nat → Value) → World → Prop)
    (h0 : ∀ s, (∀ i, i < n → s i = false) → I s us0 w.drew)
    (hput : ∀ i us v, i < n → (fill us).put ((l.toArray[i]?).bind (·.dst)) v = fill (fun k => if k = i then v else us k))
    (hstep : ∀ i s us W, i < n → s i = false → (∀ o, l.toArray[i]? = some o → ∀ e ∈ o.after, Region.binds .any e = true → s e.on = true) → I s us W →
      wpOp P l.toArray Q i (fun a' W' => ∃ v, a' = (fill us).put ((l.toArray[i]?).bind (·.dst)) v ∧ I (fun k => if k = i then true else s k) (fun k => if k = i then v else us k) W') (fill us) W)
    (hdone : ∀ s us W, (∀ i, i < n → s i = true) → I s us W → wpList P l.toArray Q (l.drop n) (fill us) W) : (Code.region id l.toArray true).wp P Q a w := by
  unfold relTailB at hB
  simp only [Bool.and_eq_true, decide_eq_true_eq] at hB
  obtain ⟨⟨⟨⟨hbk, hs⟩, hc⟩, hn⟩, hseq⟩ := hB
  have hnl : n < l.length := by simpa using hn
  have hdl : (l.drop n).length = l.toArray.size - n := by simp
  have key : ∀ (f : Nat) (listed : Array Bool) (a' : Act) (W : World), HeadInv .any l.toArray n listed → (listed.toList.take n).count false = f →
      (∃ us, a' = fill us ∧ I (fun k => listed.getD k true) us W) → wpAny P .any l.toArray Q (f + (l.toArray.size - n)) listed a' W := by
    intro f
    induction f with
    | zero =>
      rintro listed a' W inv hf ⟨us, rfl, hi⟩
      obtain rfl := head_full inv hn hf
      rw [Nat.zero_add, ← hdl]
      refine wpAny_of_seq (l.drop n) n _ _ _ (fun j => by simp [List.getElem?_drop]) (by rw [hdl]; exact hseq) (hdone _ us W (fun i hi => ?_) hi)
      unfold tailArr
      rw [Array.getD_eq_getD_getElem?, List.getElem?_toArray, List.getElem?_append_left (by simpa using hi), List.getElem?_replicate]
      simp [hi]
    | succ f ih =>
      rintro listed a' W inv hf ⟨us, rfl, hI⟩
      obtain ⟨i0, hi0, hu0⟩ := head_left inv hn hf
      rw [show f + 1 + (l.toArray.size - n) = (f + (l.toArray.size - n)) + 1 by omega]
      refine ⟨fun h0 => ?_, fun i hi => ?_⟩
      · have := all_listed hbk inv.size h0 i0 (by omega)
        rw [hu0] at this
        cases this
      · have hin : i < n := Nat.lt_of_not_le fun h => tail_waits hs hc hn inv _ i0 rfl hi0 hu0 i h hi
        obtain ⟨hun, o, ho, hall⟩ := mem_ready.1 hi
        refine wpOp_mono ?_ (hstep i _ us W hin hun (fun o' ho' e he hbd => ?_) hI)
        · rintro a'' W' ⟨v, rfl, hv⟩
          refine ih _ _ _ (inv.set hi hin) (head_set hin (by rw [inv.size]; exact hn) hun hf) ⟨_, hput i us v hin, ?_⟩
          rw [getD_set_fun listed i (by rw [inv.size]; omega)]
          exact hv
        · rw [ho] at ho'
          cases ho'
          have hlt := backB_spec hbk ho he
          have h1 := hall e he hbd
          show listed.getD e.on true = true
          rw [Array.getD_eq_getD_getElem?, Array.getElem?_eq_getElem (by have := inv.size; omega)] at h1 ⊢
          exact h1
  refine wp_region_any hm ?_
  have inv0 : HeadInv .any l.toArray n (Array.replicate l.toArray.size false) :=
    ⟨by simp, fun j oj _ hl => (by rw [getD_replicate_false] at hl; cases hl), fun t _ ht => getD_in (by simpa using ht) (getD_replicate_false _ _)⟩
  have H := key n _ a w.drew inv0 (by rw [Array.toList_replicate, List.take_replicate, List.count_replicate_self]; omega) ⟨us0, ha, h0 _ fun i hi => getD_in (by simp; omega) (getD_replicate_false _ _)⟩
  rw [show n + (l.toArray.size - n) = l.toArray.size by omega] at H
  exact H
/-- One operation that runs by itself. -/
theorem wpOp_run {ops : Array Oper} {i : Nat} {o : Oper} (hi : ops[i]? = some o) (hg : o.guard = none) {u : Value} {a : Act} {w w' : World} {K : Act → World → Prop}
    (hr : (execOp a.eval o).run P w = .ok (.value u) w') (hK : K (a.put o.dst u) w') : wpOp P ops Q i K a w := by
  unfold wpOp
  simp only [hi]
  rw [if_pos (by simp [Region.wanted, hg])]
  refine .inl ?_
  unfold Oper.wp
  rw [hr]
  simp only [Oper.upon]
  exact hK
end

end Go.Proofs.YtongjijkdjagdaaDoor
