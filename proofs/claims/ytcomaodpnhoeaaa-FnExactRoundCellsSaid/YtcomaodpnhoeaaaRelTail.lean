/- The law of relations (XAnyInv) for a region whose last operations stand in one forced order behind all others. No program is named. -/
import Derived.Test.YtcomaodpnhoeaaaAnyInv
namespace Go.Proofs.Ytcomaodpnhoeaaa
open Go Go.RowKit

def tailArr (n g : Nat) : Array Bool := (List.replicate n true ++ List.replicate g false).toArray
def relTailB (ops : Array Oper) (n : Nat) : Bool :=
  backB ops && Region.sinkB .any ops n && Region.chainB .any ops n && decide (n < ops.size) && Region.seqB .any ops (ops.size - n) n (tailArr n (ops.size - n))

section
variable {P : Program} {Q : Exit → Act → World → Prop}
theorem head_left {n : Nat} {ops : Array Oper} {listed : Array Bool} (inv : HeadInv .any ops n listed) (hn : n < ops.size) {f : Nat} (h : (listed.toList.take n).count false = f + 1) : ∃ i, i < n ∧ listed.getD i true = false := by
  have h1 : false ∈ listed.toList.take n := List.count_pos_iff.1 (by omega)
  obtain ⟨i, hi, e⟩ := List.getElem_of_mem h1
  have hs := inv.size
  have hi' : i < n := by simp at hi; omega
  refine ⟨i, hi', ?_⟩
  rw [List.getElem_take] at e
  rw [Array.getD_eq_getD_getElem?, Array.getElem?_eq_getElem (by omega)]
  simpa using e
theorem head_set {n i : Nat} {listed : Array Bool} {f : Nat} (hi : i < n) (hs : n < listed.size) (hu : listed.getD i true = false) (h : (listed.toList.take n).count false = f + 1) : ((listed.setIfInBounds i true).toList.take n).count false = f := by
  have hil : i < listed.size := by omega
  rw [Array.getD_eq_getD_getElem?, Array.getElem?_eq_getElem hil] at hu
  have hu' : listed[i] = false := by simpa using hu
  rw [Array.toList_setIfInBounds, List.take_set, List.count_set (by simp; omega)]
  have e : (listed.toList.take n)[i]'(by simp; omega) = false := by rw [List.getElem_take]; simpa using hu'
  rw [e]
  simp
  omega
theorem head_full {n : Nat} {ops : Array Oper} {listed : Array Bool} (inv : HeadInv .any ops n listed) (hn : n < ops.size) (h : (listed.toList.take n).count false = 0) : listed = tailArr n (ops.size - n) := by
  have hs := inv.size
  refine Array.ext' ?_
  unfold tailArr
  rw [← List.take_append_drop n listed.toList]
  congr 1
  · refine List.eq_replicate_iff.2 ⟨by simp; omega, fun b hb => ?_⟩
    cases b with
    | true => rfl
    | false => exact absurd hb (List.count_eq_zero.1 h)
  · refine List.eq_replicate_iff.2 ⟨by simp; omega, fun b hb => ?_⟩
    obtain ⟨j, hj, e⟩ := List.getElem_of_mem hb
    rw [List.getElem_drop] at e
    have hj' : n + j < ops.size := by simp at hj; omega
    have h1 := inv.tail (n + j) (by omega) hj'
    rw [Array.getD_eq_getD_getElem?, Array.getElem?_eq_getElem (by omega)] at h1
    rw [← e]
    simpa using h1

theorem wp_region_rel_tail {id : Nat} {l : List Oper} {a : Act} {w : World} (hm : P.follows .mixedOrders = true) (n : Nat) (hB : relTailB l.toArray n = true)
    (fill : (Nat → Value) → Act) (us0 : Nat → Value) (ha : a = fill us0) (R : Nat → Value → World → Prop)
    (hstab : ∀ i v W W', R i v W → Below W.heap.size W W' → R i v W')
    (hput : ∀ i us v, i < n → (fill us).put ((l.toArray[i]?).bind (·.dst)) v = fill (fun k => if k = i then v else us k))
    (hstep : ∀ i us W, i < n → Below w.heap.size w W → (∀ o, l.toArray[i]? = some o → ∀ e ∈ o.after, Region.binds .any e = true → R e.on (us e.on) W) → wpOp P l.toArray Q i (RelQ l.toArray i (R i) (fill us) W) (fill us) W)
    (hdone : ∀ us W, Below w.heap.size w W → (∀ i, i < n → R i (us i) W) → wpList P l.toArray Q (l.drop n) (fill us) W) : (Code.region id l.toArray true).wp P Q a w := by
  unfold relTailB at hB
  simp only [Bool.and_eq_true, decide_eq_true_eq] at hB
  obtain ⟨⟨⟨⟨hbk, hs⟩, hc⟩, hn⟩, hseq⟩ := hB
  have hnl : n < l.length := by simpa using hn
  have hdl : (l.drop n).length = l.toArray.size - n := by simp
  have key : ∀ (f : Nat) (listed : Array Bool) (a' : Act) (W : World), HeadInv .any l.toArray n listed → (listed.toList.take n).count false = f →
      (∃ us, a' = fill us ∧ Below w.heap.size w W ∧ ∀ i, i < n → listed.getD i true = true → R i (us i) W) → wpAny P .any l.toArray Q (f + (l.toArray.size - n)) listed a' W := by
    intro f
    induction f with
    | zero =>
      rintro listed a' W inv hf ⟨us, rfl, hb, hr⟩
      obtain rfl := head_full inv hn hf
      rw [Nat.zero_add, ← hdl]
      refine wpAny_of_seq (l.drop n) n _ _ _ (fun j => by simp [List.getElem?_drop]) (by rw [hdl]; exact hseq) (hdone us W hb fun i hi => hr i hi ?_)
      unfold tailArr
      rw [Array.getD_eq_getD_getElem?, List.getElem?_toArray, List.getElem?_append_left (by simpa using hi), List.getElem?_replicate]
      simp [hi]
    | succ f ih =>
      rintro listed a' W inv hf ⟨us, rfl, hb, hr⟩
      obtain ⟨i0, hi0, hu0⟩ := head_left inv hn hf
      rw [show f + 1 + (l.toArray.size - n) = (f + (l.toArray.size - n)) + 1 by omega]
      refine ⟨fun h0 => ?_, fun i hi => ?_⟩
      · have := all_listed hbk inv.size h0 i0 (by omega)
        rw [hu0] at this
        cases this
      · have hin : i < n := Nat.lt_of_not_le fun h => tail_waits hs hc hn inv _ i0 rfl hi0 hu0 i h hi
        obtain ⟨hun, o, ho, hall⟩ := mem_ready.1 hi
        refine wpOp_mono ?_ (hstep i us W hin hb fun o' ho' e he hbd => ?_)
        · rintro a'' W' ⟨v, rfl, hv, hb'⟩
          refine ih _ _ _ (inv.set hi hin) (head_set hin (by rw [inv.size]; exact hn) hun hf) ⟨_, hput i us v hin, hb.trans (hb'.mono hb.size), fun k hk hl => ?_⟩
          by_cases hki : k = i
          · rw [if_pos hki, hki]
            exact hv
          · rw [if_neg hki]
            refine hstab _ _ _ _ (hr k hk ?_) hb'
            rw [Array.getD_eq_getD_getElem?, Array.getElem?_setIfInBounds_ne (fun e => hki e.symm)] at hl
            rwa [Array.getD_eq_getD_getElem?]
        · rw [ho] at ho'
          cases ho'
          have hlt := backB_spec hbk ho he
          have h1 := hall e he hbd
          refine hr e.on (Nat.lt_trans hlt hin) ?_
          rw [Array.getD_eq_getD_getElem?, Array.getElem?_eq_getElem (by have := inv.size; omega)] at h1 ⊢
          exact h1
  refine wp_region_any hm ?_
  have inv0 : HeadInv .any l.toArray n (Array.replicate l.toArray.size false) :=
    ⟨by simp, fun j oj _ hl => (by rw [getD_replicate_false] at hl; cases hl), fun t _ ht => getD_in (by simpa using ht) (getD_replicate_false _ _)⟩
  have H := key n _ a w.drew inv0 (by rw [Array.toList_replicate, List.take_replicate, List.count_replicate_self]; omega) ⟨us0, ha, (Below.refl _ w).drew, fun i hi hl => by
    rw [getD_in (by simp; omega) (getD_replicate_false _ _)] at hl
    cases hl⟩
  rw [show n + (l.toArray.size - n) = l.toArray.size by omega] at H
  exact H
end

end Go.Proofs.Ytcomaodpnhoeaaa
