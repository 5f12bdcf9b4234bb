/- The law of relations (XAnyInv) with a forced tail, inside a fence. No program is named. -/
import Derived.Test.YtminailbhgimkaaBunA
namespace Go.Proofs.Ytminailbhgimkaa
open Go Go.RowKit

section
variable {F : Fence} {m : Nat} {P : Program} {Q : Exit → Act → World → Prop}
theorem wpIn_region_rel_tail {id : Nat} {l : List Oper} {a : Act} {w : World} (hm : P.follows .mixedOrders = true) (n : Nat) (hB : relTailB l.toArray n = true)
    (fill : (Nat → Value) → Act) (us0 : Nat → Value) (ha : a = fill us0) (R : Nat → Value → World → Prop)
    (hstab : ∀ i v W W', R i v W → Below W.heap.size W W' → R i v W')
    (hput : ∀ i us v, i < n → (fill us).put ((l.toArray[i]?).bind (·.dst)) v = fill (fun k => if k = i then v else us k))
    (hstep : ∀ i us W, i < n → Below w.heap.size w W → (∀ o, l.toArray[i]? = some o → ∀ e ∈ o.after, Region.binds .any e = true → R e.on (us e.on) W) → wpOpIn F m P l.toArray Q i (RelQ l.toArray i (R i) (fill us) W) (fill us) W)
    (hdone : ∀ us W, Below w.heap.size w W → (∀ i, i < n → R i (us i) W) → wpListIn F m P l.toArray Q (l.drop n) (fill us) W) : (Code.region id l.toArray true).wpIn F m P Q a w := by
  unfold relTailB at hB
  simp only [Bool.and_eq_true, decide_eq_true_eq] at hB
  obtain ⟨⟨⟨⟨hbk, hs⟩, hc⟩, hn⟩, hseq⟩ := hB
  have hnl : n < l.length := by simpa using hn
  have hdl : (l.drop n).length = l.toArray.size - n := by simp
  have key : ∀ (f : Nat) (listed : Array Bool) (a' : Act) (W : World), HeadInv .any l.toArray n listed → (listed.toList.take n).count false = f →
      (∃ us, a' = fill us ∧ Below w.heap.size w W ∧ ∀ i, i < n → listed.getD i true = true → R i (us i) W) → wpAnyIn F m P .any l.toArray Q (f + (l.toArray.size - n)) listed a' W := by
    intro f
    induction f with
    | zero =>
      rintro listed a' W inv hf ⟨us, rfl, hb, hr⟩
      obtain rfl := head_full inv hn hf
      rw [Nat.zero_add, ← hdl]
      refine anyIn_of_seq (l.drop n) n _ _ _ (fun j => by simp [List.getElem?_drop]) (by rw [hdl]; exact hseq) (hdone us W hb fun i hi => hr i hi ?_)
      unfold tailArr
      rw [Array.getD_eq_getD_getElem?, List.getElem?_toArray, List.getElem?_append_left (by simpa using hi), List.getElem?_replicate]
      simp [hi]
    | succ f ih =>
      rintro listed a' W inv hf ⟨us, rfl, hb, hr⟩
      obtain ⟨i0, hi0, hu0⟩ := head_left inv hn hf
      rw [show f + 1 + (l.toArray.size - n) = (f + (l.toArray.size - n)) + 1 by omega]
      refine ⟨fun h0 => ?_, fun i hi => ?_⟩
      · have := all_listed hbk inv.size h0 i0 (by omega)
        rw [hu0] at this
        cases this
      · have hin : i < n := Nat.lt_of_not_le fun h => tail_waits hs hc hn inv _ i0 rfl hi0 hu0 i h hi
        obtain ⟨hun, o, ho, hall⟩ := mem_ready.1 hi
        refine wpOpIn_mono ?_ (hstep i us W hin hb fun o' ho' e he hbd => ?_)
        · rintro a'' W' ⟨v, rfl, hv, hb'⟩
          refine ih _ _ _ (inv.set hi hin) (head_set hin (by rw [inv.size]; exact hn) hun hf) ⟨_, hput i us v hin, hb.trans (hb'.mono hb.size), fun k hk hl => ?_⟩
          by_cases hki : k = i
          · rw [if_pos hki, hki]
            exact hv
          · rw [if_neg hki]
            refine hstab _ _ _ _ (hr k hk ?_) hb'
            rw [Array.getD_eq_getD_getElem?, Array.getElem?_setIfInBounds_ne (fun e => hki e.symm)] at hl
            rwa [Array.getD_eq_getD_getElem?]
        · rw [ho] at ho'
          cases ho'
          have hlt := backB_spec hbk ho he
          have h1 := hall e he hbd
          refine hr e.on (Nat.lt_trans hlt hin) ?_
          rw [Array.getD_eq_getD_getElem?, Array.getElem?_eq_getElem (by have := inv.size; omega)] at h1 ⊢
          exact h1
  refine wpIn_region_any hm ?_
  have inv0 : HeadInv .any l.toArray n (Array.replicate l.toArray.size false) :=
    ⟨by simp, fun j oj _ hl => (by rw [getD_replicate_false] at hl; cases hl), fun t _ ht => getD_in (by simpa using ht) (getD_replicate_false _ _)⟩
  have H := key n _ a w.drew inv0 (by rw [Array.toList_replicate, List.take_replicate, List.count_replicate_self]; omega) ⟨us0, ha, (Below.refl _ w).drew, fun i hi hl => by
    rw [getD_in (by simp; omega) (getD_replicate_false _ _)] at hl
    cases hl⟩
  rw [show n + (l.toArray.size - n) = l.toArray.size by omega] at H
  exact H

variable {ops : Array Oper}
theorem wpOpIn_relval (hO : Open F P) {i : Nat} {o : Oper} (hi : ops[i]? = some o) (hg : o.guard = none) (hd : ∀ c, o.op ≠ .defer c) {u : Value} {a : Act} {w w' : World} {R : Value → World → Prop}
    (hr : (execOp a.eval o).run P w = .ok (.value u) w') (h : R u w') (hb : Below w.heap.size w w') : wpOpIn F m P ops Q i (RelQ ops i R a w) a w :=
  wpOpIn_val hO hi hg hd hr ⟨u, by rw [hi]; rfl, h, hb⟩
theorem wpOpIn_relcall (hO : Open F P) {i : Nat} {o : Oper} (hi : ops[i]? = some o) (hg : o.guard = none) (hd : ∀ c, o.op ≠ .defer c) {f : FuncId} {args : Array Value} {a : Act} {w : World} {R : Value → World → Prop}
    (hr : (execOp a.eval o).run P w = .ok (.enter f args) w) (hc : Calls P f args w fun e w' => ∃ v, e = .returned v ∧ R v w' ∧ Below w.heap.size w w') : wpOpIn F m P ops Q i (RelQ ops i R a w) a w := by
  unfold wpOpIn
  simp only [hi]
  rw [if_pos (by simp [Region.wanted, hg])]
  unfold Oper.wpIn
  refine ⟨fun f _ => hO.fn f, ?_⟩
  rw [Oper.semAt_eq _ _ _ hd, hr]
  simp only [Oper.uponIn]
  refine ⟨?_, ?_⟩
  · first | rfl | trivial | exact hO.depth | simp [hO.depth]
  · refine (hO.calls hc).mono fun e w' he => ?_
    obtain ⟨v, rfl, h1, h2⟩ := he
    exact ⟨v, by rw [hi]; rfl, h1, h2⟩
end

end Go.Proofs.Ytminailbhgimkaa
