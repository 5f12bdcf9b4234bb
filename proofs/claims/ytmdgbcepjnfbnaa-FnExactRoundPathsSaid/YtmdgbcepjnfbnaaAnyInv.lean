/- A region that draws its order inside a fence: one invariant over what has been done serves every order. No program is named. -/
import Derived.Test.YtmdgbcepjnfbnaaQTail
namespace Go.Proofs.Ytmdgbcepjnfbnaa
open Go Go.RowKit

section
variable {F : Fence} {m : Nat} {P : Program} {ops : Array Oper} {md : Region.Mode} {Q : Exit → Act → World → Prop}

/-- Every operation waits for earlier ones alone. -/
def backB (ops : Array Oper) : Bool := (List.range ops.size).all fun i => match ops[i]? with | none => true | some o => o.after.all fun e => decide (e.on < i)
theorem backB_spec (h : backB ops = true) {i : Nat} {o : Oper} (ho : ops[i]? = some o) {e} (he : e ∈ o.after) : e.on < i := by
  have hi := (Array.getElem?_eq_some_iff.1 ho).1
  have h1 := List.all_eq_true.1 h i (List.mem_range.2 hi)
  simp only [ho] at h1
  exact of_decide_eq_true ((Array.all_eq_true_iff_forall_mem.1 h1) e he)
theorem all_listed (hB : backB ops = true) {listed : Array Bool} (hs : listed.size = ops.size) (hr : Region.ready md ops listed = []) : ∀ i, i < ops.size → listed.getD i true = true := by
  intro i
  induction i using Nat.strongRecOn with
  | _ i ih =>
    intro hi
    cases h : listed.getD i true with
    | true => rfl
    | false =>
      have hm : i ∈ Region.ready md ops listed := mem_ready.2 ⟨h, ops[i], Array.getElem?_eq_getElem hi, fun e he _ => by
        have hlt := backB_spec hB (Array.getElem?_eq_getElem hi) he
        have h1 := ih e.on hlt (by omega)
        rw [Array.getD_eq_getD_getElem?, Array.getElem?_eq_getElem (by omega)] at h1 ⊢
        exact h1⟩
      rw [hr] at hm
      cases hm
/-- How many operations are still to come. -/
def leftN (listed : Array Bool) : Nat := listed.toList.count false
theorem leftN_set {listed : Array Bool} {i : Nat} (h : listed.getD i true = false) : leftN (listed.setIfInBounds i true) + 1 = leftN listed := by
  have hi : i < listed.size := by
    refine Nat.lt_of_not_le fun hle => ?_
    rw [Array.getD_eq_getD_getElem?, Array.getElem?_eq_none hle] at h
    cases h
  have he : listed.toList[i]'(by simpa using hi) = false := by
    rw [Array.getD_eq_getD_getElem?, Array.getElem?_eq_getElem hi] at h
    simpa using h
  unfold leftN
  rw [Array.toList_setIfInBounds, List.count_set (by simpa using hi), he]
  have hp : 0 < listed.toList.count false := List.count_pos_iff.2 (by rw [← he]; exact List.getElem_mem _)
  show listed.toList.count false - 1 + 0 + 1 = listed.toList.count false
  omega
theorem wpAnyIn_inv {Inv : Array Bool → Act → World → Prop}
    (hstep : ∀ listed a w i, Inv listed a w → i ∈ Region.ready md ops listed → wpOpIn F m P ops Q i (fun a' w' => Inv (listed.setIfInBounds i true) a' w') a w)
    (hdone : ∀ listed a w, Inv listed a w → Region.ready md ops listed = [] → Q .normal a w) :
    ∀ (f : Nat) (listed : Array Bool) (a : Act) (w : World), leftN listed ≤ f → Inv listed a w → wpAnyIn F m P md ops Q f listed a w
  | 0, listed, a, w, hl, h => by
    have hr : Region.ready md ops listed = [] := List.eq_nil_iff_forall_not_mem.2 fun i hi => by
      have := leftN_set (mem_ready.1 hi).1
      omega
    exact ⟨hr, hdone listed a w h hr⟩
  | f + 1, listed, a, w, hl, h => ⟨hdone listed a w h, fun i hi => wpOpIn_mono (fun a' w' h' => wpAnyIn_inv hstep hdone f _ a' w' (by have := leftN_set (mem_ready.1 hi).1; omega) h') (hstep listed a w i h hi)⟩

/-- The law. -/
theorem wpIn_region_inv {id : Nat} {l : List Oper} {a : Act} {w : World} (hm : P.follows .mixedOrders = true) (hB : backB l.toArray = true) (Inv : Array Bool → Act → World → Prop)
    (h0 : Inv (Array.replicate l.toArray.size false) a w.drew) (hsz : ∀ listed a w, Inv listed a w → listed.size = l.toArray.size)
    (hstep : ∀ listed a w i, Inv listed a w → i ∈ Region.ready .any l.toArray listed → wpOpIn F m P l.toArray Q i (fun a' w' => Inv (listed.setIfInBounds i true) a' w') a w)
    (hdone : ∀ listed a w, Inv listed a w → (∀ i, i < l.toArray.size → listed.getD i true = true) → Q .normal a w) : (Code.region id l.toArray true).wpIn F m P Q a w := by
  refine wpIn_region_any hm ?_
  refine wpAnyIn_inv hstep (fun listed a w h hr => hdone listed a w h (all_listed hB (hsz _ _ _ h) hr)) _ _ _ _ ?_ h0
  unfold leftN
  refine Nat.le_trans List.count_le_length ?_
  simp

theorem wpOpIn_val (hO : Open F P) {i : Nat} {o : Oper} (hi : ops[i]? = some o) (hg : o.guard = none) (hd : ∀ c, o.op ≠ .defer c) {u : Value} {a : Act} {w w' : World} {K : Act → World → Prop}
    (hr : (execOp a.eval o).run P w = .ok (.value u) w') (h : K (a.put o.dst u) w') : wpOpIn F m P ops Q i K a w := by
  unfold wpOpIn
  simp only [hi]
  rw [if_pos (by simp [Region.wanted, hg])]
  unfold Oper.wpIn
  refine ⟨fun f _ => hO.fn f, ?_⟩
  rw [Oper.semAt_eq _ _ _ hd, hr, Oper.uponIn_value]
  exact h
theorem wpOpIn_skip (hO : Open F P) {i : Nat} {o : Oper} (hi : ops[i]? = some o) (hg : o.guard = none) (hd : ∀ c, o.op ≠ .defer c) {a : Act} {w w' : World} {K : Act → World → Prop}
    (hr : (execOp a.eval o).run P w = .ok .skip w') (h : K (a.put o.dst undef) w') : wpOpIn F m P ops Q i K a w := by
  unfold wpOpIn
  simp only [hi]
  rw [if_pos (by simp [Region.wanted, hg])]
  unfold Oper.wpIn
  refine ⟨fun f _ => hO.fn f, ?_⟩
  rw [Oper.semAt_eq _ _ _ hd, hr, Oper.uponIn_skip]
  exact h
theorem wpOpIn_call (hO : Open F P) {i : Nat} {o : Oper} (hi : ops[i]? = some o) (hg : o.guard = none) (hd : ∀ c, o.op ≠ .defer c) {f : FuncId} {args : Array Value} {v : Value} {R : World → Prop} {a : Act} {w : World} {K : Act → World → Prop}
    (hr : (execOp a.eval o).run P w = .ok (.enter f args) w) (hc : Calls P f args w fun e w' => e = .returned v ∧ R w') (h : ∀ w', R w' → K (a.put o.dst v) w') : wpOpIn F m P ops Q i K a w := by
  unfold wpOpIn
  simp only [hi]
  rw [if_pos (by simp [Region.wanted, hg])]
  unfold Oper.wpIn
  refine ⟨fun f _ => hO.fn f, ?_⟩
  rw [Oper.semAt_eq _ _ _ hd, hr]
  simp only [Oper.uponIn]
  refine ⟨?_, ?_⟩
  · first | rfl | trivial | exact hO.depth | simp [hO.depth]
  · refine (hO.calls hc).mono fun e w' he => ?_
    obtain ⟨rfl, hw⟩ := he
    exact h w' hw
end

/- The same outside of a fence, and where what an operation hands back is told by a relation of its own: R i v w says what stands of operation i's value v in the world w. -/
section
variable {P : Program} {ops : Array Oper} {md : Region.Mode} {Q : Exit → Act → World → Prop}
theorem wpAny_inv {Inv : Array Bool → Act → World → Prop}
    (hstep : ∀ listed a w i, Inv listed a w → i ∈ Region.ready md ops listed → wpOp P ops Q i (fun a' w' => Inv (listed.setIfInBounds i true) a' w') a w)
    (hdone : ∀ listed a w, Inv listed a w → Region.ready md ops listed = [] → Q .normal a w) :
    ∀ (f : Nat) (listed : Array Bool) (a : Act) (w : World), leftN listed ≤ f → Inv listed a w → wpAny P md ops Q f listed a w
  | 0, listed, a, w, hl, h => by
    have hr : Region.ready md ops listed = [] := List.eq_nil_iff_forall_not_mem.2 fun i hi => by
      have := leftN_set (mem_ready.1 hi).1
      omega
    exact ⟨hr, hdone listed a w h hr⟩
  | f + 1, listed, a, w, hl, h => ⟨hdone listed a w h, fun i hi => wpOp_mono (fun a' w' h' => wpAny_inv hstep hdone f _ a' w' (by have := leftN_set (mem_ready.1 hi).1; omega) h') (hstep listed a w i h hi)⟩

/-- What an operation comes to, by its relation. -/
def RelQ (ops : Array Oper) (i : Nat) (R : Value → World → Prop) (a : Act) (w : World) (a' : Act) (w' : World) : Prop :=
  ∃ v, a' = a.put ((ops[i]?).bind (·.dst)) v ∧ R v w' ∧ Below w.heap.size w w'

theorem wp_region_rel {id : Nat} {l : List Oper} {a : Act} {w : World} (hm : P.follows .mixedOrders = true) (hB : backB l.toArray = true) (n : Nat) (hn : l.toArray.size = n)
    (fill : (Nat → Value) → Act) (us0 : Nat → Value) (ha : a = fill us0) (R : Nat → Value → World → Prop)
    (hstab : ∀ i v W W', R i v W → Below W.heap.size W W' → R i v W')
    (hput : ∀ i us v, i < n → (fill us).put ((l.toArray[i]?).bind (·.dst)) v = fill (fun k => if k = i then v else us k))
    (hstep : ∀ i us W, i < n → Below w.heap.size w W → (∀ o, l.toArray[i]? = some o → ∀ e ∈ o.after, Region.binds .any e = true → R e.on (us e.on) W) → wpOp P l.toArray Q i (RelQ l.toArray i (R i) (fill us) W) (fill us) W)
    (hdone : ∀ us W, Below w.heap.size w W → (∀ i, i < n → R i (us i) W) → Q .normal (fill us) W) : (Code.region id l.toArray true).wp P Q a w := by
  refine wp_region_any hm ?_
  refine wpAny_inv (Inv := fun listed a W => listed.size = n ∧ ∃ us, a = fill us ∧ Below w.heap.size w W ∧ ∀ i, i < n → listed.getD i true = true → R i (us i) W) ?_ ?_ _ _ _ _ ?_ ?_
  · rintro listed a' W i ⟨hls, us, rfl, hb, hr⟩ hi
    obtain ⟨hun, o, ho, hall⟩ := mem_ready.1 hi
    have hin : i < n := by rw [← hn]; exact (Array.getElem?_eq_some_iff.1 ho).1
    refine wpOp_mono ?_ (hstep i us W hin hb fun o' ho' e he hbd => ?_)
    · rintro a'' W' ⟨v, rfl, hv, hb'⟩
      refine ⟨by simpa using hls, _, hput i us v hin, hb.trans (hb'.mono hb.size), fun k hk hl => ?_⟩
      by_cases hki : k = i
      · rw [if_pos hki, hki]
        exact hv
      · rw [if_neg hki]
        refine hstab _ _ _ _ (hr k hk ?_) hb'
        rw [Array.getD_eq_getD_getElem?, Array.getElem?_setIfInBounds_ne (fun e => hki e.symm)] at hl
        rwa [Array.getD_eq_getD_getElem?]
    · rw [ho] at ho'
      cases ho'
      have hlt := backB_spec hB ho he
      have h1 := hall e he hbd
      refine hr e.on (Nat.lt_trans hlt hin) ?_
      rw [Array.getD_eq_getD_getElem?, Array.getElem?_eq_getElem (by omega)] at h1 ⊢
      exact h1
  · rintro listed a' W ⟨hls, us, rfl, hb, hr⟩ hrd
    exact hdone us W hb fun i hi => hr i hi (all_listed hB (by rw [hls, hn]) hrd i (by omega))
  · unfold leftN
    refine Nat.le_trans List.count_le_length ?_
    simp
  · refine ⟨by simpa using hn, us0, ha, (Below.refl _ w).drew, fun i hi hl => ?_⟩
    have hin : i < l.length := by have : l.toArray.size = l.length := by simp
                                  omega
    rw [Array.getD_eq_getD_getElem?, Array.getElem?_replicate] at hl
    simp [hin] at hl

theorem wpOp_val {i : Nat} {o : Oper} (hi : ops[i]? = some o) (hg : o.guard = none) {u : Value} {a : Act} {w : World} {R : Value → World → Prop}
    (hr : (execOp a.eval o).run P w = .ok (.value u) w) (h : R u w) : wpOp P ops Q i (RelQ ops i R a w) a w := by
  unfold wpOp
  simp only [hi]
  rw [if_pos (by simp [Region.wanted, hg])]
  refine .inl ?_
  unfold Oper.wp
  rw [hr]
  simp only [Oper.upon]
  exact ⟨u, by rw [hi]; rfl, h, Below.refl _ _⟩
theorem wpOp_call {i : Nat} {o : Oper} (hi : ops[i]? = some o) (hg : o.guard = none) {f : FuncId} {args : Array Value} {a : Act} {w : World} {R : Value → World → Prop}
    (hr : (execOp a.eval o).run P w = .ok (.enter f args) w) (hc : Calls P f args w fun e w' => ∃ v, e = .returned v ∧ R v w' ∧ Below w.heap.size w w') : wpOp P ops Q i (RelQ ops i R a w) a w := by
  unfold wpOp
  simp only [hi]
  rw [if_pos (by simp [Region.wanted, hg])]
  refine .inl ?_
  unfold Oper.wp
  rw [hr]
  simp only [Oper.upon]
  refine hc.mono fun e w' he => ?_
  obtain ⟨v, rfl, h1, h2⟩ := he
  exact ⟨v, by rw [hi]; rfl, h1, h2⟩
end

end Go.Proofs.Ytmdgbcepjnfbnaa
