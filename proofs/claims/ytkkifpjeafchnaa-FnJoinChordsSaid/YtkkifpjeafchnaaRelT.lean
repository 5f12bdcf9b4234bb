/- The law of relations (XAnyInv) where the operations also write: each moves the world by a relation T of one's own. No program is named. -/
import Derived.Test.YtkkifpjeafchnaaBunA
namespace Go.Proofs.Ytkkifpjeafchnaa
open Go Go.RowKit

/-- Every operation waits for earlier ones alone, of those that it must wait for. -/
def backB2 (ops : Array Oper) : Bool := (List.range ops.size).all fun i => match ops[i]? with | none => true | some o => o.after.all fun e => !Region.binds .any e || decide (e.on < i)
theorem backB2_spec {ops : Array Oper} (h : backB2 ops = true) {i : Nat} {o : Oper} (ho : ops[i]? = some o) {e} (he : e ∈ o.after) (hb : Region.binds .any e = true) : e.on < i := by
  have hi := (Array.getElem?_eq_some_iff.1 ho).1
  have h1 := List.all_eq_true.1 h i (List.mem_range.2 hi)
  simp only [ho] at h1
  have h2 := (Array.all_eq_true_iff_forall_mem.1 h1) e he
  rw [hb] at h2
  simpa using h2
theorem all_listed2 {ops : Array Oper} (hB : backB2 ops = true) {listed : Array Bool} (hs : listed.size = ops.size) (hr : Region.ready .any ops listed = []) : ∀ i, i < ops.size → listed.getD i true = true := by
  intro i
  induction i using Nat.strongRecOn with
  | _ i ih =>
    intro hi
    cases h : listed.getD i true with
    | true => rfl
    | false =>
      have hm : i ∈ Region.ready .any ops listed := mem_ready.2 ⟨h, ops[i], Array.getElem?_eq_getElem hi, fun e he hbd => by
        have hlt := backB2_spec hB (Array.getElem?_eq_getElem hi) he hbd
        have h1 := ih e.on hlt (by omega)
        rw [Array.getD_eq_getD_getElem?, Array.getElem?_eq_getElem (by omega)] at h1 ⊢
        exact h1⟩
      rw [hr] at hm
      cases hm

section
variable {P : Program} {ops : Array Oper} {Q : Exit → Act → World → Prop}
/-- What an operation comes to, by its relation. -/
def RelQT (T : World → World → Prop) (ops : Array Oper) (i : Nat) (R : Value → World → Prop) (a : Act) (w : World) (a' : Act) (w' : World) : Prop :=
  ∃ v, a' = a.put ((ops[i]?).bind (·.dst)) v ∧ R v w' ∧ T w w'

theorem wp_region_relT {id : Nat} {l : List Oper} {a : Act} {w : World} (hm : P.follows .mixedOrders = true) (hB : backB2 l.toArray = true) (n : Nat) (hn : l.toArray.size = n)
    (T : World → World → Prop) (htr : ∀ {x y z}, T x y → T y z → T x z) (h0 : T w w.drew)
    (fill : (Nat → Value) → Act) (us0 : Nat → Value) (ha : a = fill us0) (R : Nat → Value → World → Prop)
    (hstab : ∀ i v W W', R i v W → T W W' → R i v W')
    (hput : ∀ i us v, i < n → (fill us).put ((l.toArray[i]?).bind (·.dst)) v = fill (fun k => if k = i then v else us k))
    (hstep : ∀ i us W, i < n → T w W → (∀ o, l.toArray[i]? = some o → ∀ e ∈ o.after, Region.binds .any e = true → R e.on (us e.on) W) → wpOp P l.toArray Q i (RelQT T l.toArray i (R i) (fill us) W) (fill us) W)
    (hdone : ∀ us W, T w W → (∀ i, i < n → R i (us i) W) → Q .normal (fill us) W) : (Code.region id l.toArray true).wp P Q a w := by
  refine wp_region_any hm ?_
  refine wpAny_inv (Inv := fun listed a W => listed.size = n ∧ ∃ us, a = fill us ∧ T w W ∧ ∀ i, i < n → listed.getD i true = true → R i (us i) W) ?_ ?_ _ _ _ _ ?_ ?_
  · rintro listed a' W i ⟨hls, us, rfl, hb, hr⟩ hi
    obtain ⟨hun, o, ho, hall⟩ := mem_ready.1 hi
    have hin : i < n := by rw [← hn]; exact (Array.getElem?_eq_some_iff.1 ho).1
    refine wpOp_mono ?_ (hstep i us W hin hb fun o' ho' e he hbd => ?_)
    · rintro a'' W' ⟨v, rfl, hv, hb'⟩
      refine ⟨by simpa using hls, _, hput i us v hin, htr hb hb', fun k hk hl => ?_⟩
      by_cases hki : k = i
      · rw [if_pos hki, hki]
        exact hv
      · rw [if_neg hki]
        refine hstab _ _ _ _ (hr k hk ?_) hb'
        rw [Array.getD_eq_getD_getElem?, Array.getElem?_setIfInBounds_ne (fun e => hki e.symm)] at hl
        rwa [Array.getD_eq_getD_getElem?]
    · rw [ho] at ho'
      cases ho'
      have hlt := backB2_spec hB ho he hbd
      have h1 := hall e he hbd
      refine hr e.on (Nat.lt_trans hlt hin) ?_
      rw [Array.getD_eq_getD_getElem?, Array.getElem?_eq_getElem (by omega)] at h1 ⊢
      exact h1
  · rintro listed a' W ⟨hls, us, rfl, hb, hr⟩ hrd
    exact hdone us W hb fun i hi => hr i hi (all_listed2 hB (by rw [hls, hn]) hrd i (by omega))
  · unfold leftN
    refine Nat.le_trans List.count_le_length ?_
    simp
  · refine ⟨by simpa using hn, us0, ha, h0, fun i hi hl => ?_⟩
    have hin : i < l.length := by have : l.toArray.size = l.length := by simp
                                  omega
    rw [Array.getD_eq_getD_getElem?, Array.getElem?_replicate] at hl
    simp [hin] at hl

/-- The law of relations where an edge that does not bind leads forwards. -/
theorem wp_region_rel2 {id : Nat} {l : List Oper} {a : Act} {w : World} (hm : P.follows .mixedOrders = true) (hB : backB2 l.toArray = true) (n : Nat) (hn : l.toArray.size = n)
    (fill : (Nat → Value) → Act) (us0 : Nat → Value) (ha : a = fill us0) (R : Nat → Value → World → Prop)
    (hstab : ∀ i v W W', R i v W → Below W.heap.size W W' → R i v W')
    (hput : ∀ i us v, i < n → (fill us).put ((l.toArray[i]?).bind (·.dst)) v = fill (fun k => if k = i then v else us k))
    (hstep : ∀ i us W, i < n → Below w.heap.size w W → (∀ o, l.toArray[i]? = some o → ∀ e ∈ o.after, Region.binds .any e = true → R e.on (us e.on) W) → wpOp P l.toArray Q i (RelQ l.toArray i (R i) (fill us) W) (fill us) W)
    (hdone : ∀ us W, Below w.heap.size w W → (∀ i, i < n → R i (us i) W) → Q .normal (fill us) W) : (Code.region id l.toArray true).wp P Q a w :=
  wp_region_relT hm hB n hn (fun x y => Below x.heap.size x y) (fun h k => h.trans (k.mono h.size)) (Below.refl _ w).drew fill us0 ha R hstab hput hstep hdone

theorem wpOp_valT {T : World → World → Prop} {i : Nat} {o : Oper} (hi : ops[i]? = some o) (hg : o.guard = none) {u : Value} {a : Act} {w w' : World} {R : Value → World → Prop}
    (hr : (execOp a.eval o).run P w = .ok (.value u) w') (h : R u w') (ht : T w w') : wpOp P ops Q i (RelQT T ops i R a w) a w := by
  unfold wpOp
  simp only [hi]
  rw [if_pos (by simp [Region.wanted, hg])]
  refine .inl ?_
  unfold Oper.wp
  rw [hr]
  simp only [Oper.upon]
  exact ⟨u, by rw [hi]; rfl, h, ht⟩
theorem wpOp_skipT {T : World → World → Prop} {i : Nat} {o : Oper} (hi : ops[i]? = some o) (hg : o.guard = none) {a : Act} {w w' : World} {R : Value → World → Prop}
    (hr : (execOp a.eval o).run P w = .ok .skip w') (h : R undef w') (ht : T w w') : wpOp P ops Q i (RelQT T ops i R a w) a w := by
  unfold wpOp
  simp only [hi]
  rw [if_pos (by simp [Region.wanted, hg])]
  refine .inl ?_
  unfold Oper.wp
  rw [hr]
  simp only [Oper.upon]
  exact ⟨undef, by rw [hi]; rfl, h, ht⟩
theorem wpOp_callT {T : World → World → Prop} {i : Nat} {o : Oper} (hi : ops[i]? = some o) (hg : o.guard = none) {f : FuncId} {args : Array Value} {a : Act} {w : World} {R : Value → World → Prop}
    (hr : (execOp a.eval o).run P w = .ok (.enter f args) w) (hc : Calls P f args w fun e w' => ∃ v, e = .returned v ∧ R v w' ∧ T w w') : wpOp P ops Q i (RelQT T ops i R a w) a w := by
  unfold wpOp
  simp only [hi]
  rw [if_pos (by simp [Region.wanted, hg])]
  refine .inl ?_
  unfold Oper.wp
  rw [hr]
  simp only [Oper.upon]
  refine hc.mono fun e w' he => ?_
  obtain ⟨v, rfl, h1, h2⟩ := he
  exact ⟨v, by rw [hi]; rfl, h1, h2⟩
/-- A whole struct into its block, as one operation. -/
theorem exec_store_row {a : Act} {o : Oper} {w : World} (ty : TypeId) (x y : Operand) (ho : o.op = .store ty x y)
    (g : Nat) (cells : Array Value) (hx : a.eval x = .pointer (some ⟨g, 0, none⟩)) (hy : a.eval y = .agg cells)
    (t : TypeId) (old : Array Value) (hg : w.heap[g]? = some (.cells old t (0, 0))) (hi : (P.info? ty).map (·.size) = some cells.size)
    (hold : old.size = cells.size) (h1 : cells.all (·.oneCell') = true) : (execOp a.eval o).run P w = .ok .skip (w.setRow g cells) := by
  unfold execOp
  simp only [ho, hx, hy, Instr.storeAt, Instr.sureAddr, Sem.run_bind, Sem.run_pure, Result.andThen_ok, run_storeVar_row w g t ty old cells hg hi hold h1]
end

/-- Two blocks of the call's own, each as it was or filled; all else as it was. -/
def Fill2 (a b : Nat) (z0 z1 c0 c1 : Obj) (w w' : World) : Prop :=
  (w'.os = w.os ∧ w'.tape = w.tape ∧ w'.output = w.output ∧ w.heap.size ≤ w'.heap.size) ∧ (∀ k, k < w.heap.size → k ≠ a → k ≠ b → w'.heap[k]? = w.heap[k]?) ∧
  (w.heap[a]? = some z0 → w'.heap[a]? = some z0 ∨ w'.heap[a]? = some c0) ∧ (w.heap[a]? = some c0 → w'.heap[a]? = some c0) ∧
  (w.heap[b]? = some z1 → w'.heap[b]? = some z1 ∨ w'.heap[b]? = some c1) ∧ (w.heap[b]? = some c1 → w'.heap[b]? = some c1)
theorem Fill2.trans {a b : Nat} {z0 z1 c0 c1 : Obj} {x y z : World} (h : Fill2 a b z0 z1 c0 c1 x y) (k : Fill2 a b z0 z1 c0 c1 y z) : Fill2 a b z0 z1 c0 c1 x z := by
  obtain ⟨⟨a1, a2, a3, a4⟩, a5, a6, a7, a8, a9⟩ := h
  obtain ⟨⟨b1, b2, b3, b4⟩, b5, b6, b7, b8, b9⟩ := k
  refine ⟨⟨b1.trans a1, b2.trans a2, b3.trans a3, Nat.le_trans a4 b4⟩, fun k hk h1 h2 => (b5 k (Nat.lt_of_lt_of_le hk a4) h1 h2).trans (a5 k hk h1 h2), fun h => ?_, fun h => b7 (a7 h), fun h => ?_, fun h => b9 (a9 h)⟩
  · rcases a6 h with h | h
    · exact b6 h
    · exact .inr (b7 h)
  · rcases a8 h with h | h
    · exact b8 h
    · exact .inr (b9 h)
theorem Fill2.below {a b : Nat} {z0 z1 c0 c1 : Obj} {w w' : World} {B : Nat} {w0 : World} (h : Fill2 a b z0 z1 c0 c1 w w') (hb : Below B w0 w) (hB : B ≤ w.heap.size) (ha : B ≤ a) (hb2 : B ≤ b) : Below B w0 w' := by
  obtain ⟨⟨a1, a2, a3, a4⟩, a5, _⟩ := h
  exact ⟨a1.trans hb.os, a2.trans hb.tape, a3.trans hb.output, Nat.le_trans hb.size a4, fun k hk => (a5 k (Nat.lt_of_lt_of_le hk hB) (by omega) (by omega)).trans (hb.block k hk)⟩
theorem Fill2.of_below {a b : Nat} {z0 z1 c0 c1 : Obj} {w w' : World} (h : Below w.heap.size w w') (ha : a < w.heap.size) (hb : b < w.heap.size) : Fill2 a b z0 z1 c0 c1 w w' :=
  ⟨⟨h.os, h.tape, h.output, h.size⟩, fun k hk _ _ => h.block k hk, fun e => .inl ((h.block a ha).trans e), fun e => (h.block a ha).trans e, fun e => .inl ((h.block b hb).trans e), fun e => (h.block b hb).trans e⟩
theorem Fill2.set0 {a b : Nat} {t : TypeId} {z c : Array Value} {z1 c1 : Obj} {w : World} (h : w.heap[a]? = some (.cells z t (0, 0)) ∨ w.heap[a]? = some (.cells c t (0, 0))) (hab : a ≠ b) : Fill2 a b (.cells z t (0, 0)) z1 (.cells c t (0, 0)) c1 w (w.setRow a c) := by
  have h2 : (w.setRow a c).heap[a]? = some (.cells c t (0, 0)) := by rcases h with h | h <;> exact setRow_heap _ _ _ _ _ _ h
  exact ⟨⟨rfl, rfl, rfl, by simp⟩, fun k _ h1 _ => setRow_other _ _ _ _ h1, fun _ => .inr h2, fun _ => h2, fun e => .inl (by rw [setRow_other _ _ _ _ hab.symm]; exact e), fun e => by rw [setRow_other _ _ _ _ hab.symm]; exact e⟩
theorem Fill2.set1 {a b : Nat} {t : TypeId} {z c : Array Value} {z0 c0 : Obj} {w : World} (h : w.heap[b]? = some (.cells z t (0, 0)) ∨ w.heap[b]? = some (.cells c t (0, 0))) (hab : a ≠ b) : Fill2 a b z0 (.cells z t (0, 0)) c0 (.cells c t (0, 0)) w (w.setRow b c) := by
  have h2 : (w.setRow b c).heap[b]? = some (.cells c t (0, 0)) := by rcases h with h | h <;> exact setRow_heap _ _ _ _ _ _ h
  exact ⟨⟨rfl, rfl, rfl, by simp⟩, fun k _ _ h1 => setRow_other _ _ _ _ h1, fun e => .inl (by rw [setRow_other _ _ _ _ hab]; exact e), fun e => by rw [setRow_other _ _ _ _ hab]; exact e, fun _ => .inr h2, fun _ => h2⟩

end Go.Proofs.Ytkkifpjeafchnaa
