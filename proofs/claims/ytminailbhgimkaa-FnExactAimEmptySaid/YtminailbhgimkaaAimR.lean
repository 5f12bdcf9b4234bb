/- What aiming wants of the machine: a region that draws its order and writes twice; a struct loaded from the middle of a row; the map of places at the operation. -/
import Derived.Test.YtminailbhgimkaaPlaceMap
import Derived.Test.YtminailbhgimkaaLin
import Derived.Test.YtminailbhgimkaaBunA
import Derived.Test.YtminailbhgimkaaRoundC
namespace Go.Proofs.Ytminailbhgimkaa
open Go.RowKit Go.Shelf

/-- The law for a region that draws its order, by one invariant over what has been listed; no operation stands behind all others. -/
theorem wp_region_linA {P : Program} {Q : Exit → Act → World → Prop} {id : Nat} {l : List Oper} {a : Act} {w : World} (hm : P.follows .mixedOrders = true) (hB : backB2 l.toArray = true) (n : Nat) (hn : l.toArray.size = n)
    (fill : (Nat → Value) → Act) (us0 : Nat → Value) (ha : a = fill us0) (I : (Nat → Bool) → (Nat → Value) → World → Prop)
    (h0 : ∀ s, (∀ i, i < n → s i = false) → I s us0 w.drew)
    (hput : ∀ i us v, i < n → (fill us).put ((l.toArray[i]?).bind (·.dst)) v = fill (fun k => if k = i then v else us k))
    (hstep : ∀ i s us W, i < n → s i = false → (∀ o, l.toArray[i]? = some o → ∀ e ∈ o.after, Region.binds .any e = true → s e.on = true) → I s us W →
      wpOp P l.toArray Q i (fun a' W' => ∃ v, a' = (fill us).put ((l.toArray[i]?).bind (·.dst)) v ∧ I (fun k => if k = i then true else s k) (fun k => if k = i then v else us k) W') (fill us) W)
    (hdone : ∀ s us W, (∀ i, i < n → s i = true) → I s us W → Q .normal (fill us) W) : (Code.region id l.toArray true).wp P Q a w := by
  refine wp_region_any hm ?_
  refine wpAny_inv (Inv := fun listed a W => listed.size = n ∧ ∃ us, a = fill us ∧ I (fun k => listed.getD k true) us W) ?_ ?_ _ _ _ _ ?_ ?_
  · rintro listed a' W i ⟨hls, us, rfl, hI⟩ hi
    obtain ⟨hun, o, ho, hall⟩ := mem_ready.1 hi
    have hin : i < n := by rw [← hn]; exact (Array.getElem?_eq_some_iff.1 ho).1
    refine wpOp_mono ?_ (hstep i _ us W hin hun (fun o' ho' e he hbd => ?_) hI)
    · rintro a'' W' ⟨v, rfl, hv⟩
      refine ⟨by simpa using hls, _, hput i us v hin, ?_⟩
      rw [getD_set_fun listed i (by omega)]
      exact hv
    · rw [ho] at ho'
      cases ho'
      have hlt := backB2_spec hB ho he hbd
      have h1 := hall e he hbd
      show listed.getD e.on true = true
      rw [Array.getD_eq_getD_getElem?, Array.getElem?_eq_getElem (by omega)] at h1 ⊢
      exact h1
  · rintro listed a' W ⟨hls, us, rfl, hI⟩ hrd
    exact hdone _ us W (fun i hi => all_listed2 hB (by rw [hls, hn]) hrd i (by omega)) hI
  · unfold leftN
    refine Nat.le_trans List.count_le_length ?_
    simp
  · refine ⟨by simpa using hn, us0, ha, h0 _ fun i hi => ?_⟩
    have hin : i < l.length := by have : l.toArray.size = l.length := by simp
                                  omega
    show (Array.replicate _ false).getD i true = false
    rw [Array.getD_eq_getD_getElem?, Array.getElem?_replicate]
    simp [hin]
section
variable {P : Program} {ops : Array Oper} {rest : List Oper} {o : Oper} {a : Act} {w : World} {Q : Exit → Act → World → Prop}
/-- A struct loaded from the middle of a row. -/
theorem wpList_load_midP (hw : Region.wanted o (yielded ops a.tmps) = true) (ty : TypeId) (x : Operand) (ho : o.op = .load ty x) (b off : Nat) (hx : a.eval x = .pointer (some ⟨b, off, none⟩)) (cs : Array Value) (d : TypeDesc) (hc : w.rangeAt b off cs.toList)
    (hu : P.underlying ty = some d) (hd : d.isRow = true) (hi : (P.info? ty).map (·.size) = some cs.size) (h : wpList P ops Q rest (a.put o.dst (.agg cs)) w) : wpList P ops Q (o :: rest) a w := by
  unfold wpList
  rw [if_pos hw]
  refine .inl ?_
  unfold Oper.wp
  rw [exec_load_mid ty x ho b off hx cs d hc hu hd hi]
  exact h
/-- An operation that hands back a value, and one that hands back none. -/
theorem wpOp_runA {i : Nat} (hi : ops[i]? = some o) (hg : o.guard = none) {K : Act → World → Prop} {u : Value} {w' : World} (hr : (execOp a.eval o).run P w = .ok (.value u) w') (h : K (a.put o.dst u) w') : wpOp P ops Q i K a w := by
  unfold wpOp
  simp only [hi]
  rw [if_pos (by simp [Region.wanted, hg])]
  refine .inl ?_
  unfold Oper.wp
  rw [hr]
  exact h
theorem wpOp_skipA {i : Nat} (hi : ops[i]? = some o) (hg : o.guard = none) {K : Act → World → Prop} {w' : World} (hr : (execOp a.eval o).run P w = .ok .skip w') (h : K (a.put o.dst undef) w') : wpOp P ops Q i K a w := by
  unfold wpOp
  simp only [hi]
  rw [if_pos (by simp [Region.wanted, hg])]
  refine .inl ?_
  unfold Oper.wp
  rw [hr]
  exact h
end
section
variable {ops : Array Oper} {rest : List Oper} {o : Oper} {a : Act} {w : World} {Q : Exit → Act → World → Prop} {b N n m i k : Nat} {fx : Nat → Bool}
theorem exec_store_plc (M x v : Operand) (hop : o.op = Op.mapUpdate 144 M x v) (hm : a.eval M = .map (some b)) (h : MetAt w b N n m fx) (hn5 : n ≤ 5) (hm5 : m ≤ 5) (hi : i < n) (hk : k < m) (hN : N < maxLen) (y : Bool) (hx : a.eval x = plcV (i : Int) (k : Int)) (hv : a.eval v = .bool y) :
    ∃ w', (execOp a.eval o).run Try.prog w = .ok .skip w' ∧ MetAt w' b (N + 1) n m (setB fx (i * m + k) y) ∧ w.grownBy w' (some b) := by
  obtain ⟨w', hrun, h1, h2⟩ := h.store hn5 hm5 hi hk hN y
  exact ⟨w', by simp [execOp, hop, hm, hx, hv, hrun, Result.andThen], h1, h2⟩
theorem wpList_store_plc (hg : o.guard = none) (M x v : Operand) (hop : o.op = Op.mapUpdate 144 M x v) (hm : a.eval M = .map (some b)) (h : MetAt w b N n m fx) (hn5 : n ≤ 5) (hm5 : m ≤ 5) (hi : i < n) (hk : k < m) (hN : N < maxLen) (y : Bool) (hx : a.eval x = plcV (i : Int) (k : Int)) (hv : a.eval v = .bool y)
    (hK : ∀ w', MetAt w' b (N + 1) n m (setB fx (i * m + k) y) → w.grownBy w' (some b) → wpList Try.prog ops Q rest (a.put o.dst undef) w') : wpList Try.prog ops Q (o :: rest) a w := by
  refine wpList_plain hg fun K' hK' => ?_
  obtain ⟨w', hrun, r1, r2⟩ := h.store hn5 hm5 hi hk hN y
  unfold Oper.wp
  simp [execOp, hop, hm, hx, hv, hrun, Result.andThen]
  exact hK' _ _ (hK w' r1 r2)
theorem wpList_look_plc (hg : o.guard = none) (M x : Operand) (hop : o.op = Op.lookup 144 M x false) (hm : a.eval M = .map (some b)) (h : MetAt w b N n m fx) (hn5 : n ≤ 5) (hm5 : m ≤ 5) (hi : i < n) (hk : k < m) (hx : a.eval x = plcV (i : Int) (k : Int))
    (hK : wpList Try.prog ops Q rest (a.put o.dst (.bool (fx (i * m + k)))) w) : wpList Try.prog ops Q (o :: rest) a w := by
  refine wpList_plain hg fun K' hK' => ?_
  have hrun := h.look hn5 hm5 hi hk
  unfold Oper.wp
  simp [execOp, hop, hm, hx, hrun, Result.andThen]
  exact hK' _ _ hK
end
end Go.Proofs.Ytminailbhgimkaa
