/- A map from places to bools: what it tells of each cell; a store, a look-up. -/
import Derived.Test.YtminailbhgimkaaBunO
import Derived.Maps.Own
namespace Go.Proofs.Ytminailbhgimkaa
open Go.RowKit Go.Shelf Go.Maps

theorem plcKeyed : Keyed Try.prog 105 := Keyed.of_law (deep_law (m := 2) (by omega) (by kernel_rfl) (by kernel_rfl) (by kernel_rfl))
theorem plcKeyType : Try.prog.keyType 105 = true := by kernel_rfl
def plcV (i k : Int) : Value := .agg #[.int .i64 i, .int .i64 k]
theorem plc_key {i k : Int} (h1 : -100 ≤ i ∧ i ≤ 100) (h2 : -100 ≤ k ∧ k ≤ 100) : ∃ l, keyOf Try.prog 105 (plcV i k) = some l := by
  obtain ⟨n, hn⟩ := wayTypes
  have f1 := wf_small h1.1 h1.2
  have f2 := wf_small h2.1 h2.2
  have hd : keyOf Try.prog 105 (plcV i k) = if Try.prog.keyType 105 && (plcV i k).formed Try.prog 105 then (Try.prog.keyLits (Try.prog.types.size + 1) 105 (plcV i k).cells.toList).map fun ls => .string (keyBytes ls) else none := by
    unfold keyOf
    have hu := Try.underlying105
    rw [hu]
  have hc2 : Try.prog.cellsOf 105 = 2 := by kernel_rfl
  have hc3 : Try.prog.cellsOf 3 = 1 := by kernel_rfl
  rw [hd, plcKeyType, hn]
  simp [plcV, Value.formed, Value.cells, Try.underlying105, Try.underlying3, Program.keyLits, hc2, hc3, f1, f2]
noncomputable def pkl (i k : Int) : Lit := (keyOf Try.prog 105 (plcV i k)).getD (.bool false)
theorem pkl_eq {i k : Int} (h1 : -100 ≤ i ∧ i ≤ 100) (h2 : -100 ≤ k ∧ k ≤ 100) : keyOf Try.prog 105 (plcV i k) = some (pkl i k) := by
  obtain ⟨l, hl⟩ := plc_key h1 h2
  unfold pkl
  rw [hl]; rfl
attribute [irreducible] pkl
theorem pkl_inj {i k i' k' : Int} (h1 : -100 ≤ i ∧ i ≤ 100) (h2 : -100 ≤ k ∧ k ≤ 100) (h1' : -100 ≤ i' ∧ i' ≤ 100) (h2' : -100 ≤ k' ∧ k' ≤ 100) (e : pkl i k = pkl i' k') : i = i' ∧ k = k' := by
  have a := pkl_eq h1 h2
  have b := pkl_eq h1' h2'
  rw [e] at a
  have := plcKeyed.inj a b
  simpa [plcV] using this
theorem pkl_is {i k : Int} (h1 : -100 ≤ i ∧ i ≤ 100) (h2 : -100 ≤ k ∧ k ≤ 100) : WideAt.IsKeyLit (pkl i k) := by
  have e := pkl_eq h1 h2
  generalize pkl i k = l at *
  generalize plcV i k = v at *
  exact plcKeyed.key e
/-- The map in block b, with so many entries at most, tells fx of each cell of n rows and m columns. -/
def MetAt (w : World) (b N n m : Nat) (fx : Nat → Bool) : Prop := ∃ D, w.ownsMap Try.prog 105 mapR b N D ∧ ∀ i k : Nat, i < n → k < m → D.atKey (pkl (i : Int) (k : Int)) ff = .lit (.bool (fx (i * m + k)))
theorem MetAt.lt {w : World} {b N n m : Nat} {fx : Nat → Bool} (h : MetAt w b N n m fx) : b < w.heap.size := by
  obtain ⟨D, h1, _⟩ := h
  exact World.ownsMap.lt h1
theorem MetAt.kept {w w' : World} {b N n m : Nat} {fx : Nat → Bool} (h : MetAt w b N n m fx) (e : w'.heap[b]? = w.heap[b]?) : MetAt w' b N n m fx := by
  obtain ⟨D, ⟨es, clock, hb, r⟩, h2⟩ := h
  exact ⟨D, ⟨es, clock, e.trans hb, r⟩, h2⟩
theorem MetAt.isMap {w : World} {b N n m : Nat} {fx : Nat → Bool} (h : MetAt w b N n m fx) : ∃ es clock, w.heap[b]? = some (.map es clock) := by
  obtain ⟨D, ⟨es, clock, hb, _⟩, _⟩ := h
  exact ⟨es, clock, hb⟩
theorem MetAt.made (w : World) (n m : Nat) : MetAt (w.alloc (.map #[] 0)) w.heap.size 0 n m (fun _ => false) :=
  ⟨_, World.ownsMap_made w _ _ _, fun i k _ _ => atKey_of_not_has (by rfl) _⟩
theorem MetAt.look {w : World} {b N n m i k : Nat} {fx : Nat → Bool} (h : MetAt w b N n m fx) (hn5 : n ≤ 5) (hm5 : m ≤ 5) (hi : i < n) (hk : k < m) :
    (Instr.lookup 144 (.map (some b)) (plcV (i : Int) (k : Int)) false).run Try.prog w = .ok (.bool (fx (i * m + k))) w := by
  obtain ⟨D, h1, h2⟩ := h
  have hz : (zeroValue 4).run Try.prog w = .ok (.bool false) w := by kernel_rfl
  obtain ⟨v, ps, hrun, hv⟩ := World.ownsMap.lookup h1 plcKeyed Try.underlying144 hz (mapR_mk false) (pkl_eq (i := (i : Int)) (k := (k : Int)) ⟨by omega, by omega⟩ ⟨by omega, by omega⟩)
  have hat := h2 i k hi hk
  unfold ff at hat
  rw [hat] at hv
  obtain rfl := mapR_inv hv
  exact hrun
/-- One cell told anew. -/
def setB (fx : Nat → Bool) (c : Nat) (x : Bool) (k : Nat) : Bool := if k = c then x else fx k
theorem MetAt.store {w : World} {b N n m i k : Nat} {fx : Nat → Bool} (h : MetAt w b N n m fx) (hn5 : n ≤ 5) (hm5 : m ≤ 5) (hi : i < n) (hk : k < m) (hN : N < maxLen) (x : Bool) :
    ∃ w', (Instr.mapUpdate 144 (.map (some b)) (plcV (i : Int) (k : Int)) (.bool x)).run Try.prog w = .ok () w' ∧ MetAt w' b (N + 1) n m (setB fx (i * m + k) x) ∧ w.grownBy w' (some b) := by
  obtain ⟨D, h1, h2⟩ := h
  have hi1 : -100 ≤ (i : Int) ∧ (i : Int) ≤ 100 := ⟨by omega, by omega⟩
  have hk1 : -100 ≤ (k : Int) ∧ (k : Int) ≤ 100 := ⟨by omega, by omega⟩
  obtain ⟨w', hrun, r1, r2⟩ := World.ownsMap.update h1 plcKeyed Try.underlying144 hN (pkl_eq hi1 hk1) (mapR_mk x)
  refine ⟨w', hrun, ⟨_, r1, fun i' k' hi' hk' => ?_⟩, r2⟩
  have hi2 : -100 ≤ (i' : Int) ∧ (i' : Int) ≤ 100 := ⟨by omega, by omega⟩
  have hk2 : -100 ≤ (k' : Int) ∧ (k' : Int) ≤ 100 := ⟨by omega, by omega⟩
  unfold setB
  by_cases e : i' * m + k' = i * m + k
  · obtain ⟨e1, e2⟩ := parts_inj e hk' hk
    subst e1 e2
    rw [if_pos rfl]
    exact atKey_put_same h1.isMap (pkl_is hi1 hk1) _ _
  · rw [if_neg e, atKey_put_other (fun q => e (by
      obtain ⟨e1, e2⟩ := pkl_inj hi2 hk2 hi1 hk1 q
      rw [show i' = i by omega, show k' = k by omega]))]
    exact h2 i' k' hi' hk'
theorem setB_fix {fx : Nat → Bool} {c : Nat} (h : fx c = false) : setB (setB fx c true) c false = fx := by
  funext k
  unfold setB
  by_cases e : k = c
  · rw [if_pos e, e, h]
  · rw [if_neg e, if_neg e]
end Go.Proofs.Ytminailbhgimkaa
