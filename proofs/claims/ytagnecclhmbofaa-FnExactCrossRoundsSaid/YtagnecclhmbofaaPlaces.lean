/- Slices of places: grown by append, read; empties of the program, by its contract. -/
import Derived.Test.YtagnecclhmbofaaBunF
import Derived.Test.YtagnecclhmbofaaMeetsM
import Derived.Test.YtagnecclhmbofaaBunC
namespace Go.Proofs.Ytagnecclhmbofaa
open Go.RowKit Go.Shelf

theorem Try.info_place3 : (Try.prog.info? 90).map (fun i => (i.zero, i.size, i.bytes)) = some (some (.agg #[.int .i64 0, .int .i64 0]), 2, 16) := by kernel_rfl
/-- The cells of places. -/
def plV (l : List (Int × Int)) : List Value := l.flatMap fun p => [.int .i64 p.1, .int .i64 p.2]
theorem plV_length : ∀ l : List (Int × Int), (plV l).length = l.length * 2
  | [] => rfl
  | p :: l => by
    have ih := plV_length l
    unfold plV at ih ⊢
    rw [List.flatMap_cons, List.length_append, ih, List.length_cons]
    simp
    omega
theorem plV_snoc (l : List (Int × Int)) (p : Int × Int) : plV (l ++ [p]) = plV l ++ [.int .i64 p.1, .int .i64 p.2] := by
  unfold plV
  rw [List.flatMap_append]
  rfl
theorem plV_at : ∀ (l : List (Int × Int)) (k : Nat) (p : Int × Int), l[k]? = some p → (plV l)[k * 2]? = some (.int .i64 p.1) ∧ (plV l)[k * 2 + 1]? = some (.int .i64 p.2)
  | [], k, p, h => by simp at h
  | q :: l, 0, p, h => by
    simp at h
    subst h
    exact ⟨rfl, rfl⟩
  | q :: l, k + 1, p, h => by
    obtain ⟨h1, h2⟩ := plV_at l k p (by simpa using h)
    unfold plV at h1 h2 ⊢
    rw [List.flatMap_cons, show (k + 1) * 2 = k * 2 + 2 by omega, show k * 2 + 2 + 1 = k * 2 + 1 + 2 by omega]
    exact ⟨h1, h2⟩
/-- A slice of places of the call's own. -/
def GrowPl (w : World) (base : Nat) (v : Value) (l : List (Int × Int)) : Prop := w.ownsRow base 90 2 v l.length (plV l)
theorem growPl_new (w : World) (base : Nat) (hb : base ≤ w.heap.size) : GrowPl (w.alloc (.cells #[] 90)) base (.slice (some ⟨w.heap.size, 0, none⟩) 0 0) [] :=
  World.ownsRow_made w #[] 0 hb (by unfold maxLen; omega) rfl
theorem GrowPl.below {w w' : World} {base : Nat} {v : Value} {l : List (Int × Int)} (h : GrowPl w base v l) (hb : Below w.heap.size w w') : GrowPl w' base v l := by
  refine World.ownsRow.kept h (Cls.grown hb) ?_
  cases v.ownBlock with
  | none => exact .inl rfl
  | some k => exact .inr (fun e => by cases e)
theorem GrowPl.lower {w : World} {b b' : Nat} {v : Value} {l : List (Int × Int)} (h : GrowPl w b v l) (hb : b' ≤ b) : GrowPl w b' v l :=
  ⟨h.1, h.2.imp id fun ⟨g, cap, cur, e, hlo, r⟩ => ⟨g, cap, cur, e, Nat.le_trans hb hlo, r⟩⟩
theorem GrowPl.slice {w : World} {base : Nat} {v : Value} {l : List (Int × Int)} (h : GrowPl w base v l) : ∃ A c, v = .slice A l.length c := by
  rcases h.2 with ⟨rfl, h0⟩ | ⟨g, cap, cur, rfl, _⟩
  · exact ⟨none, 0, by rw [h0]⟩
  · exact ⟨_, _, rfl⟩
/-- The slice reads as the places. -/
def Plcs (w : World) (A : Option Addr) (l : List (Int × Int)) : Prop :=
  0 < l.length → ∃ g, A = some ⟨g, 0, none⟩ ∧ g < w.heap.size ∧ ∀ (k : Nat) (p : Int × Int), l[k]? = some p → w.rangeAt g (2 * k) [.int .i64 p.1, .int .i64 p.2]
theorem Plcs.below {w w' : World} {A : Option Addr} {l : List (Int × Int)} (h : Plcs w A l) (hb : Below w.heap.size w w') : Plcs w' A l := fun hn => by
  obtain ⟨g, e, hlt, hc⟩ := h hn
  refine ⟨g, e, Nat.lt_of_lt_of_le hlt hb.size, fun k p hk j u hj => ?_⟩
  have := hc k p hk j u hj
  exact (hb.cell (p := ⟨g, 2 * k + j, none⟩) hlt).trans this
theorem GrowPl.plcs {w : World} {base : Nat} {v : Value} {l : List (Int × Int)} (h : GrowPl w base v l) : ∃ A c, v = .slice A l.length c ∧ Plcs w A l := by
  rcases h.2 with ⟨rfl, h0⟩ | ⟨g, cap, cur, rfl, _, hg, _⟩
  · exact ⟨none, 0, by rw [h0], fun hl => by omega⟩
  · refine ⟨_, _, rfl, fun _ => ⟨g, rfl, lt_of_block hg, fun k p hk j u hj => ?_⟩⟩
    obtain ⟨h1, h2⟩ := plV_at l k p hk
    have hcc : ∀ i u, (plV l)[i]? = some u → w.cell? ⟨g, i, none⟩ = some u := fun i u hi => by
      have := World.ownsRow.cells h (g := g) rfl i u hi
      have ea : (Addr.add ⟨g, 0, none⟩ i : Addr) = ⟨g, i, none⟩ := by unfold Addr.add; split <;> simp_all
      rwa [ea] at this
    match j, hj with
    | 0, hj =>
      simp at hj; subst hj
      have := hcc _ _ h1
      rw [Nat.mul_comm] at this
      exact this
    | 1, hj =>
      simp at hj; subst hj
      have := hcc _ _ h2
      rw [Nat.mul_comm] at this
      exact this
    | j + 2, hj => simp at hj
theorem grownPl_heap {base b : Nat} {W W' : World} {v : Value} {l : List (Int × Int)} {cs : Array Value} {t : TypeId} (hrow : GrowPl W base v l) (hg : W.grownBy W' v.ownBlock) (hb : W.heap[b]? = some (.cells cs t (0, 0))) (ht : t ≠ 90) : W'.heap[b]? = some (.cells cs t (0, 0)) := by
  refine (hg.block b (lt_of_block hb) ?_).trans hb
  rcases hrow.2 with ⟨rfl, _⟩ | ⟨g', cap, cur, rfl, _, hgb, _⟩
  · simp [Value.ownBlock]
  · intro e'
    have : b = g' := by simpa [Value.ownBlock] using e'
    subst this
    rw [hb] at hgb
    cases hgb
    exact ht rfl

section
variable {F : Fence} {n : Nat} {ops : Array Oper} {rest : List Oper} {o : Oper} {a : Act} {w : World} {Q : Exit → Act → World → Prop}
theorem wpListIn_appendP (hgd : o.guard = none) (s x : Operand) (ho : o.op = .call { callee := .builtin .append, args := #[s, x], argTypes := #[54, 54] })
    (base : Nat) (v : Value) (l : List (Int × Int)) (hs : a.eval s = v) (hown : GrowPl w base v l) (h c : Nat) (hx : a.eval x = .slice (some ⟨h, 0, none⟩) 1 c) (p : Int × Int) (hc : w.heap[h]? = some (.cells #[.int .i64 p.1, .int .i64 p.2] 90 (0, 0)))
    (hl : l.length ≤ 1000000) (hbase : base ≤ w.heap.size)
    (hk : ∀ g cap w', GrowPl w' base (.slice (some ⟨g, 0, none⟩) (l.length + 1) cap) (l ++ [p]) → w.grownBy w' v.ownBlock → wpListIn F n Try.prog ops Q rest (a.put o.dst (.slice (some ⟨g, 0, none⟩) (l.length + 1) cap)) w') : wpListIn F n Try.prog ops Q (o :: rest) a w := by
  obtain ⟨i0, hi, hz0, hz1, hz2⟩ := info_parts Try.info_place3
  refine wpListIn_append_own w hgd s x 54 ho base 90 i0 (.agg #[.int .i64 0, .int .i64 0]) 2 16 Try.underlying54 hi hz0 hz1 hz2 rfl (by decide) v l.length (plV l) hs hown ⟨h, 0, none⟩ 1 c [.int .i64 p.1, .int .i64 p.2] hx rfl ?_ ?_ (by unfold maxLen; omega) (by omega) hbase ?_
  · intro j u hj
    have ea : (Addr.add ⟨h, 0, none⟩ j : Addr) = ⟨h, j, none⟩ := by unfold Addr.add; split <;> simp_all
    rw [ea, cell_of_row _ _ _ _ _ _ hc]
    match j, hj with
    | 0, hj => exact hj
    | 1, hj => exact hj
    | j + 2, hj => simp at hj
  · intro u hu
    simp at hu
    rcases hu with rfl | rfl <;> rfl
  · intro v' w' h1 h2 _
    obtain ⟨g, cap, rfl⟩ := ownsRow_succ h1
    refine hk g cap w' ?_ h2
    unfold GrowPl
    rw [List.length_append, plV_snoc]
    exact h1
end
end Go.Proofs.Ytagnecclhmbofaa
