/- Slices of integers: the cells at an address; an append as one operation of a region. -/
import Derived.Test.YtminailbhgimkaaRoundC
namespace Go.Proofs.Ytminailbhgimkaa
open Go.RowKit Go.Shelf

theorem GrowI.lower {w : World} {base base' : Nat} {v : Value} {l : List Int} (h : GrowI w base v l) (hb : base' ≤ base) : GrowI w base' v l := by
  refine ⟨h.1, ?_⟩
  rcases h.2 with h2 | ⟨g, cap, cur, h1, h2, h3⟩
  · exact .inl h2
  · exact .inr ⟨g, cap, cur, h1, Nat.le_trans hb h2, h3⟩
/-- The cells at an address. -/
def CellsAt (W : World) (ad : Addr) (vs : List Value) : Prop := (vs = [] ∨ ad.block < W.heap.size) ∧ ∀ (j : Nat) u, vs[j]? = some u → W.cell? (ad.add j) = some u
theorem CellsAt.below {W W' : World} {ad : Addr} {vs : List Value} (h : CellsAt W ad vs) (hb : Below W.heap.size W W') : CellsAt W' ad vs := by
  refine ⟨h.1.imp id fun h1 => Nat.lt_of_lt_of_le h1 hb.size, fun j u hj => ?_⟩
  rcases h.1 with rfl | h1
  · simp at hj
  · exact (hb.cell (p := ad.add j) (by unfold Addr.add; split <;> exact h1)).trans (h.2 j u hj)
theorem exec_append {P : Program} {o : Oper} {a : Act} {w w' : World} (s x : Operand) (t : TypeId) (ho : o.op = .call { callee := .builtin .append, args := #[s, x], argTypes := #[t, t] }) {v1 v2 v' : Value}
    (hs : a.eval s = v1) (hx : a.eval x = v2) (hr : (Builtin.append_ #[t, t] o.type #[v1, v2]).run P w = .ok v' w') : (execOp a.eval o).run P w = .ok (.value v') w' := by
  unfold execOp
  simp only [ho, resolve, invoke, builtin, Sem.run_bind, Sem.run_pure, Result.andThen_ok, List.map_toArray, List.map_cons, List.map_nil, hs, hx, hr]
theorem intsV_one (l : List Int) : ∀ u ∈ intsV l, u.oneCell' = true := by
  intro u hu
  unfold intsV at hu
  obtain ⟨x, _, rfl⟩ := List.mem_map.1 hu
  rfl
/-- An append onto a slice without room: the slice that comes is new. -/
theorem exec_appendI {o : Oper} {a : Act} {w : World} (s x : Operand) (ho : o.op = .call { callee := .builtin .append, args := #[s, x], argTypes := #[25, 25] }) (h : Nat) (ad : Addr) (c : Nat) (l : List Int)
    (hs : a.eval s = .slice (some ⟨h, 0, none⟩) 0 0) (hx : a.eval x = .slice (some ad) l.length c) (hc : ∀ (j : Nat) u, (intsV l)[j]? = some u → w.cell? (ad.add j) = some u) (h0 : 0 < l.length) (hl : l.length ≤ 1000000) :
    ∃ v' w', (execOp a.eval o).run Try.prog w = .ok (.value v') w' ∧ GrowI w' w.heap.size v' l ∧ Below w.heap.size w w' := by
  obtain ⟨i0, hi, hz0, hz1, hz2⟩ := info_parts Try.info_int
  obtain ⟨v', w', hr, hown, hgw⟩ := run_append_arg_grows (P := Try.prog) w 25 o.type 3 i0 (.int .i64 0) 1 8 Try.underlying25 hi hz0 hz1 hz2 rfl (by decide) ⟨h, 0, none⟩ 0 0 [] rfl (fun j u hj => by simp at hj) ad l.length c (intsV l) (by simp [intsV]) hc (by omega) (by unfold maxLen; omega) (by omega)
  rw [Nat.zero_add, List.nil_append] at hown
  exact ⟨v', w', exec_append s x 25 ho hs hx hr, hown, ⟨hgw.os, hgw.tape, hgw.output, hgw.size, fun k hk => hgw.block k hk (by simp)⟩⟩
theorem wpOp_appendI {ops : Array Oper} {Q : Exit → Act → World → Prop} {i : Nat} {o : Oper} (hi : ops[i]? = some o) (hg : o.guard = none) {a : Act} {w : World} {R : Value → World → Prop}
    (s x : Operand) (ho : o.op = .call { callee := .builtin .append, args := #[s, x], argTypes := #[25, 25] }) (h : Nat) (ad : Addr) (c : Nat) (l : List Int)
    (hs : a.eval s = .slice (some ⟨h, 0, none⟩) 0 0) (hx : a.eval x = .slice (some ad) l.length c) (hc : ∀ (j : Nat) u, (intsV l)[j]? = some u → w.cell? (ad.add j) = some u) (h0 : 0 < l.length) (hl : l.length ≤ 1000000)
    (hR : ∀ v' w', GrowI w' w.heap.size v' l → Below w.heap.size w w' → R v' w') : wpOp Try.prog ops Q i (RelQ ops i R a w) a w := by
  obtain ⟨v', w', hr, hgr, hbb⟩ := exec_appendI s x ho h ad c l hs hx hc h0 hl
  exact wpOp_make hi hg hr (hR v' w' hgr hbb) hbb
/-- What a grown slice is. -/
theorem GrowI.head {w : World} {base : Nat} {v : Value} {l : List Int} (h : GrowI w base v l) (h0 : 0 < l.length) : ∃ g cap, v = .slice (some ⟨g, 0, none⟩) l.length cap ∧ l.length ≤ cap ∧ CellsAt w ⟨g, 0, none⟩ (intsV l) := by
  rcases h.2 with ⟨_, h1⟩ | ⟨g, cap, cur, rfl, _, hg, h2, _⟩
  · omega
  · exact ⟨g, cap, rfl, h2, .inr (lt_of_block hg), World.ownsRow.cells h (g := g) rfl⟩
theorem CellsAt.tail {w : World} {g : Nat} {l : List Int} (h : CellsAt w ⟨g, 0, none⟩ (intsV l)) : CellsAt w ⟨g, 1, none⟩ (intsV (l.drop 1)) := by
  refine ⟨?_, fun j u hj => ?_⟩
  · rcases h.1 with h1 | h1
    · left
      unfold intsV at h1 ⊢
      rw [List.map_drop, h1]
      rfl
    · exact .inr h1
  · have := h.2 (j + 1) u (by unfold intsV at hj ⊢; rw [List.map_drop, List.getElem?_drop] at hj; rw [Nat.add_comm]; exact hj)
    have e : (Addr.add ⟨g, 0, none⟩ (j + 1) : Addr) = Addr.add ⟨g, 1, none⟩ j := by
      unfold Addr.add
      simp [Nat.add_comm]
    rw [← e]
    exact this
theorem CellsAt.drop {w : World} {g : Nat} {l : List Int} (h : CellsAt w ⟨g, 0, none⟩ (intsV l)) (k : Nat) : CellsAt w ⟨g, k, none⟩ (intsV (l.drop k)) := by
  refine ⟨?_, fun j u hj => ?_⟩
  · rcases h.1 with h1 | h1
    · left
      unfold intsV at h1 ⊢
      rw [List.map_drop, h1, List.drop_nil]
    · exact .inr h1
  · have := h.2 (k + j) u (by unfold intsV at hj ⊢; rw [List.map_drop, List.getElem?_drop] at hj; exact hj)
    have e : (Addr.add ⟨g, 0, none⟩ (k + j) : Addr) = Addr.add ⟨g, k, none⟩ j := by
      unfold Addr.add
      by_cases hj0 : j = 0
      · subst hj0; simp; exact fun h => h.symm
      · simp [hj0]
    rw [← e]
    exact this
theorem wpOp_appendG {ops : Array Oper} {Q : Exit → Act → World → Prop} {i : Nat} {o : Oper} (hi : ops[i]? = some o) (hg : o.guard = none) {a : Act} {w : World} {K : Act → World → Prop}
    (s x : Operand) (ho : o.op = .call { callee := .builtin .append, args := #[s, x], argTypes := #[25, 25] }) (base : Nat) (v : Value) (l l2 : List Int) (hs : a.eval s = v) (hown : GrowI w base v l) (ad : Addr) (c : Nat)
    (hx : a.eval x = .slice (some ad) l2.length c) (hc : ∀ (j : Nat) u, (intsV l2)[j]? = some u → w.cell? (ad.add j) = some u) (hl : l.length + l2.length ≤ 1000000) (hbase : base ≤ w.heap.size)
    (hK : ∀ v' w', GrowI w' base v' (l ++ l2) → w.grownBy w' v.ownBlock → (v' = .slice none 0 0 → v = .slice none 0 0) → K (a.put o.dst v') w') : wpOp Try.prog ops Q i K a w := by
  obtain ⟨i0, hi0, hz0, hz1, hz2⟩ := info_parts Try.info_int
  obtain ⟨v', w', hr, hown', hgw, hn⟩ := run_append_own (P := Try.prog) w base 25 o.type 3 i0 (.int .i64 0) 1 8 Try.underlying25 hi0 hz0 hz1 hz2 rfl (by decide) v l.length (intsV l) hown ad l2.length c (intsV l2) (by simp [intsV]) hc (intsV_one _) (by unfold maxLen; omega) (by omega) hbase
  have hr' := exec_append s x 25 ho hs hx hr
  unfold wpOp
  simp only [hi]
  rw [if_pos (by simp [Region.wanted, hg])]
  refine .inl ?_
  unfold Oper.wp
  rw [hr']
  simp only [Oper.upon]
  refine hK v' w' ?_ hgw (fun e => (hn.1 e).1)
  unfold GrowI
  rw [List.length_append]
  unfold intsV at hown' ⊢
  rw [List.map_append]
  exact hown'
end Go.Proofs.Ytminailbhgimkaa
