/- RoundCells of the specification and of the program, by their contracts. -/
import Derived.Test.YtminailbhgimkaaBunH
import Derived.Test.YtminailbhgimkaaBunA
import Derived.Test.YtminailbhgimkaaBunE
import Derived.Test.YtminailbhgimkaaBunF
import Derived.Test.YtminailbhgimkaaBunC
namespace Go.Proofs.Ytminailbhgimkaa
open Go.RowKit Go.Shelf

/-- A grid, the number of one of its cells, a heading, and a round that enters the cell so. -/
def DirIn (ss : List ByteArray) (cell d : Int) (n m c dd : Nat) : Prop := IsGrid n m ss ∧ cell = (c : Int) ∧ c < n * m ∧ d = (dd : Int) ∧ dd < 4 ∧ onR n m (lett m (pad (flat ss))) (wayN m (4 * c + dd)) = true
def ringI (n m : Nat) (t : Int → Int → UInt8) (c dd : Nat) : List Int := cellsI m (iter t (wayN m (4 * c + dd))) (goL n m t (wayN m (4 * c + dd)))
def RingOut (ss : List ByteArray) (cell d : Int) (l : List Int) (ok : Bool) : Prop :=
  (∃ n m c dd, DirIn ss cell d n m c dd ∧ l = ringI n m (lett m (pad (flat ss))) c dd ∧ l.length ≤ 1000 ∧ ok = true) ∨ ((∀ n m c dd, ¬ DirIn ss cell d n m c dd) ∧ l = [] ∧ ok = false)
theorem RingOut.uniq {ss : List ByteArray} {cell d : Int} {l l' : List Int} {ok ok' : Bool} (h : RingOut ss cell d l ok) (h' : RingOut ss cell d l' ok') : ok' = ok ∧ l' = l := by
  rcases h with ⟨n, m, c, dd, h1, rfl, _, rfl⟩ | ⟨h1, rfl, rfl⟩ <;> rcases h' with ⟨n', m', c', dd', h1', rfl, _, rfl⟩ | ⟨h1', rfl, rfl⟩
  · obtain ⟨rfl, rfl⟩ := h1.1.uniq h1'.1
    obtain rfl : c = c' := by have := h1.2.1.symm.trans h1'.2.1; omega
    obtain rfl : dd = dd' := by have := h1.2.2.2.1.symm.trans h1'.2.2.2.1; omega
    exact ⟨rfl, rfl⟩
  · exact absurd h1 (h1' _ _ _ _)
  · exact absurd h1' (h1 _ _ _ _)
  · exact ⟨rfl, rfl⟩
theorem RingOut.len {ss : List ByteArray} {cell d : Int} {l : List Int} {ok : Bool} (h : RingOut ss cell d l ok) : l.length ≤ 1048576 := by
  rcases h with ⟨n, m, c, dd, _, _, h1, _⟩ | ⟨_, rfl, _⟩
  · omega
  · simp
theorem ringI_le {n m c dd : Nat} {t : Int → Int → UInt8} (h : n * m ≤ 25) (hc : c < n * m) (hd : dd < 4) : (ringI n m t c dd).length ≤ 100 := by
  unfold ringI
  rw [cellsI_length]
  have := (goL_facts (n := n) (m := m) (t := t) (wayN_d (m := m) (4 * c + dd)) (wayN_in (by omega))).2.1
  omega

section
variable {P : Program} {ops : Array Oper} {Q : Exit → Act → World → Prop}
theorem wpOp_make {i : Nat} {o : Oper} (hi : ops[i]? = some o) (hg : o.guard = none) {u : Value} {a : Act} {w w' : World} {R : Value → World → Prop}
    (hr : (execOp a.eval o).run P w = .ok (.value u) w') (h : R u w') (hb : Below w.heap.size w w') : wpOp P ops Q i (RelQ ops i R a w) a w := by
  unfold wpOp
  simp only [hi]
  rw [if_pos (by simp [Region.wanted, hg])]
  refine .inl ?_
  unfold Oper.wp
  rw [hr]
  simp only [Oper.upon]
  exact ⟨u, by rw [hi]; rfl, h, hb⟩
end

section
variable {P : Program} {ops : Array Oper} {rest : List Oper} {o : Oper} {a : Act} {w : World} {Q : Exit → Act → World → Prop}
theorem wpList_load_row_gC (hw : Region.wanted o (yielded ops a.tmps) = true) (ty : TypeId) (x : Operand) (ho : o.op = .load ty x)
    (g : Nat) (hx : a.eval x = .pointer (some ⟨g, 0, none⟩)) (t : TypeId) (cs : Array Value) (fr : Nat × Nat) (d : TypeDesc) (hg : w.heap[g]? = some (.cells cs t fr))
    (hu : P.underlying ty = some d) (hd : (match d with | .struct _ | .array _ _ => true | _ => false) = true) (hi : (P.info? ty).map (·.size) = some cs.size)
    (h : wpList P ops Q rest (a.put o.dst (.agg cs)) w) : wpList P ops Q (o :: rest) a w := by
  unfold wpList
  rw [if_pos hw]
  refine .inl ?_
  unfold Oper.wp
  rw [exec_load_row ty x ho g hx t cs fr d hg hu hd hi]
  exact h
end

theorem exec_load_mid {P : Program} {o : Oper} {a : Act} {w : World} (ty : TypeId) (x : Operand) (ho : o.op = .load ty x) (b off : Nat) (hx : a.eval x = .pointer (some ⟨b, off, none⟩)) (cs : Array Value) (d : TypeDesc) (hc : w.rangeAt b off cs.toList)
    (hu : P.underlying ty = some d) (hd : d.isRow = true) (hi : (P.info? ty).map (·.size) = some cs.size) : (execOp a.eval o).run P w = .ok (.value (.agg cs)) w := by
  unfold execOp
  have := run_loadVar_mid (P := P) w b off ty cs.toList d hc hu hd (by simpa using hi)
  simp only [ho, hx, Instr.loadAt, Instr.sureAddr, Sem.run_bind, Sem.run_pure, Result.andThen_ok, this]
theorem Own3.lower {w : World} {lo lo' : Nat} {A : Option Addr} {l : List Int} (h : Own3 w lo A l) (hl : lo' ≤ lo) : Own3 w lo' A l := by
  rcases h with h | ⟨g, rfl, hg, hr⟩
  · exact .inl h
  · exact .inr ⟨g, rfl, Nat.le_trans hl hg, hr⟩

theorem GrowI.belowC {w w' : World} {base : Nat} {v : Value} {l : List Int} (h : GrowI w base v l) (hb : Below w.heap.size w w') : GrowI w' base v l := by
  refine World.ownsRow.kept h (Cls.grown hb) ?_
  cases v.ownBlock with
  | none => exact .inl rfl
  | some k => exact .inr (fun e => by cases e)
/-- What the operations of the program's way to the round hand back. -/
def cellsImplRel (gc : Array Value) (n m N c dd : Nat) (t : Int → Int → UInt8) (i : Nat) (v : Value) (W : World) : Prop :=
  match i with
  | 0 => v = .agg gc
  | 1 => ∃ g, v = .agg (chartC gc g N) ∧ StepsM W g n m t (fun _ => True) N
  | 2 => v = .agg gc
  | 3 => v = .int .i64 (c : Int)
  | 4 => v = .agg #[.int .i64 ((c / m : Nat) : Int), .int .i64 ((c % m : Nat) : Int)]
  | 5 => v = .int .i64 (dd : Int)
  | 6 => v = .agg #[.int .i64 ((c / m : Nat) : Int), .int .i64 ((c % m : Nat) : Int), .int .i64 (dd : Int)]
  | 7 => ∃ g, v = .pointer (some ⟨g, 5 * (4 * c + dd), none⟩) ∧ StepsM W g n m t (fun _ => True) N
  | 8 => ∃ g, StepsM W g n m t (fun _ => True) N ∧ ((onR n m t (wayN m (4 * c + dd)) = true ∧ RingOf W g none v (ringN n m t (wayN m (4 * c + dd)))) ∨ (onR n m t (wayN m (4 * c + dd)) = false ∧ v = .slice none 0 0))
  | 9 => ∃ g, StepsM W g n m t (fun _ => True) N ∧ ((onR n m t (wayN m (4 * c + dd)) = true ∧ RingOf W g none v (ringN n m t (wayN m (4 * c + dd)))) ∨ (onR n m t (wayN m (4 * c + dd)) = false ∧ v = .slice none 0 0))
  | _ => True

/-- What the operations of one round of the program's loop hand back, up to the append. -/
def cellRel (gc : Array Value) (u : Value) (g q : Nat) (x y : Int) (cn : Nat) (i : Nat) (v : Value) (W : World) : Prop :=
  match i with
  | 0 => v = u
  | 1 => v = .agg gc
  | 2 => v = .pointer (some ⟨g, 5 * q, none⟩)
  | 3 => v = .pointer (some ⟨g, 5 * q, none⟩)
  | 4 => v = .pointer (some ⟨g, 5 * q, none⟩)
  | 5 => v = .pointer (some ⟨g, 5 * q, none⟩)
  | 6 => v = .agg #[.int .i64 x, .int .i64 y]
  | 7 => v = .int .i64 (cn : Int)
  | 8 => ∃ h, v = .slice (some ⟨h, 0, none⟩) 1 1 ∧ W.cell? ⟨h, 0, none⟩ = some (.int .i64 (cn : Int))
  | _ => True

end Go.Proofs.Ytminailbhgimkaa
