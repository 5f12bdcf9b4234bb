/- The operations on the map of ways, at the operation: clear, store, len, look-up; a struct that is the head of a greater one, loaded. -/
import Derived.Test.YtpbppkidglmacaaWayMap
import Derived.Test.YtpbppkidglmacaaWays
import Derived.Deep.MidRow
namespace Go.Proofs.Ytpbppkidglmacaa
open Go.RowKit Go.Shelf Go.Maps Go.ChangeMaps

theorem grown_refl (w : World) (r : Option Nat) : w.grownBy w r := ⟨rfl, rfl, rfl, Nat.le_refl _, fun _ _ _ => rfl⟩
theorem grown_trans {a b c : World} {r : Option Nat} (h : a.grownBy b r) (k : b.grownBy c r) : a.grownBy c r :=
  ⟨k.os.trans h.os, k.tape.trans h.tape, k.output.trans h.output, Nat.le_trans h.size k.size, fun i hi hr => (k.block i (Nat.lt_of_lt_of_le hi h.size) hr).trans (h.block i hi hr)⟩
theorem grown_below {a b : World} (r : Option Nat) (h : Below a.heap.size a b) : a.grownBy b r := ⟨h.os, h.tape, h.output, h.size, fun k hk _ => h.block k hk⟩
theorem below_grown {a b : World} {B r : Nat} (h : a.grownBy b (some r)) (hB : B ≤ a.heap.size) (hr : B ≤ r) : Below B a b := ⟨h.os, h.tape, h.output, h.size, fun k hk => h.block k (by omega) (by intro e; cases e; omega)⟩
theorem own_grown {β : Type} (w : World) (r : Option Nat) (B : Nat) (hB : w.heap.size ≤ B) : OwnFrom B (fun (_ : β) W => w.grownBy W r) := fun _ W W' row hs hg hr =>
  ⟨hg.os.trans hs.os, hg.tape.trans hs.tape, hg.output.trans hs.output, Nat.le_trans hs.size hg.size, fun k hk hne => by
    refine (hg.block k (Nat.lt_of_lt_of_le hk hs.size) (fun e => ?_)).trans (hs.block k hk hne)
    have := (hr k e.symm).1
    omega⟩
theorem own_map {β : Type} (b B : Nat) (f : β → List Wy) (hb : b < B) : OwnFrom B (fun s W => MapOf W b (f s)) := fun s W W' row hs hg hr => by
  refine hs.kept (hg.block b hs.lt (fun e => ?_))
  have := (hr b e.symm).1
  omega
theorem keeps_map {W W' : World} {b B : Nat} (hb : b < B) (h : W.grownBy W' (some b)) : KeepsFrom B W W' :=
  ⟨h.size, fun k o hB hk _ => (h.block k (lt_of_block hk) (by intro e; cases e; omega)).trans hk⟩
theorem keepsW_map {W W' : World} {g n0 b : Nat} {xs : List Wy} (hm : MapOf W b xs) (hgb : g ≠ b) (hg : g < W.heap.size) (h : W.grownBy W' (some b)) : KeepsW g n0 W W' := by
  obtain ⟨es, clock, hb⟩ := hm.isMap
  refine ⟨h.size, h.block g hg (by intro e; cases e; exact hgb rfl), fun k cs _ hk => ?_⟩
  refine (h.block k (lt_of_block hk) (fun e => ?_)).trans hk
  cases e
  rw [hb] at hk
  cases hk

section
variable {F : Fence} {n : Nat} {ops : Array Oper} {rest : List Oper} {o : Oper} {a : Act} {w : World} {Q : Exit → Act → World → Prop} {b : Nat} {xs : List Wy}

theorem wpListIn_clear_way (hg : o.guard = none) (m : Operand) (hop : o.op = Op.call { callee := Callee.builtin Builtin.clear, args := #[m], argTypes := #[60] })
    (hm : a.eval m = .map (some b)) (hown : MapOf w b xs) (hK : ∀ w', MapOf w' b [] → w.grownBy w' (some b) → wpListIn F n Try.prog ops Q rest (a.put o.dst (.tuple #[])) w') :
    wpListIn F n Try.prog ops Q (o :: rest) a w := by
  refine wpListIn_plain hg fun K' hK' => ?_
  obtain ⟨es, clock, hb⟩ := hown.isMap
  have hrun : (Builtin.clear_ #[60] o.type #[.map (some b)]).run Try.prog w = .ok (.tuple #[]) (setBlock w b (.map #[] clock)) := by
    simp [Builtin.clear_, run_underlying Try.underlying60, MapKept.run_getObj_map hb, MapKept.run_setObj_map _ hb, Result.andThen, setBlock]
  have r1 : MapOf (setBlock w b (.map #[] clock)) b [] := ⟨#[], clock, heap_setBlock_same hb _, ⟨by simp, MapKept.stamped_empty clock, by simp⟩, Nat.le_refl _, rfl⟩
  have r2 : w.grownBy (setBlock w b (.map #[] clock)) (some b) := ⟨rfl, rfl, rfl, by simp [setBlock], fun i _ hi => heap_setBlock_other hb _ (fun e => hi (by rw [e]))⟩
  unfold Oper.wpIn
  refine ⟨by simp [Oper.about, hop, resolve, Target.leads, Sem.run_pure], ?_⟩
  rw [Oper.semAt_plain F _ _ (by rw [hop]; intro c hc'; cases hc')]
  simp [execOp, hop, resolve, invoke, builtin, hm, hrun, Result.andThen]
  exact hK' _ _ (hK _ r1 r2)

theorem wpListIn_store_way (hg : o.guard = none) (m x v : Operand) (hop : o.op = Op.mapUpdate 60 m x v) (y : Wy) (hy : okW y) (hn : xs.length < maxLen)
    (hm : a.eval m = .map (some b)) (hown : MapOf w b xs) (hx : a.eval x = wayV y) (hv : a.eval v = .bool true)
    (hK : ∀ w', MapOf w' b (xs ++ [y]) → w.grownBy w' (some b) → wpListIn F n Try.prog ops Q rest (a.put o.dst undef) w') :
    wpListIn F n Try.prog ops Q (o :: rest) a w :=
  wpListIn_mapUpdate_own w hg m x v _ hop _ _ wayKeyed Try.underlying60 mapR b xs.length _ hm hown hn _ _ _ hx hv (wkl_eq hy) tt [] (mapR_mk true) (fun w' h1 h2 => hK w' (by
    unfold MapOf
    rw [snoc_ways, List.length_append]
    exact h1) h2)

theorem wpListIn_len_way (hg : o.guard = none) (m : Operand) (hop : o.op = Op.call { callee := Callee.builtin Builtin.len, args := #[m], argTypes := #[60] })
    (hm : a.eval m = .map (some b)) (hown : MapOf w b xs) (hx : ∀ x ∈ xs, okW x) (hd : xs.Nodup)
    (hK : wpListIn F n Try.prog ops Q rest (a.put o.dst (.int .i64 ((xs.length : Nat) : Int))) w) : wpListIn F n Try.prog ops Q (o :: rest) a w := by
  refine wpListIn_len_own w hg m _ hop _ _ Try.underlying60 mapR b xs.length _ hm hown ?_
  rw [size_ways _ xs rfl hx hd]
  exact hK

theorem wpListIn_look_way (hg : o.guard = none) (m x : Operand) (hop : o.op = Op.lookup 60 m x false) (y : Wy) (hy : okW y)
    (hm : a.eval m = .map (some b)) (hown : MapOf w b xs) (hxs : ∀ x ∈ xs, okW x) (hx : a.eval x = wayV y)
    (hK : wpListIn F n Try.prog ops Q rest (a.put o.dst (.bool (decide (y ∈ xs)))) w) : wpListIn F n Try.prog ops Q (o :: rest) a w := by
  refine wpListIn_plain hg fun K' hK' => ?_
  have hz : (zeroValue 4).run Try.prog w = .ok (.bool false) w := by kernel_rfl
  obtain ⟨v, ps, hrun, hv⟩ := World.ownsMap.lookup hown wayKeyed Try.underlying60 hz (mapR_mk false) (wkl_eq hy)
  have hat := at_ways hxs hy
  unfold ff at hat
  rw [hat] at hv
  obtain rfl := mapR_inv hv
  unfold Oper.wpIn
  refine ⟨by simp [Oper.about, hop], ?_⟩
  rw [Oper.semAt_plain F _ _ (by rw [hop]; intro c hc'; cases hc')]
  simp [execOp, hop, hm, hx, hrun, Result.andThen]
  exact hK' _ _ hK
end

section
variable {P : Program} {F : Fence} {m : Nat} {ops : Array Oper} {rest : List Oper} {o : Oper} {a : Act} {w : World} {Q : Exit → Act → World → Prop}
theorem wpListIn_load_head (hO : Open F P) (hgd : o.guard = none) (ty : TypeId) (x : Operand) (ho : o.op = .load ty x)
    (g : Nat) (hx : a.eval x = .pointer (some ⟨g, 0, none⟩)) (t : TypeId) (all : Array Value) (fr : Nat × Nat) (cs : Array Value) (d : TypeDesc) (hg : w.heap[g]? = some (.cells all t fr)) (hpre : ∀ (j : Nat) (v : Value), cs[j]? = some v → all[j]? = some v)
    (hu : P.underlying ty = some d) (hd : d.isRow = true) (hi : (P.info? ty).map (·.size) = some cs.size)
    (h : wpListIn F m P ops Q rest (a.put o.dst (.agg cs)) w) : wpListIn F m P ops Q (o :: rest) a w := by
  unfold wpListIn
  have hw : Region.wanted o (yielded ops a.tmps) = true := by simp [Region.wanted, hgd]
  rw [if_pos hw]
  refine ⟨fun f _ => hO.fn f, ?_⟩
  rw [Oper.semAt_eq _ _ _ (fun c e => by rw [ho] at e; cases e)]
  unfold execOp
  have hr : w.rangeAt g 0 cs.toList := fun j v hv => by
    rw [cell_of_row _ _ _ _ _ _ hg, Nat.zero_add]
    exact hpre j v (by simpa using hv)
  have := run_loadVar_mid (P := P) w g 0 ty cs.toList d hr hu hd (by simpa using hi)
  simp only [ho, hx, Instr.loadAt, Instr.sureAddr, Sem.run_bind, Sem.run_pure, Result.andThen_ok, this]
  rw [Oper.uponIn_value]
  simpa using h
end

/-- The cells of a trace: the grid's, and the map. -/
def tcells (cs : Array Value) (b : Nat) : Array Value := cs.push (.map (some b))
theorem tcells_pre (cs : Array Value) (b : Nat) (j : Nat) (v : Value) (h : cs[j]? = some v) : (tcells cs b)[j]? = some v := by
  unfold tcells
  rw [Array.getElem?_push, if_neg (by have := (Array.getElem?_eq_some_iff.1 h).1; omega)]
  exact h
theorem tcells_map {cs : Array Value} (h : cs.size = 27) (b : Nat) : (tcells cs b)[27]? = some (.map (some b)) := by
  unfold tcells
  rw [Array.getElem?_push, if_pos h.symm]
theorem tcells_size {cs : Array Value} (h : cs.size = 27) (b : Nat) : (tcells cs b).size = 28 := by simp [tcells, h]
theorem Try.size_trace : (Try.prog.info? 62).map (·.size) = some 28 := by kernel_rfl
end Go.Proofs.Ytpbppkidglmacaa
