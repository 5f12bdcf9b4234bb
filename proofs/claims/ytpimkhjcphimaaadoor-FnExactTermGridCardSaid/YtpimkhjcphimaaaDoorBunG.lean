/- Settled texts in one file. Each begins with what it holds. -/
import Derived.Test.YtpimkhjcphimaaaDoorBunC
import Derived.Test.YtpimkhjcphimaaaDoorBunB
import Derived.Test.YtpimkhjcphimaaaDoorBunA
import Derived.Deep.MidRow
import Derived.Test.YtpimkhjcphimaaaDoorBunD
/- The program's single steps of a beam, each by its contract: behind, next, holds, ports, hasPort, entry, exit, onward. -/
namespace Go.Proofs.YtpimkhjcphimaaaDoor
open Go.RowKit

/-- A way as a value. -/
def wayV (x : Wy) : Value := .agg #[.int .i64 x.i, .int .i64 x.k, .int .i64 ((x.d : Nat) : Int)]

end Go.Proofs.YtpimkhjcphimaaaDoor

/- The way behind a way, by its contract. -/
namespace Go.Proofs.YtpimkhjcphimaaaDoor
open Go.RowKit

theorem Tryd.size_place : (Tryd.prog.info? 137).map (·.size) = some 2 := by kernel_rfl
/-- The cells of a way. -/
def wayC (x : Wy) : Array Value := #[.int .i64 x.i, .int .i64 x.k, .int .i64 ((x.d : Nat) : Int)]
theorem wayC_one (x : Wy) : (wayC x).all (·.oneCell') = true := by
  rw [Array.all_eq_true_iff_forall_mem]
  intro u hu
  simp [wayC] at hu
  rcases hu with rfl | rfl | rfl <;> rfl
theorem wayV_eq (x : Wy) : wayV x = .agg (wayC x) := rfl
theorem inG_cell {n m : Nat} {ls : List UInt8} {x : Wy} (hl : ls.length = 25) (hn : n ≤ 5) (hm : m ≤ 5) (hx : inG n m x) :
    ∃ p : Nat, p < 25 ∧ x.i * (m : Int) + x.k = (p : Int) ∧ ls[p]? = some (lett m ls x.i x.k) := by
  have h1 := cellN_int hx
  have h2 := cellN_lt hx
  have h3 : n * m ≤ 5 * 5 := Nat.mul_le_mul hn hm
  refine ⟨cellN m x, by omega, h1, ?_⟩
  unfold lett
  rw [h1, Int.toNat_natCast, List.getD_eq_getElem?_getD, List.getElem?_eq_getElem (by omega)]
  rfl

/-- The way behind a cell with a letter. -/
def nxtB (b : UInt8) (x : Wy) : Wy := ⟨stepI x.i (bend b x.d), stepK x.k (bend b x.d), bend b x.d⟩
theorem nxtB_nxt (t : Int → Int → UInt8) (x : Wy) : nxtB (t x.i x.k) x = nxt t x := rfl

def onRel (g : Nat) (cs : Array Value) (x y : Wy) (b : UInt8) (i : Nat) (v : Value) (_ : World) : Prop :=
  match i with
  | 0 => v = .agg (wayC x)
  | 1 => v = .agg cs
  | 2 => v = .pointer (some ⟨g, 0, none⟩)
  | 3 => v = .agg #[.int .i64 x.i, .int .i64 x.k]
  | 4 => v = .int .u8 b.toNat
  | 5 => v = .agg (wayC y)
  | _ => True

/-- The way that stands in cells. -/
def readWay (cs : Array Value) : Wy := ⟨intOf (cs.getD 0 undef), intOf (cs.getD 1 undef), (intOf (cs.getD 2 undef)).toNat⟩
theorem readWay_wayC (x : Wy) : readWay (wayC x) = x := Wy.eq rfl rfl (by simp [readWay, wayC, intOf])
/-- The place of a way among the first ones. -/
def idxW (W : Nat → Wy) (L : Nat) (x : Wy) : Nat := (List.range (L + 1)).findIdx fun j => sameW (W j) x
theorem idxW_eq {W : Nat → Wy} {L j : Nat} (hj : j ≤ L) (hne : ∀ a b, a < b → b ≤ L → W a ≠ W b) : idxW W L (W j) = j := by
  unfold idxW
  rw [List.findIdx_eq (by simpa using Nat.lt_succ_of_le hj)]
  refine ⟨by simpa using sameW_iff.2 rfl, fun a ha => ?_⟩
  rw [List.getElem_range, Bool.eq_false_iff]
  exact fun e => hne a j ha hj (sameW_iff.1 e)

end Go.Proofs.YtpimkhjcphimaaaDoor

/- The chart of a grid: its struct, and number, step, opposite, by their contracts. -/
namespace Go.Proofs.YtpimkhjcphimaaaDoor
open Go.RowKit

section
variable {P : Program} {ops : Array Oper} {C : World → Prop} {Q : Act → Prop} {a : Act} {o : Oper} {rest : List Oper}
/-- A struct out of the middle of a block, in every world of the class. -/
theorem wpQuiet_load_mid (hw : Region.wanted o (yielded ops a.tmps) = true) (ty : TypeId) (x : Operand) (ho : o.op = .load ty x)
    (b off : Nat) (hx : a.eval x = .pointer (some ⟨b, off, none⟩)) (cs : Array Value) (d : TypeDesc) (hc : ∀ w, C w → w.rangeAt b off cs.toList)
    (hu : P.underlying ty = some d) (hd : d.isRow = true) (hi : (P.info? ty).map (·.size) = some cs.size)
    (h : wpQuiet P ops C Q rest (a.put o.dst (.agg cs))) : wpQuiet P ops C Q (o :: rest) a := by
  refine wpQuiet_valueW hw (.agg cs) (fun w hw' => ?_) h
  unfold execOp
  have := run_loadVar_mid (P := P) w b off ty cs.toList d (hc w hw') hu hd (by simpa using hi)
  simp only [ho, hx, Instr.loadAt, Instr.sureAddr, Sem.run_bind, Sem.run_pure, Result.andThen_ok, this]
end
theorem rangeAt_row {w : World} {b off : Nat} {all : Array Value} {t : TypeId} {fr : Nat × Nat} (hg : w.heap[b]? = some (.cells all t fr)) {cs : Array Value} (h : ∀ j v, cs[j]? = some v → all[off + j]? = some v) : w.rangeAt b off cs.toList := fun j v hv => by
  rw [cell_of_row _ _ _ _ _ _ hg]; exact h j v (by simpa using hv)

/-- The cells of a chart: the grid's, and the steps. -/
def chartC (cs : Array Value) (g N : Nat) : Array Value := cs.push (.slice (some ⟨g, 0, none⟩) N N)
theorem chartC_pre (cs : Array Value) (g N j : Nat) (v : Value) (h : cs[j]? = some v) : (chartC cs g N)[0 + j]? = some v := by
  unfold chartC
  rw [Nat.zero_add, Array.getElem?_push, if_neg (by have := (Array.getElem?_eq_some_iff.1 h).1; omega)]
  exact h
theorem chartC_steps {cs : Array Value} (h : cs.size = 27) (g N : Nat) : (chartC cs g N)[27]? = some (.slice (some ⟨g, 0, none⟩) N N) := by
  unfold chartC
  rw [Array.getElem?_push, if_pos h.symm]
theorem chartC_size {cs : Array Value} (h : cs.size = 27) (g N : Nat) : (chartC cs g N).size = 28 := by simp [chartC, h]
theorem chartC_one {cs : Array Value} (h : cs.all (·.oneCell') = true) (g N : Nat) : (chartC cs g N).all (·.oneCell') = true := by
  rw [Array.all_eq_true_iff_forall_mem] at h ⊢
  intro x hx
  unfold chartC at hx
  rcases Array.mem_push.1 hx with h1 | h1
  · exact h x h1
  · subst h1; rfl

end Go.Proofs.YtpimkhjcphimaaaDoor

/- The steps of a chart in memory; chart.link, by its contract. -/
namespace Go.Proofs.YtpimkhjcphimaaaDoor
open Go.RowKit
attribute [local go_sem] Oper.semAt_some

section
variable {F : Fence} {m : Nat} {P : Program} {ops : Array Oper} {Q : Exit → Act → World → Prop} {a : Act} {w : World} {rest : List Oper} {o : Oper}
/-- A struct out of the middle of a block, in a fence. -/
theorem wpListIn_load_mid (hO : Open F P) (hgd : o.guard = none) (ty : TypeId) (x : Operand) (ho : o.op = .load ty x)
    (b off : Nat) (hx : a.eval x = .pointer (some ⟨b, off, none⟩)) (cs : Array Value) (d : TypeDesc) (hc : w.rangeAt b off cs.toList)
    (hu : P.underlying ty = some d) (hd : d.isRow = true) (hi : (P.info? ty).map (·.size) = some cs.size)
    (h : wpListIn F m P ops Q rest (a.put o.dst (.agg cs)) w) : wpListIn F m P ops Q (o :: rest) a w := by
  unfold wpListIn
  have hw : Region.wanted o (yielded ops a.tmps) = true := by simp [Region.wanted, hgd]
  rw [if_pos hw]
  refine ⟨fun f _ => hO.fn f, ?_⟩
  rw [Oper.semAt_eq _ _ _ (fun c e => by rw [ho] at e; cases e)]
  unfold execOp
  have := run_loadVar_mid (P := P) w b off ty cs.toList d hc hu hd (by simpa using hi)
  simp only [ho, hx, Instr.loadAt, Instr.sureAddr, Sem.run_bind, Sem.run_pure, Result.andThen_ok, this]
  rw [Oper.uponIn_value]
  exact h
/-- A struct into the middle of a block, in a fence. -/
theorem wpListIn_store_mid (hO : Open F P) (hgd : o.guard = none) (ty : TypeId) (x y : Operand) (ho : o.op = .store ty x y)
    (b off : Nat) (cells : Array Value) (hx : a.eval x = .pointer (some ⟨b, off, none⟩)) (hy : a.eval y = .agg cells)
    (ht : w.there b off cells.size) (hi : (P.info? ty).map (·.size) = some cells.size) (h1 : cells.all (·.oneCell') = true)
    (h : wpListIn F m P ops Q rest (a.put o.dst undef) (w.setCells b off cells.toList)) : wpListIn F m P ops Q (o :: rest) a w := by
  unfold wpListIn
  have hw : Region.wanted o (yielded ops a.tmps) = true := by simp [Region.wanted, hgd]
  rw [if_pos hw]
  refine ⟨fun f _ => hO.fn f, ?_⟩
  rw [Oper.semAt_eq _ _ _ (fun c e => by rw [ho] at e; cases e)]
  unfold execOp
  simp only [ho, hx, hy, Instr.storeAt, Instr.sureAddr, Sem.run_bind, Sem.run_pure, Result.andThen_ok, run_storeVar_mid w b off ty cells ht hi h1]
  rw [Oper.uponIn_skip]
  exact h
end

/-- The pointer to the step behind a way. -/
def nextP (g n m : Nat) (t : Int → Int → UInt8) (x : Wy) : Value := if inG n m (nxt t x) then .pointer (some ⟨g, 5 * wcode m (nxt t x), none⟩) else .pointer none
/-- The cells of the step of a way. -/
def stepC (g n m : Nat) (t : Int → Int → UInt8) (x : Wy) : List Value := [.int .i64 x.i, .int .i64 x.k, .int .i64 ((x.d : Nat) : Int), nextP g n m t x, .pointer (some ⟨g, 5 * wcode m (rev t x), none⟩)]
def put5 (cs : Array Value) (o : Nat) (a0 a1 a2 b4 : Value) : Array Value := (((cs.setIfInBounds o a0).setIfInBounds (o + 1) a1).setIfInBounds (o + 1 + 1) a2).setIfInBounds (o + 4) b4
theorem put5_size (cs : Array Value) (o : Nat) (a0 a1 a2 b4 : Value) : (put5 cs o a0 a1 a2 b4).size = cs.size := by simp [put5]
theorem put5_at {cs : Array Value} {o : Nat} (a0 a1 a2 b4 : Value) (h : o + 4 < cs.size) (i : Nat) :
    (put5 cs o a0 a1 a2 b4)[i]? = if i = o + 4 then some b4 else if i = o + 1 + 1 then some a2 else if i = o + 1 then some a1 else if i = o then some a0 else cs[i]? := by
  unfold put5
  by_cases e4 : i = o + 4
  · subst e4; rw [Array.getElem?_setIfInBounds_self_of_lt (by simp; omega), if_pos rfl]
  rw [Array.getElem?_setIfInBounds_ne (fun e => e4 e.symm), if_neg e4]
  by_cases e2 : i = o + 1 + 1
  · subst e2; rw [Array.getElem?_setIfInBounds_self_of_lt (by simp; omega), if_pos rfl]
  rw [Array.getElem?_setIfInBounds_ne (fun e => e2 e.symm), if_neg e2]
  by_cases e1 : i = o + 1
  · subst e1; rw [Array.getElem?_setIfInBounds_self_of_lt (by simp; omega), if_pos rfl]
  rw [Array.getElem?_setIfInBounds_ne (fun e => e1 e.symm), if_neg e1]
  by_cases e0 : i = o
  · subst e0; rw [Array.getElem?_setIfInBounds_self_of_lt (by omega), if_pos rfl]
  rw [Array.getElem?_setIfInBounds_ne (fun e => e0 e.symm), if_neg e0]

end Go.Proofs.YtpimkhjcphimaaaDoor

/- newChart, by its contract. -/
namespace Go.Proofs.YtpimkhjcphimaaaDoor
open Go.RowKit
attribute [local go_sem] Oper.semAt_some

theorem lits27c {cs : Array Value} (h : cs.size = 27) : ∃ c0 c1 c2 c3 c4 c5 c6 c7 c8 c9 c10 c11 c12 c13 c14 c15 c16 c17 c18 c19 c20 c21 c22 c23 c24 c25 c26 : Value, cs = #[c0, c1, c2, c3, c4, c5, c6, c7, c8, c9, c10, c11, c12, c13, c14, c15, c16, c17, c18, c19, c20, c21, c22, c23, c24, c25, c26] := by
  refine ⟨cs[0], cs[1], cs[2], cs[3], cs[4], cs[5], cs[6], cs[7], cs[8], cs[9], cs[10], cs[11], cs[12], cs[13], cs[14], cs[15], cs[16], cs[17], cs[18], cs[19], cs[20], cs[21], cs[22], cs[23], cs[24], cs[25], cs[26], ?_⟩
  refine Array.ext (by simp [h]) (fun i h1 h2 => ?_)
  rw [h] at h1
  have : i = 0 ∨ i = 1 ∨ i = 2 ∨ i = 3 ∨ i = 4 ∨ i = 5 ∨ i = 6 ∨ i = 7 ∨ i = 8 ∨ i = 9 ∨ i = 10 ∨ i = 11 ∨ i = 12 ∨ i = 13 ∨ i = 14 ∨ i = 15 ∨ i = 16 ∨ i = 17 ∨ i = 18 ∨ i = 19 ∨ i = 20 ∨ i = 21 ∨ i = 22 ∨ i = 23 ∨ i = 24 ∨ i = 25 ∨ i = 26 := by omega
  rcases this with rfl | rfl | rfl | rfl | rfl | rfl | rfl | rfl | rfl | rfl | rfl | rfl | rfl | rfl | rfl | rfl | rfl | rfl | rfl | rfl | rfl | rfl | rfl | rfl | rfl | rfl | rfl <;> rfl
/-- The cells of the zero chart, of the zero step. -/
abbrev zeroK : Array Value := #[.int .i64 0, .int .i64 0, .int .u8 0, .int .u8 0, .int .u8 0, .int .u8 0, .int .u8 0, .int .u8 0, .int .u8 0, .int .u8 0, .int .u8 0, .int .u8 0, .int .u8 0, .int .u8 0, .int .u8 0, .int .u8 0, .int .u8 0, .int .u8 0, .int .u8 0, .int .u8 0, .int .u8 0, .int .u8 0, .int .u8 0, .int .u8 0, .int .u8 0, .int .u8 0, .int .u8 0, .slice none 0 0]
abbrev zeroS : Array Value := #[.int .i64 0, .int .i64 0, .int .i64 0, .pointer none, .pointer none]
theorem but_grownN {g : Nat} {w w' : World} (h : But g w w') : w.grownBy w' (some g) := ⟨h.os, h.tape, h.output, h.size, fun k hk hne => h.block k hk (fun e => hne (by rw [e]))⟩
end Go.Proofs.YtpimkhjcphimaaaDoor
