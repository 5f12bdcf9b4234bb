/- Settled texts in one file. Each begins with what it holds. -/
import Derived.Test.YtpimkhjcphimaaaDoorBunG
import Derived.Maps.OwnIn
import Derived.DeepKeys4
import Derived.Test.YtpimkhjcphimaaaDoorBunF
import Derived.Test.YtpimkhjcphimaaaDoorBunD
import Derived.Deep.MidRow
import Derived.Test.YtpimkhjcphimaaaDoorBunE
import Derived.Deep.QuietTactic
import Derived.BigQuiet
import Derived.Test.YtpimkhjcphimaaaDoorBunB
/- The map of ways: what it holds, told as a list of ways. -/
namespace Go.Proofs.YtpimkhjcphimaaaDoor
open Go.RowKit Go.Shelf Go.Maps

theorem wayRow2 : (2 : Nat) < Tryd.prog.types.size := of_decide_eq_true (by kernel_rfl)
theorem wayTypes : ∃ n, Tryd.prog.types.size + 1 = n + 3 := ⟨Tryd.prog.types.size - 2, by have := wayRow2; omega⟩

deriving instance DecidableEq for Wy
theorem elem_bool_inv {P : Program} {e : TypeId} (he : P.underlying e = some .bool) {v : Value} {x : Bool} {ps : List MemPlace} (h : plainElem (H := Unit) P e v = some (.lit (.bool x), ps)) : v = .bool x := by
  unfold plainElem at h
  rw [he] at h
  cases v <;> simp at h
  obtain ⟨rfl, _⟩ := h
  rfl

/-- The ways of which the map's laws speak: their numbers are a machine's. -/
def okW (x : Wy) : Prop := -100 ≤ x.i ∧ x.i ≤ 100 ∧ -100 ≤ x.k ∧ x.k ≤ 100 ∧ x.d ≤ 100

theorem wf_small {a : Int} (h1 : -100 ≤ a) (h2 : a ≤ 100) : (Lit.int .i64 a).wf = true := by
  simp only [Lit.wf, Bool.and_eq_true, decide_eq_true_eq]
  have e1 : IntKind.min .i64 = -9223372036854775808 := by decide
  have e2 : IntKind.max .i64 = 9223372036854775807 := by decide
  omega
/-- The element of a way that is there. -/
def tt : DataW Unit := .lit (.bool true)
def ff : DataW Unit := .lit (.bool false)
noncomputable abbrev mapR : Value → Option (DataW Unit × List MemPlace) := plainElem Tryd.prog 4
theorem mapR_mk (x : Bool) : mapR (.bool x) = some (.lit (.bool x), []) := plainElem_bool Tryd.underlying4 x
theorem mapR_inv {v : Value} {x : Bool} {ps : List MemPlace} (h : mapR v = some (.lit (.bool x), ps)) : v = .bool x := elem_bool_inv Tryd.underlying4 h

end Go.Proofs.YtpimkhjcphimaaaDoor

/- GridPut of the program, by its contract. -/
namespace Go.Proofs.YtpimkhjcphimaaaDoor
open Go.RowKit Go.Shelf
attribute [local go_sem] Oper.semAt_some

/-- What GridPut takes. -/
def PutIn (ss : List ByteArray) (cell : Int) (t : ByteArray) (n m c : Nat) (b : UInt8) : Prop := IsGrid n m ss ∧ cell = (c : Int) ∧ c < n * m ∧ t = ⟨#[b]⟩ ∧ isLet b = true
def PutOut (ss : List ByteArray) (cell : Int) (t : ByteArray) (ok : Bool) (res : List ByteArray) : Prop :=
  (∃ n m c b, PutIn ss cell t n m c b ∧ ok = true ∧ res = textsOf n m ((pad (flat ss)).set c b)) ∨ ((∀ n m c b, ¬ PutIn ss cell t n m c b) ∧ ok = false ∧ res = [])
theorem PutOut.uniq {ss : List ByteArray} {cell : Int} {t : ByteArray} {ok ok' : Bool} {res res' : List ByteArray} (h : PutOut ss cell t ok res) (h' : PutOut ss cell t ok' res') : ok' = ok ∧ res' = res := by
  rcases h with ⟨n, m, c, b, hg, rfl, rfl⟩ | ⟨hn, rfl, rfl⟩ <;> rcases h' with ⟨n', m', c', b', hg', rfl, rfl⟩ | ⟨hn', rfl, rfl⟩
  · obtain ⟨g1, g2, _, g4, _⟩ := hg
    obtain ⟨k1, k2, _, k4, _⟩ := hg'
    obtain ⟨rfl, rfl⟩ := g1.uniq k1
    obtain rfl : c = c' := by omega
    rw [g4] at k4
    obtain rfl : b = b' := by simpa using k4
    exact ⟨rfl, rfl⟩
  · exact absurd hg (hn' _ _ _ _)
  · exact absurd hg' (hn _ _ _ _)
  · exact ⟨rfl, rfl⟩
theorem PutOut.len {ss : List ByteArray} {cell : Int} {t : ByteArray} {ok : Bool} {res : List ByteArray} (h : PutOut ss cell t ok res) : res.length ≤ 1048576 := by
  rcases h with ⟨n, m, c, b, hg, _, rfl⟩ | ⟨_, _, rfl⟩
  · have h1 := hg.1.2.2.1
    rw [textsOf_length]; omega
  · simp

set_option maxHeartbeats 400000 in
theorem letterIn_other (t : ByteArray) (w : World) (ht : t.size ≠ 1) :
    Calls Tryd.prog 49 #[.string t] w fun e w' => e = .returned (.bool false) ∧ w = w' := by
  have hne : ((t.size : Int) == 1) = false := by rw [beq_eq_false_iff_ne]; omega
  go_enter Tryd.func49, Tryd.ntmps49
  go_wp2_with fail
  go_ret
  exact ⟨rfl, rfl⟩

theorem one_byte {t : ByteArray} (h : t.size = 1) : ∃ b, t = ⟨#[b]⟩ := by
  obtain ⟨⟨l⟩⟩ := t
  match l, h with
  | [b], _ => exact ⟨b, rfl⟩
section
variable {F : Fence} {m : Nat} {P : Program} {ops : Array Oper} {rest : List Oper} {o : Oper} {a : Act} {w : World} {Q : Exit → Act → World → Prop}
theorem wpListIn_load_row_g (hO : Open F P) (hw : Region.wanted o (yielded ops a.tmps) = true) (ty : TypeId) (x : Operand) (ho : o.op = .load ty x)
    (g : Nat) (hx : a.eval x = .pointer (some ⟨g, 0, none⟩)) (t : TypeId) (cs : Array Value) (fr : Nat × Nat) (d : TypeDesc) (hg : w.heap[g]? = some (.cells cs t fr))
    (hu : P.underlying ty = some d) (hd : (match d with | .struct _ | .array _ _ => true | _ => false) = true) (hi : (P.info? ty).map (·.size) = some cs.size)
    (h : wpListIn F m P ops Q rest (a.put o.dst (.agg cs)) w) : wpListIn F m P ops Q (o :: rest) a w := by
  unfold wpListIn
  rw [if_pos hw]
  refine ⟨fun f _ => hO.fn f, ?_⟩
  rw [Oper.semAt_eq _ _ _ (fun c e => by rw [ho] at e; cases e)]
  unfold execOp
  simp only [ho, hx, Instr.loadAt, Instr.sureAddr, Sem.run_bind, Sem.run_pure, Result.andThen_ok, run_loadVar_row w g t ty cs fr d hg hu hd hi]
  rw [Oper.uponIn_value]
  exact h
end

end Go.Proofs.YtpimkhjcphimaaaDoor

/- The iterator over the ways of a beam: all of them in order, or a part where a round has said no more. -/
namespace Go.Proofs.YtpimkhjcphimaaaDoor
open Go.RowKit Go.Shelf
attribute [local go_sem] Oper.semAt_some

/-- What yield is handed for a way. -/
def encW (bw : Nat → Wy) (L : Nat) (x : Fin L) : Array Value := #[wayV (bw x.val)]
def leftW (W : Nat → Wy) (L : Nat) (v : Value) (wr : World) : Nat :=
  match v with
  | .pointer (some a) => match wr.heap[a.block]? with
    | some (.cells cs _ _) => L - idxW W L (readWay cs)
    | _ => 0
  | _ => 0
theorem leftW_eq {W : Nat → Wy} {L j b : Nat} {wr : World} {t : TypeId} {fr : Nat × Nat} (h : wr.heap[b]? = some (.cells (wayC (W j)) t fr)) (hj : j ≤ L) (hne : ∀ a b, a < b → b ≤ L → W a ≠ W b) :
    leftW W L (.pointer (some ⟨b, 0, none⟩)) wr = L - j := by
  unfold leftW
  simp only [h]
  rw [readWay_wayC, idxW_eq hj hne]

theorem abide_below2 {α : Type} {J : List α → World → Prop} {B : Nat} (hJ : AbidesFrom B J) {pre : List α} {A A' : World} (h : J pre A) (hb : Below A.heap.size A A') : J pre A' := abide_below hJ h hb
end Go.Proofs.YtpimkhjcphimaaaDoor

/- The partner of a port, by its contract. -/
namespace Go.Proofs.YtpimkhjcphimaaaDoor
open Go.RowKit Go.Shelf
attribute [local go_sem] Oper.semAt_some

/-- The last way that has come. -/
def lastOf {L : Nat} (pre : List (Fin L)) : Nat := match pre.getLast? with
  | some x => x.val
  | none => 0
theorem lastOf_snoc {L : Nat} (pre : List (Fin L)) (x : Fin L) : lastOf (pre ++ [x]) = x.val := by simp [lastOf]
theorem lastOf_all {L : Nat} (h : 1 ≤ L) : lastOf (List.finRange L) = L - 1 := by
  obtain ⟨k, rfl⟩ : ∃ k, L = k + 1 := ⟨L - 1, by omega⟩
  have := upto_succ (N := k + 1) (k := k) (by omega)
  rw [upto_all] at this
  rw [this, lastOf_snoc]; simp

end Go.Proofs.YtpimkhjcphimaaaDoor

/- A grid with a port, and BeamEnd of the program, by their contracts. -/
namespace Go.Proofs.YtpimkhjcphimaaaDoor
open Go.RowKit Go.Shelf
attribute [local go_sem] Oper.semAt_some

/-- A grid, and a number of one of its ports. -/
def PortIn (ss : List ByteArray) (p : Int) (n m q : Nat) : Prop := IsGrid n m ss ∧ p = q ∧ q < 2 * (n + m)
def NoPort (ss : List ByteArray) (p : Int) : Prop := ∀ n m q, ¬ PortIn ss p n m q
/-- What gridWithPort comes to. -/
def GPEnd (ss : List ByteArray) (p : Int) (w : World) (e : Ending) (w' : World) : Prop :=
  Below w.heap.size w w' ∧ ((∃ n m q, PortIn ss p n m q ∧ e = .returned (.tuple #[.agg (gcells n m (pad (flat ss))), .bool true])) ∨ (NoPort ss p ∧ e = .returned (.tuple #[.agg zeroG, .bool false])))

/-- BeamEnd of the program and of the specification. -/
def EndOut (ss : List ByteArray) (p : Int) (x : Int) (ok : Bool) : Prop :=
  (∃ n m q, PortIn ss p n m q ∧ x = ((bend_ n m (lett m (pad (flat ss))) q : Nat) : Int) ∧ ok = true) ∨ (NoPort ss p ∧ x = 0 ∧ ok = false)
theorem PortIn.uniq {ss : List ByteArray} {p : Int} {n m q n' m' q' : Nat} (h : PortIn ss p n m q) (h' : PortIn ss p n' m' q') : n = n' ∧ m = m' ∧ q = q' := by
  obtain ⟨h1, h2⟩ := h.1.uniq h'.1
  exact ⟨h1, h2, by have := h.2.1; have := h'.2.1; omega⟩
theorem EndOut.uniq {ss : List ByteArray} {p x x' : Int} {ok ok' : Bool} (h : EndOut ss p x ok) (h' : EndOut ss p x' ok') : x' = x ∧ ok' = ok := by
  rcases h with ⟨n, m, q, h1, rfl, rfl⟩ | ⟨h1, rfl, rfl⟩ <;> rcases h' with ⟨n', m', q', h1', rfl, rfl⟩ | ⟨h1', rfl, rfl⟩
  · obtain ⟨rfl, rfl, rfl⟩ := h1.uniq h1'
    exact ⟨rfl, rfl⟩
  · exact absurd h1 (h1' _ _ _)
  · exact absurd h1' (h1 _ _ _)
  · exact ⟨rfl, rfl⟩

end Go.Proofs.YtpimkhjcphimaaaDoor

/- l2Given and BeamEnd of the specification, by their contracts. -/
namespace Go.Proofs.YtpimkhjcphimaaaDoor
open Go.RowKit Go.Shelf

/-- What l2Given comes to. -/
def GivenEnd (ss : List ByteArray) (p : Int) (w : World) (e : Ending) (w' : World) : Prop :=
  ∃ ok : Bool, e = .returned (.bool ok) ∧ ((ok = true ∧ ∃ n m q, PortIn ss p n m q) ∨ (ok = false ∧ NoPort ss p)) ∧ ∃ d, w' = w.drewN d

end Go.Proofs.YtpimkhjcphimaaaDoor

/- The operations on the map of ways, at the operation: clear, store, len, look-up; a struct that is the head of a greater one, loaded. -/
namespace Go.Proofs.YtpimkhjcphimaaaDoor
open Go.RowKit Go.Shelf Go.Maps Go.ChangeMaps

theorem grown_refl (w : World) (r : Option Nat) : w.grownBy w r := ⟨rfl, rfl, rfl, Nat.le_refl _, fun _ _ _ => rfl⟩
theorem grown_trans {a b c : World} {r : Option Nat} (h : a.grownBy b r) (k : b.grownBy c r) : a.grownBy c r :=
  ⟨k.os.trans h.os, k.tape.trans h.tape, k.output.trans h.output, Nat.le_trans h.size k.size, fun i hi hr => (k.block i (Nat.lt_of_lt_of_le hi h.size) hr).trans (h.block i hi hr)⟩
theorem grown_below {a b : World} (r : Option Nat) (h : Below a.heap.size a b) : a.grownBy b r := ⟨h.os, h.tape, h.output, h.size, fun k hk _ => h.block k hk⟩
theorem below_grown {a b : World} {B r : Nat} (h : a.grownBy b (some r)) (hB : B ≤ a.heap.size) (hr : B ≤ r) : Below B a b := ⟨h.os, h.tape, h.output, h.size, fun k hk => h.block k (by omega) (by intro e; cases e; omega)⟩
theorem own_grown {β : Type} (w : World) (r : Option Nat) (B : Nat) (hB : w.heap.size ≤ B) : OwnFrom B (fun (_ : β) W => w.grownBy W r) := fun _ W W' row hs hg hr =>
  ⟨hg.os.trans hs.os, hg.tape.trans hs.tape, hg.output.trans hs.output, Nat.le_trans hs.size hg.size, fun k hk hne => by
    refine (hg.block k (Nat.lt_of_lt_of_le hk hs.size) (fun e => ?_)).trans (hs.block k hk hne)
    have := (hr k e.symm).1
    omega⟩
theorem keeps_map {W W' : World} {b B : Nat} (hb : b < B) (h : W.grownBy W' (some b)) : KeepsFrom B W W' :=
  ⟨h.size, fun k o hB hk _ => (h.block k (lt_of_block hk) (by intro e; cases e; omega)).trans hk⟩
section
variable {F : Fence} {n : Nat} {ops : Array Oper} {rest : List Oper} {o : Oper} {a : Act} {w : World} {Q : Exit → Act → World → Prop} {b : Nat} {xs : List Wy}

end

section
variable {P : Program} {F : Fence} {m : Nat} {ops : Array Oper} {rest : List Oper} {o : Oper} {a : Act} {w : World} {Q : Exit → Act → World → Prop}
theorem wpListIn_load_head (hO : Open F P) (hgd : o.guard = none) (ty : TypeId) (x : Operand) (ho : o.op = .load ty x)
    (g : Nat) (hx : a.eval x = .pointer (some ⟨g, 0, none⟩)) (t : TypeId) (all : Array Value) (fr : Nat × Nat) (cs : Array Value) (d : TypeDesc) (hg : w.heap[g]? = some (.cells all t fr)) (hpre : ∀ (j : Nat) (v : Value), cs[j]? = some v → all[j]? = some v)
    (hu : P.underlying ty = some d) (hd : d.isRow = true) (hi : (P.info? ty).map (·.size) = some cs.size)
    (h : wpListIn F m P ops Q rest (a.put o.dst (.agg cs)) w) : wpListIn F m P ops Q (o :: rest) a w := by
  unfold wpListIn
  have hw : Region.wanted o (yielded ops a.tmps) = true := by simp [Region.wanted, hgd]
  rw [if_pos hw]
  refine ⟨fun f _ => hO.fn f, ?_⟩
  rw [Oper.semAt_eq _ _ _ (fun c e => by rw [ho] at e; cases e)]
  unfold execOp
  have hr : w.rangeAt g 0 cs.toList := fun j v hv => by
    rw [cell_of_row _ _ _ _ _ _ hg, Nat.zero_add]
    exact hpre j v (by simpa using hv)
  have := run_loadVar_mid (P := P) w g 0 ty cs.toList d hr hu hd (by simpa using hi)
  simp only [ho, hx, Instr.loadAt, Instr.sureAddr, Sem.run_bind, Sem.run_pure, Result.andThen_ok, this]
  rw [Oper.uponIn_value]
  simpa using h
end

/-- The cells of a trace: the grid's, and the map. -/
def tcells (cs : Array Value) (b : Nat) : Array Value := cs.push (.map (some b))
theorem tcells_pre (cs : Array Value) (b : Nat) (j : Nat) (v : Value) (h : cs[j]? = some v) : (tcells cs b)[j]? = some v := by
  unfold tcells
  rw [Array.getElem?_push, if_neg (by have := (Array.getElem?_eq_some_iff.1 h).1; omega)]
  exact h
theorem tcells_map {cs : Array Value} (h : cs.size = 27) (b : Nat) : (tcells cs b)[27]? = some (.map (some b)) := by
  unfold tcells
  rw [Array.getElem?_push, if_pos h.symm]
theorem tcells_size {cs : Array Value} (h : cs.size = 27) (b : Nat) : (tcells cs b).size = 28 := by simp [tcells, h]
end Go.Proofs.YtpimkhjcphimaaaDoor

/- A trace: made, asked, its length. -/
namespace Go.Proofs.YtpimkhjcphimaaaDoor
open Go.RowKit Go.Shelf Go.Maps
attribute [local go_sem] Oper.semAt_some

theorem grown_belowB {a b c : World} {r : Option Nat} (h : a.grownBy b r) (k : Below a.heap.size b c) : a.grownBy c r :=
  ⟨k.os.trans h.os, k.tape.trans h.tape, k.output.trans h.output, Nat.le_trans h.size k.size, fun i hi hr => (k.block i hi).trans (h.block i hi hr)⟩
theorem lits27 {cs : Array Value} (h : cs.size = 27) : ∃ c0 c1 c2 c3 c4 c5 c6 c7 c8 c9 c10 c11 c12 c13 c14 c15 c16 c17 c18 c19 c20 c21 c22 c23 c24 c25 c26 : Value, cs = #[c0, c1, c2, c3, c4, c5, c6, c7, c8, c9, c10, c11, c12, c13, c14, c15, c16, c17, c18, c19, c20, c21, c22, c23, c24, c25, c26] := by
  refine ⟨cs[0], cs[1], cs[2], cs[3], cs[4], cs[5], cs[6], cs[7], cs[8], cs[9], cs[10], cs[11], cs[12], cs[13], cs[14], cs[15], cs[16], cs[17], cs[18], cs[19], cs[20], cs[21], cs[22], cs[23], cs[24], cs[25], cs[26], ?_⟩
  refine Array.ext (by simp [h]) (fun i h1 h2 => ?_)
  rw [h] at h1
  have : i = 0 ∨ i = 1 ∨ i = 2 ∨ i = 3 ∨ i = 4 ∨ i = 5 ∨ i = 6 ∨ i = 7 ∨ i = 8 ∨ i = 9 ∨ i = 10 ∨ i = 11 ∨ i = 12 ∨ i = 13 ∨ i = 14 ∨ i = 15 ∨ i = 16 ∨ i = 17 ∨ i = 18 ∨ i = 19 ∨ i = 20 ∨ i = 21 ∨ i = 22 ∨ i = 23 ∨ i = 24 ∨ i = 25 ∨ i = 26 := by omega
  rcases this with rfl | rfl | rfl | rfl | rfl | rfl | rfl | rfl | rfl | rfl | rfl | rfl | rfl | rfl | rfl | rfl | rfl | rfl | rfl | rfl | rfl | rfl | rfl | rfl | rfl | rfl | rfl <;> rfl
abbrev zeroT : Array Value := #[.int .i64 0, .int .i64 0, .int .u8 0, .int .u8 0, .int .u8 0, .int .u8 0, .int .u8 0, .int .u8 0, .int .u8 0, .int .u8 0, .int .u8 0, .int .u8 0, .int .u8 0, .int .u8 0, .int .u8 0, .int .u8 0, .int .u8 0, .int .u8 0, .int .u8 0, .int .u8 0, .int .u8 0, .int .u8 0, .int .u8 0, .int .u8 0, .int .u8 0, .int .u8 0, .int .u8 0, .map none]
theorem tcells_one {cs : Array Value} (h : cs.all (·.oneCell') = true) (b : Nat) : (tcells cs b).all (·.oneCell') = true := by
  unfold tcells
  rw [Array.all_push, h]
  rfl

end Go.Proofs.YtpimkhjcphimaaaDoor

/- Outcomes of questions on a port. -/
namespace Go.Proofs.YtpimkhjcphimaaaDoor
open Go.RowKit Go.Shelf

/-- What a question on a port comes to, where the answer is an integer and a bool. -/
def BeamOut (R : Nat → Nat → (Int → Int → UInt8) → Nat → Int × Bool) (ss : List ByteArray) (p x : Int) (ok : Bool) : Prop :=
  (∃ n m q, PortIn ss p n m q ∧ (x, ok) = R n m (lett m (pad (flat ss))) q) ∨ (NoPort ss p ∧ x = 0 ∧ ok = false)
theorem BeamOut.uniq {R : Nat → Nat → (Int → Int → UInt8) → Nat → Int × Bool} {ss : List ByteArray} {p x x' : Int} {ok ok' : Bool} (h : BeamOut R ss p x ok) (h' : BeamOut R ss p x' ok') : x' = x ∧ ok' = ok := by
  rcases h with ⟨n, m, q, h1, h2⟩ | ⟨h1, rfl, rfl⟩ <;> rcases h' with ⟨n', m', q', h1', h2'⟩ | ⟨h1', rfl, rfl⟩
  · obtain ⟨rfl, rfl, rfl⟩ := h1.uniq h1'
    have := h2'.trans h2.symm
    cases this
    exact ⟨rfl, rfl⟩
  · exact absurd h1 (h1' _ _ _)
  · exact absurd h1' (h1 _ _ _)
  · exact ⟨rfl, rfl⟩
/-- Is there a mirror on the way's cell? -/
def mirrorAt (t : Int → Int → UInt8) (bw : Nat → Wy) (j : Nat) : Bool := t (bw j).i (bw j).k != 46
def turnsR (n m : Nat) (t : Int → Int → UInt8) (q : Nat) : Int × Bool := ((((List.range (blen n m t q)).countP (mirrorAt t (bway n m t q)) : Nat) : Int), true)
def firstR (n m : Nat) (t : Int → Int → UInt8) (q : Nat) : Int × Bool :=
  match (List.range (blen n m t q)).find? (mirrorAt t (bway n m t q)) with
  | some j => (((cellN m (bway n m t q j) : Nat) : Int), true)
  | none => (0, false)

end Go.Proofs.YtpimkhjcphimaaaDoor

/- BeamTurns and BeamFirst of the specification, by their contracts. -/
namespace Go.Proofs.YtpimkhjcphimaaaDoor
open Go.RowKit Go.Shelf

/-- The first k ways with a mirror. -/
def turnsTo (t : Int → Int → UInt8) (bw : Nat → Wy) (k : Nat) : Nat := (List.range k).countP (mirrorAt t bw)
theorem turnsTo_succ (t : Int → Int → UInt8) (bw : Nat → Wy) (k : Nat) : turnsTo t bw (k + 1) = turnsTo t bw k + (if mirrorAt t bw k = true then 1 else 0) := by
  unfold turnsTo
  rw [List.range_succ, List.countP_append, List.countP_cons, List.countP_nil, Nat.zero_add]
theorem turnsTo_le (t : Int → Int → UInt8) (bw : Nat → Wy) (k : Nat) : turnsTo t bw k ≤ k := by
  have := List.countP_le_length (p := mirrorAt t bw) (l := List.range k)
  rwa [List.length_range] at this
def TurnRel (t : Int → Int → UInt8) (bw : Nat → Wy) (L : Nat) (w : World) (n i : Value) (wr : World) : Prop :=
  ∃ k : Nat, k ≤ L ∧ n = .int .i64 ((turnsTo t bw k : Nat) : Int) ∧ i = .int .i64 k ∧ ∃ d, wr = w.drewN d
def FirstRel (t : Int → Int → UInt8) (bw : Nat → Wy) (L : Nat) (w : World) (i : Value) (wr : World) : Prop :=
  ∃ k : Nat, k ≤ L ∧ i = .int .i64 k ∧ (∀ j, j < k → mirrorAt t bw j = false) ∧ ∃ d, wr = w.drewN d

theorem cellsI_atT {m L k : Nat} {bw : Nat → Wy} (h : k < L) : (cellsI m bw L)[k]? = some ((cellN m (bw k) : Nat) : Int) := by simp [cellsI, h]

end Go.Proofs.YtpimkhjcphimaaaDoor

/- BeamLength of the specification and of the program, by their contracts. -/
namespace Go.Proofs.YtpimkhjcphimaaaDoor
open Go.RowKit Go.Shelf

def lengthR (n m : Nat) (t : Int → Int → UInt8) (q : Nat) : Int × Bool := (((blen n m t q : Nat) : Int), true)

/-- The ways of a beam, as a list. -/
def waysL (bw : Nat → Wy) (L : Nat) : List Wy := (List.finRange L).map fun x => bw x.val
theorem waysL_length (bw : Nat → Wy) (L : Nat) : (waysL bw L).length = L := by simp [waysL]
theorem waysL_mem {bw : Nat → Wy} {L : Nat} {y : Wy} : y ∈ waysL bw L ↔ ∃ j, j < L ∧ bw j = y := by
  unfold waysL
  rw [List.mem_map]
  constructor
  · rintro ⟨x, _, rfl⟩
    exact ⟨x.val, x.isLt, rfl⟩
  · rintro ⟨j, hj, rfl⟩
    exact ⟨⟨j, hj⟩, List.mem_finRange _, rfl⟩
theorem waysL_nodup {bw : Nat → Wy} {L : Nat} (h : ∀ a b, a < b → b < L → bw a ≠ bw b) : (waysL bw L).Nodup := by
  unfold waysL List.Nodup
  rw [List.pairwise_map]
  rw [List.pairwise_iff_getElem]
  intro i j hi hj hij
  simp only [List.getElem_finRange, Fin.val_cast]
  exact h i j hij (by simpa using hj)
theorem okW_in {n m : Nat} {t : Int → Int → UInt8} {q j : Nat} (hn : n ≤ 5) (hm : m ≤ 5) (hj : j < blen n m t q) : okW (bway n m t q j) := by
  have hin := blen_in (n := n) (m := m) (t := t) (p := q) (j := j) hj
  have hd := bway_d (n := n) (m := m) (t := t) q j
  unfold inG at hin
  unfold okW
  omega
theorem okW_ways {n m : Nat} {t : Int → Int → UInt8} {q : Nat} (hn : n ≤ 5) (hm : m ≤ 5) : ∀ x ∈ waysL (bway n m t q) (blen n m t q), okW x := fun x hx => by
  obtain ⟨j, hj, rfl⟩ := waysL_mem.1 hx
  exact okW_in hn hm hj

attribute [local go_sem] Oper.semAt_some

end Go.Proofs.YtpimkhjcphimaaaDoor

/- How often a number stands in a list: l2Often of the specification, by its contract. -/
namespace Go.Proofs.YtpimkhjcphimaaaDoor
open Go.RowKit Go.Shelf

def OftenRel (l : List Int) (x : Int) (w : World) (nv iv : Value) (wr : World) : Prop :=
  ∃ k : Nat, k ≤ l.length ∧ nv = .int .i64 (((l.take k).count x : Nat) : Int) ∧ iv = .int .i64 (k : Int) ∧ ∃ d, wr = w.drewN d
theorem count_snoc (l : List Int) (x y : Int) (k : Nat) (h : l[k]? = some y) : (l.take (k + 1)).count x = (l.take k).count x + (if y = x then 1 else 0) := by
  obtain ⟨hlt, rfl⟩ := List.getElem?_eq_some_iff.1 h
  rw [List.take_succ_eq_append_getElem hlt, List.count_append]
  simp [List.count_cons]

end Go.Proofs.YtpimkhjcphimaaaDoor

/- How often a trace goes through a place; how often a number stands on a list (the specification's l2Often). -/
namespace Go.Proofs.YtpimkhjcphimaaaDoor
open Go.RowKit Go.Shelf Go.Maps

theorem mem_goes {bw : Nat → Wy} {L : Nat} {y : Wy} : decide (y ∈ waysL bw L) = goesTo bw L y := by
  rw [Bool.eq_iff_iff, decide_eq_true_iff, goesTo_iff, waysL_mem]

def TimesRel (g : Nat → Bool) (w : World) (tv hv : Value) (wr : World) : Prop :=
  ∃ j : Nat, j ≤ 4 ∧ tv = .int .i64 ((upT g j : Nat) : Int) ∧ hv = .int .i64 (j : Int) ∧ wr = w

section
attribute [local go_sem] Oper.semAt_some
end

end Go.Proofs.YtpimkhjcphimaaaDoor

/- How many cells a beam goes through twice: two ways to count. No program is named but the numbers' list. -/
namespace Go.Proofs.YtpimkhjcphimaaaDoor

theorem count_cells (n m : Nat) (t : Int → Int → UInt8) (p c : Nat) : (cellsI m (bway n m t p) (blen n m t p)).count ((c : Nat) : Int) = (bcells n m t p).count c := by
  unfold cellsI bcells
  rw [List.count, List.count, List.countP_map, List.countP_map]
  refine List.countP_congr fun j _ => ?_
  simp only [Function.comp, beq_iff_eq]
  omega
theorem bcells_lt {n m : Nat} {t : Int → Int → UInt8} {p : Nat} : ∀ x ∈ bcells n m t p, x < n * m := fun x hx => by
  unfold bcells at hx
  obtain ⟨j, hj, rfl⟩ := List.mem_map.1 hx
  exact cellN_lt (blen_in (List.mem_range.1 hj))
theorem count_le2 {n m : Nat} {t : Int → Int → UInt8} {p c : Nat} (hp : p < 2 * (n + m)) (hm : 1 ≤ m) : (bcells n m t p).count c ≤ 2 := by
  have h1 := times_count (n := n) (m := m) (t := t) (p := p) (i := c / m) (k := c % m) hp (Nat.mod_lt _ (by omega))
  rw [Nat.div_add_mod'] at h1
  rw [← h1]
  exact times_le _ _
theorem times_at {n m : Nat} {t : Int → Int → UInt8} {p c : Nat} (hp : p < 2 * (n + m)) (hm : 1 ≤ m) : upT (fun d => goesTo (bway n m t p) (blen n m t p) ⟨((c / m : Nat) : Int), ((c % m : Nat) : Int), d⟩) 4 = (bcells n m t p).count c := by
  have h1 := times_count (n := n) (m := m) (t := t) (p := p) (i := c / m) (k := c % m) hp (Nat.mod_lt _ (by omega))
  rw [Nat.div_add_mod'] at h1
  exact h1
theorem sumN_two (f : Nat → Nat) : ∀ N, (∀ c, c < N → f c ≤ 2) → sumN (fun c => f c * (f c - 1)) N = 2 * (List.range N).countP fun c => f c == 2
  | 0, _ => rfl
  | N + 1, h => by
    rw [sumN, sumN_two f N (fun c hc => h c (by omega)), List.range_succ, List.countP_append, List.countP_cons, List.countP_nil]
    have := h N (by omega)
    have h3 : f N = 0 ∨ f N = 1 ∨ f N = 2 := by omega
    rcases h3 with e | e | e <;> simp [e] <;> omega
/-- What the specification adds up. -/
def spare (l : List Nat) (k : Nat) : Nat := ((l.take k).map fun c => l.count c - 1).sum
theorem spare_succ (l : List Nat) (k c : Nat) (h : l[k]? = some c) : spare l (k + 1) = spare l k + (l.count c - 1) := by
  obtain ⟨hlt, rfl⟩ := List.getElem?_eq_some_iff.1 h
  unfold spare
  rw [List.take_succ_eq_append_getElem hlt, List.map_append, List.sum_append]
  simp
theorem spare_le (l : List Nat) (k : Nat) (h : ∀ c, l.count c ≤ 2) : spare l k ≤ k := by
  unfold spare
  have : ∀ xs : List Nat, (xs.map fun c => l.count c - 1).sum ≤ xs.length := fun xs => by
    induction xs with
    | nil => simp
    | cons x xs ih =>
      have := h x
      simp only [List.map_cons, List.sum_cons, List.length_cons]
      omega
  refine Nat.le_trans (this _) ?_
  rw [List.length_take]
  omega
def twiceR (n m : Nat) (t : Int → Int → UInt8) (q : Nat) : Int × Bool := ((((List.range (n * m)).countP fun c => (bcells n m t q).count c == 2 : Nat) : Int), true)
theorem spare_all {n m : Nat} {t : Int → Int → UInt8} {p : Nat} (hp : p < 2 * (n + m)) (hm : 1 ≤ m) : spare (bcells n m t p) (blen n m t p) = 2 * (List.range (n * m)).countP fun c => (bcells n m t p).count c == 2 := by
  unfold spare
  rw [List.take_of_length_le (by rw [bcells_length]; exact Nat.le_refl _), sum_swap _ (n * m) _ bcells_lt]
  exact sumN_two _ _ fun c _ => count_le2 hp hm
end Go.Proofs.YtpimkhjcphimaaaDoor

/- Where two beams meet: two ways to count; what BeamMeets comes to. No program is named but the texts of a grid. -/
namespace Go.Proofs.YtpimkhjcphimaaaDoor

theorem countP_sum {α : Type} (p : α → Bool) : ∀ l : List α, l.countP p = (l.map fun c => if p c = true then 1 else 0).sum
  | [] => rfl
  | x :: l => by
    rw [List.countP_cons, List.map_cons, List.sum_cons, countP_sum p l]
    omega
theorem sumN_countP (p : Nat → Bool) : ∀ N, sumN (fun c => if p c = true then 1 else 0) N = (List.range N).countP p
  | 0 => rfl
  | N + 1 => by
    rw [sumN, sumN_countP p N, List.range_succ, List.countP_append, List.countP_cons, List.countP_nil]
    omega
/-- Does the beam go through the cell? -/
def goesC (n m : Nat) (t : Int → Int → UInt8) (p c : Nat) : Bool := decide (0 < (bcells n m t p).count c)
def meetN (n m : Nat) (t : Int → Int → UInt8) (p q : Nat) : Nat := (List.range (n * m)).countP fun c => goesC n m t p c && goesC n m t q c
theorem count_other {n m : Nat} {t : Int → Int → UInt8} {p q c : Nat} (hn : 1 ≤ n) (hm : 1 ≤ m) (hp : p < 2 * (n + m)) (hq : q < 2 * (n + m)) (h1 : p ≠ q) (h2 : p ≠ bend_ n m t q) (h0 : 0 < (bcells n m t p).count c) : (bcells n m t q).count c ≤ 1 := by
  have e1 := times_count (n := n) (m := m) (t := t) (p := p) (i := c / m) (k := c % m) hp (Nat.mod_lt _ (by omega))
  have e2 := times_count (n := n) (m := m) (t := t) (p := q) (i := c / m) (k := c % m) hq (Nat.mod_lt _ (by omega))
  rw [Nat.div_add_mod'] at e1 e2
  rw [← e2]
  exact times_other hn hm hp hq h1 h2 _ _ (by rw [e1]; exact h0)
theorem meet_count {n m : Nat} {t : Int → Int → UInt8} {p q : Nat} (hn : 1 ≤ n) (hm : 1 ≤ m) (hp : p < 2 * (n + m)) (hq : q < 2 * (n + m)) (h1 : p ≠ q) (h2 : p ≠ bend_ n m t q) :
    (List.range (blen n m t q)).countP (fun j => goesC n m t p (cellN m (bway n m t q j))) = meetN n m t p q := by
  have e : (List.range (blen n m t q)).countP (fun j => goesC n m t p (cellN m (bway n m t q j))) = (bcells n m t q).countP (goesC n m t p) := by
    unfold bcells
    rw [List.countP_map]
    rfl
  rw [e, countP_sum, sum_swap _ (n * m) _ bcells_lt]
  unfold meetN
  rw [← sumN_countP]
  refine sumN_congr _ fun c _ => ?_
  by_cases hc : 0 < (bcells n m t p).count c
  · have h3 := count_other hn hm hp hq h1 h2 hc
    have hg : goesC n m t p c = true := decide_eq_true hc
    rw [hg]
    by_cases hd : 0 < (bcells n m t q).count c
    · have hg2 : goesC n m t q c = true := decide_eq_true hd
      rw [hg2]
      simp
      omega
    · have hg2 : goesC n m t q c = false := decide_eq_false hd
      rw [hg2]
      simp
      omega
  · have hg : goesC n m t p c = false := decide_eq_false hc
    rw [hg]
    simp

/-- Two ports of a grid that are not the ends of one beam. -/
def MeetIn (ss : List ByteArray) (p q : Int) (n m a b : Nat) : Prop := PortIn ss p n m a ∧ PortIn ss q n m b ∧ a ≠ b ∧ bend_ n m (lett m (pad (flat ss))) a ≠ b
def MeetOut (ss : List ByteArray) (p q x : Int) (ok : Bool) : Prop :=
  (∃ n m a b, MeetIn ss p q n m a b ∧ x = ((meetN n m (lett m (pad (flat ss))) a b : Nat) : Int) ∧ ok = true) ∨ ((∀ n m a b, ¬ MeetIn ss p q n m a b) ∧ x = 0 ∧ ok = false)
theorem MeetOut.uniq {ss : List ByteArray} {p q x x' : Int} {ok ok' : Bool} (h : MeetOut ss p q x ok) (h' : MeetOut ss p q x' ok') : x' = x ∧ ok' = ok := by
  rcases h with ⟨n, m, a, b, h1, rfl, rfl⟩ | ⟨h1, rfl, rfl⟩ <;> rcases h' with ⟨n', m', a', b', h1', rfl, rfl⟩ | ⟨h1', rfl, rfl⟩
  · obtain ⟨rfl, rfl, rfl⟩ := h1.1.uniq h1'.1
    obtain ⟨_, _, rfl⟩ := h1.2.1.uniq h1'.2.1
    exact ⟨rfl, rfl⟩
  · exact absurd h1 (h1' _ _ _ _)
  · exact absurd h1' (h1 _ _ _ _)
  · exact ⟨rfl, rfl⟩
/-- From the parts to the whole. -/
theorem meet_none_p {ss : List ByteArray} {p q : Int} (h : NoPort ss p) : ∀ n m a b, ¬ MeetIn ss p q n m a b := fun n m a _ hm => h n m a hm.1
theorem meet_none_q {ss : List ByteArray} {p q : Int} (h : NoPort ss q) : ∀ n m a b, ¬ MeetIn ss p q n m a b := fun n m _ b hm => h n m b hm.2.1
theorem meet_none_same {ss : List ByteArray} {p q : Int} {n m a b : Nat} (h1 : PortIn ss p n m a) (h2 : PortIn ss q n m b) (h : a = b ∨ bend_ n m (lett m (pad (flat ss))) a = b) : ∀ n m a b, ¬ MeetIn ss p q n m a b := fun n' m' a' b' hm => by
  obtain ⟨rfl, rfl, rfl⟩ := h1.uniq hm.1
  obtain ⟨_, _, rfl⟩ := h2.uniq hm.2.1
  rcases h with h | h
  · exact hm.2.2.1 h
  · exact hm.2.2.2 h
end Go.Proofs.YtpimkhjcphimaaaDoor

/- BeamTurns of the program, by its contract. -/
namespace Go.Proofs.YtpimkhjcphimaaaDoor
open Go.RowKit Go.Shelf
attribute [local go_sem] Oper.semAt_some

/-- The mirrors among the ways that have come. -/
def mirrW {L : Nat} (t : Int → Int → UInt8) (bw : Nat → Wy) (pre : List (Fin L)) : Nat := pre.countP fun x => mirrorAt t bw x.val
theorem mirrW_snoc {L : Nat} (t : Int → Int → UInt8) (bw : Nat → Wy) (pre : List (Fin L)) (x : Fin L) : mirrW t bw (pre ++ [x]) = mirrW t bw pre + (if mirrorAt t bw x.val = true then 1 else 0) := by
  simp [mirrW, List.countP_append, List.countP_cons]
theorem mirrW_le {L : Nat} (t : Int → Int → UInt8) (bw : Nat → Wy) (pre : List (Fin L)) : mirrW t bw pre ≤ pre.length := List.countP_le_length
theorem mirrW_all (L : Nat) (t : Int → Int → UInt8) (bw : Nat → Wy) : mirrW t bw (List.finRange L) = turnsTo t bw L := by
  unfold mirrW turnsTo
  have e := upto_val (N := L) (k := L) (Nat.le_refl _)
  rw [upto_all] at e
  rw [← e, List.countP_map]
  rfl

end Go.Proofs.YtpimkhjcphimaaaDoor

/- What a question on a port comes to, where the answer is a list of integers. -/
namespace Go.Proofs.YtpimkhjcphimaaaDoor

/-- What a question on a port comes to, where the answer is a list of integers and a bool. -/
def ListOut (R : Nat → Nat → (Int → Int → UInt8) → Nat → List Int) (ss : List ByteArray) (p : Int) (l : List Int) (ok : Bool) : Prop :=
  (∃ n m q, PortIn ss p n m q ∧ l = R n m (lett m (pad (flat ss))) q ∧ (R n m (lett m (pad (flat ss))) q).length ≤ 1000 ∧ ok = true) ∨ (NoPort ss p ∧ l = [] ∧ ok = false)
theorem ListOut.uniq {R : Nat → Nat → (Int → Int → UInt8) → Nat → List Int} {ss : List ByteArray} {p : Int} {l l' : List Int} {ok ok' : Bool} (h : ListOut R ss p l ok) (h' : ListOut R ss p l' ok') : ok' = ok ∧ l' = l := by
  rcases h with ⟨n, m, q, h1, rfl, _, rfl⟩ | ⟨h1, rfl, rfl⟩ <;> rcases h' with ⟨n', m', q', h1', rfl, _, rfl⟩ | ⟨h1', rfl, rfl⟩
  · obtain ⟨rfl, rfl, rfl⟩ := h1.uniq h1'
    exact ⟨rfl, rfl⟩
  · exact absurd h1 (h1' _ _ _)
  · exact absurd h1' (h1 _ _ _)
  · exact ⟨rfl, rfl⟩
theorem ListOut.len {R : Nat → Nat → (Int → Int → UInt8) → Nat → List Int} {ss : List ByteArray} {p : Int} {l : List Int} {ok : Bool} (h : ListOut R ss p l ok) : l.length ≤ 1048576 := by
  rcases h with ⟨n, m, q, _, rfl, h1, _⟩ | ⟨_, rfl, _⟩
  · omega
  · simp

end Go.Proofs.YtpimkhjcphimaaaDoor
