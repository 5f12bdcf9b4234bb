/- The least cost along a beam, by the program's closure: its contract. -/
import Derived.Test.YtminailbhgimkaaAimB
import Derived.Test.YtminailbhgimkaaAimM
import Derived.Test.YtminailbhgimkaaBunG
import Derived.Test.YtminailbhgimkaaBunO
import Derived.Lib.SlBytesConst
namespace Go.Proofs.Ytminailbhgimkaa
open Go.RowKit Go.Shelf

/-- Nothing has turned but two blocks. -/
structure ChgA (L Mb : Nat) (W W' : World) : Prop where
  os : W'.os = W.os
  tape : W'.tape = W.tape
  output : W'.output = W.output
  size : W.heap.size ≤ W'.heap.size
  block : ∀ k, k < W.heap.size → k ≠ L → k ≠ Mb → W'.heap[k]? = W.heap[k]?
theorem ChgA.refl (L Mb : Nat) (W : World) : ChgA L Mb W W := ⟨rfl, rfl, rfl, Nat.le_refl _, fun _ _ _ _ => rfl⟩
theorem ChgA.trans {L Mb : Nat} {W W' W2 : World} (h : ChgA L Mb W W') (k : ChgA L Mb W' W2) : ChgA L Mb W W2 :=
  ⟨k.os.trans h.os, k.tape.trans h.tape, k.output.trans h.output, Nat.le_trans h.size k.size, fun j hj h1 h2 => (k.block j (Nat.lt_of_lt_of_le hj h.size) h1 h2).trans (h.block j hj h1 h2)⟩
theorem ChgA.below {L Mb : Nat} {W W' : World} (h : Below W.heap.size W W') : ChgA L Mb W W' := ⟨h.os, h.tape, h.output, h.size, fun k hk _ _ => h.block k hk⟩
theorem ChgA.grown {L Mb : Nat} {W W' : World} (h : W.grownBy W' (some Mb)) : ChgA L Mb W W' := ⟨h.os, h.tape, h.output, h.size, fun k hk _ h2 => h.block k hk (fun e => h2 (by cases e; rfl))⟩
theorem ChgA.cell (L Mb c : Nat) (W : World) (v : Value) : ChgA L Mb W (W.setCell ⟨L, c, none⟩ v) := ⟨rfl, rfl, rfl, by simp, fun k _ h1 _ => Below.heap_setCell _ _ _ _ h1⟩

/-- What the closure captures, and where it lies. -/
structure AimEnv where
  (n m q S cap G T A B V Al R L Mb : Nat)
  ls0 : List UInt8
def AimEnv.fn (E : AimEnv) : Value := .func (.func 109) #[] #[.pointer (some ⟨E.G, 0, none⟩), .pointer (some ⟨E.T, 0, none⟩), .pointer (some ⟨E.A, 0, none⟩), .pointer (some ⟨E.B, 0, none⟩), .pointer (some ⟨E.V, 0, none⟩), .pointer (some ⟨E.Al, 0, none⟩)]
structure AimEnv.at_ (E : AimEnv) (W : World) : Prop where
  g : W.heap[E.G]? = some (.cells (gcells E.n E.m E.ls0) 57 (0, 0))
  t : Boxed W E.T 3 (.int .i64 (E.q : Int))
  a : Boxed W E.A 3 (.int .i64 (E.S : Int))
  b : Boxed W E.B 142 (.slice (some ⟨E.R, 0, none⟩) E.n E.cap)
  v : Boxed W E.V 144 (.map (some E.Mb))
  al : Boxed W E.Al 119 E.fn
  r : RowsAt W E.R E.L E.n E.m
  n1 : E.G ≠ E.L ∧ E.T ≠ E.L ∧ E.A ≠ E.L ∧ E.B ≠ E.L ∧ E.V ≠ E.L ∧ E.Al ≠ E.L ∧ E.R ≠ E.L
  n2 : E.G ≠ E.Mb ∧ E.T ≠ E.Mb ∧ E.A ≠ E.Mb ∧ E.B ≠ E.Mb ∧ E.V ≠ E.Mb ∧ E.Al ≠ E.Mb ∧ E.R ≠ E.Mb
  n3 : E.L ≠ E.Mb
theorem AimEnv.at_.kept {E : AimEnv} {W W' : World} (h : E.at_ W) (hc : ChgA E.L E.Mb W W') : E.at_ W' where
  g := (hc.block _ (lt_of_block h.g) h.n1.1 h.n2.1).trans h.g
  t := (hc.block _ h.t.lt h.n1.2.1 h.n2.2.1).trans h.t
  a := (hc.block _ h.a.lt h.n1.2.2.1 h.n2.2.2.1).trans h.a
  b := (hc.block _ h.b.lt h.n1.2.2.2.1 h.n2.2.2.2.1).trans h.b
  v := (hc.block _ h.v.lt h.n1.2.2.2.2.1 h.n2.2.2.2.2.1).trans h.v
  al := (hc.block _ h.al.lt h.n1.2.2.2.2.2.1 h.n2.2.2.2.2.2.1).trans h.al
  r := h.r.kept (hc.block _ h.r.lt h.n1.2.2.2.2.2.2 h.n2.2.2.2.2.2.2)
  n1 := h.n1
  n2 := h.n2
  n3 := h.n3
/-- How many cells are open. -/
def openN (N : Nat) (fx : Nat → Bool) : Nat := sumN (fun c => if fx c = true then 0 else 1) N
theorem open_fix {N c : Nat} {fx : Nat → Bool} (hf : fx c = false) (hc : c < N) : openN N fx = openN N (fixC fx c) + 1 := by
  unfold openN
  have h1 : sumN (fun k => (if fixC fx c k = true then 0 else 1) + (if c = k then 1 else 0)) N = sumN (fun k => if fx k = true then 0 else 1) N := sumN_congr N fun k _ => by
    unfold fixC
    by_cases e : k = c
    · subst e; rw [show (if k = k then true else fx k) = true from if_pos rfl, if_pos rfl, if_pos rfl, hf]; rfl
    · rw [show (if k = c then true else fx k) = fx k from if_neg e, show (if c = k then 1 else 0 : Nat) = 0 from if_neg (fun e2 => e e2.symm), Nat.add_zero]
  rw [← h1, sumN_add, sumN_one, if_pos hc]
theorem open_all (N : Nat) : openN N (fun _ => false) = N := by
  unfold openN
  induction N with
  | zero => rfl
  | succ N ih => show sumN _ N + _ = _; rw [ih]; rfl
theorem ChgA.toGrown {L Mb : Nat} {W W' : World} {ls : List UInt8} (h : ChgA L Mb W W') (hl : LetAt W L ls) (hl' : LetAt W' L ls) : W.grownBy W' (some Mb) :=
  ⟨h.os, h.tape, h.output, h.size, fun k hk hne => by
    by_cases e : k = L
    · subst e
      exact (show W'.heap[k]? = _ from hl').trans (show W.heap[k]? = _ from hl).symm
    · exact h.block k hk e (fun e2 => hne (by rw [e2]))⟩
theorem near_next {n m : Nat} {x : Wy} (b : UInt8) (hin : inG n m x) (hd : x.d < 4) : (nxtB b x).d < 4 ∧ (-1 ≤ (nxtB b x).i ∧ (nxtB b x).i ≤ n) ∧ (-1 ≤ (nxtB b x).k ∧ (nxtB b x).k ≤ m) := by
  obtain ⟨h1, h2, h3, h4⟩ := hin
  have hb := bend_lt b hd
  unfold nxtB
  simp only
  refine ⟨hb, ?_⟩
  rcases four hb with e | e | e | e <;> rw [e] <;> simp [stepI, stepK] <;> omega
/-- The letters that are tried, and what each one costs; the least of those that have come. -/
def b3 (t : Nat) : UInt8 := if t = 0 then 46 else if t = 1 then 114 else 102
def costT (S n m q f c : Nat) (ls : List UInt8) (fx : Nat → Bool) (x : Wy) (t : Nat) : Nat :=
  aimA S n m q (f + 1) (ls.set c (b3 t)) (fixC fx c) (nxt (lett m (ls.set c (b3 t))) x) + (if ls.getD c 0 = b3 t then 0 else 1)
def leastTo (S : Nat) (a : Nat → Nat) : Nat → Nat
  | 0 => S
  | t + 1 => min (leastTo S a t) (a t)
theorem leastTo_le (S : Nat) (a : Nat → Nat) : ∀ t, leastTo S a t ≤ S
  | 0 => Nat.le_refl _
  | t + 1 => Nat.le_trans (Nat.min_le_left _ _) (leastTo_le S a t)
theorem aim_three {S n m q f : Nat} {ls : List UInt8} {fx : Nat → Bool} {x : Wy} (hin : inG n m x) (hf : fx (cellN m x) = false) : aimA S n m q (f + 2) ls fx x = leastTo S (costT S n m q f (cellN m x) ls fx x) 3 := by
  show aimA S n m q ((f + 1) + 1) ls fx x = _
  rw [aimA, if_pos hin, if_neg (by rw [hf]; decide)]
  show _ = min (min (min S (costT S n m q f (cellN m x) ls fx x 0)) (costT S n m q f (cellN m x) ls fx x 1)) (costT S n m q f (cellN m x) ls fx x 2)
  have e0 : costT S n m q f (cellN m x) ls fx x 0 = aimA S n m q (f + 1) (ls.set (cellN m x) 46) (fixC fx (cellN m x)) (nxt (lett m (ls.set (cellN m x) 46)) x) + (if ls.getD (cellN m x) 0 = 46 then 0 else 1) := rfl
  have e1 : costT S n m q f (cellN m x) ls fx x 1 = aimA S n m q (f + 1) (ls.set (cellN m x) 114) (fixC fx (cellN m x)) (nxt (lett m (ls.set (cellN m x) 114)) x) + (if ls.getD (cellN m x) 0 = 114 then 0 else 1) := rfl
  have e2 : costT S n m q f (cellN m x) ls fx x 2 = aimA S n m q (f + 1) (ls.set (cellN m x) 102) (fixC fx (cellN m x)) (nxt (lett m (ls.set (cellN m x) 102)) x) + (if ls.getD (cellN m x) 0 = 102 then 0 else 1) := rfl
  rw [← e0, ← e1, ← e2]
  omega
/-- What the operations of the regions that draw hand back. -/
def outRel (gc : Array Value) (x : Wy) (lv : Int) (q : Nat) (i : Nat) (v : Value) (_ : World) : Prop :=
  match i with
  | 0 => v = .agg gc
  | 1 => v = .agg (wayC x)
  | 2 => v = .int .i64 lv
  | 3 => v = .int .i64 (q : Int)
  | _ => True
def goRel (fv : Value) (x : Wy) (L c : Nat) (b : UInt8) (i : Nat) (v : Value) (_ : World) : Prop :=
  match i with
  | 0 => v = fv
  | 1 => v = .agg (wayC x)
  | 2 => v = .pointer (some ⟨L, c, none⟩)
  | 3 => v = .pointer (some ⟨L, c, none⟩)
  | 4 => v = .int .u8 b.toNat
  | 5 => v = wayV (nxtB b x)
  | _ => True
def keptRel (L c S : Nat) (b : UInt8) (i : Nat) (v : Value) : Prop :=
  match i with
  | 0 => v = .pointer (some ⟨L, c, none⟩)
  | 1 => v = .pointer (some ⟨L, c, none⟩)
  | 2 => v = .int .u8 b.toNat
  | 3 => v = .int .i64 (S : Int)
  | 4 => v = .int .u8 b.toNat
  | 5 => v = .int .i64 (S : Int)
  | _ => True
theorem lin_step {n i : Nat} {R : Nat → Value → Prop} {s : Nat → Bool} {us : Nat → Value} {v : Value} (h : ∀ io, io < n → s io = true → R io (us io)) (hv : R i v) : ∀ io, io < n → (if io = i then true else s io) = true → R io (if io = i then v else us io) := by
  intro io h1 h2
  by_cases e : io = i
  · subst e
    rw [if_pos rfl]
    exact hv
  · rw [if_neg e] at h2 ⊢
    exact h io h1 h2
def tryRel (fv : Value) (x : Wy) (b : UInt8) (i : Nat) (v : Value) (_ : World) : Prop :=
  match i with
  | 0 => v = fv
  | 1 => v = .agg (wayC x)
  | 2 => v = .int .u8 b.toNat
  | 3 => v = wayV (nxtB b x)
  | _ => True
def endRel (L c z Mb i j : Nat) (b : UInt8) (io : Nat) (v : Value) : Prop :=
  match io with
  | 0 => v = .pointer (some ⟨L, c, none⟩)
  | 1 => v = .map (some Mb)
  | 2 => v = .pointer (some ⟨z, 0, none⟩)
  | 3 => v = .agg #[.int .i64 (i : Int), .int .i64 (j : Int)]
  | 4 => v = .int .u8 b.toNat
  | 5 => v = .pointer (some ⟨L, c, none⟩)
  | _ => True
/-- How the world stands while the last region draws its order. -/
structure EndI (wr : World) (L c z Mb n m i j k' : Nat) (b : UInt8) (ls lsj : List UInt8) (fx : Nat → Bool) (x : Wy) (s : Nat → Bool) (vs : Nat → Value) (W : World) : Prop where
  ch : ChgA L Mb wr W
  zz : W.heap[z]? = some (.cells (wayC x) 113 (0, 0))
  ll : LetAt W L (if s 6 = true then ls else lsj)
  mm : MetAt W Mb (if s 7 = true then k' + 1 else k') n m (if s 7 = true then fx else fixC fx c)
  vv : ∀ io, io < 8 → s io = true → endRel L c z Mb i j b io (vs io)
theorem EndI.read {wr W : World} {L c z Mb n m i j k' : Nat} {b : UInt8} {ls lsj : List UInt8} {fx : Nat → Bool} {x : Wy} {s : Nat → Bool} {vs : Nat → Value} (h : EndI wr L c z Mb n m i j k' b ls lsj fx x s vs W) (io : Nat) (v : Value) (h6 : io < 6) (hv : endRel L c z Mb i j b io v) :
    EndI wr L c z Mb n m i j k' b ls lsj fx x (fun k => if k = io then true else s k) (fun k => if k = io then v else vs k) W where
  ch := h.ch
  zz := h.zz
  ll := by rw [if_neg (show ¬ 6 = io by omega)]; exact h.ll
  mm := by rw [if_neg (show ¬ 7 = io by omega)]; exact h.mm
  vv := lin_step h.vv hv
theorem wpOp_store_plc {ops : Array Oper} {o : Oper} {a : Act} {w : World} {Q : Exit → Act → World → Prop} {b N n m i k io : Nat} {fx : Nat → Bool} {K : Act → World → Prop} (hio : ops[io]? = some o) (hg : o.guard = none) (M x v : Operand) (hop : o.op = Op.mapUpdate 144 M x v) (hm : a.eval M = .map (some b)) (h : MetAt w b N n m fx) (hn5 : n ≤ 5) (hm5 : m ≤ 5) (hi : i < n) (hk : k < m) (hN : N < maxLen) (y : Bool) (hx : a.eval x = plcV (i : Int) (k : Int)) (hv : a.eval v = .bool y)
    (hK : ∀ w', MetAt w' b (N + 1) n m (setB fx (i * m + k) y) → w.grownBy w' (some b) → K (a.put o.dst undef) w') : wpOp Try.prog ops Q io K a w := by
  obtain ⟨w', hrun, h1, h2⟩ := exec_store_plc M x v hop hm h hn5 hm5 hi hk hN y hx hv
  exact wpOp_skipA hio hg hrun (hK w' h1 h2)
/-- What the closure comes to. -/
def AlongEnd (E : AimEnv) (f : Nat) (ls : List UInt8) (fx : Nat → Bool) (x : Wy) (k : Nat) (W : World) (e : Ending) (W' : World) : Prop :=
  e = .returned (.int .i64 ((aimA E.S E.n E.m E.q (f + 1) ls fx x : Nat) : Int)) ∧ W.grownBy W' (some E.Mb) ∧ ∃ k', MetAt W' E.Mb k' E.n E.m fx ∧ k' + 1 ≤ k + 3 ^ openN (E.n * E.m) fx

set_option maxRecDepth 100000 in
set_option maxHeartbeats 4000000 in
theorem along_out (E : AimEnv) (hn5 : E.n ≤ 5) (hm5 : E.m ≤ 5) (hl0 : E.ls0.length = 25) (f : Nat) (ls : List UInt8) (fx : Nat → Bool) (x : Wy) (k : Nat) (W : World) (hE : E.at_ W) (hL : LetAt W E.L ls) (hM : MetAt W E.Mb k E.n E.m fx) (hd : x.d < 4) (hxi : -1 ≤ x.i ∧ x.i ≤ E.n) (hxk : -1 ≤ x.k ∧ x.k ≤ E.m) (hin : ¬ inG E.n E.m x) :
    Calls Try.prog 109 #[wayV x, .pointer (some ⟨E.G, 0, none⟩), .pointer (some ⟨E.T, 0, none⟩), .pointer (some ⟨E.A, 0, none⟩), .pointer (some ⟨E.B, 0, none⟩), .pointer (some ⟨E.V, 0, none⟩), .pointer (some ⟨E.Al, 0, none⟩)] W (AlongEnd E f ls fx x k W) := by
  obtain ⟨n, m, q, S, cap, G, T, A, B, V, Al, R, L, Mb, ls0⟩ := E
  simp only at *
  have HLE := hid hL
  have HM := hid hM
  have HGS := hid (show (Try.prog.info? 57).map (·.size) = some (gcells n m ls0).size by rw [gcells_size hl0]; exact Try.size_grid)
  have HLb := hid (lt_of_block hL)
  have HMb := hid hM.lt
  have HHO := hid (fun W => holds_any n m ls0 x W)
  have HEX := hid (fun W => exit_any n m ls0 x W hn5 hm5 hd ⟨by omega, by omega⟩ (by omega))
  have HW0 := hid (heap_new0 W (.cells (wayC x) 113))
  have HC0 := hid (show ChgA L Mb W (W.alloc (.cells (wayC x) 113)) from ChgA.below ((Below.refl _ W).alloc (Nat.le_refl _) _))
  have HL0 := hid (show LetAt (W.alloc (.cells (wayC x) 113)) L ls from (Below.heap_alloc _ _ _ (lt_of_block hL)).trans hL)
  have HM0 := hid (hM.kept (Below.heap_alloc W (.cells (wayC x) 113) _ hM.lt))
  have HE0 := hid (hE.kept HC0.out)
  have HWR := hid (show ∀ W' : World, W'.heap[W.heap.size]? = some (.cells (wayC x) 113 (0, 0)) → W'.rangeAt W.heap.size 0 (#[.int .i64 x.i, .int .i64 x.k] : Array Value).toList from fun W' h j v hv => by
    rw [cell_of_row _ _ _ _ _ _ h, Nat.zero_add]
    match j, hv with
    | 0, hv => simpa [wayC] using hv
    | 1, hv => simpa [wayC] using hv
    | j + 2, hv => simp at hv)
  clear hE hL hM
  go_enter Try.func109, Try.ntmps109
  rw [wayV_eq]
  go_wp2_with (first
    | refine wpList_load_row rfl 57 _ rfl G rfl 57 (gcells n m ls0) (0, 0) _ HE0.out.g Try.underlying57 rfl HGS.out ?_
    | refine wpList_load_midP rfl 105 _ rfl W.heap.size 0 rfl #[.int .i64 x.i, .int .i64 x.k] _ (HWR.out _ HW0.out) Try.underlying105 rfl Try.size_place ?_
    | fail)
  refine (HHO.out _).mono ?_
  rintro e w1 ⟨rfl, hb1⟩
  have HC1 := hid (HC0.out.trans (ChgA.below hb1))
  have HE1 := hid (HE0.out.kept (ChgA.below hb1))
  have HL1 := hid (show LetAt w1 L ls from (hb1.block _ (lt_of_block HL0.out)).trans HL0.out)
  have HM1 := hid (HM0.out.kept (hb1.block _ HM0.out.lt))
  have HW1 := hid ((hb1.block _ (lt_of_block HW0.out)).trans HW0.out)
  have HZ1 := hid (And.intro (show W.heap.size ≠ L by have := HLb.out; omega) (show W.heap.size ≠ Mb by have := HMb.out; omega))
  clear hb1 HC0 HE0 HL0 HM0 HW0 HHO
  obtain ⟨z, hz⟩ : ∃ z, W.heap.size = z := ⟨_, rfl⟩
  rw [hz] at HWR HW1 HZ1 ⊢
  clear hz
  rw [show decide (inG n m x) = false from decide_eq_false hin]
  go_wp2_with fail
  have HAO := hid (show aimA S n m q (f + 1) ls fx x = if leav n m x = (q : Int) then 0 else S by rw [aimA, if_neg hin])
  have HLV := hid hin
  obtain ⟨lv, hlv⟩ : ∃ lv, leav n m x = lv := ⟨_, rfl⟩
  rw [hlv] at HEX HAO
  refine wp_region_rel_tail (by kernel_rfl) 4 (by kernel_rfl) (fun us => { tmps := #[.agg (wayC x), .pointer (some ⟨G, 0, none⟩), .pointer (some ⟨T, 0, none⟩), .pointer (some ⟨A, 0, none⟩), .pointer (some ⟨B, 0, none⟩), .pointer (some ⟨V, 0, none⟩), .pointer (some ⟨Al, 0, none⟩), .pointer (some ⟨z, 0, none⟩), .int .i64 0, undef, undef, undef, undef, undef, undef, .agg (gcells n m ls0), .pointer (some ⟨z, 0, none⟩), .agg #[.int .i64 x.i, .int .i64 x.k], .bool false, .bool true, us 0, us 1, us 2, us 3, undef, undef, undef, undef, undef, undef, undef, undef, undef, undef, undef, undef, undef, undef, undef, undef, undef, undef, undef, undef, undef, undef, undef, undef, undef, undef, undef, undef, undef, undef, undef, undef, undef, undef, undef, undef, undef, undef, undef, undef, undef, undef, undef, undef, undef, undef, undef, undef, undef, undef, undef, undef, undef, undef, undef], defers := [] }) (fun _ => undef) rfl (outRel (gcells n m ls0) x lv q) (fun i v W W' h hb => h) (fun i us v hi => ?_) (fun i us W2 hi hb hd => ?_) (fun us W2 hb hr => ?_)
  · match i, hi with
    | 0, _ => rfl
    | 1, _ => rfl
    | 2, _ => rfl
    | 3, _ => rfl
  · have HE2 := hid (HE1.out.kept (ChgA.below hb))
    have HW2 := hid ((hb.block _ (lt_of_block HW1.out)).trans HW1.out)
    have ht := HE2.out.t.cell
    match i, hi with
    | 0, _ => exact wpOp_val rfl rfl (exec_load_row 57 _ rfl G rfl 57 (gcells n m ls0) (0, 0) _ HE2.out.g Try.underlying57 rfl HGS.out) rfl
    | 1, _ => exact wpOp_val rfl rfl (exec_load_row 113 _ rfl z rfl 113 (wayC x) (0, 0) _ HW2.out Try.underlying113 rfl Try.size_way) rfl
    | 2, _ =>
      have h0 : us 0 = _ := hd _ rfl { on := 0, ground := .data } (by simp) rfl
      have h1 : us 1 = _ := hd _ rfl { on := 1, ground := .data } (by simp) rfl
      rw [h0, h1]
      exact wpOp_call rfl rfl (by go_simp; rfl) ((HEX.out W2).mono fun e w'' ⟨he, hb'⟩ => ⟨_, he, rfl, hb'⟩)
    | 3, _ => exact wpOp_val rfl rfl (by go_simp) rfl
  · have h2 : us 2 = _ := hr 2 (by omega)
    have h3 : us 3 = _ := hr 3 (by omega)
    rw [h2, h3]
    have HE2 := hid (HE1.out.kept (ChgA.below hb))
    have HC2 := hid (HC1.out.trans (ChgA.below hb))
    have HL2 := hid (show LetAt W2 L ls from (hb.block _ (lt_of_block HL1.out)).trans HL1.out)
    have HM2 := hid (HM1.out.kept (hb.block _ HM1.out.lt))
    have ha := HE2.out.a.cell
    clear hr hb h2 h3
    simp only [List.drop_succ_cons, List.drop_zero]
    have h1p : 1 ≤ 3 ^ openN (n * m) fx := Nat.one_le_pow _ _ (by decide)
    have HPW := hid (show k + 1 ≤ k + 3 ^ openN (n * m) fx by omega)
    clear h1p
    by_cases hqq : lv = (q : Int)
    · have HV := hid (HAO.out.trans (if_pos hqq))
      subst hqq
      go_wp2_with fail
      go_ret
      exact ⟨by rw [HV.out]; rfl, HC2.out.toGrown HLE.out HL2.out, k, HM2.out, HPW.out⟩
    · have HV := hid (HAO.out.trans (if_neg hqq))
      go_wp2_with fail
      go_ret
      exact ⟨by rw [HV.out]; rfl, HC2.out.toGrown HLE.out HL2.out, k, HM2.out, HPW.out⟩

set_option maxRecDepth 100000 in
set_option maxHeartbeats 8000000 in
theorem along_any (E : AimEnv) (hn1 : 1 ≤ E.n) (hn5 : E.n ≤ 5) (hm1 : 1 ≤ E.m) (hm5 : E.m ≤ 5) (hl0 : E.ls0.length = 25) (hS : E.S ≤ 100) (hq : E.q ≤ 100) (hLM : E.n * E.m ≤ 9) : ∀ (f : Nat) (ls : List UInt8) (fx : Nat → Bool) (x : Wy) (k : Nat) (W : World), E.at_ W → LetAt W E.L ls → MetAt W E.Mb k E.n E.m fx → ls.length = E.n * E.m → aimD E.n E.m f ls fx x → x.d < 4 → (-1 ≤ x.i ∧ x.i ≤ E.n) → (-1 ≤ x.k ∧ x.k ≤ E.m) → k + 3 ^ openN (E.n * E.m) fx ≤ 100000 →
    Calls Try.prog 109 #[wayV x, .pointer (some ⟨E.G, 0, none⟩), .pointer (some ⟨E.T, 0, none⟩), .pointer (some ⟨E.A, 0, none⟩), .pointer (some ⟨E.B, 0, none⟩), .pointer (some ⟨E.V, 0, none⟩), .pointer (some ⟨E.Al, 0, none⟩)] W (AlongEnd E f ls fx x k W) := by
  intro f
  induction f with
  | zero =>
    intro ls fx x k W hE hL hM _ hD hd hxi hxk _
    exact along_out E hn5 hm5 hl0 0 ls fx x k W hE hL hM hd hxi hxk hD
  | succ f ih =>
    intro ls fx x k W hE hL hM hlen hD hd hxi hxk hK
    by_cases hout : ¬ inG E.n E.m x
    · exact along_out E hn5 hm5 hl0 (f + 1) ls fx x k W hE hL hM hd hxi hxk hout
    have hin := Classical.not_not.1 hout
    clear hout
    obtain ⟨n, m, q, S, cap, G, T, A, B, V, Al, R, L, Mb, ls0⟩ := E
    simp only at *
    have HIH := hid ih
    have HE := hid hE
    have HLE := hid hL
    have HM := hid hM
    have HLL := hid hlen
    have HDD := hid hD
    have HKK := hid hK
    have HGS := hid (show (Try.prog.info? 57).map (·.size) = some (gcells n m ls0).size by rw [gcells_size hl0]; exact Try.size_grid)
    have HLb := hid (lt_of_block hL)
    have HMb := hid hM.lt
    have HHO := hid (fun W => holds_any n m ls0 x W)
    have HW0 := hid (heap_new0 W (.cells (wayC x) 113))
    have HC0 := hid (show ChgA L Mb W (W.alloc (.cells (wayC x) 113)) from ChgA.below ((Below.refl _ W).alloc (Nat.le_refl _) _))
    have HL0 := hid (show LetAt (W.alloc (.cells (wayC x) 113)) L ls from (Below.heap_alloc _ _ _ (lt_of_block hL)).trans hL)
    have HM0 := hid (hM.kept (Below.heap_alloc W (.cells (wayC x) 113) _ hM.lt))
    have HE0 := hid (hE.kept HC0.out)
    have HWR := hid (show ∀ W' : World, W'.heap[W.heap.size]? = some (.cells (wayC x) 113 (0, 0)) → W'.rangeAt W.heap.size 0 (#[.int .i64 x.i, .int .i64 x.k] : Array Value).toList from fun W' h j v hv => by
      rw [cell_of_row _ _ _ _ _ _ h, Nat.zero_add]
      match j, hv with
      | 0, hv => simpa [wayC] using hv
      | 1, hv => simpa [wayC] using hv
      | j + 2, hv => simp at hv)
    clear ih hE hL hM hlen hD hK
    go_enter Try.func109, Try.ntmps109
    rw [wayV_eq]
    go_wp2_with (first
      | refine wpList_load_row rfl 57 _ rfl G rfl 57 (gcells n m ls0) (0, 0) _ HE0.out.g Try.underlying57 rfl HGS.out ?_
      | refine wpList_load_midP rfl 105 _ rfl W.heap.size 0 rfl #[.int .i64 x.i, .int .i64 x.k] _ (HWR.out _ HW0.out) Try.underlying105 rfl Try.size_place ?_
      | fail)
    refine (HHO.out _).mono ?_
    rintro e w1 ⟨rfl, hb1⟩
    have HC1 := hid (HC0.out.trans (ChgA.below hb1))
    have HE1 := hid (HE0.out.kept (ChgA.below hb1))
    have HL1 := hid (show LetAt w1 L ls from (hb1.block _ (lt_of_block HL0.out)).trans HL0.out)
    have HM1 := hid (HM0.out.kept (hb1.block _ HM0.out.lt))
    have HW1 := hid ((hb1.block _ (lt_of_block HW0.out)).trans HW0.out)
    have HZ1 := hid (And.intro (show W.heap.size ≠ L by have := HLb.out; omega) (show W.heap.size ≠ Mb by have := HMb.out; omega))
    clear hb1 HC0 HE0 HL0 HM0 HW0 HHO
    obtain ⟨z, hz⟩ : ∃ z, W.heap.size = z := ⟨_, rfl⟩
    rw [hz] at HWR HW1 HZ1 ⊢
    clear hz
    rw [show decide (inG n m x) = true from decide_eq_true hin]
    obtain ⟨hi0, hi1, hk0, hk1⟩ := hin
    obtain ⟨xi, xk, xd⟩ := x
    simp only at *
    obtain ⟨i, rfl⟩ := Int.eq_ofNat_of_zero_le hi0
    obtain ⟨j, rfl⟩ := Int.eq_ofNat_of_zero_le hk0
    have hin' : i < n := by omega
    have hjm : j < m := by omega
    have HBC := hid (fun W h => boardCell_any R L n m cap i j W h hin' hjm)
    have hvc := HE1.out.b.cell
    obtain ⟨c, hc⟩ : ∃ c, i * m + j = c := ⟨_, rfl⟩
    rw [hc] at HBC
    go_wp2_with (first
      | refine wpList_load_midP rfl 105 _ rfl z 0 rfl #[.int .i64 (i : Int), .int .i64 (j : Int)] _ (HWR.out _ HW1.out) Try.underlying105 rfl Try.size_place ?_
      | fail)
    refine (HBC.out _ HE1.out.r).mono ?_
    rintro e w2 ⟨rfl, hb2⟩
    have HC2 := hid (HC1.out.trans (ChgA.below hb2))
    have HE2 := hid (HE1.out.kept (ChgA.below hb2))
    have HL2 := hid (show LetAt w2 L ls from (hb2.block _ (lt_of_block HL1.out)).trans HL1.out)
    have HM2 := hid (HM1.out.kept (hb2.block _ HM1.out.lt))
    have HW2 := hid ((hb2.block _ (lt_of_block HW1.out)).trans HW1.out)
    clear hb2 HC1 HE1 HL1 HM1 HW1 HBC hvc
    have hvv := HE2.out.v.cell
    have hinx : inG n m ⟨(i : Int), (j : Int), xd⟩ := ⟨by simp, by simp; omega, by simp, by simp; omega⟩
    have hcell : cellN m ⟨(i : Int), (j : Int), xd⟩ = c := by rw [← hc]; simp [cellN]
    have hcN : c < n * m := by rw [← hcell]; exact cellN_lt hinx
    have HIN := hid hinx
    have HCE := hid hcell
    have HCN := hid hcN
    have HDX := hid (HDD.out hinx)
    rw [hcell] at HDX
    obtain ⟨b, hb⟩ : ∃ b, ls[c]? = some b := ⟨_, List.getElem?_eq_getElem (by rw [HLL.out]; exact hcN)⟩
    have hbd : ls.getD c 0 = b := by rw [List.getD_eq_getElem?_getD, hb]; rfl
    have HBB := hid hb
    have HBD := hid hbd
    have hlt : lett m ls (i : Int) (j : Int) = b := by
      have := lett_cellN (ls := ls) hinx
      rw [hcell, hbd] at this
      exact this
    obtain ⟨fv, hfv⟩ : ∃ fv, AimEnv.fn ⟨n, m, q, S, cap, G, T, A, B, V, Al, R, L, Mb, ls0⟩ = fv := ⟨_, rfl⟩
    have HFV := hid hfv
    clear hb hbd hinx hcell hfv hcN
    cases hfx : fx c with
    | true =>
      have HAO := hid (show aimA S n m q (f + 1 + 1) ls fx ⟨(i : Int), (j : Int), xd⟩ = aimA S n m q (f + 1) ls fx (nxtB b ⟨(i : Int), (j : Int), xd⟩) by
        rw [aimA, if_pos HIN.out, HCE.out, if_pos hfx, ← nxtB_nxt]
        show aimA S n m q (f + 1) ls fx (nxtB (lett m ls (i : Int) (j : Int)) _) = _
        rw [hlt])
      have HDN := hid (show aimD n m f ls fx (nxtB b ⟨(i : Int), (j : Int), xd⟩) by
        have h := HDX.out.1 hfx
        rw [← nxtB_nxt] at h
        have h2 : aimD n m f ls fx (nxtB (lett m ls (i : Int) (j : Int)) ⟨(i : Int), (j : Int), xd⟩) := h
        rwa [hlt] at h2)
      obtain ⟨hnd, hni, hnk⟩ := near_next b HIN.out hd
      have HON := hid (fun W => wayOn_any b ⟨(i : Int), (j : Int), xd⟩ W hd ⟨(by show (-90 : Int) ≤ (i : Int); omega), (by show (i : Int) ≤ 90; omega)⟩ ⟨(by show (-90 : Int) ≤ (j : Int); omega), (by show (j : Int) ≤ 90; omega)⟩)
      clear hlt
      go_wp2_with (first
        | refine wpList_load_midP rfl 105 _ rfl z 0 rfl #[.int .i64 (i : Int), .int .i64 (j : Int)] _ (HWR.out _ HW2.out) Try.underlying105 rfl Try.size_place ?_
        | (refine wpList_look_plc rfl _ _ rfl rfl HM2.out hn5 hm5 hin' hjm rfl ?_; rw [hc, hfx])
        | fail)
      refine wp_region_rel_tail (by kernel_rfl) 6 (by kernel_rfl) (fun us => { tmps := #[.agg (wayC ⟨(i : Int), (j : Int), xd⟩), .pointer (some ⟨G, 0, none⟩), .pointer (some ⟨T, 0, none⟩), .pointer (some ⟨A, 0, none⟩), .pointer (some ⟨B, 0, none⟩), .pointer (some ⟨V, 0, none⟩), .pointer (some ⟨Al, 0, none⟩), .pointer (some ⟨z, 0, none⟩), .int .i64 0, .pointer (some ⟨L, c, none⟩), undef, undef, undef, undef, undef, .agg (gcells n m ls0), .pointer (some ⟨z, 0, none⟩), .agg #[.int .i64 (i : Int), .int .i64 (j : Int)], .bool true, .bool false, undef, undef, undef, undef, undef, undef, .slice (some ⟨R, 0, none⟩) n cap, .pointer (some ⟨z, 0, none⟩), .agg #[.int .i64 (i : Int), .int .i64 (j : Int)], .pointer (some ⟨L, c, none⟩), .map (some Mb), .pointer (some ⟨z, 0, none⟩), .agg #[.int .i64 (i : Int), .int .i64 (j : Int)], .bool true, us 0, us 1, us 2, us 3, us 4, us 5, undef, undef, undef, undef, undef, undef, undef, undef, undef, undef, undef, undef, undef, undef, undef, undef, undef, undef, undef, undef, undef, undef, undef, undef, undef, undef, undef, undef, undef, undef, undef, undef, undef, undef, undef, undef, undef, undef, undef], defers := [] }) (fun _ => undef) rfl (goRel fv ⟨(i : Int), (j : Int), xd⟩ L c b) (fun _ v W W' h hb => h) (fun io us v hi => ?_) (fun io us W3 hi hb hd => ?_) (fun us W3 hb hr => ?_)
      · match io, hi with
        | 0, _ => rfl
        | 1, _ => rfl
        | 2, _ => rfl
        | 3, _ => rfl
        | 4, _ => rfl
        | 5, _ => rfl
      · have HE3 := hid (HE2.out.kept (ChgA.below hb))
        have HW3 := hid ((hb.block _ (lt_of_block HW2.out)).trans HW2.out)
        have hal := HE3.out.al.cell
        rw [HFV.out] at hal
        have hlc := LetAt.cell (show LetAt W3 L ls from (hb.block _ (lt_of_block HL2.out)).trans HL2.out) HBB.out
        match io, hi with
        | 0, _ => exact wpOp_val rfl rfl (by go_simp) rfl
        | 1, _ => exact wpOp_val rfl rfl (exec_load_row 113 _ rfl z rfl 113 (wayC ⟨(i : Int), (j : Int), xd⟩) (0, 0) _ HW3.out Try.underlying113 rfl Try.size_way) rfl
        | 2, _ => exact wpOp_val rfl rfl (by go_simp) rfl
        | 3, _ =>
          have h0 : us 2 = _ := hd _ rfl { on := 2, ground := .data } (by simp) rfl
          rw [h0]
          exact wpOp_val rfl rfl (by go_simp) rfl
        | 4, _ =>
          have h0 : us 3 = _ := hd _ rfl { on := 3, ground := .data } (by simp) rfl
          rw [h0]
          exact wpOp_val rfl rfl (by go_simp) rfl
        | 5, _ =>
          have h0 : us 1 = _ := hd _ rfl { on := 1, ground := .data } (by simp) rfl
          have h1 : us 4 = _ := hd _ rfl { on := 4, ground := .data } (by simp) rfl
          rw [h0, h1]
          exact wpOp_call rfl rfl (by go_simp; rfl) ((HON.out W3).mono fun e w'' ⟨he, hb'⟩ => ⟨_, he, rfl, hb'⟩)
      · have h0 : us 0 = _ := hr 0 (by omega)
        have h5 : us 5 = _ := hr 5 (by omega)
        rw [h0, h5, ← HFV.out]
        have HE3 := hid (HE2.out.kept (ChgA.below hb))
        have HC3 := hid (HC2.out.trans (ChgA.below hb))
        have HL3 := hid (show LetAt W3 L ls from (hb.block _ (lt_of_block HL2.out)).trans HL2.out)
        have HM3 := hid (HM2.out.kept (hb.block _ HM2.out.lt))
        have HCA := hid (HIH.out ls fx (nxtB b ⟨(i : Int), (j : Int), xd⟩) k W3 HE3.out HL3.out HM3.out HLL.out HDN.out hnd hni hnk HKK.out)
        clear hr hb h0 h5
        simp only [List.drop_succ_cons, List.drop_zero, AimEnv.fn]
        go_wp2_with fail
        refine HCA.out.mono ?_
        rintro e w4 ⟨rfl, hgw, k4, hm4, hk4⟩
        have HC4 := hid (HC3.out.trans (ChgA.grown hgw))
        have HL4 := hid (show LetAt w4 L ls from (hgw.block _ (lt_of_block HL3.out) (fun e => HE3.out.n3 (Option.some.inj e))).trans HL3.out)
        have HM4 := hid hm4
        have HK4 := hid hk4
        clear hgw hm4 hk4
        go_wp2_with fail
        go_ret
        exact ⟨by rw [HAO.out]; rfl, HC4.out.toGrown HLE.out HL4.out, k4, HM4.out, HK4.out⟩
    | false =>
      go_wp2_with (first
        | refine wpList_load_midP rfl 105 _ rfl z 0 rfl #[.int .i64 (i : Int), .int .i64 (j : Int)] _ (HWR.out _ HW2.out) Try.underlying105 rfl Try.size_place ?_
        | (refine wpList_look_plc rfl _ _ rfl rfl HM2.out hn5 hm5 hin' hjm rfl ?_; rw [hc, hfx])
        | fail)
      refine wp_region_linA (by kernel_rfl) (by kernel_rfl) 6 (by kernel_rfl) (fun us => { tmps := #[.agg (wayC ⟨(i : Int), (j : Int), xd⟩), .pointer (some ⟨G, 0, none⟩), .pointer (some ⟨T, 0, none⟩), .pointer (some ⟨A, 0, none⟩), .pointer (some ⟨B, 0, none⟩), .pointer (some ⟨V, 0, none⟩), .pointer (some ⟨Al, 0, none⟩), .pointer (some ⟨z, 0, none⟩), .int .i64 0, .pointer (some ⟨L, c, none⟩), us 4, us 5, undef, undef, undef, .agg (gcells n m ls0), .pointer (some ⟨z, 0, none⟩), .agg #[.int .i64 (i : Int), .int .i64 (j : Int)], .bool true, .bool false, undef, undef, undef, undef, undef, undef, .slice (some ⟨R, 0, none⟩) n cap, .pointer (some ⟨z, 0, none⟩), .agg #[.int .i64 (i : Int), .int .i64 (j : Int)], .pointer (some ⟨L, c, none⟩), .map (some Mb), .pointer (some ⟨z, 0, none⟩), .agg #[.int .i64 (i : Int), .int .i64 (j : Int)], .bool false, undef, undef, undef, undef, undef, undef, undef, us 0, us 1, us 2, us 3, undef, undef, undef, undef, undef, undef, undef, undef, undef, undef, undef, undef, undef, undef, undef, undef, undef, undef, undef, undef, undef, undef, undef, undef, undef, undef, undef, undef, undef, undef, undef, undef, undef, undef], defers := [] }) (fun _ => undef) rfl (fun s us W3 => Below w2.heap.size w2 W3 ∧ ∀ io, io < 6 → s io = true → keptRel L c S b io (us io)) (fun s hs => ⟨(Below.refl _ w2).drew, fun io h1 h2 => by rw [hs io h1] at h2; cases h2⟩) (fun io us v hi => ?_) (fun io s us W3 hi hsi hd hI => ?_) (fun s us W3 hs hI => ?_)
      · match io, hi with
        | 0, _ => rfl
        | 1, _ => rfl
        | 2, _ => rfl
        | 3, _ => rfl
        | 4, _ => rfl
        | 5, _ => rfl
      · obtain ⟨hb, hv⟩ := hI
        have HV := hid hv
        have HB := hid hb
        have HE3 := hid (HE2.out.kept (ChgA.below hb))
        have hast := HE3.out.a.cell
        have hlc := LetAt.cell (show LetAt W3 L ls from (hb.block _ (lt_of_block HL2.out)).trans HL2.out) HBB.out
        clear hb hv
        match io, hi with
        | 0, _ => exact wpOp_runA rfl rfl (by go_simp) ⟨_, rfl, HB.out, lin_step HV.out rfl⟩
        | 1, _ =>
          have h0 : us 0 = _ := HV.out 0 (by omega) (hd _ rfl { on := 0, ground := .data } (by simp) rfl)
          rw [h0]
          exact wpOp_runA rfl rfl (by go_simp) ⟨_, rfl, HB.out, lin_step HV.out rfl⟩
        | 2, _ =>
          have h0 : us 1 = _ := HV.out 1 (by omega) (hd _ rfl { on := 1, ground := .data } (by simp) rfl)
          rw [h0]
          exact wpOp_runA rfl rfl (by go_simp) ⟨_, rfl, HB.out, lin_step HV.out rfl⟩
        | 3, _ => exact wpOp_runA rfl rfl (by go_simp) ⟨_, rfl, HB.out, lin_step HV.out rfl⟩
        | 4, _ =>
          have h0 : us 2 = _ := HV.out 2 (by omega) (hd _ rfl { on := 2, ground := .data } (by simp) rfl)
          rw [h0]
          exact wpOp_runA rfl rfl (by go_simp) ⟨_, rfl, HB.out, lin_step HV.out rfl⟩
        | 5, _ =>
          have h0 : us 3 = _ := HV.out 3 (by omega) (hd _ rfl { on := 3, ground := .data } (by simp) rfl)
          rw [h0]
          exact wpOp_runA rfl rfl (by go_simp) ⟨_, rfl, HB.out, lin_step HV.out rfl⟩
      · obtain ⟨hb, hr⟩ := hI
        have h2 : us 2 = _ := hr 2 (by omega) (hs 2 (by omega))
        have h3 : us 3 = _ := hr 3 (by omega) (hs 3 (by omega))
        have h4 : us 4 = _ := hr 4 (by omega) (hs 4 (by omega))
        have h5 : us 5 = _ := hr 5 (by omega) (hs 5 (by omega))
        rw [h2, h3, h4, h5]
        have HE3 := hid (HE2.out.kept (ChgA.below hb))
        have HC3 := hid (HC2.out.trans (ChgA.below hb))
        have HL3 := hid (show LetAt W3 L ls from (hb.block _ (lt_of_block HL2.out)).trans HL2.out)
        have HM3 := hid (HM2.out.kept (hb.block _ HM2.out.lt))
        have HW3 := hid ((hb.block _ (lt_of_block HW2.out)).trans HW2.out)
        have HZ3 := hid (show z < W3.heap.size from lt_of_block HW3.out)
        have hvv3 := HE3.out.v.cell
        have hkm : k < maxLen := by have := HKK.out; unfold maxLen; generalize 3 ^ openN (n * m) fx = pw at this; omega
        clear hr hb h2 h3 h4 h5 HE2 HC2 HL2 HM2 HW2 hvv
        go_wp2_with (first
          | refine wpList_load_midP rfl 105 _ rfl z 0 rfl #[.int .i64 (i : Int), .int .i64 (j : Int)] _ (HWR.out _ HW3.out) Try.underlying105 rfl Try.size_place ?_
          | refine wpList_store_plc rfl _ _ _ rfl rfl HM3.out hn5 hm5 hin' hjm hkm true rfl rfl ?_
          | fail)
        intro w4 hm4 hg4
        have HM4 := hid (show MetAt w4 Mb (k + 1) n m (fixC fx c) from hm4)
        have HC4 := hid (HC3.out.trans (ChgA.grown hg4))
        have HL4 := hid (show LetAt w4 L ls from (hg4.block _ (lt_of_block HL3.out) (fun e => HE3.out.n3 (Option.some.inj e))).trans HL3.out)
        have HW4 := hid ((hg4.block _ HZ3.out (fun e => HZ1.out.2 (by cases e; rfl))).trans HW3.out)
        clear hm4 hg4 HE3 HC3 HL3 HM3 HW3 hvv3
        have hcv := fun (C : Array Value) (n c : Nat) => Lib.run_convert_bytes_const (P := Try.prog) w4 22 5 C n c Try.underlying22 Try.underlying5
        go_wp2_with fail
        clear hcv
        have HZ4 := hid (lt_of_block HW4.out)
        have HC5 := hid (HC4.out.trans (ChgA.below ((Below.refl _ w4).alloc (Nat.le_refl _) (.cells #[.int .u8 46, .int .u8 114, .int .u8 102] 5 (3, 3 + 1)))))
        have HL5 := hid (show LetAt (w4.alloc (.cells #[.int .u8 46, .int .u8 114, .int .u8 102] 5 (3, 3 + 1))) L ls from (Below.heap_alloc _ _ _ (lt_of_block HL4.out)).trans HL4.out)
        have HM5 := hid (HM4.out.kept (Below.heap_alloc w4 (.cells #[.int .u8 46, .int .u8 114, .int .u8 102] 5 (3, 3 + 1)) _ HM4.out.lt))
        have HW5 := hid ((Below.heap_alloc w4 (.cells #[.int .u8 46, .int .u8 114, .int .u8 102] 5 (3, 3 + 1)) _ HZ4.out).trans HW4.out)
        have HB5 := hid (show (w4.alloc (.cells #[.int .u8 46, .int .u8 114, .int .u8 102] 5 (3, 3 + 1))).heap[w4.heap.size]? = some (.cells #[.int .u8 46, .int .u8 114, .int .u8 102] 5 (3, 3 + 1)) from World.alloc_heap_new w4 _)
        have HZB := hid (And.intro (show w4.heap.size ≠ L by have := lt_of_block HL4.out; omega) (show w4.heap.size ≠ Mb by have := HM4.out.lt; omega))
        generalize World.alloc w4 _ = w5 at HC5 HL5 HM5 HW5 HB5 ⊢
        generalize w4.heap.size = zb at HB5 HZB ⊢
        obtain ⟨P, hP⟩ : ∃ P, 3 ^ openN (n * m) (fixC fx c) = P := ⟨_, rfl⟩
        have HPP := hid hP
        have hpow : 3 ^ openN (n * m) fx = P * 3 := by rw [open_fix hfx HCN.out, Nat.pow_succ, ← hP]
        have HPW := hid hpow
        have hK3 : k + P * 3 ≤ 100000 := by rw [← hpow]; exact HKK.out
        have hP1 : 1 ≤ P := by rw [← hP]; exact Nat.one_le_pow _ _ (by decide)
        have hao := aim_three (S := S) (q := q) (f := f) (ls := ls) (fx := fx) HIN.out (by rw [HCE.out, hfx])
        rw [HCE.out] at hao
        have HAO := hid hao
        have hlle := leastTo_le S (costT S n m q f c ls fx ⟨(i : Int), (j : Int), xd⟩)
        have HCT := hid (fun t => show costT S n m q f c ls fx ⟨(i : Int), (j : Int), xd⟩ t = aimA S n m q (f + 1) (ls.set c (b3 t)) (fixC fx c) (nxt (lett m (ls.set c (b3 t))) ⟨(i : Int), (j : Int), xd⟩) + (if b = b3 t then 0 else 1) by unfold costT; rw [HBD.out])
        have HST := hid (fun t => show leastTo S (costT S n m q f c ls fx ⟨(i : Int), (j : Int), xd⟩) (t + 1) = min (leastTo S (costT S n m q f c ls fx ⟨(i : Int), (j : Int), xd⟩) t) (costT S n m q f c ls fx ⟨(i : Int), (j : Int), xd⟩ t) from rfl)
        have HL0 := hid (show leastTo S (costT S n m q f c ls fx ⟨(i : Int), (j : Int), xd⟩) 0 = S from rfl)
        have HDN := hid (HDX.out.2 hfx)
        clear hpow hP hao hlt
        generalize costT S n m q f c ls fx ⟨(i : Int), (j : Int), xd⟩ = ct at *
        have HLL2 := hid hlle
        clear hlle
        go_loopw [11, 13, 14, 51] (fun (lv _ _ iv : Value) (wr : World) => ∃ t : Nat, t ≤ 3 ∧ iv = .int .i64 t ∧ lv = .int .i64 ((leastTo S ct t : Nat) : Int) ∧ Hid (∃ lsj k', LetAt wr L lsj ∧ (∀ b, lsj.set c b = ls.set c b) ∧ lsj.length = ls.length ∧ MetAt wr Mb k' n m (fixC fx c) ∧ k' + t ≤ k + 1 + t * P) ∧ ChgA L Mb W wr ∧ wr.heap[z]? = some (.cells (wayC ⟨(i : Int), (j : Int), xd⟩) 113 (0, 0)) ∧ wr.heap[zb]? = some (.cells #[.int .u8 46, .int .u8 114, .int .u8 102] 5 (3, 3 + 1))) (fun _ _ _ iv _ => 3 - (intOf iv).toNat)
        case atStart => exact ⟨0, by omega, rfl, by rw [HL0.out], hid ⟨ls, k + 1, HL5.out, fun _ => rfl, rfl, HM5.out, by omega⟩, HC5.out, HW5.out, HB5.out⟩
        case round =>
          clear HL5 HM5 HC5 HW5 HB5 HC4 HL4 HM4 HW4
          obtain ⟨t, ht, rfl, rfl, hst, hch, hzw, hzl⟩ := hrel
          have HX := hst
          have HC := hid hch
          have HWZ := hid hzw
          have HBZ := hid hzl
          clear hst hch hzw hzl
          obtain ⟨lv, hlv⟩ : ∃ lv, leastTo S ct t = lv := ⟨_, rfl⟩
          have hlvS : lv ≤ S := by rw [← hlv]; exact HLL2.out t
          rw [hlv]
          have HLV := hid hlv
          clear hlv
          by_cases hlt3 : t < 3
          · have hti : (t : Int) < 3 := by omega
            have ht0 : (0 : Int) ≤ (t : Int) := by omega
            obtain ⟨lsj, k', hl', hset, hlen', hm', hk'⟩ := HX.out
            have HSET := hid hset
            obtain ⟨u, hu⟩ : ∃ u, lsj[c]? = some u := ⟨_, List.getElem?_eq_getElem (by rw [hlen', HLL.out]; exact HCN.out)⟩
            have hcl := LetAt.cell hl' hu
            have hcf := LetAt.free (c := c) hl'
            obtain ⟨bt, hbt⟩ : ∃ bt, b3 t = bt := ⟨_, rfl⟩
            have hcb : wr.cell? ⟨zb, t, none⟩ = some (.int .u8 bt.toNat) := by
              rw [cell_of_row _ _ _ _ _ _ HBZ.out, ← hbt]
              have : t = 0 ∨ t = 1 ∨ t = 2 := by omega
              rcases this with rfl | rfl | rfl <;> rfl
            have HBT := hid hbt
            have HL6 := hid (show LetAt (wr.setCell ⟨L, c, none⟩ (.int .u8 bt.toNat)) L (ls.set c bt) by rw [← hset]; exact LetAt.set hl' bt)
            have HM6 := hid (hm'.kept (Below.heap_setCell wr ⟨L, c, none⟩ (.int .u8 bt.toNat) Mb (fun e => HE.out.n3 (show L = Mb from e.symm))))
            have HK6 := hid hk'
            have HC6 := hid (HC.out.trans (ChgA.cell L Mb c wr (.int .u8 bt.toNat)))
            have HW6 := hid ((Below.heap_setCell wr ⟨L, c, none⟩ (.int .u8 bt.toNat) z HZ1.out.1).trans HWZ.out)
            have HB6 := hid ((Below.heap_setCell wr ⟨L, c, none⟩ (.int .u8 bt.toNat) zb HZB.out.1).trans HBZ.out)
            clear hl' hset hlen' hm' hk' hu hbt HC HWZ HBZ HX
            go_wp2_with fail
            have hinx := HIN.out
            have hlt2 : lett m (ls.set c bt) (i : Int) (j : Int) = bt := by
              have := lett_cellN (ls := ls.set c bt) hinx
              rw [HCE.out, List.getD_eq_getElem?_getD, List.getElem?_set_self (by rw [HLL.out]; exact HCN.out)] at this
              exact this
            have HNX := hid (show nxt (lett m (ls.set c bt)) ⟨(i : Int), (j : Int), xd⟩ = nxtB bt ⟨(i : Int), (j : Int), xd⟩ by
              rw [← nxtB_nxt]
              show nxtB (lett m (ls.set c bt) (i : Int) (j : Int)) _ = _
              rw [hlt2])
            have HDB := hid (show aimD n m f (ls.set c bt) (fixC fx c) (nxtB bt ⟨(i : Int), (j : Int), xd⟩) by rw [← HNX.out]; exact HDN.out bt)
            obtain ⟨hnd, hni, hnk⟩ := near_next bt hinx hd
            have HON := hid (fun W => wayOn_any bt ⟨(i : Int), (j : Int), xd⟩ W hd ⟨(by show (-90 : Int) ≤ (i : Int); omega), (by show (i : Int) ≤ 90; omega)⟩ ⟨(by show (-90 : Int) ≤ (j : Int); omega), (by show (j : Int) ≤ 90; omega)⟩)
            clear hinx hlt2 hcl hcf hcb
            generalize World.setCell wr ⟨L, c, none⟩ (.int .u8 bt.toNat) = w6 at HL6 HM6 HC6 HW6 HB6 ⊢
            refine wp_region_rel_tail (by kernel_rfl) 4 (by kernel_rfl) (fun vs => { tmps := #[.agg (wayC ⟨(i : Int), (j : Int), xd⟩), .pointer (some ⟨G, 0, none⟩), .pointer (some ⟨T, 0, none⟩), .pointer (some ⟨A, 0, none⟩), .pointer (some ⟨B, 0, none⟩), .pointer (some ⟨V, 0, none⟩), .pointer (some ⟨Al, 0, none⟩), .pointer (some ⟨z, 0, none⟩), .int .i64 0, .pointer (some ⟨L, c, none⟩), .int .u8 b.toNat, .int .i64 (lv : Int), undef, .int .u8 bt.toNat, u14, .agg (gcells n m ls0), .pointer (some ⟨z, 0, none⟩), .agg #[.int .i64 (i : Int), .int .i64 (j : Int)], .bool true, .bool false, undef, undef, undef, undef, undef, undef, .slice (some ⟨R, 0, none⟩) n cap, .pointer (some ⟨z, 0, none⟩), .agg #[.int .i64 (i : Int), .int .i64 (j : Int)], .pointer (some ⟨L, c, none⟩), .map (some Mb), .pointer (some ⟨z, 0, none⟩), .agg #[.int .i64 (i : Int), .int .i64 (j : Int)], .bool false, undef, undef, undef, undef, undef, undef, undef, us 0, us 1, .int .u8 b.toNat, .int .i64 (S : Int), .map (some Mb), .pointer (some ⟨z, 0, none⟩), .agg #[.int .i64 (i : Int), .int .i64 (j : Int)], .slice (some ⟨zb, 0, none⟩) 3 3, .slice (some ⟨zb, 0, none⟩) 3 3, .int .i64 3, .int .i64 (t : Int), .bool true, .pointer (some ⟨zb, t, none⟩), .int .u8 bt.toNat, .pointer (some ⟨L, c, none⟩), .int .u8 bt.toNat, .pointer (some ⟨L, c, none⟩), vs 0, vs 1, vs 2, vs 3, u62, u63, u64, u65, u66, u67, u68, u69, u70, u71, undef, undef, undef, undef, undef, undef, undef], defers := [] }) (fun io => ([u58, u59, u60, u61] : List Value).getD io undef) rfl (tryRel fv ⟨(i : Int), (j : Int), xd⟩ bt) (fun _ v W W' h hb => h) (fun io vs v hi => ?_) (fun io vs W7 hi hb hd => ?_) (fun vs W7 hb hr => ?_)
            · match io, hi with
              | 0, _ => rfl
              | 1, _ => rfl
              | 2, _ => rfl
              | 3, _ => rfl
            · have HE7 := hid (HE.out.kept (HC6.out.trans (ChgA.below hb)))
              have HW7 := hid ((hb.block _ (lt_of_block HW6.out)).trans HW6.out)
              have hal := HE7.out.al.cell
              rw [HFV.out] at hal
              match io, hi with
              | 0, _ => exact wpOp_val rfl rfl (by go_simp) rfl
              | 1, _ => exact wpOp_val rfl rfl (exec_load_row 113 _ rfl z rfl 113 (wayC ⟨(i : Int), (j : Int), xd⟩) (0, 0) _ HW7.out Try.underlying113 rfl Try.size_way) rfl
              | 2, _ => exact wpOp_val rfl rfl (by go_simp) rfl
              | 3, _ =>
                have h0 : vs 1 = _ := hd _ rfl { on := 1, ground := .data } (by simp) rfl
                have h1 : vs 2 = _ := hd _ rfl { on := 2, ground := .data } (by simp) rfl
                rw [h0, h1]
                exact wpOp_call rfl rfl (by go_simp; rfl) ((HON.out W7).mono fun e w'' ⟨he, hb'⟩ => ⟨_, he, rfl, hb'⟩)
            · have h0 : vs 0 = _ := hr 0 (by omega)
              have h3 : vs 3 = _ := hr 3 (by omega)
              rw [h0, h3, ← HFV.out]
              have HC7 := hid (HC6.out.trans (ChgA.below hb))
              have HE7 := hid (HE.out.kept HC7.out)
              have HL7 := hid (show LetAt W7 L (ls.set c bt) from (hb.block _ (lt_of_block HL6.out)).trans HL6.out)
              have HM7 := hid (HM6.out.kept (hb.block _ HM6.out.lt))
              have HW7 := hid ((hb.block _ (lt_of_block HW6.out)).trans HW6.out)
              have HB7 := hid ((hb.block _ (lt_of_block HB6.out)).trans HB6.out)
              obtain ⟨ca, hca⟩ : ∃ ca, aimA S n m q (f + 1) (ls.set c bt) (fixC fx c) (nxtB bt ⟨(i : Int), (j : Int), xd⟩) = ca := ⟨_, rfl⟩
              have HCA := hid (show Calls Try.prog 109 #[wayV (nxtB bt ⟨(i : Int), (j : Int), xd⟩), .pointer (some ⟨G, 0, none⟩), .pointer (some ⟨T, 0, none⟩), .pointer (some ⟨A, 0, none⟩), .pointer (some ⟨B, 0, none⟩), .pointer (some ⟨V, 0, none⟩), .pointer (some ⟨Al, 0, none⟩)] W7 (fun e W' => e = .returned (.int .i64 (ca : Int)) ∧ W7.grownBy W' (some Mb) ∧ ∃ k2, MetAt W' Mb k2 n m (fixC fx c) ∧ k2 + 1 ≤ k' + 3 ^ openN (n * m) (fixC fx c)) from by
                rw [← hca]
                exact HIH.out (ls.set c bt) (fixC fx c) (nxtB bt ⟨(i : Int), (j : Int), xd⟩) k' W7 HE7.out HL7.out HM7.out (by rw [List.length_set]; exact HLL.out) HDB.out hnd hni hnk (by
                rw [HPP.out]
                have hk6 := HK6.out
                have : t = 0 ∨ t = 1 ∨ t = 2 := by omega
                rcases this with rfl | rfl | rfl <;> omega))
              clear hr hb h0 h3
              simp only [List.drop_succ_cons, List.drop_zero, AimEnv.fn]
              go_wp2_with fail
              refine HCA.out.mono ?_
              rintro e w8 ⟨rfl, hgw, k8, hm8, hk8⟩
              have HC8 := hid (HC7.out.trans (ChgA.grown hgw))
              have HL8 := hid (show LetAt w8 L (ls.set c bt) from (hgw.block _ (lt_of_block HL7.out) (fun e => HE7.out.n3 (Option.some.inj e))).trans HL7.out)
              have HW8 := hid ((hgw.block _ (lt_of_block HW7.out) (fun e => HZ1.out.2 (Option.some.inj e))).trans HW7.out)
              have HB8 := hid ((hgw.block _ (lt_of_block HB7.out) (fun e => HZB.out.2 (Option.some.inj e))).trans HB7.out)
              have HM8 := hid hm8
              rw [HPP.out] at hk8
              have HK8 := hid (show k8 + (t + 1) ≤ k + 1 + (t + 1) * P by
                have hk6 := HK6.out
                have : t = 0 ∨ t = 1 ∨ t = 2 := by omega
                rcases this with rfl | rfl | rfl <;> omega)
              have hctt := HCT.out t
              rw [HBT.out, HNX.out] at hctt
              have hcle := aim_le (S := S) (n := n) (m := m) (q := q) (f + 1) (ls.set c bt) (fixC fx c) (nxtB bt ⟨(i : Int), (j : Int), xd⟩)
              rw [hca] at hctt hcle
              have hst := HST.out t
              rw [HLV.out] at hst
              have hca100 : (ca : Int) ≤ 100 := by omega
              have hlv100 : (lv : Int) ≤ 100 := by omega
              clear hgw hm8 hk8 hca HC7 HE7 HL7 HM7 HW7 HB7 HC6 HL6 HM6 HW6 HB6 HCA
              by_cases hbk : b = bt
              · have hbi : ((bt.toNat : Nat) : Int) = ((b.toNat : Nat) : Int) := by rw [hbk]
                rw [if_pos hbk] at hctt
                have HS2 := hid (show leastTo S ct (t + 1) = min lv ca by rw [hst, hctt]; rfl)
                clear hst hctt
                go_wp2_with fail
                go_roundw
                case rel => exact ⟨t + 1, by omega, by go_num, by rw [HS2.out]; congr 1; split <;> omega, hid ⟨ls.set c bt, k8, HL8.out, fun b => by rw [List.set_set], by rw [List.length_set], HM8.out, HK8.out⟩, HC8.out, HW8.out, HB8.out⟩
                case measure => simp [intOf]; omega
              · have hbi : ¬ ((bt.toNat : Nat) : Int) = ((b.toNat : Nat) : Int) := fun e => hbk (UInt8.toNat_inj.1 (by omega))
                rw [if_neg hbk] at hctt
                have HS2 := hid (show leastTo S ct (t + 1) = min lv (ca + 1) by rw [hst, hctt])
                clear hst hctt
                go_wp2_with fail
                go_roundw
                case rel => exact ⟨t + 1, by omega, by go_num, by rw [HS2.out]; congr 1; split <;> omega, hid ⟨ls.set c bt, k8, HL8.out, fun b => by rw [List.set_set], by rw [List.length_set], HM8.out, HK8.out⟩, HC8.out, HW8.out, HB8.out⟩
                case measure => simp [intOf]; omega
          · obtain rfl : t = 3 := by omega
            obtain ⟨lsj, k', hl', hset, hlen', hm', hk'⟩ := HX.out
            have hsame : lsj.set c b = ls := by
              rw [hset b]
              obtain ⟨h1, h2⟩ := List.getElem?_eq_some_iff.1 HBB.out
              rw [← h2, List.set_getElem_self]
            have HSAME := hid hsame
            have HLEN := hid hlen'
            have HI0 := hid (show EndI wr L c z Mb n m i j k' b ls lsj fx ⟨(i : Int), (j : Int), xd⟩ (fun _ => false) (fun _ => undef) wr from ⟨ChgA.refl _ _ _, HWZ.out, hl', hm', fun io _ h => by cases h⟩)
            have HKE := hid hk'
            have hkm : k' < maxLen := by unfold maxLen; omega
            have HKM := hid hkm
            clear hl' hset hlen' hm' hk' hsame hkm HX
            go_wp2_with fail
            refine wp_region_linA (by kernel_rfl) (by kernel_rfl) 8 (by kernel_rfl) (fun vs => { tmps := #[.agg (wayC ⟨(i : Int), (j : Int), xd⟩), .pointer (some ⟨G, 0, none⟩), .pointer (some ⟨T, 0, none⟩), .pointer (some ⟨A, 0, none⟩), .pointer (some ⟨B, 0, none⟩), .pointer (some ⟨V, 0, none⟩), .pointer (some ⟨Al, 0, none⟩), .pointer (some ⟨z, 0, none⟩), .int .i64 0, .pointer (some ⟨L, c, none⟩), .int .u8 b.toNat, .int .i64 (lv : Int), undef, u13, u14, .agg (gcells n m ls0), .pointer (some ⟨z, 0, none⟩), .agg #[.int .i64 (i : Int), .int .i64 (j : Int)], .bool true, .bool false, undef, undef, undef, undef, undef, undef, .slice (some ⟨R, 0, none⟩) n cap, .pointer (some ⟨z, 0, none⟩), .agg #[.int .i64 (i : Int), .int .i64 (j : Int)], .pointer (some ⟨L, c, none⟩), .map (some Mb), .pointer (some ⟨z, 0, none⟩), .agg #[.int .i64 (i : Int), .int .i64 (j : Int)], .bool false, undef, undef, undef, undef, undef, undef, undef, us 0, us 1, .int .u8 b.toNat, .int .i64 (S : Int), .map (some Mb), .pointer (some ⟨z, 0, none⟩), .agg #[.int .i64 (i : Int), .int .i64 (j : Int)], .slice (some ⟨zb, 0, none⟩) 3 3, .slice (some ⟨zb, 0, none⟩) 3 3, .int .i64 3, .int .i64 ((3 : Nat) : Int), .bool false, u53, u54, u55, u56, u57, u58, u59, u60, u61, u62, u63, u64, u65, u66, u67, u68, u69, u70, u71, vs 0, vs 1, vs 2, vs 3, vs 4, vs 5, undef], defers := [] }) (fun _ => undef) rfl (fun s vs W9 => EndI wr L c z Mb n m i j k' b ls lsj fx ⟨(i : Int), (j : Int), xd⟩ s vs W9) (fun s hs => ⟨ChgA.below (Below.refl _ wr).drew, HI0.out.zz, by rw [hs 6 (by omega)]; exact HI0.out.ll, by rw [hs 7 (by omega)]; exact HI0.out.mm, fun io h1 h2 => by rw [hs io h1] at h2; cases h2⟩) (fun io vs v hi => ?_) (fun io s vs W9 hi hsi hd hI => ?_) (fun s vs W9 hs hI => ?_)
            · match io, hi with
              | 0, _ => rfl
              | 1, _ => rfl
              | 2, _ => rfl
              | 3, _ => rfl
              | 4, _ => rfl
              | 5, _ => rfl
              | 6, _ => rfl
              | 7, _ => rfl
            · have HI := hid hI
              have HV := hid hI.vv
              have HE9 := hid (HE.out.kept (HC.out.trans hI.ch))
              have hvm := HE9.out.v.cell
              have HRG := hid (HWR.out W9 hI.zz)
              clear hI
              match io, hi with
              | 0, _ => exact wpOp_runA rfl rfl (by go_simp) ⟨_, rfl, HI.out.read 0 _ (by omega) rfl⟩
              | 1, _ => exact wpOp_runA rfl rfl (by go_simp) ⟨_, rfl, HI.out.read 1 _ (by omega) rfl⟩
              | 2, _ => exact wpOp_runA rfl rfl (by go_simp) ⟨_, rfl, HI.out.read 2 _ (by omega) rfl⟩
              | 3, _ =>
                have h0 : vs 2 = _ := HV.out 2 (by omega) (hd _ rfl { on := 2, ground := .data } (by simp) rfl)
                rw [h0]
                exact wpOp_runA rfl rfl (exec_load_mid 105 _ rfl z 0 rfl #[.int .i64 (i : Int), .int .i64 (j : Int)] _ HRG.out Try.underlying105 rfl Try.size_place) ⟨_, rfl, HI.out.read 3 _ (by omega) rfl⟩
              | 4, _ => exact wpOp_runA rfl rfl (by go_simp) ⟨_, rfl, HI.out.read 4 _ (by omega) rfl⟩
              | 5, _ =>
                have h0 : vs 0 = _ := HV.out 0 (by omega) (hd _ rfl { on := 0, ground := .data } (by simp) rfl)
                rw [h0]
                exact wpOp_runA rfl rfl (by go_simp) ⟨_, rfl, HI.out.read 5 _ (by omega) rfl⟩
              | 6, _ =>
                have h0 : vs 5 = _ := HV.out 5 (by omega) (hd _ rfl { on := 5, ground := .data } (by simp) rfl)
                have h1 : vs 4 = _ := HV.out 4 (by omega) (hd _ rfl { on := 4, ground := .data } (by simp) rfl)
                rw [h0, h1]
                have hl := HI.out.ll
                rw [hsi] at hl
                obtain ⟨u, hu⟩ : ∃ u, lsj[c]? = some u := ⟨_, List.getElem?_eq_getElem (by rw [HLEN.out, HLL.out]; exact HCN.out)⟩
                have hcl := LetAt.cell (show LetAt W9 L lsj from hl) hu
                have hcf := LetAt.free (c := c) (show LetAt W9 L lsj from hl)
                have HL := hid (show LetAt W9 L lsj from hl)
                clear hl hu
                refine wpOp_skipA (w' := W9.setCell ⟨L, c, none⟩ (.int .u8 b.toNat)) rfl rfl (by go_simp) ⟨undef, rfl, HI.out.ch.trans (ChgA.cell L Mb c W9 _), (Below.heap_setCell W9 ⟨L, c, none⟩ (.int .u8 b.toNat) z HZ1.out.1).trans HI.out.zz, ?_, ?_, lin_step HV.out trivial⟩
                · rw [if_pos (show (if 6 = 6 then true else s 6) = true from rfl), ← HSAME.out]
                  exact LetAt.set HL.out b
                · exact HI.out.mm.kept (Below.heap_setCell W9 ⟨L, c, none⟩ (.int .u8 b.toNat) Mb (fun e => HE.out.n3 (show L = Mb from e.symm)))
              | 7, _ =>
                have h0 : vs 1 = _ := HV.out 1 (by omega) (hd _ rfl { on := 1, ground := .data } (by simp) rfl)
                have h1 : vs 3 = _ := HV.out 3 (by omega) (hd _ rfl { on := 3, ground := .data } (by simp) rfl)
                rw [h0, h1]
                have hm := HI.out.mm
                rw [hsi] at hm
                refine wpOp_store_plc rfl rfl _ _ _ rfl rfl (show MetAt W9 Mb k' n m (fixC fx c) from hm) hn5 hm5 hin' hjm HKM.out false rfl rfl ?_
                intro w' hm2 hg2
                refine ⟨undef, rfl, HI.out.ch.trans (ChgA.grown hg2), (hg2.block _ (lt_of_block HI.out.zz) (fun e => HZ1.out.2 (Option.some.inj e))).trans HI.out.zz, ?_, ?_, lin_step HV.out trivial⟩
                · exact (show LetAt w' L (if s 6 = true then ls else lsj) from (hg2.block _ (lt_of_block HI.out.ll) (fun e => HE.out.n3 (Option.some.inj e))).trans HI.out.ll)
                · show MetAt w' Mb (k' + 1) n m fx
                  have e : setB (fixC fx c) c false = fx := setB_fix hfx
                  rw [← e]
                  rw [hc] at hm2
                  exact hm2
            · have hl := hI.ll
              have hm := hI.mm
              rw [hs 6 (by omega)] at hl
              rw [hs 7 (by omega)] at hm
              have HL9 := hid (show LetAt W9 L ls from hl)
              have HM9 := hid (show MetAt W9 Mb (k' + 1) n m fx from hm)
              have HC9 := hid (HC.out.trans hI.ch)
              have HAE := hid (show aimA S n m q (f + 1 + 1) ls fx ⟨(i : Int), (j : Int), xd⟩ = lv from HAO.out.trans HLV.out)
              have HKF := hid (show k' + 1 + 1 ≤ k + 3 ^ openN (n * m) fx by rw [HPW.out]; have := HKE.out; omega)
              clear hl hm hI
              go_wp2_with fail
              go_ret
              exact ⟨by rw [HAE.out]; rfl, HC9.out.toGrown HLE.out HL9.out, k' + 1, HM9.out, HKF.out⟩
end Go.Proofs.Ytminailbhgimkaa
