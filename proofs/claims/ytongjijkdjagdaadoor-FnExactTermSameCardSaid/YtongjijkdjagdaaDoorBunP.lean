/- Settled texts in one file. Each begins with what it holds. -/
import Derived.Test.YtongjijkdjagdaaDoorBunF
import Derived.Test.YtongjijkdjagdaaDoorBunO
import Derived.StillTailTactics
import Derived.Test.YtongjijkdjagdaaDoorBunA
import Derived.Maps.AppendAt
/- BeamPairs of the specification and of the program, by their contracts. -/
namespace Go.Proofs.YtongjijkdjagdaaDoor
open Go.RowKit Go.Shelf

def pairsR (n m : Nat) (t : Int → Int → UInt8) : List Int := (List.range (2 * (n + m))).map fun p => ((bend_ n m t p : Nat) : Int)
theorem pairsR_length (n m : Nat) (t : Int → Int → UInt8) : (pairsR n m t).length = 2 * (n + m) := by simp [pairsR]
theorem pairsR_at {n m p : Nat} {t : Int → Int → UInt8} (h : p < 2 * (n + m)) : (pairsR n m t)[p]? = some ((bend_ n m t p : Nat) : Int) := by simp [pairsR, h]
/-- What BeamPairs comes to. -/
def PairsOut (ss : List ByteArray) (l : List Int) (ok : Bool) : Prop :=
  (∃ n m, IsGrid n m ss ∧ l = pairsR n m (lett m (pad (flat ss))) ∧ ok = true) ∨ (NoGrid ss ∧ l = [] ∧ ok = false)
theorem PairsOut.uniq {ss : List ByteArray} {l l' : List Int} {ok ok' : Bool} (h : PairsOut ss l ok) (h' : PairsOut ss l' ok') : ok' = ok ∧ l' = l := by
  rcases h with ⟨n, m, h1, rfl, rfl⟩ | ⟨h1, rfl, rfl⟩ <;> rcases h' with ⟨n', m', h1', rfl, rfl⟩ | ⟨h1', rfl, rfl⟩
  · obtain ⟨rfl, rfl⟩ := h1.uniq h1'
    exact ⟨rfl, rfl⟩
  · exact absurd h1 (h1' _ _)
  · exact absurd h1' (h1 _ _)
  · exact ⟨rfl, rfl⟩
theorem PairsOut.len {ss : List ByteArray} {l : List Int} {ok : Bool} (h : PairsOut ss l ok) : l.length ≤ 1048576 := by
  rcases h with ⟨n, m, h1, rfl, _⟩ | ⟨_, rfl, _⟩
  · have h2 := h1.2.2.1
    have h3 := h1.2.2.2.2.1
    rw [pairsR_length]; omega
  · simp
theorem GrowI.below' {w w' : World} {base : Nat} {v : Value} {l : List Int} (h : GrowI w base v l) (hb : Below w.heap.size w w') : GrowI w' base v l := by
  refine World.ownsRow.kept h (Cls.grown hb) ?_
  cases v.ownBlock with
  | none => exact .inl rfl
  | some k => exact .inr (fun e => by cases e)

def PrRel (l : List Int) (w : World) (v i : Value) (wr : World) : Prop :=
  ∃ k : Nat, k ≤ l.length ∧ i = .int .i64 k ∧ GrowI wr w.heap.size v (l.take k) ∧ Below w.heap.size w wr

def PiRel (l : List Int) (N R g : Nat) (cs : Array Value) (w : World) (i : Value) (wr : World) : Prop :=
  ∃ k : Nat, k ≤ N ∧ i = .int .i64 k ∧ wr.heap[g]? = some (.cells cs 39 (0, 0)) ∧ Below w.heap.size w wr ∧
    ∃ rs : Array Value, wr.heap[R]? = some (.cells rs 3 (0, 0)) ∧ rs.size = N ∧ (∀ j x, j < k → l[j]? = some x → rs[j]? = some (.int .i64 x)) ∧ ∀ j, j < N → ∃ u : Int, rs[j]? = some (.int .i64 u)

end Go.Proofs.YtongjijkdjagdaaDoor

/- BeamFirst of the program, by its contract. -/
namespace Go.Proofs.YtongjijkdjagdaaDoor
open Go.RowKit Go.Shelf
attribute [local go_sem] Oper.semAt_some

/-- Ways of which the last one alone has a mirror. -/
def LastMirror {L : Nat} (t : Int → Int → UInt8) (bw : Nat → Wy) (pre : List (Fin L)) (v : Int) (m : Nat) : Prop :=
  ∃ pre0 x, pre = pre0 ++ [x] ∧ (∀ y ∈ pre0, mirrorAt t bw y.val = false) ∧ mirrorAt t bw x.val = true ∧ v = ((cellN m (bw x.val) : Nat) : Int)
theorem first_upto {L k m : Nat} {t : Int → Int → UInt8} {bw : Nat → Wy} {v : Int} (hk : k ≤ L) (h : LastMirror t bw (upto L k) v m) : ∃ j, (List.range L).find? (mirrorAt t bw) = some j ∧ v = ((cellN m (bw j) : Nat) : Int) := by
  obtain ⟨pre0, x, e, h0, h1, hv⟩ := h
  cases k with
  | zero =>
    rw [upto_zero] at e
    have := congrArg List.length e
    simp at this
  | succ k =>
    rw [upto_succ (by omega)] at e
    obtain ⟨e1, e2⟩ := List.append_inj' e rfl
    subst e1
    have e3 : x.val = k := by
      have : (⟨k, by omega⟩ : Fin L) = x := by simpa using e2
      rw [← this]
    rw [e3] at h1 hv
    refine ⟨k, List.find?_range_eq_some.2 ⟨h1, List.mem_range.2 (by omega), fun j hj => ?_⟩, hv⟩
    have hm : (⟨j, by omega⟩ : Fin L) ∈ upto L k := by
      unfold upto
      rw [List.mem_take_iff_getElem]
      exact ⟨j, by simp; omega, by simp⟩
    rw [h0 _ hm]; rfl
theorem none_all {L : Nat} {t : Int → Int → UInt8} {bw : Nat → Wy} (h : ∀ y ∈ List.finRange L, mirrorAt t bw y.val = false) : (List.range L).find? (mirrorAt t bw) = none :=
  List.find?_eq_none.2 fun j hj => by rw [h ⟨j, List.mem_range.1 hj⟩ (List.mem_finRange _)]; decide

end Go.Proofs.YtongjijkdjagdaaDoor

/- BeamSides of the specification and of the program, by their contracts. -/
namespace Go.Proofs.YtongjijkdjagdaaDoor
open Go.RowKit Go.Shelf

/-- How often a beam's first k ways go in a heading. -/
def headsTo (bw : Nat → Wy) (k d : Nat) : Nat := (List.range k).countP fun j => (bw j).d == d
theorem headsTo_succ (bw : Nat → Wy) (k d : Nat) : headsTo bw (k + 1) d = headsTo bw k d + (if ((bw k).d == d) = true then 1 else 0) := by
  unfold headsTo
  rw [List.range_succ, List.countP_append, List.countP_cons, List.countP_nil, Nat.zero_add]
theorem headsTo_le (bw : Nat → Wy) (k d : Nat) : headsTo bw k d ≤ k := by
  have := List.countP_le_length (p := fun j => (bw j).d == d) (l := List.range k)
  rwa [List.length_range] at this
def sidesL (f : Nat → Nat) : List Int := (List.range 4).map fun d => ((f d : Nat) : Int)
def sidesR (n m : Nat) (t : Int → Int → UInt8) (q : Nat) : List Int := sidesL (headsTo (bway n m t q) (blen n m t q))
theorem sidesL_at {f : Nat → Nat} {d : Nat} {x : Int} (h : (sidesL f)[d]? = some x) : d < 4 ∧ x = ((f d : Nat) : Int) := by
  have hd := (List.getElem?_eq_some_iff.1 h).1
  simp only [sidesL, List.length_map, List.length_range] at hd
  simp [sidesL, hd] at h
  exact ⟨hd, h.symm⟩
/-- A row of four counts. -/
def Row4 (W : World) (R : Nat) (f : Nat → Nat) : Prop := ∃ rs : Array Value, W.heap[R]? = some (.cells rs 3 (0, 0)) ∧ rs.size = 4 ∧ ∀ d, d < 4 → rs[d]? = some (.int .i64 ((f d : Nat) : Int))
theorem Row4.row8 {W : World} {R : Nat} {f : Nat → Nat} (h : Row4 W R f) : Row8 W R (sidesL f) := by
  obtain ⟨rs, h1, _, h3⟩ := h
  refine ⟨rs, h1, fun k x hx => ?_⟩
  obtain ⟨hk, rfl⟩ := sidesL_at hx
  exact h3 k hk
theorem Row4.cell {W : World} {R : Nat} {f : Nat → Nat} (h : Row4 W R f) {d : Nat} (hd : d < 4) : W.cell? ⟨R, d, none⟩ = some (.int .i64 ((f d : Nat) : Int)) ∧ W.frozen? ⟨R, d, none⟩ = false := by
  obtain ⟨rs, h1, _, h3⟩ := h
  exact ⟨by rw [cell_of_row _ _ _ _ _ _ h1]; exact h3 d hd, frozen_of_row _ _ _ _ _ h1⟩
theorem Row4.set {W : World} {R : Nat} {f g : Nat → Nat} (h : Row4 W R f) {d : Nat} {x : Int} (hx : x = ((g d : Nat) : Int)) (ho : ∀ e, e ≠ d → g e = f e) : Row4 (W.setCell ⟨R, d, none⟩ (.int .i64 x)) R g := by
  obtain ⟨rs, h1, h2, h3⟩ := h
  refine ⟨_, heap_setCell_same _ _ _ _ _ _ h1, by simp [h2], fun e he => ?_⟩
  by_cases hed : e = d
  · subst hed
    rw [Array.getElem?_setIfInBounds_self_of_lt (by omega), hx]
  · rw [Array.getElem?_setIfInBounds_ne (fun e' => hed e'.symm), ho e hed]; exact h3 e he
theorem Row4.same {W W' : World} {R : Nat} {f : Nat → Nat} (h : Row4 W R f) (hs : W'.heap[R]? = W.heap[R]?) : Row4 W' R f := by
  obtain ⟨rs, h1, h2⟩ := h
  exact ⟨rs, hs.trans h1, h2⟩
theorem Row4.lt {W : World} {R : Nat} {f : Nat → Nat} (h : Row4 W R f) : R < W.heap.size := by
  obtain ⟨rs, h1, _⟩ := h
  exact lt_of_block h1
theorem Row4.made {W : World} {R : Nat} (h : W.heap[R]? = some (.cells (madeCells #[.int .i64 0] 4) 3 (0, 0))) (bw : Nat → Wy) : Row4 W R (headsTo bw 0) :=
  ⟨_, h, size_madeCells _ _, fun d hd => by simp [madeCells, hd, Nat.mod_one, headsTo]⟩

def SdRel (bw : Nat → Wy) (L R : Nat) (w1 : World) (i : Value) (wr : World) : Prop :=
  ∃ k : Nat, k ≤ L ∧ i = .int .i64 k ∧ Row4 wr R (headsTo bw k) ∧ But R w1 wr
theorem headsI_at {L k : Nat} {bw : Nat → Wy} (h : k < L) : (headsI bw L)[k]? = some (((bw k).d : Nat) : Int) := by simp [headsI, h]

attribute [local go_sem] Oper.semAt_some

/-- How often the ways that have come go in a heading. -/
def headsW {L : Nat} (bw : Nat → Wy) (pre : List (Fin L)) (d : Nat) : Nat := pre.countP fun x => (bw x.val).d == d
theorem headsW_snoc {L : Nat} (bw : Nat → Wy) (pre : List (Fin L)) (x : Fin L) (d : Nat) : headsW bw (pre ++ [x]) d = headsW bw pre d + (if ((bw x.val).d == d) = true then 1 else 0) := by
  simp [headsW, List.countP_append, List.countP_cons]
theorem headsW_le {L : Nat} (bw : Nat → Wy) (pre : List (Fin L)) (d : Nat) : headsW bw pre d ≤ pre.length := List.countP_le_length
theorem headsW_all (L : Nat) (bw : Nat → Wy) : headsW bw (List.finRange L) = headsTo bw L := by
  funext d
  unfold headsW headsTo
  have e := upto_val (N := L) (k := L) (Nat.le_refl _)
  rw [upto_all] at e
  rw [← e, List.countP_map]
  rfl

end Go.Proofs.YtongjijkdjagdaaDoor

/- A region that draws its order inside a fence that lets every function in: its first operation is a load whose value stands as long as a word S on the world holds; it may come up late, even behind operation n, which makes memory (the one-element slice of an append). No program is named. -/
namespace Go.Proofs.YtongjijkdjagdaaDoor
open Go Go.RowKit

section
variable {F : Fence} {m : Nat} {P : Program} {ops : Array Oper} {md : Region.Mode} {C S : World → Prop} {Q : Exit → Act → World → Prop}

/-- Whatever order is picked, and S holds behind every operation before number b. -/
def anyF (F : Fence) (m : Nat) (P : Program) (md : Region.Mode) (ops : Array Oper) (Q : Exit → Act → World → Prop) (S : World → Prop) (b : Nat) : Nat → Array Bool → Act → World → Prop
  | 0, listed, a, w => Region.ready md ops listed = [] ∧ Q .normal a w
  | f + 1, listed, a, w =>
    (Region.ready md ops listed = [] → Q .normal a w) ∧
    ∀ i ∈ Region.ready md ops listed, wpOpIn F m P ops Q i (fun a' w' => (i < b → S w') ∧ anyF F m P md ops Q S b f (listed.setIfInBounds i true) a' w') a w
theorem anyF_any {b : Nat} : ∀ (f : Nat) (listed : Array Bool) (a : Act) (w : World), anyF F m P md ops Q S b f listed a w → wpAnyIn F m P md ops Q f listed a w
  | 0, _, _, _, h => h
  | f + 1, _, _, _, h => ⟨h.1, fun i hi => wpOpIn_mono (fun a' w' h' => anyF_any f _ a' w' h'.2) (h.2 i hi)⟩

/-- The operation yields v in every world with S. -/
def Floats (P : Program) (S : World → Prop) (o : Oper) (v : Value) (a : Act) : Prop := ∀ w, S w → (execOp a.eval o).run P w = .ok (.value v) w
theorem wanted_none {o : Oper} (h : o.guard = none) (ts) : Region.wanted o ts = true := by simp [Region.wanted, h]
theorem wpOpIn_run (hO : Open F P) (hnd : noDefer ops = true) {i : Nat} {o : Oper} (hi : ops[i]? = some o) (hg : o.guard = none) {u : Value} {a : Act} {w w' : World} {K : Act → World → Prop}
    (hr : (execOp a.eval o).run P w = .ok (.value u) w') (h : K (a.put o.dst u) w') : wpOpIn F m P ops Q i K a w := by
  unfold wpOpIn
  simp only [hi]
  rw [if_pos (wanted_none hg _)]
  unfold Oper.wpIn
  refine ⟨fun f _ => hO.fn f, ?_⟩
  rw [Oper.semAt_eq _ _ _ (noDefer_spec hnd hi), hr, Oper.uponIn_value]
  exact h

theorem float_put (hO : Open F P) (hnd : noDefer ops = true) {j : Nat} {oi oj : Oper} {v : Value} (hj : ops[j]? = some oj) (hap : oi.apart ops oj = true)
    (hsi : ∀ cs b, oi.op ≠ .select cs b) (hsj : ∀ cs b, oj.op ≠ .select cs b) (hQ : ∀ c a w, Q (.panic c) (a.put oi.dst v) w → Q (.panic c) a w)
    {K : Act → World → Prop} {a : Act} {w : World} (hy : Floats P S oi v a) (h : wpOpIn F m P ops Q j K (a.put oi.dst v) w) :
    wpOpIn F m P ops Q j (fun a' w' => Floats P S oi v a' ∧ K (a'.put oi.dst v) w') a w := by
  obtain ⟨h1, h2, h3⟩ := Oper.apart_spec hap
  have keep : ∀ (a : Act), Floats P S oi v a → ∀ u, Floats P S oi v (a.put oj.dst u) := fun a hy u w hw => by
    rw [execOp_put oi hsi a oj.dst u h3]; exact hy w hw
  unfold wpOpIn at h ⊢
  simp only [hj] at h ⊢
  rw [wanted_put oj a oi.dst v h1] at h
  by_cases hw : Region.wanted oj (yielded ops a.tmps) = true
  · rw [if_pos hw] at h ⊢
    unfold Oper.wpIn at h ⊢
    refine ⟨fun f _ => hO.fn f, ?_⟩
    have h := h.2
    rw [Oper.semAt_eq _ _ _ (noDefer_spec hnd hj)] at h ⊢
    rw [execOp_put oj hsj a oi.dst v h1] at h
    generalize (execOp a.eval oj).run P w = r at *
    have one : ∀ (u : Value) (w' : World), K ((a.put oi.dst v).put oj.dst u) w' → Floats P S oi v (a.put oj.dst u) ∧ K ((a.put oj.dst u).put oi.dst v) w' := fun u w' hk => ⟨keep a hy u, by rw [← Act.put_comm a v u h2]; exact hk⟩
    cases r with
    | ok x w' =>
      cases x <;> simp only [Oper.uponIn] at h ⊢
      case value u => exact one u w' h
      case skip => exact one undef w' h
      case defer d =>
        refine ⟨fun w0 hw0 => ?_, ?_⟩
        · have := keep { a with defers := d :: a.defers } hy undef
          exact this w0 hw0
        · rw [← Act.put_comm _ v undef h2, ← Act.put_defers]
          exact h
      case enter f args =>
        refine ⟨h.1, CallsIn.mono h.2 fun e w'' he => ?_⟩
        cases e with
        | returned u => exact one u w'' he
        | panicked c => exact hQ _ _ _ he
        | outgrown => exact he
      case row row args => exact ⟨h.1, RowsIn.mono h.2 fun u w'' he => one u w'' he⟩
      case round l f tmps assign body =>
        refine ⟨h.1, RoundIn.mono h.2 fun e w'' he => ?_⟩
        cases e with
        | returned u => exact one u w'' he
        | panicked c => exact hQ _ _ _ he
        | outgrown => exact he
    | halt x w' =>
      cases x <;> simp only [Oper.uponIn] at h ⊢
      case panic u => exact hQ _ _ _ h
  · rw [if_neg hw] at h ⊢
    exact ⟨fun f _ => hO.fn f, keep a hy _, by rw [← Act.put_comm a v undef h2]; exact h.2⟩

theorem float_first (hO : Open F P) (hnd : noDefer ops = true) {b z : Nat} {oz : Oper} {v : Value} (hz : ops[z]? = some oz) (hgz : oz.guard = none) (hsel : ∀ (j : Nat) (o : Oper) cs b, ops[j]? = some o → o.op ≠ .select cs b)
    (hQ : ∀ c a w, Q (.panic c) (a.put oz.dst v) w → Q (.panic c) a w) (hdep : ∀ j oj, ops[j]? = some oj → b ≤ j → ∃ e ∈ oj.after, Region.binds md e = true ∧ e.on = z) :
    ∀ (f : Nat) (listed : Array Bool) (a : Act) (w : World),
      (∀ j oj, ops[j]? = some oj → j ≠ z → listed.getD j true = false → (∀ e ∈ oj.after, Region.binds md e = true → e.on ≠ z) → oz.apart ops oj = true) →
      z ∈ Region.ready md ops listed → Floats P S oz v a → S w → anyF F m P md ops Q S b f (listed.setIfInBounds z true) (a.put oz.dst v) w → anyF F m P md ops Q S b (f + 1) listed a w := by
  intro f
  induction f with
  | zero =>
    intro listed a w _ hr hy hS H
    refine ⟨fun h => (by rw [h] at hr; cases hr), fun j hj => ?_⟩
    by_cases hjz : j = z
    · subst hjz
      exact wpOpIn_run hO hnd hz hgz (hy w hS) ⟨fun _ => hS, H⟩
    · have := ready_mono hj hjz
      rw [H.1] at this
      cases this
  | succ f ih =>
    intro listed a w hfree hr hy hS H
    have hun := (mem_ready.1 hr).1
    refine ⟨fun h => (by rw [h] at hr; cases hr), fun j hj => ?_⟩
    by_cases hjz : j = z
    · subst hjz
      exact wpOpIn_run hO hnd hz hgz (hy w hS) ⟨fun _ => hS, H⟩
    · have h1 := H.2 j (ready_mono hj hjz)
      obtain ⟨hjun, oj, hoj, hall⟩ := mem_ready.1 hj
      have hnot : ∀ e ∈ oj.after, Region.binds md e = true → e.on ≠ z := fun e he hb heq => by
        have h1 := hall e he hb
        rw [heq, getD_both hun] at h1
        cases h1
      have hjb : j < b := Nat.lt_of_not_le fun hbj => by
        obtain ⟨e, he, hb, hon⟩ := hdep j oj hoj hbj
        exact hnot e he hb hon
      have h2 := float_put hO hnd hoj (hfree j oj hoj hjz hjun hnot) (fun cs b => hsel z oz cs b hz) (fun cs b => hsel j oj cs b hoj) hQ hy h1
      have hfree' : ∀ k ok, ops[k]? = some ok → k ≠ z → (listed.setIfInBounds j true).getD k true = false →
          (∀ e ∈ ok.after, Region.binds md e = true → e.on ≠ z) → oz.apart ops ok = true := fun k ok hk hkz hun hno => by
        refine hfree k ok hk hkz ?_ hno
        by_cases hjk : j = k
        · subst hjk; exact hjun
        · rw [getD_set_ne true hjk] at hun; exact hun
      refine wpOpIn_mono (fun a' w' h3 => ⟨fun _ => h3.2.1 hjb, ih (listed.setIfInBounds j true) a' w' hfree' (ready_mono hr (Ne.symm hjz)) h3.1 (h3.2.1 hjb) ?_⟩) h2
      rw [Array.setIfInBounds_comm _ _ hjz]
      exact h3.2.2

theorem anyF_of_head (hO : Open F P) (hnd : noDefer ops = true) (hCS : ∀ w, C w → S w) {b n g : Nat} {L : Array Bool → Act → Prop} (hL : ∀ listed a w, C w → L listed a → anyF F m P md ops Q S b g listed a w) :
    ∀ (f : Nat) (listed : Array Bool) (a : Act) (w : World), C w → anyQL P md ops C n L f listed a → anyF F m P md ops Q S b (f + g) listed a w
  | 0, listed, a, w, hw, h => by rw [Nat.zero_add]; exact hL _ _ _ hw h
  | f + 1, listed, a, w, hw, h => by
    rw [show f + 1 + g = (f + g) + 1 by omega]
    exact ⟨fun h0 => absurd h0 h.1, fun i hi => wpOpIn_of_q hO hnd hw (fun a' w' hw' h' => ⟨fun _ => hCS _ hw', anyF_of_head hO hnd hCS hL f _ a' w' hw' h'⟩) (h.2 i hi).2⟩

/-- From number s on, every operation of the head is waited for. -/
def sinkFrom (md : Region.Mode) (ops : Array Oper) (s n : Nat) : Bool :=
  (List.range n).all fun i => decide (i < s) || (List.range (n + 1)).any fun j => decide (i < j) && Region.waitsFor md ops j i
theorem waits_from {s n : Nat} {listed : Array Bool} (hs : sinkFrom md ops s n = true) (hc : Region.chainB md ops n = true) (inv : HeadInv md ops n listed) :
    ∀ (d i : Nat), n - i = d → s ≤ i → i < n → listed.getD i true = false → ∀ t, n ≤ t → t ∉ Region.ready md ops listed := by
  intro d
  induction d using Nat.strongRecOn with
  | _ d ih =>
    intro i hd hsi hi hun t ht hr
    obtain ⟨_, ot, hot, hall⟩ := mem_ready.1 hr
    have htlt : t < ops.size := (Array.getElem?_eq_some_iff.1 hot).1
    by_cases htn : t = n
    · subst htn
      have h1 := List.all_eq_true.1 hs i (List.mem_range.2 hi)
      rw [Bool.or_eq_true, decide_eq_true_iff] at h1
      obtain ⟨j, hj, hj2⟩ := List.any_eq_true.1 (h1.resolve_left (by omega))
      simp only [Bool.and_eq_true, decide_eq_true_eq] at hj2
      obtain ⟨oj, hoj, e, he, hb, hon⟩ := Region.waitsFor_spec hj2.2
      have hj3 := List.mem_range.1 hj
      by_cases hjt : j = t
      · subst hjt
        have : oj = ot := Option.some.inj (hoj.symm.trans hot)
        subst this
        have h5 := hall e he hb
        rw [hon, getD_both hun] at h5
        cases h5
      · have hjun : listed.getD j true = false := by
          have hjs : j < listed.size := by rw [inv.size]; exact (Array.getElem?_eq_some_iff.1 hoj).1
          refine getD_in hjs ?_
          cases hl : listed.getD j false with
          | false => rfl
          | true =>
            have h5 := inv.closed j oj hoj hl e he hb
            rw [hon, getD_both hun] at h5
            cases h5
        exact ih (t - j) (by omega) j rfl (by omega) (by omega) hjun t (Nat.le_refl _) hr
    · have h1 := List.all_eq_true.1 hc t (List.mem_range.2 htlt)
      rw [Bool.or_eq_true, decide_eq_true_iff] at h1
      obtain ⟨o', ho', e, he, hb, hon⟩ := Region.waitsFor_spec (h1.resolve_left (by omega))
      have : o' = ot := Option.some.inj (ho'.symm.trans hot)
      subst this
      have h5 := hall e he hb
      have h6 := inv.tail (t - 1) (by omega) (by omega)
      rw [hon, getD_both h6] at h5
      cases h5

theorem anyQF_first {s n i : Nat} {oi : Oper} {v : Value} {L : Array Bool → Act → Prop} (hi : ops[i]? = some oi) (hsel : ∀ (j : Nat) (o : Oper) cs b, ops[j]? = some o → o.op ≠ .select cs b)
    (hs : sinkFrom md ops s n = true) (hc : Region.chainB md ops n = true) (hsi : s ≤ i) (hin : i < n)
    (hdone : ∀ listed a, L listed a → ∀ j ∈ Region.ready md ops listed, n ≤ j) :
    ∀ (f : Nat) (listed : Array Bool) (a : Act), HeadInv md ops n listed →
      (∀ j oj, ops[j]? = some oj → j ≠ i → listed.getD j true = false → (∀ e ∈ oj.after, Region.binds md e = true → e.on ≠ i) → oi.apart ops oj = true) →
      i ∈ Region.ready md ops listed → YieldsIn P ops C oi v a →
      anyQL P md ops C n L f (listed.setIfInBounds i true) (a.put oi.dst v) → anyQL P md ops C n L (f + 1) listed a := by
  intro f
  induction f with
  | zero =>
    intro listed a inv _ hr hy H
    have hun := (mem_ready.1 hr).1
    refine ⟨fun h => (by rw [h] at hr; cases hr), fun j hj => ?_⟩
    have hjn : j < n := Nat.lt_of_not_le fun h => waits_from hs hc inv _ i rfl hsi hin hun j h hj
    refine ⟨hjn, ?_⟩
    by_cases hji : j = i
    · subst hji; exact hy.qOp hi H
    · have := hdone _ _ H j (ready_mono hj hji)
      omega
  | succ f ih =>
    intro listed a inv hfree hr hy H
    have hun := (mem_ready.1 hr).1
    refine ⟨fun h => (by rw [h] at hr; cases hr), fun j hj => ?_⟩
    have hjn : j < n := Nat.lt_of_not_le fun h => waits_from hs hc inv _ i rfl hsi hin hun j h hj
    refine ⟨hjn, ?_⟩
    by_cases hji : j = i
    · subst hji; exact hy.qOp hi H
    · have h1 := (H.2 j (ready_mono hj hji)).2
      obtain ⟨hjun, oj, hoj, hall⟩ := mem_ready.1 hj
      have hnot : ∀ e ∈ oj.after, Region.binds md e = true → e.on ≠ i := fun e he hb heq => by
        have h1 := hall e he hb
        rw [heq, getD_both hun] at h1
        cases h1
      have h2 := qOp_put hoj (hfree j oj hoj hji hjun hnot) (fun cs b => hsel i oi cs b hi) (fun cs b => hsel j oj cs b hoj) hy h1
      have hfree' : ∀ k ok, ops[k]? = some ok → k ≠ i → (listed.setIfInBounds j true).getD k true = false →
          (∀ e ∈ ok.after, Region.binds md e = true → e.on ≠ i) → oi.apart ops ok = true := fun k ok hk hki hun hno => by
        refine hfree k ok hk hki ?_ hno
        by_cases hjk : j = k
        · subst hjk; exact hjun
        · rw [getD_set_ne true hjk] at hun; exact hun
      refine qOp_mono (fun a' h3 => ih (listed.setIfInBounds j true) a' (inv.set hj hjn) hfree' (ready_mono hr (Ne.symm hji)) h3.1 ?_) h2
      rw [Array.setIfInBounds_comm _ _ hji]
      exact h3.2

theorem anyQF_lex {s n g : Nat} {Lq : Act → Prop} (hsel : Region.noSelect ops = true) (hs : sinkFrom md ops s n = true) (hc : Region.chainB md ops n = true) :
    ∀ (l : List Oper) (k : Nat) (listed : Array Bool) (a : Act), (∀ j, j < l.length → l[j]? = ops[k + j]?) → k + l.length = n → s ≤ k → HeadInv md ops n listed →
    Region.lexHead md ops g l.length k listed = true → wpQuiet P ops C Lq l a →
    anyQL P md ops C n (fun listed' a' => Region.seqB md ops g n listed' = true ∧ Lq a') l.length listed a
  | [], k, listed, a, _, hk, _, _, hB, h => by
    have : k = n := by simpa using hk
    subst this
    exact ⟨by simpa [Region.lexHead] using hB, h⟩
  | o :: l, k, listed, a, hl, hk, hsk, inv, hB, h => by
    have h0 : ops[k]? = some o := by simpa using (hl 0 (by simp)).symm
    simp only [List.length_cons, Region.lexHead, Bool.and_eq_true] at hB
    obtain ⟨⟨hr, hf⟩, hB'⟩ := hB
    have hkn : k < n := by simp only [List.length_cons] at hk; omega
    have hr' : k ∈ Region.ready md ops listed := by simpa using hr
    have hst : qOp P ops C k (wpQuiet P ops C Lq l) a := by unfold qOp; simp only [h0]; exact h
    obtain ⟨v, hy, hK⟩ := yieldsIn_of_qOp h0 hst
    exact anyQF_first h0 (Region.noSelect_spec hsel) hs hc hsk hkn (fun listed' a' hL => seqB_ready hL.1) l.length listed a inv (Region.free_spec h0 hf) hr' hy
      (anyQF_lex hsel hs hc l (k + 1) _ _ (fun j hj => by have := hl (j + 1) (by simp; omega); simpa [Nat.add_assoc, Nat.add_comm 1 j] using this) (by simp only [List.length_cons] at hk; omega) (by omega) (inv.set hr' hkn) hB' hK)

theorem anyF_of_seq {b : Nat} : ∀ (l : List Oper) (k : Nat) (listed : Array Bool) (a : Act) (w : World), (∀ j, l[j]? = ops[k + j]?) → b ≤ k →
    Region.seqB md ops l.length k listed = true → wpListIn F m P ops Q l a w → anyF F m P md ops Q S b l.length listed a w
  | [], _, _, _, _, _, _, hB, h => ⟨by simpa [Region.seqB] using hB, h⟩
  | o :: l, k, listed, a, w, hl, hbk, hB, h => by
    have h0 : ops[k]? = some o := by simpa using (hl 0).symm
    simp only [List.length_cons, Region.seqB, Bool.and_eq_true, decide_eq_true_eq] at hB
    refine ⟨fun h1 => (by rw [hB.1] at h1; cases h1), fun i hi => ?_⟩
    rw [hB.1] at hi
    have hik : i = k := by simpa using hi
    subst hik
    have hw : wpOpIn F m P ops Q i (wpListIn F m P ops Q l) a w := by unfold wpOpIn; simp only [h0]; exact h
    exact wpOpIn_mono (fun a' w' h' => ⟨fun hlt => absurd hlt (by omega), anyF_of_seq l (i + 1) _ a' w' (fun j => by have := hl (j + 1); simpa [Nat.add_assoc, Nat.add_comm 1 j] using this) (by omega) hB.2 h'⟩) hw

/-- What the region must be, as a closed fact. -/
def floatB (ops : Array Oper) (n : Nat) : Bool :=
  Region.noSelect ops && noDefer ops && decide (1 ≤ n) && decide (n < ops.size) && (Region.ready .any ops (Array.replicate ops.size false)).contains 0 && Region.free .any ops (Array.replicate ops.size false) 0
    && ((List.range ops.size).all fun j => decide (j ≤ n) || Region.waitsFor .any ops j 0) && sinkFrom .any ops 1 n && Region.chainB .any ops n
    && Region.lexHead .any ops (ops.size - n) (n - 1) 1 ((Array.replicate ops.size false).setIfInBounds 0 true)

/-- The law. -/
theorem wpIn_region_float (hO : Open F P) {id : Nat} {a : Act} {w : World} {l : List Oper} (n : Nat) (C S : World → Prop) (oz on : Oper) (hz : l[0]? = some oz) (hn : l[n]? = some on) (hgz : oz.guard = none) (hgn : on.guard = none) (v : Value)
    (hm : P.follows .mixedOrders = true) (hB : floatB l.toArray n = true) (hC : C w.drew) (hCS : ∀ w, C w → S w) (hQ : ∀ c a w, Q (.panic c) (a.put oz.dst v) w → Q (.panic c) a w)
    (hv : Floats P S oz v a)
    (h : wpQuiet P l.toArray C (fun a' => ∀ w', C w' → ∃ u w5, (execOp a'.eval on).run P w' = .ok (.value u) w5 ∧ S w5 ∧ wpListIn F m P l.toArray Q (l.drop (n + 1)) (a'.put on.dst u) w5) ((l.drop 1).take (n - 1)) (a.put oz.dst v)) :
    (Code.region id l.toArray true).wpIn F m P Q a w := by
  simp only [floatB, Bool.and_eq_true, decide_eq_true_eq] at hB
  obtain ⟨⟨⟨⟨⟨⟨⟨⟨⟨hsel, hnd⟩, h1n⟩, hn2⟩, hr0⟩, hfr⟩, hdep⟩, hs⟩, hc⟩, hlex⟩ := hB
  have hn' : n < l.length := by simpa using hn2
  have hz' : l.toArray[0]? = some oz := by simpa using hz
  have hon' : l.toArray[n]? = some on := by simpa using hn
  have htl : ((l.drop 1).take (n - 1)).length = n - 1 := by simp; omega
  have hdl : (l.drop n).length = l.toArray.size - n := by simp
  have inv0 : HeadInv .any l.toArray n (Array.replicate l.toArray.size false) :=
    ⟨by simp, fun j oj _ hl => (by rw [getD_replicate_false] at hl; cases hl), fun t _ ht => getD_in (by simpa using ht) (getD_replicate_false _ _)⟩
  have hr0' : 0 ∈ Region.ready .any l.toArray (Array.replicate l.toArray.size false) := by simpa using hr0
  have inv1 := inv0.set hr0' (by omega)
  have H := anyQF_lex (md := .any) (C := C) (g := l.toArray.size - n) hsel hs hc ((l.drop 1).take (n - 1)) 1 _ (a.put oz.dst v) (fun j hj => by
    have hj' : j < n - 1 := by rw [htl] at hj; exact hj
    rw [List.getElem?_take_of_lt hj', List.getElem?_drop]; simp) (by rw [htl]; omega) (Nat.le_refl _) inv1 (by rw [htl]; exact hlex) h
  have hL : ∀ listed a' w', C w' → (Region.seqB .any l.toArray (l.toArray.size - n) n listed = true ∧ ∀ w', C w' → ∃ u w5, (execOp a'.eval on).run P w' = .ok (.value u) w5 ∧ S w5 ∧ wpListIn F m P l.toArray Q (l.drop (n + 1)) (a'.put on.dst u) w5) →
      anyF F m P .any l.toArray Q S (n + 1) (l.toArray.size - n) listed a' w' := fun listed a' w' hw' hL => by
    obtain ⟨u, w5, hrun, hS5, hrest⟩ := hL.2 w' hw'
    have hg : l.toArray.size - n = (l.drop (n + 1)).length + 1 := by simp; omega
    have hq := hL.1
    rw [hg] at hq ⊢
    simp only [Region.seqB, Bool.and_eq_true, decide_eq_true_eq] at hq
    refine ⟨fun h1 => (by rw [hq.1] at h1; cases h1), fun i hi => ?_⟩
    rw [hq.1] at hi
    have hik : i = n := by simpa using hi
    subst hik
    exact wpOpIn_run hO hnd hon' hgn hrun ⟨fun _ => hS5, anyF_of_seq (l.drop (i + 1)) (i + 1) _ _ _ (fun j => by simp [List.getElem?_drop]) (Nat.le_refl _) hq.2 hrest⟩
  have H2 := anyF_of_head (F := F) (m := m) (Q := Q) (b := n + 1) hO hnd hCS hL _ _ _ w.drew hC H
  rw [htl] at H2
  have H3 := float_first (F := F) (m := m) (md := .any) (b := n + 1) hO hnd hz' hgz (Region.noSelect_spec hsel) hQ (fun j oj hj hbj => by
    have hjs : j < l.toArray.size := (Array.getElem?_eq_some_iff.1 hj).1
    have h1 := List.all_eq_true.1 hdep j (List.mem_range.2 hjs)
    rw [Bool.or_eq_true, decide_eq_true_iff] at h1
    obtain ⟨o', ho', e, he, hb, hon⟩ := Region.waitsFor_spec (h1.resolve_left (by omega))
    have : o' = oj := Option.some.inj (ho'.symm.trans hj)
    subst this
    exact ⟨e, he, hb, hon⟩) _ _ a w.drew (Region.free_spec hz' hfr) hr0' hv (hCS _ hC) H2
  refine wpIn_region_any hm ?_
  have e : n - 1 + (l.toArray.size - n) + 1 = l.toArray.size := by omega
  rw [e] at H3
  exact anyF_any _ _ _ _ H3
end

end Go.Proofs.YtongjijkdjagdaaDoor

/- BeamWay of the specification and of the program, by their contracts. -/
namespace Go.Proofs.YtongjijkdjagdaaDoor
open Go.RowKit Go.Shelf

def wayR (n m : Nat) (t : Int → Int → UInt8) (q : Nat) : List Int := cellsI m (bway n m t q) (blen n m t q)
theorem wayR_length {n m q : Nat} {t : Int → Int → UInt8} (hn : n ≤ 5) (hm : m ≤ 5) (hq : q < 2 * (n + m)) : (wayR n m t q).length ≤ 1000 := by
  have h1 := blen_lt (t := t) hq
  have h2 : n * m ≤ 5 * 5 := Nat.mul_le_mul hn hm
  unfold wayR
  rw [cellsI_length]; omega

attribute [local go_sem] Oper.semAt_some

/-- The cells of the ways that have come. -/
def cellsW {L : Nat} (m : Nat) (bw : Nat → Wy) (pre : List (Fin L)) : List Int := pre.map fun x => ((cellN m (bw x.val) : Nat) : Int)
theorem cellsW_snoc {L : Nat} (m : Nat) (bw : Nat → Wy) (pre : List (Fin L)) (x : Fin L) : cellsW m bw (pre ++ [x]) = cellsW m bw pre ++ [((cellN m (bw x.val) : Nat) : Int)] := by simp [cellsW]
theorem cellsW_length {L : Nat} (m : Nat) (bw : Nat → Wy) (pre : List (Fin L)) : (cellsW m bw pre).length = pre.length := by simp [cellsW]
theorem cellsW_all (L m : Nat) (bw : Nat → Wy) : cellsW m bw (List.finRange L) = cellsI m bw L := by
  unfold cellsW cellsI
  have e := upto_val (N := L) (k := L) (Nat.le_refl _)
  rw [upto_all] at e
  rw [← e, List.map_map]
  rfl
theorem grown_heap {base b : Nat} {W W' : World} {v : Value} {l : List Int} {cs : Array Value} {t : TypeId} (hrow : GrowI W base v l) (hg : W.grownBy W' v.ownBlock) (hb : W.heap[b]? = some (.cells cs t (0, 0))) (ht : t ≠ 3) : W'.heap[b]? = some (.cells cs t (0, 0)) := by
  refine (hg.block b (lt_of_block hb) ?_).trans hb
  rcases hrow.2 with ⟨rfl, _⟩ | ⟨g', cap, cur, rfl, _, hgb, _⟩
  · simp [Value.ownBlock]
  · intro e'
    have : b = g' := by simpa [Value.ownBlock] using e'
    subst this
    rw [hb] at hgb
    cases hgb
    exact ht rfl
/-- A slice of integers that grows leaves the iterator what it wants. -/
theorem KeepsW.grown {g n0 base : Nat} {W W' : World} {v : Value} {l : List Int} {cs : Array Value} (hrow : GrowI W base v l) (hg : W.grownBy W' v.ownBlock) (hB : W.heap[g]? = some (.cells cs 39 (0, 0))) : KeepsW g n0 W W' :=
  ⟨hg.size, (grown_heap hrow hg hB (by decide)).trans hB.symm, fun _ _ _ hb => grown_heap hrow hg hb (by decide)⟩
theorem GrowI.below {w w' : World} {base : Nat} {v : Value} {l : List Int} (h : GrowI w base v l) (hb : Below w.heap.size w w') : GrowI w' base v l := by
  refine World.ownsRow.kept h (Cls.grown hb) ?_
  cases v.ownBlock with
  | none => exact .inl rfl
  | some k => exact .inr (fun e => by cases e)
theorem Own3.put {W : World} {lo D : Nat} {A : Option Addr} {l : List Int} {o' : Obj} {N : Nat} (h : Own3 W lo A l) (_ : N ≤ D) (hk : W.heap[D]? = some (.deferred (some []))) : Own3 (W.putObj D o') lo A l := by
  rcases h with h | ⟨g, rfl, hg, cs, hc, hx⟩
  · exact .inl h
  · refine .inr ⟨g, rfl, hg, cs, ?_, hx⟩
    rw [World.putObj_heap_other (fun e => by subst e; rw [hc] at hk; cases hk)]
    exact hc
section
variable {F : Fence} {n : Nat} {ops : Array Oper} {rest : List Oper} {o : Oper} {a : Act} {w : World} {Q : Exit → Act → World → Prop}
theorem wpListIn_appendI (hgd : o.guard = none) (s x : Operand) (ho : o.op = .call { callee := .builtin .append, args := #[s, x], argTypes := #[44, 44] })
    (base : Nat) (v : Value) (l : List Int) (hs : a.eval s = v) (hown : GrowI w base v l) (h c : Nat) (hx : a.eval x = .slice (some ⟨h, 0, none⟩) 1 c) (b : Int) (hc : w.cell? ⟨h, 0, none⟩ = some (.int .i64 b))
    (hl : l.length ≤ 1000000) (hbase : base ≤ w.heap.size)
    (hk : ∀ g cap w', GrowI w' base (.slice (some ⟨g, 0, none⟩) (l.length + 1) cap) (l ++ [b]) → w.grownBy w' v.ownBlock → wpListIn F n Tryd.prog ops Q rest (a.put o.dst (.slice (some ⟨g, 0, none⟩) (l.length + 1) cap)) w') : wpListIn F n Tryd.prog ops Q (o :: rest) a w := by
  obtain ⟨i0, hi, hz0, hz1, hz2⟩ := info_parts Tryd.info_int
  refine wpListIn_append_own w hgd s x 44 ho base 3 i0 (.int .i64 0) 1 8 Tryd.underlying44 hi hz0 hz1 hz2 rfl (by decide) v l.length (intsV l) hs hown ⟨h, 0, none⟩ 1 c [.int .i64 b] hx rfl ?_ ?_ (by unfold maxLen; omega) (by omega) hbase ?_
  · intro j u hj
    match j, hj with
    | 0, hj => simp at hj; subst hj; simpa [Addr.add] using hc
  · intro u hu; simp at hu; subst hu; rfl
  · intro v' w' h1 h2 _
    obtain ⟨g, cap, rfl⟩ := ownsRow_succ h1
    refine hk g cap w' ?_ h2
    unfold GrowI intsV
    rw [List.length_append, List.map_append]
    exact h1
end

end Go.Proofs.YtongjijkdjagdaaDoor

/- BeamLongest of the specification and of the program, by their contracts. -/
namespace Go.Proofs.YtongjijkdjagdaaDoor
open Go.RowKit Go.Shelf

/-- The longest of the first k: which, and how long. -/
def best (len : Nat → Nat) : Nat → Nat × Nat
  | 0 => (0, 0)
  | k + 1 => if len k > (best len k).2 then (k, len k) else best len k
theorem best_le (len : Nat → Nat) (M : Nat) (h : ∀ k, len k ≤ M) : ∀ k, (best len k).1 ≤ k ∧ (best len k).2 ≤ M
  | 0 => ⟨Nat.le_refl _, Nat.zero_le _⟩
  | k + 1 => by
    have ih := best_le len M h k
    unfold best
    split
    · exact ⟨Nat.le_succ _, h k⟩
    · exact ⟨by omega, ih.2⟩
def lenOfB (n m : Nat) (t : Int → Int → UInt8) (k : Nat) : Nat := if k < 2 * (n + m) then blen n m t k else 0
/-- What BeamLongest comes to. -/
def LongOut (ss : List ByteArray) (x y : Int) (ok : Bool) : Prop :=
  (∃ n m, IsGrid n m ss ∧ x = (((best (lenOfB n m (lett m (pad (flat ss)))) (2 * (n + m))).1 : Nat) : Int) ∧ y = (((best (lenOfB n m (lett m (pad (flat ss)))) (2 * (n + m))).2 : Nat) : Int) ∧ ok = true) ∨ (NoGrid ss ∧ x = 0 ∧ y = 0 ∧ ok = false)
theorem LongOut.uniq {ss : List ByteArray} {x x' y y' : Int} {ok ok' : Bool} (h : LongOut ss x y ok) (h' : LongOut ss x' y' ok') : x' = x ∧ y' = y ∧ ok' = ok := by
  rcases h with ⟨n, m, h1, rfl, rfl, rfl⟩ | ⟨h1, rfl, rfl, rfl⟩ <;> rcases h' with ⟨n', m', h1', rfl, rfl, rfl⟩ | ⟨h1', rfl, rfl, rfl⟩
  · obtain ⟨rfl, rfl⟩ := h1.uniq h1'
    exact ⟨rfl, rfl, rfl⟩
  · exact absurd h1 (h1' _ _)
  · exact absurd h1' (h1 _ _)
  · exact ⟨rfl, rfl, rfl⟩

def LgRel (len : Nat → Nat) (N : Nat) (w : World) (pv mv iv : Value) (wr : World) : Prop :=
  ∃ k : Nat, k ≤ N ∧ pv = .int .i64 (((best len k).1 : Nat) : Int) ∧ mv = .int .i64 (((best len k).2 : Nat) : Int) ∧ iv = .int .i64 (k : Int) ∧ Below w.heap.size w wr

def LiRel (len : Nat → Nat) (N bt b : Nat) (ts : Array Value) (w : World) (pv mv iv : Value) (wr : World) : Prop :=
  ∃ k : Nat, k ≤ N ∧ pv = .int .i64 (((best len k).1 : Nat) : Int) ∧ mv = .int .i64 (((best len k).2 : Nat) : Int) ∧ iv = .int .i64 (k : Int) ∧
    wr.heap[bt]? = some (.cells ts 165 (0, 0)) ∧ (∃ xs, MapOf wr b xs) ∧ Below w.heap.size w wr

end Go.Proofs.YtongjijkdjagdaaDoor
