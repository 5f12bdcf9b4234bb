/- Settled texts in one file. Each begins with what it holds. -/
import Derived.Test.YtongjijkdjagdaaBunA
import Derived.Laws.BytesArg
import Derived.Test.YtongjijkdjagdaaBunC
/- The laws' marks on slices of strings, by their contracts: markText, markStringS, heldStringS. -/
namespace Go.Proofs.Ytongjijkdjagdaa
open Go.RowKit

/-- The digits of a number ahead of a text, at most f of them. -/
def digs : Nat → Nat → ByteArray → ByteArray
  | 0, _, acc => acc
  | f + 1, k, acc => if k = 0 then acc else digs f (k / 10) (⟨#[UInt8.ofNat (48 + k % 10)]⟩ ++ acc)
/-- The mark of a number. -/
def markOf (k : Nat) : ByteArray := ⟨#[109]⟩ ++ digs k k ByteArray.empty

theorem digit_text (W : World) (d : Nat) :
    (convert 81 9 (.slice (some ⟨W.heap.size, 0, none⟩) 1 1)).run Try.prog (W.alloc (.cells #[.int .u8 (48 + (d : Int))] 5)) = .ok (.string ⟨#[UInt8.ofNat (48 + d)]⟩) (W.alloc (.cells #[.int .u8 (48 + (d : Int))] 5)) := by
  have h := run_convert_bytes_arg (P := Try.prog) (W.alloc (.cells #[.int .u8 (48 + (d : Int))] 5)) 81 5 Try.underlying81 Try.underlying5 W.heap.size 0 1 1 [48 + (d : Int)] rfl (fun i hi => by
    obtain rfl : i = 0 := by omega
    rw [cell_of_row _ _ _ _ _ _ (heap_new0 W _)]; rfl) 9 Try.underlying9
  rw [h]
  unfold strOfNums
  congr 2

def MarkRel (k : Nat) (w : World) (i x : Value) (wr : World) : Prop :=
  ∃ (q f : Nat) (acc : ByteArray), q ≤ f ∧ q ≤ k ∧ i = .int .i64 q ∧ x = .string acc ∧ digs f q acc = digs k k ByteArray.empty ∧ acc.size + q ≤ k ∧ Below w.heap.size w wr

/-- One block may have turned; what else lay there lies as it lay. -/
structure But (g : Nat) (w w' : World) : Prop where
  os : w'.os = w.os
  tape : w'.tape = w.tape
  output : w'.output = w.output
  size : w.heap.size ≤ w'.heap.size
  block : ∀ k, k < w.heap.size → k ≠ g → w'.heap[k]? = w.heap[k]?
theorem But.refl (g : Nat) (w : World) : But g w w := ⟨rfl, rfl, rfl, Nat.le_refl _, fun _ _ _ => rfl⟩
theorem But.trans {g : Nat} {a b c : World} (h : But g a b) (k : But g b c) : But g a c :=
  ⟨k.os.trans h.os, k.tape.trans h.tape, k.output.trans h.output, Nat.le_trans h.size k.size, fun i hi hn => (k.block i (Nat.lt_of_lt_of_le hi h.size) hn).trans (h.block i hi hn)⟩
theorem But.of_below {g : Nat} {a b : World} (h : Below a.heap.size a b) : But g a b := ⟨h.os, h.tape, h.output, h.size, fun i hi _ => h.block i hi⟩
theorem But.setCell {g : Nat} (w : World) (i : Nat) (v : Value) : But g w (w.setCell ⟨g, i, none⟩ v) := ⟨rfl, rfl, rfl, by simp, fun k _ hn => Below.heap_setCell _ _ _ _ hn⟩
theorem But.below {g B : Nat} {a b : World} (h : But g a b) (hB : B ≤ g) (hs : B ≤ a.heap.size) : Below B a b := ⟨h.os, h.tape, h.output, h.size, fun i hi => h.block i (by omega) (by omega)⟩
theorem Row9.but {w w' : World} {b g : Nat} {ss : List ByteArray} (h : Row9 w b ss) (hb : But g w w') (hn : b ≠ g) : Row9 w' b ss := by
  have hl := h.lt
  obtain ⟨cs, h, hc⟩ := h
  exact ⟨cs, (hb.block b hl hn).trans h, hc⟩

/-- The marks from a number on. -/
def marksOf (k n : Nat) : List ByteArray := (List.range n).map fun i => markOf (k + i)
theorem marksOf_length (k n : Nat) : (marksOf k n).length = n := by simp [marksOf]
theorem marksOf_at {k n i : Nat} (h : i < n) : (marksOf k n)[i]? = some (markOf (k + i)) := by simp [marksOf, h]

def MkRel (g k0 : Nat) (n sz : Nat) (w : World) (kv iv : Value) (wr : World) : Prop :=
  ∃ i : Nat, i ≤ n ∧ kv = .int .i64 ((k0 + i : Nat) : Int) ∧ iv = .int .i64 i ∧ But g w wr ∧ ∃ cs : Array Value, wr.heap[g]? = some (.cells cs 9 (0, 0)) ∧ cs.size = sz ∧ ∀ j, j < i → cs[j]? = some (.string (markOf (k0 + j)))

end Go.Proofs.Ytongjijkdjagdaa

/- The number of mirrors, and whether all cells are full, by their contracts. -/
namespace Go.Proofs.Ytongjijkdjagdaa
open Go.RowKit Go.Shelf
attribute [local go_sem] Oper.semAt_some

/-- The mirrors among the cells that have come. -/
def mirr {N : Nat} (ls : List UInt8) (pre : List (Fin N)) : Nat := pre.countP fun x => ls.getD x.val 0 != 46
theorem mirr_snoc {N : Nat} (ls : List UInt8) (pre : List (Fin N)) (x : Fin N) : mirr ls (pre ++ [x]) = mirr ls pre + (if (ls.getD x.val 0 != 46) = true then 1 else 0) := by
  simp [mirr, List.countP_append, List.countP_cons]
theorem mirr_le {N : Nat} (ls : List UInt8) (pre : List (Fin N)) : mirr ls pre ≤ pre.length := List.countP_le_length
theorem byte_bne (b : UInt8) : ((b.toNat : Int) != 46) = (b != 46) := by
  by_cases h : b = 46
  · subst h; rfl
  · have h' : b.toNat ≠ 46 := fun e => h (UInt8.toNat_inj.1 e)
    rw [bne_iff_ne.2 h, bne_iff_ne]; omega

theorem byte_beq46 (b : UInt8) : ((b.toNat : Int) == 46) = (b == 46) := by
  by_cases h : b = 46
  · subst h; rfl
  · have h' : b.toNat ≠ 46 := fun e => h (UInt8.toNat_inj.1 e)
    rw [beq_eq_false_iff_ne.2 h, beq_eq_false_iff_ne]; omega
theorem mirr_upto_lt {N k : Nat} (ls : List UInt8) (hk : k ≤ N) (h : mirr ls (upto N k) < (upto N k).length) : mirr ls (List.finRange N) < N := by
  have e : List.finRange N = upto N k ++ (List.finRange N).drop k := (List.take_append_drop k _).symm
  have h1 : mirr ls (List.finRange N) = mirr ls (upto N k) + mirr ls ((List.finRange N).drop k) := by
    unfold mirr
    conv => lhs; rw [e]
    rw [List.countP_append]
  have h2 := mirr_le ls ((List.finRange N).drop k)
  rw [upto_length hk] at h
  simp only [List.length_drop, List.length_finRange] at h2
  omega

end Go.Proofs.Ytongjijkdjagdaa

/- The grid flipped, by its contract. -/
namespace Go.Proofs.Ytongjijkdjagdaa
open Go.RowKit Go.Shelf
attribute [local go_sem] Oper.semAt_some

/-- The letters of the grid flipped. -/
def flipPos (m k : Nat) : Nat := (k / m) * m + (m - 1 - k % m)

end Go.Proofs.Ytongjijkdjagdaa

/- The grid with its mirrors exchanged, by its contract. -/
namespace Go.Proofs.Ytongjijkdjagdaa
open Go.RowKit Go.Shelf
attribute [local go_sem] Oper.semAt_some

/-- Each letter stays where it is. -/
def samePos (k : Nat) : Nat := k

end Go.Proofs.Ytongjijkdjagdaa

/- GridTurn, GridFlip, GridOther of the program, by their contracts. -/
namespace Go.Proofs.Ytongjijkdjagdaa
open Go.RowKit

/-- What a function that changes a grid comes to: the texts of the changed grid in a block of its own, or nothing. -/
def ChangeEnd (G : Nat → Nat → List UInt8 → List ByteArray) (ss : List ByteArray) (w : World) (e : Ending) (w' : World) : Prop :=
  Below w.heap.size w w' ∧ ((∃ n m g, IsGrid n m ss ∧ w.heap.size ≤ g ∧ Row9 w' g (G n m (pad (flat ss))) ∧ e = .returned (.tuple #[.slice (some ⟨g, 0, none⟩) (G n m (pad (flat ss))).length (G n m (pad (flat ss))).length, .bool true])) ∨ (NoGrid ss ∧ e = .returned (.tuple #[.slice none 0 0, .bool false])))
def turnG (n m : Nat) (ls : List UInt8) : List ByteArray := textsOf m n (putAll (turnPos n m) (turnVal ls) (List.finRange (n * m)) (pad []))
def flipG (n m : Nat) (ls : List UInt8) : List ByteArray := textsOf n m (putAll (flipPos m) (turnVal ls) (List.finRange (n * m)) (pad []))
def otherG (n m : Nat) (ls : List UInt8) : List ByteArray := textsOf n m (putAll samePos (turnVal ls) (List.finRange (n * m)) (pad []))

end Go.Proofs.Ytongjijkdjagdaa

/- The changed grids of the program and of the specification are the same lists: plain words. -/
namespace Go.Proofs.Ytongjijkdjagdaa
open Go.RowKit

theorem rows_eq (n m : Nat) (L : List UInt8) (f : Nat → Nat → UInt8) (h : ∀ r, r < n → ∀ q, q < m → L[r * m + q]? = some (f r q)) : textsOf n m L = ruleG n m f := by
  unfold textsOf ruleG
  apply List.map_congr_left
  intro r hr
  have hr' : r < n := List.mem_range.1 hr
  unfold rowText
  congr 2
  apply List.ext_getElem?
  intro q
  by_cases hq : q < m
  · rw [List.getElem?_take_of_lt hq, List.getElem?_drop, h r hr' q hq]
    simp [ruleL, hq]
  · rw [List.getElem?_eq_none (by rw [List.length_take]; omega), List.getElem?_eq_none (by rw [ruleL_length]; omega)]
theorem putAll_at {N : Nat} (pos : Nat → Nat) (val : Nat → UInt8) (p : Nat) (v : UInt8) : ∀ (ks : List (Fin N)) (acc : List UInt8), p < acc.length → (∀ x ∈ ks, pos x.val = p → val x.val = v) →
    ((∃ x ∈ ks, pos x.val = p) ∨ acc[p]? = some v) → (putAll pos val ks acc)[p]? = some v
  | [], acc, _, _, h => by
    rcases h with ⟨x, hx, _⟩ | h
    · cases hx
    · exact h
  | k :: ks, acc, hp, hv, h => by
    show (putAll pos val ks (acc.set (pos k.val) (val k.val)))[p]? = some v
    refine putAll_at pos val p v ks _ (by rw [List.length_set]; exact hp) (fun x hx => hv x (List.mem_cons_of_mem _ hx)) ?_
    by_cases hk : pos k.val = p
    · right
      rw [hk, List.getElem?_set_self hp, hv k (by simp) hk]
    · rcases h with ⟨x, hx, hxp⟩ | h
      · rcases List.mem_cons.1 hx with rfl | hx
        · exact absurd hxp hk
        · exact .inl ⟨x, hx, hxp⟩
      · right
        rw [List.getElem?_set_ne hk]; exact h
theorem put_all {N : Nat} (pos : Nat → Nat) (val : Nat → UInt8) (p : Nat) (x0 : Nat) (hx0 : x0 < N) (hp : p < 25) (h0 : pos x0 = p) (hu : ∀ x, x < N → pos x = p → x = x0) : (putAll pos val (List.finRange N) (pad []))[p]? = some (val x0) :=
  putAll_at pos val p _ _ _ (by simpa [pad] using hp) (fun x _ hx => by rw [hu x.val x.isLt hx]) (.inl ⟨⟨x0, hx0⟩, List.mem_finRange _, h0⟩)
theorem mul_inj {m a b r q : Nat} (h : a * m + b = r * m + q) (hb : b < m) (hq : q < m) : a = r ∧ b = q := by
  have hm : 0 < m := by omega
  have e1 : (a * m + b) / m = a := by rw [Nat.mul_comm, Nat.mul_add_div hm, Nat.div_eq_of_lt hb]; rfl
  have e2 : (r * m + q) / m = r := by rw [Nat.mul_comm, Nat.mul_add_div hm, Nat.div_eq_of_lt hq]; rfl
  rw [h, e2] at e1
  subst e1
  exact ⟨rfl, by omega⟩
theorem div_of {m a b : Nat} (hb : b < m) : (a * m + b) / m = a ∧ (a * m + b) % m = b := by
  have hm : 0 < m := by omega
  refine ⟨by rw [Nat.mul_comm, Nat.mul_add_div hm, Nat.div_eq_of_lt hb]; rfl, by rw [Nat.mul_comm, Nat.mul_add_mod, Nat.mod_eq_of_lt hb]⟩
theorem lt_of_parts {n m a b : Nat} (ha : a < n) (hb : b < m) : a * m + b < n * m := by
  have : (a + 1) * m ≤ n * m := Nat.mul_le_mul_right m ha
  rw [Nat.add_mul] at this; omega
theorem pad_getD (fl : List UInt8) (k : Nat) (h : k < fl.length) : (pad fl).getD k 0 = fl.getD k 0 := by
  rw [List.getD_eq_getElem?_getD, List.getD_eq_getElem?_getD, pad, List.getElem?_append_left h]

def flipF (m : Nat) (fl : List UInt8) (r q : Nat) : UInt8 := oth (fl.getD (r * m + (m - 1 - q)) 0)
def otherF (m : Nat) (fl : List UInt8) (r q : Nat) : UInt8 := oth (fl.getD (r * m + q) 0)
def turnF (n m : Nat) (fl : List UInt8) (r q : Nat) : UInt8 := oth (fl.getD ((n - 1 - q) * m + r) 0)

theorem flip_same {n m : Nat} {ss : List ByteArray} (h : IsGrid n m ss) : flipG n m (pad (flat ss)) = ruleG n m (flipF m (flat ss)) := by
  have hn5 := h.2.2.1
  have hm5 := h.2.2.2.2.1
  have hfl := h.flen
  have h25 := h.le25
  refine rows_eq _ _ _ _ fun r hr q hq => ?_
  have hp := lt_of_parts hr hq
  have hx : r * m + (m - 1 - q) < n * m := lt_of_parts hr (by omega)
  have hd := div_of (a := r) (m := m) (b := m - 1 - q) (by omega)
  rw [put_all (flipPos m) (turnVal (pad (flat ss))) (r * m + q) (r * m + (m - 1 - q)) hx (by omega) ?_ ?_]
  · unfold turnVal flipF
    rw [pad_getD _ _ (by rw [hfl]; exact hx)]
  · unfold flipPos
    rw [hd.1, hd.2]; omega
  · intro x hxl hxp
    unfold flipPos at hxp
    have hmod : x % m < m := Nat.mod_lt _ (by omega)
    obtain ⟨e1, e2⟩ := mul_inj hxp (by omega) hq
    have e3 := Nat.div_add_mod x m
    rw [e1, Nat.mul_comm] at e3
    omega
theorem other_same {n m : Nat} {ss : List ByteArray} (h : IsGrid n m ss) : otherG n m (pad (flat ss)) = ruleG n m (otherF m (flat ss)) := by
  have hfl := h.flen
  have h25 := h.le25
  refine rows_eq _ _ _ _ fun r hr q hq => ?_
  have hp := lt_of_parts hr hq
  rw [put_all samePos (turnVal (pad (flat ss))) (r * m + q) (r * m + q) hp (by omega) rfl (fun x _ hx => hx)]
  unfold turnVal otherF
  rw [pad_getD _ _ (by rw [hfl]; exact hp)]
theorem turn_same {n m : Nat} {ss : List ByteArray} (h : IsGrid n m ss) : turnG n m (pad (flat ss)) = ruleG m n (turnF n m (flat ss)) := by
  have hfl := h.flen
  have h25 := h.le25
  refine rows_eq _ _ _ _ fun r hr q hq => ?_
  have hp : r * n + q < m * n := lt_of_parts hr hq
  rw [Nat.mul_comm m n] at hp
  have hx : (n - 1 - q) * m + r < n * m := lt_of_parts (by omega) hr
  have hd := div_of (a := n - 1 - q) (m := m) (b := r) hr
  rw [put_all (turnPos n m) (turnVal (pad (flat ss))) (r * n + q) ((n - 1 - q) * m + r) hx (by omega) ?_ ?_]
  · unfold turnVal turnF
    rw [pad_getD _ _ (by rw [hfl]; exact hx)]
  · unfold turnPos
    rw [hd.1, hd.2]; omega
  · intro x hxl hxp
    unfold turnPos at hxp
    have hdiv : x / m < n := by rw [Nat.div_lt_iff_lt_mul (by omega)]; exact hxl
    have e3 := Nat.div_add_mod x m
    obtain ⟨y, hy⟩ : ∃ y : Nat, x / m = y := ⟨_, rfl⟩
    rw [hy] at hdiv hxp e3
    obtain ⟨e1, e2⟩ := mul_inj hxp (by omega) hq
    obtain rfl : y = n - 1 - q := by omega
    rw [e1, Nat.mul_comm] at e3
    omega

end Go.Proofs.Ytongjijkdjagdaa

/- GridTurn, GridFlip, GridOther of the specification, by their contracts. -/
namespace Go.Proofs.Ytongjijkdjagdaa
open Go.RowKit Go.Shelf

/-- What the specification comes to: a list that reads as the changed grid, or nothing. -/
def SpecEnd (G : Nat → Nat → List UInt8 → List ByteArray) (ss : List ByteArray) (w : World) (e : Ending) (w' : World) : Prop :=
  Below w.heap.size w w' ∧ ((∃ n m A c, IsGrid n m ss ∧ Strs w' w'.heap.size A (G n m (pad (flat ss))) ∧ e = .returned (.tuple #[.slice A (G n m (pad (flat ss))).length c, .bool true])) ∨ (NoGrid ss ∧ ∃ A c, e = .returned (.tuple #[.slice A 0 c, .bool false])))
theorem noGrid_of {ss : List ByteArray} (h : false = true ↔ ∃ n m, IsGrid n m ss) : NoGrid ss := fun n m hg => by
  have := h.2 ⟨n, m, hg⟩; cases this

end Go.Proofs.Ytongjijkdjagdaa

/- GridOther of the specification, by its contract. -/
namespace Go.Proofs.Ytongjijkdjagdaa
open Go.RowKit Go.Shelf

/-- The inner loop, upwards. -/
def InUp (K L r : Nat) (f : Nat → Nat → UInt8) (w wo : World) (ov : Value) (v i : Value) (wr : World) : Prop :=
  ∃ p : Nat, p ≤ L ∧ i = .int .i64 p ∧ GrowB wr wo.heap.size v ((ruleL L (f r)).take p) ∧ GrowS wr w.heap.size ov ((ruleG K L f).take r) ∧ Below w.heap.size w wr ∧ wo.heap.size ≤ wr.heap.size

end Go.Proofs.Ytongjijkdjagdaa

/- heldStringS, by its contract; marks on nothing. -/
namespace Go.Proofs.Ytongjijkdjagdaa
open Go.RowKit Go.Shelf
attribute [local go_sem] Oper.semAt_some

def HdRel (k0 n : Nat) (w : World) (kv iv : Value) (wr : World) : Prop :=
  ∃ i : Nat, i ≤ n ∧ kv = .int .i64 ((k0 + i : Nat) : Int) ∧ iv = .int .i64 i ∧ Below w.heap.size w wr

end Go.Proofs.Ytongjijkdjagdaa

/- The number that tells a grid, by its contract. -/
namespace Go.Proofs.Ytongjijkdjagdaa
open Go.RowKit Go.Shelf
attribute [local go_sem] Oper.semAt_some

/-- The digit of a letter. -/
def dig (b : UInt8) : Nat := if b == 114 then 1 else if b == 102 then 2 else 0
theorem dig_le (b : UInt8) : dig b ≤ 2 := by unfold dig; split <;> (try split) <;> omega
theorem dig_index (b : UInt8) (h : isLet b = true) : Lib.indexByte [46, 114, 102] b = (dig b : Int) := by
  simp only [isLet, Bool.or_eq_true, beq_iff_eq] at h
  rcases h with (rfl | rfl) | rfl <;> decide
/-- The number of the cells that have come, and the weight of the next one. -/
def numP {N : Nat} (ls : List UInt8) (pre : List (Fin N)) : Nat × Nat := pre.foldl (fun a x => (a.1 + a.2 * dig (ls.getD x.val 0), a.2 * 3)) (0, 1)
theorem numP_snoc {N : Nat} (ls : List UInt8) (pre : List (Fin N)) (x : Fin N) : numP ls (pre ++ [x]) = ((numP ls pre).1 + (numP ls pre).2 * dig (ls.getD x.val 0), (numP ls pre).2 * 3) := by
  simp [numP, List.foldl_append]
theorem numP_lt {N : Nat} (ls : List UInt8) (k : Nat) : ∀ (pre : List (Fin N)), pre.length = k → (numP ls pre).1 < (numP ls pre).2 ∧ (numP ls pre).2 = 3 ^ k := by
  induction k with
  | zero => intro pre h; obtain rfl := List.eq_nil_of_length_eq_zero h; simp [numP]
  | succ k ih =>
    intro pre h
    obtain ⟨ys, y, rfl⟩ : ∃ ys y, pre = ys ++ [y] := ⟨pre.dropLast, pre.getLast (by rintro rfl; simp at h), (List.dropLast_concat_getLast _).symm⟩
    have ⟨h1, h2⟩ := ih ys (by simpa using h)
    rw [numP_snoc]
    have hd := dig_le (ls.getD y.val 0)
    have hm : (numP ls ys).2 * dig (ls.getD y.val 0) ≤ (numP ls ys).2 * 2 := Nat.mul_le_mul_left _ hd
    refine ⟨by dsimp only; omega, by dsimp only; rw [h2, Nat.pow_succ]⟩

end Go.Proofs.Ytongjijkdjagdaa

/- Counting letters, in the specification; plain words on counts and numbers. -/
namespace Go.Proofs.Ytongjijkdjagdaa
open Go.RowKit

/-- How often a letter comes. -/
def cntOf (b : UInt8) (l : List UInt8) : Nat := l.countP fun x => x == b
theorem cntOf_step {fl : List UInt8} {q : Nat} {b x : UInt8} (h : fl[q]? = some x) : cntOf b (fl.take (q + 1)) = cntOf b (fl.take q) + (if (x == b) = true then 1 else 0) := by
  obtain ⟨hlt, rfl⟩ := List.getElem?_eq_some_iff.1 h
  unfold cntOf
  rw [List.take_succ_eq_append_getElem hlt, List.countP_append, List.countP_cons, List.countP_nil, Nat.zero_add]
theorem cntOf_le (b : UInt8) (l : List UInt8) : cntOf b l ≤ l.length := List.countP_le_length

def CntRel (ss : List ByteArray) (m : Nat) (b : UInt8) (x i : Value) : Prop :=
  ∃ r : Nat, r ≤ ss.length ∧ i = .int .i64 r ∧ x = .int .i64 ((cntOf b ((flat ss).take (r * m)) : Nat) : Int)
def CntIn (ss : List ByteArray) (m r : Nat) (b : UInt8) (x i : Value) : Prop :=
  ∃ k : Nat, k ≤ m ∧ i = .int .i64 k ∧ x = .int .i64 ((cntOf b ((flat ss).take (r * m + k)) : Nat) : Int)

/-- The cells of a full list, one by one. -/
theorem cells_map (fl : List UInt8) (N : Nat) (hN : fl.length = N) : (List.finRange N).map (fun x => (pad fl).getD x.val 0) = fl := by
  apply List.ext_getElem
  · simp [hN]
  · intro i h1 h2
    simp [pad, List.getElem?_append_left h2, List.getElem?_eq_getElem h2]
theorem mirr_flat (fl : List UInt8) (N : Nat) (hN : fl.length = N) : mirr (pad fl) (List.finRange N) = fl.countP (fun b => b != 46) := by
  conv => rhs; rw [← cells_map fl N hN]
  rw [List.countP_map]
  rfl
theorem mirr_two (fl : List UInt8) (h : ∀ b ∈ fl, isLet b = true) : fl.countP (fun b => b != 46) = cntOf 114 fl + cntOf 102 fl := by
  induction fl with
  | nil => rfl
  | cons b fl ih =>
    have ih' := ih (fun x hx => h x (by simp [hx]))
    have hb := h b (by simp)
    simp only [isLet, Bool.or_eq_true, beq_iff_eq] at hb
    unfold cntOf at ih' ⊢
    rcases hb with (rfl | rfl) | rfl <;> simp only [List.countP_cons] <;> rw [ih'] <;> simp <;> omega
theorem mirr_all (fl : List UInt8) : fl.countP (fun b => b != 46) + cntOf 46 fl = fl.length := by
  induction fl with
  | nil => rfl
  | cons b fl ih =>
    unfold cntOf at ih ⊢
    by_cases hb : b = 46
    · subst hb; simp; omega
    · simp [hb]; omega
theorem IsGrid.lets {n m : Nat} {ss : List ByteArray} (h : IsGrid n m ss) : ∀ b ∈ flat ss, isLet b = true := fun b hb => by
  unfold flat at hb
  obtain ⟨s, hs, hb⟩ := List.mem_flatMap.1 hb
  exact (h.2.2.2.2.2 s hs).2 b hb
theorem IsGrid.mirrors {n m : Nat} {ss : List ByteArray} (h : IsGrid n m ss) : mirr (pad (flat ss)) (List.finRange (n * m)) = cntOf 114 (flat ss) + cntOf 102 (flat ss) := by
  rw [mirr_flat _ _ h.flen, mirr_two _ h.lets]
theorem IsGrid.full {n m : Nat} {ss : List ByteArray} (h : IsGrid n m ss) : (mirr (pad (flat ss)) (List.finRange (n * m)) == n * m) = (cntOf 46 (flat ss) == 0) := by
  have h1 := mirr_all (flat ss)
  rw [← mirr_flat _ _ h.flen, h.flen] at h1
  rw [Bool.eq_iff_iff, beq_iff_eq, beq_iff_eq]; omega
/-- The number of a list of letters. -/
def numOf (fl : List UInt8) : Nat := fl.foldr (fun b a => dig b + 3 * a) 0
theorem numOf_fold (fl : List UInt8) : ∀ (s v : Nat), (fl.foldl (fun (a : Nat × Nat) b => (a.1 + a.2 * dig b, a.2 * 3)) (s, v)).1 = s + v * numOf fl := by
  induction fl with
  | nil => intro s v; simp [numOf]
  | cons b fl ih =>
    intro s v
    rw [List.foldl_cons, ih]
    show s + v * dig b + v * 3 * numOf fl = s + v * (dig b + 3 * numOf fl)
    rw [Nat.mul_add, Nat.mul_assoc]; omega
theorem IsGrid.number {n m : Nat} {ss : List ByteArray} (h : IsGrid n m ss) : (numP (pad (flat ss)) (List.finRange (n * m))).1 = numOf (flat ss) := by
  have e := numOf_fold (flat ss) 0 1
  rw [Nat.zero_add, Nat.one_mul] at e
  rw [← e]
  conv => rhs; rw [← cells_map (flat ss) (n * m) h.flen, List.foldl_map]
  rfl
theorem numOf_drop {fl : List UInt8} {q : Nat} {b : UInt8} (h : fl[q]? = some b) : numOf (fl.drop q) = dig b + 3 * numOf (fl.drop (q + 1)) := by
  obtain ⟨hlt, rfl⟩ := List.getElem?_eq_some_iff.1 h
  rw [List.drop_eq_getElem_cons hlt]
  rfl
theorem numOf_lt (fl : List UInt8) : numOf fl < 3 ^ fl.length := by
  induction fl with
  | nil => decide
  | cons b fl ih =>
    have := dig_le b
    show dig b + 3 * numOf fl < 3 ^ (fl.length + 1)
    rw [Nat.pow_succ]; omega

end Go.Proofs.Ytongjijkdjagdaa

/- GridCount, GridFull, GridNumber of the program, by their contracts. -/
namespace Go.Proofs.Ytongjijkdjagdaa
open Go.RowKit
section
variable {P : Program} {ops : Array Oper} {rest : List Oper} {o : Oper} {a : Act} {w : World} {Q : Exit → Act → World → Prop}
/-- A whole struct out of its block, where the guard lets it be loaded. -/
theorem wpList_load_row_g (hw : Region.wanted o (yielded ops a.tmps) = true) (ty : TypeId) (x : Operand) (ho : o.op = .load ty x)
    (g : Nat) (hx : a.eval x = .pointer (some ⟨g, 0, none⟩)) (t : TypeId) (cs : Array Value) (fr : Nat × Nat) (d : TypeDesc) (hg : w.heap[g]? = some (.cells cs t fr))
    (hu : P.underlying ty = some d) (hd : (match d with | .struct _ | .array _ _ => true | _ => false) = true) (hi : (P.info? ty).map (·.size) = some cs.size)
    (h : wpList P ops Q rest (a.put o.dst (.agg cs)) w) : wpList P ops Q (o :: rest) a w := by
  unfold wpList
  rw [if_pos hw]
  exact .inl (wp_load_row ty x ho g hx t cs fr d hg hu hd hi h)
end

/-- What GridCount comes to. -/
def CountEnd (ss : List ByteArray) (e : Ending) : Prop :=
  (∃ n m, IsGrid n m ss ∧ e = .returned (.tuple #[.int .i64 ((cntOf 114 (flat ss) + cntOf 102 (flat ss) : Nat) : Int), .bool true])) ∨ (NoGrid ss ∧ e = .returned (.tuple #[.int .i64 0, .bool false]))
def FullEnd (ss : List ByteArray) (e : Ending) : Prop :=
  (∃ n m, IsGrid n m ss ∧ e = .returned (.bool (cntOf 46 (flat ss) == 0))) ∨ (NoGrid ss ∧ e = .returned (.bool false))
def NumberEnd (ss : List ByteArray) (e : Ending) : Prop :=
  (∃ n m, IsGrid n m ss ∧ ((n * m ≤ 20 ∧ e = .returned (.tuple #[.int .i64 ((numOf (flat ss) : Nat) : Int), .bool true])) ∨ (20 < n * m ∧ e = .returned (.tuple #[.int .i64 0, .bool false])))) ∨ (NoGrid ss ∧ e = .returned (.tuple #[.int .i64 0, .bool false]))

theorem IsGrid.letters {n m : Nat} {ss : List ByteArray} (h : IsGrid n m ss) : ∀ i, i < n * m → isLet ((pad (flat ss)).getD i 0) = true := fun i hi => by
  have hl : i < (flat ss).length := by rw [h.flen]; exact hi
  have e : (pad (flat ss)).getD i 0 = (flat ss)[i] := by
    simp [pad, List.getElem?_append_left hl, List.getElem?_eq_getElem hl]
  rw [e]
  exact h.lets _ (List.getElem_mem hl)

end Go.Proofs.Ytongjijkdjagdaa

/- GridCount, GridFull, GridNumber of the specification, by their contracts. -/
namespace Go.Proofs.Ytongjijkdjagdaa
open Go.RowKit

/-- The cells that are still to come. -/
def NumRel (fl : List UInt8) (N : Nat) (w : World) (x i : Value) (wr : World) : Prop :=
  ∃ q : Nat, q ≤ N ∧ i = .int .i64 ((q : Int) - 1) ∧ x = .int .i64 ((numOf (fl.drop q) : Nat) : Int) ∧ ∃ d, wr = w.drewN d

theorem let3 (b : UInt8) (h : isLet b = true) : (b = 46 ∧ dig b = 0) ∨ (b = 114 ∧ dig b = 1) ∨ (b = 102 ∧ dig b = 2) := by
  simp only [isLet, Bool.or_eq_true, beq_iff_eq] at h
  rcases h with (rfl | rfl) | rfl <;> simp [dig]

theorem CountEnd_two {ss : List ByteArray} {e : Ending} (h : CountEnd ss e) : ∃ (x : Int) (ok : Bool), e = .returned (.tuple #[.int .i64 x, .bool ok]) := by
  rcases h with ⟨n, m, _, rfl⟩ | ⟨_, rfl⟩ <;> exact ⟨_, _, rfl⟩
theorem CountEnd_one {ss : List ByteArray} {e e' : Ending} (h : CountEnd ss e) (h' : CountEnd ss e') : e' = e := by
  rcases h with ⟨n, m, hg, rfl⟩ | ⟨hn, rfl⟩ <;> rcases h' with ⟨n', m', hg', rfl⟩ | ⟨hn', rfl⟩
  · rfl
  · exact absurd hg (hn' _ _)
  · exact absurd hg' (hn _ _)
  · rfl
theorem FullEnd_two {ss : List ByteArray} {e : Ending} (h : FullEnd ss e) : ∃ (ok : Bool), e = .returned (.bool ok) := by
  rcases h with ⟨n, m, _, rfl⟩ | ⟨_, rfl⟩ <;> exact ⟨_, rfl⟩
theorem FullEnd_one {ss : List ByteArray} {e e' : Ending} (h : FullEnd ss e) (h' : FullEnd ss e') : e' = e := by
  rcases h with ⟨n, m, hg, rfl⟩ | ⟨hn, rfl⟩ <;> rcases h' with ⟨n', m', hg', rfl⟩ | ⟨hn', rfl⟩
  · rfl
  · exact absurd hg (hn' _ _)
  · exact absurd hg' (hn _ _)
  · rfl
theorem NumberEnd_two {ss : List ByteArray} {e : Ending} (h : NumberEnd ss e) : ∃ (x : Int) (ok : Bool), e = .returned (.tuple #[.int .i64 x, .bool ok]) := by
  rcases h with ⟨n, m, _, ⟨_, rfl⟩ | ⟨_, rfl⟩⟩ | ⟨_, rfl⟩ <;> exact ⟨_, _, rfl⟩
theorem NumberEnd_one {ss : List ByteArray} {e e' : Ending} (h : NumberEnd ss e) (h' : NumberEnd ss e') : e' = e := by
  rcases h with ⟨n, m, hg, h1⟩ | ⟨hn, rfl⟩ <;> rcases h' with ⟨n', m', hg', h2⟩ | ⟨hn', rfl⟩
  · have e1 := hg.flen
    have e2 := hg'.flen
    rcases h1 with ⟨h1, rfl⟩ | ⟨h1, rfl⟩ <;> rcases h2 with ⟨h2, rfl⟩ | ⟨h2, rfl⟩
    · rfl
    · omega
    · omega
    · rfl
  · exact absurd hg (hn' _ _)
  · exact absurd hg' (hn _ _)
  · rfl
/-- The block that toStringS has made reads as the strings. -/
theorem madeRow {ss : List ByteArray} {w w' : World} {C : Array Value} (h : Filled ss ss.length C) (hw : w' = w.alloc (.cells C 9)) : Row9 w' w.heap.size ss := by
  subst hw
  exact ⟨C, heap_new0 w _, fun k s hk => h.2.1 k s (List.getElem?_eq_some_iff.1 hk).1 hk⟩

end Go.Proofs.Ytongjijkdjagdaa
