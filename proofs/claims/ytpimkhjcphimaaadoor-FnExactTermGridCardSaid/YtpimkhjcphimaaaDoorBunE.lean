/- Settled texts in one file. Each begins with what it holds. -/
import Derived.Test.YtpimkhjcphimaaaDoorBunB
import Derived.Test.YtpimkhjcphimaaaDoorBunA
import Derived.Test.YtpimkhjcphimaaaDoorBunD
import Derived.Test.YtpimkhjcphimaaaDoorBunG
import Derived.Maps.AppendAt
/- The specification's single steps of a beam, each by its contract. -/
namespace Go.Proofs.YtpimkhjcphimaaaDoor
open Go.RowKit

/-- A way as three results. -/
def wayT (x : Wy) : Value := .tuple #[.int .i64 x.i, .int .i64 x.k, .int .i64 ((x.d : Nat) : Int)]

end Go.Proofs.YtpimkhjcphimaaaDoor

/- Slices of integers that grow; l2Way of the specification, by its contract. -/
namespace Go.Proofs.YtpimkhjcphimaaaDoor
open Go.RowKit Go.Shelf

theorem Tryd.info_int : (Tryd.prog.info? 3).map (fun i => (i.zero, i.size, i.bytes)) = some (some (.int .i64 0), 1, 8) := by kernel_rfl
def intsV (l : List Int) : List Value := l.map fun x => .int .i64 x
def GrowI (w : World) (base : Nat) (v : Value) (l : List Int) : Prop := w.ownsRow base 3 1 v l.length (intsV l)
theorem growI_new (w : World) (base : Nat) (hb : base ≤ w.heap.size) : GrowI (w.alloc (.cells #[] 3)) base (.slice (some ⟨w.heap.size, 0, none⟩) 0 0) [] :=
  World.ownsRow_made w #[] 0 hb (by unfold maxLen; omega) rfl
theorem cell_newI (w : World) (b : Int) : (w.alloc (.cells #[.int .i64 b] 3)).cell? ⟨w.heap.size, 0, none⟩ = some (.int .i64 b) := by
  rw [cell_of_row _ _ _ _ _ _ (heap_new0 w _)]; rfl

section
variable {ops : Array Oper} {rest : List Oper} {o : Oper} {a : Act} {w : World} {Q : Exit → Act → World → Prop}
end

/-- The cells and the headings of a beam, as integers. -/
def cellsI (m : Nat) (bw : Nat → Wy) (L : Nat) : List Int := (List.range L).map fun j => ((cellN m (bw j) : Nat) : Int)
def headsI (bw : Nat → Wy) (L : Nat) : List Int := (List.range L).map fun j => (((bw j).d : Nat) : Int)
theorem cellsI_length (m : Nat) (bw : Nat → Wy) (L : Nat) : (cellsI m bw L).length = L := by simp [cellsI]
theorem headsI_length (bw : Nat → Wy) (L : Nat) : (headsI bw L).length = L := by simp [headsI]
/-- Two slices lie apart. -/
def Apart (v v' : Value) : Prop := ∀ b b', v.ownBlock = some b → v'.ownBlock = some b' → b ≠ b'
/-- What l2Way comes to. -/
def WayEnd (n m : Nat) (bw : Nat → Wy) (L : Nat) (w : World) (e : Ending) (w' : World) : Prop :=
  ∃ v v', e = .returned (.tuple #[v, v', .int .i64 (leav n m (bw L))]) ∧ GrowI w' w.heap.size v (cellsI m bw L) ∧ GrowI w' w.heap.size v' (headsI bw L) ∧ Below w.heap.size w w'
def WSRel (m : Nat) (bw : Nat → Wy) (L : Nat) (w : World) (v v' i k d : Value) (wr : World) : Prop :=
  ∃ j : Nat, j < L ∧ i = .int .i64 (bw j).i ∧ k = .int .i64 (bw j).k ∧ d = .int .i64 (((bw j).d : Nat) : Int) ∧
    GrowI wr w.heap.size v ((cellsI m bw L).take j) ∧ GrowI wr w.heap.size v' ((headsI bw L).take j) ∧ Apart v v' ∧ Below w.heap.size w wr

theorem grown_apart {w1 w2 : World} {base : Nat} {v v' : Value} {l : List Int} (h : GrowI w1 base v' l) (hg : w1.grownBy w2 v.ownBlock) (ha : Apart v v') : GrowI w2 base v' l := by
  refine World.ownsRow.kept h hg ?_
  cases h' : v'.ownBlock with
  | none => exact .inl rfl
  | some k =>
    refine .inr fun e => ?_
    exact ha k k e.symm h' rfl
theorem Apart.grown {w : World} {base N : Nat} {v v1 v' : Value} {l : List Int} (ha : Apart v v') (h : GrowI w base v' l) (hN : w.heap.size ≤ N) (hl : v1.ownBlock = v.ownBlock ∨ v1.ownBlock = some N) : Apart v1 v' := fun b b' e e' => by
  rcases hl with h1 | h1
  · exact ha b b' (h1 ▸ e) e'
  · rw [h1] at e
    cases e
    have := (World.ownsRow.lt h b' e').2
    omega
theorem Apart.symm {v v' : Value} (h : Apart v v') : Apart v' v := fun b b' e e' => (h b' b e' e).symm

end Go.Proofs.YtpimkhjcphimaaaDoor

/- l3Close of the specification, by its contract. -/
namespace Go.Proofs.YtpimkhjcphimaaaDoor
open Go.RowKit Go.Shelf

/-- What l3Close comes to. -/
def CloseEnd (n m : Nat) (t : Int → Int → UInt8) (x : Wy) (w : World) (e : Ending) (w' : World) : Prop :=
  ∃ v v', e = .returned (.tuple #[v, v', .bool (onR n m t x)]) ∧ GrowI w' w.heap.size v (cellsI m (iter t x) (goL n m t x)) ∧ GrowI w' w.heap.size v' (headsI (iter t x) (goL n m t x)) ∧ Below w.heap.size w w'
def CSRel (m : Nat) (bw : Nat → Wy) (L : Nat) (w : World) (d i k v v' : Value) (wr : World) : Prop :=
  ∃ j : Nat, j < L ∧ i = .int .i64 (bw j).i ∧ k = .int .i64 (bw j).k ∧ d = .int .i64 (((bw j).d : Nat) : Int) ∧
    GrowI wr w.heap.size v ((cellsI m bw L).take j) ∧ GrowI wr w.heap.size v' ((headsI bw L).take j) ∧ Apart v v' ∧ Below w.heap.size w wr

end Go.Proofs.YtpimkhjcphimaaaDoor

/- A slice of integers that reads as a list; l2Cell of the specification; outcomes of questions on a port. -/
namespace Go.Proofs.YtpimkhjcphimaaaDoor
open Go.RowKit Go.Shelf

/-- The slice at address A reads as the integers l, below block B. -/
def Ints (w : World) (B : Nat) (A : Option Addr) (l : List Int) : Prop :=
  0 < l.length → ∃ b off, A = some ⟨b, off, none⟩ ∧ b < B ∧ ∀ (k : Nat) (x : Int), l[k]? = some x → w.cell? ⟨b, off + k, none⟩ = some (.int .i64 x)
theorem Ints.at_ {w : World} {B : Nat} {A : Option Addr} {l : List Int} {k : Nat} (h : Ints w B A l) (hk : k < l.length) :
    ∃ b off x, A = some ⟨b, off, none⟩ ∧ b < B ∧ l[k]? = some x ∧ w.cell? ⟨b, off + k, none⟩ = some (.int .i64 x) := by
  obtain ⟨b, off, e, hb, hc⟩ := h (by omega)
  exact ⟨b, off, l[k], e, hb, List.getElem?_eq_getElem hk, hc k _ (List.getElem?_eq_getElem hk)⟩
theorem Ints.below {w w' : World} {B : Nat} {A : Option Addr} {l : List Int} (h : Ints w B A l) {B' : Nat} (hb : Below B' w w') (hB : B ≤ B') : Ints w' B A l := fun hn => by
  obtain ⟨b, off, e, hlt, hc⟩ := h hn
  exact ⟨b, off, e, hlt, fun k s hk => (hb.cell (p := ⟨b, off + k, none⟩) (by show b < B'; omega)).trans (hc k s hk)⟩
theorem Ints.more {w : World} {B B' : Nat} {A : Option Addr} {l : List Int} (h : Ints w B A l) (hB : B ≤ B') : Ints w B' A l := fun hn => by
  obtain ⟨b, off, e, hlt, hc⟩ := h hn
  exact ⟨b, off, e, by omega, hc⟩
theorem Ints.drewN {w : World} {B : Nat} {A : Option Addr} {l : List Int} (h : Ints w B A l) (n : Nat) : Ints (w.drewN n) B A l := h
/-- The integers are read. -/
theorem GrowI.ints {w : World} {base : Nat} {v : Value} {l : List Int} (h : GrowI w base v l) : ∃ A c, v = .slice A l.length c ∧ Ints w w.heap.size A l := by
  rcases h.2 with ⟨rfl, h0⟩ | ⟨g, cap, cur, rfl, _, hg, _, _, _, ht⟩
  · rw [h0]; exact ⟨none, 0, rfl, fun hl => by omega⟩
  · refine ⟨_, _, rfl, fun _ => ⟨g, 0, rfl, lt_of_block hg, fun k s hk => ?_⟩⟩
    rw [Nat.zero_add, cell_of_row _ _ _ _ _ _ hg]
    have hl := (List.getElem?_eq_some_iff.1 hk).1
    have e : (intsV l)[k]? = some (.int .i64 s) := by simp [intsV, hk]
    rw [← ht, List.getElem?_take_of_lt (by omega)] at e
    rw [← Array.getElem?_toList, e]

/-- The letter of a way's cell, as the list of letters has it. -/
theorem lett_flat {n m : Nat} {ss : List ByteArray} (hg : IsGrid n m ss) {x : Wy} (hx : inG n m x) : (flat ss)[cellN m x]? = some (lett m (pad (flat ss)) x.i x.k) := by
  have h1 := cellN_int hx
  have h2 := cellN_lt hx
  unfold lett
  rw [h1, Int.toNat_natCast, pad_getD _ _ (by rw [hg.flen]; exact h2), List.getD_eq_getElem?_getD, List.getElem?_eq_getElem (by rw [hg.flen]; exact h2)]
  rfl

end Go.Proofs.YtpimkhjcphimaaaDoor
