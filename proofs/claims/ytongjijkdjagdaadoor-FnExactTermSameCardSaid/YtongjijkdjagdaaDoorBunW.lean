/- Settled texts in one file. Each begins with what it holds. -/
import Derived.Test.YtongjijkdjagdaaDoorBunD
import Derived.Test.YtongjijkdjagdaaDoorBunC
import Derived.Test.YtongjijkdjagdaaDoorBunF
import Derived.Test.YtongjijkdjagdaaDoorBunO
import Derived.Test.YtongjijkdjagdaaDoorBunA
import Derived.Test.YtongjijkdjagdaaDoorTwice
import Derived.Laws.Concat
/- The grid that a number tells: plain words. -/
namespace Go.Proofs.YtongjijkdjagdaaDoor
open Go.RowKit

/-- The letter of a digit. -/
def letD (d : Nat) : UInt8 := if d = 0 then 46 else if d = 1 then 114 else 102
/-- The letters of the cells below c. -/
def ofL (k c : Nat) : List UInt8 := (List.range c).map fun j => letD (k / 3 ^ j % 3)
def ofF (m k : Nat) (r q : Nat) : UInt8 := letD (k / 3 ^ (r * m + q) % 3)
theorem ofL_length (k c : Nat) : (ofL k c).length = c := by simp [ofL]
theorem ofL_succ (k c : Nat) : ofL k (c + 1) = ofL k c ++ [letD (k / 3 ^ c % 3)] := by simp [ofL, List.range_succ]
theorem pad_ofL (k c : Nat) (hc : c < 25) : (pad (ofL k c)).set c (letD (k / 3 ^ c % 3)) = pad (ofL k (c + 1)) := by
  have h := pad_set (l := ofL k c) (b := letD (k / 3 ^ c % 3)) (by rw [ofL_length]; exact hc)
  rw [ofL_length] at h
  rw [h, ofL_succ]
theorem of_same (n m k : Nat) : textsOf n m (pad (ofL k (n * m))) = ruleG n m (ofF m k) := by
  refine rows_eq _ _ _ _ fun r hr q hq => ?_
  have hp := lt_of_parts hr hq
  rw [pad, List.getElem?_append_left (by rw [ofL_length]; exact hp)]
  simp [ofL, ofF, hp]
theorem div_pow (k c : Nat) : k / 3 ^ (c + 1) = k / 3 ^ c / 3 := by rw [Nat.pow_succ, Nat.div_div_eq_div_mul]
theorem digit3 (x : Nat) : x % 3 = 0 ∨ x % 3 = 1 ∨ x % 3 = 2 := by omega
/-- What the program and the specification take. -/
def OfIn (a b x : Int) (n m k : Nat) : Prop := a = n ∧ b = m ∧ x = k ∧ 1 ≤ n ∧ n ≤ 5 ∧ 1 ≤ m ∧ m ≤ 5 ∧ k < 3 ^ (n * m)
theorem OfIn.le25 {a b x : Int} {n m k : Nat} (h : OfIn a b x n m k) : n * m ≤ 25 := Nat.mul_le_mul h.2.2.2.2.1 h.2.2.2.2.2.2.1
def OfNone (a b x : Int) : Prop := ∀ n m k, ¬ OfIn a b x n m k
theorem OfIn.uniq {a b x : Int} {n m k n' m' k' : Nat} (h : OfIn a b x n m k) (h' : OfIn a b x n' m' k') : n = n' ∧ m = m' ∧ k = k' := by
  obtain ⟨rfl, rfl, rfl, _⟩ := h
  obtain ⟨h1, h2, h3, _⟩ := h'
  exact ⟨by omega, by omega, by omega⟩
/-- The outcome and the list. -/
def OfOut (a b x : Int) (ok : Bool) (res : List ByteArray) : Prop :=
  (∃ n m k, OfIn a b x n m k ∧ ok = true ∧ res = ruleG n m (ofF m k)) ∨ (OfNone a b x ∧ ok = false ∧ res = [])
theorem OfOut.uniq {a b x : Int} {ok ok' : Bool} {res res' : List ByteArray} (h : OfOut a b x ok res) (h' : OfOut a b x ok' res') : ok' = ok ∧ res' = res := by
  rcases h with ⟨n, m, k, hg, rfl, rfl⟩ | ⟨hn, rfl, rfl⟩ <;> rcases h' with ⟨n', m', k', hg', rfl, rfl⟩ | ⟨hn', rfl, rfl⟩
  · obtain ⟨rfl, rfl, rfl⟩ := hg.uniq hg'
    exact ⟨rfl, rfl⟩
  · exact absurd hg (hn' _ _ _)
  · exact absurd hg' (hn _ _ _)
  · exact ⟨rfl, rfl⟩
theorem OfOut.len {a b x : Int} {ok : Bool} {res : List ByteArray} (h : OfOut a b x ok res) : res.length ≤ 1048576 := by
  rcases h with ⟨n, m, k, hg, _, rfl⟩ | ⟨_, _, rfl⟩
  · have h1 := hg.2.2.2.2.1
    rw [ruleG_length]; omega
  · simp

end Go.Proofs.YtongjijkdjagdaaDoor

/- numberedGrid and GridOf of the program, by their contracts. -/
namespace Go.Proofs.YtongjijkdjagdaaDoor
open Go.RowKit Go.Shelf
attribute [local go_sem] Oper.semAt_some

def NumEnd (a b x : Int) (w : World) (e : Ending) (w' : World) : Prop :=
  Below w.heap.size w w' ∧ ((∃ n m k, OfIn a b x n m k ∧ e = .returned (.tuple #[.agg (gcells n m (pad (ofL k (n * m)))), .bool true])) ∨ (OfNone a b x ∧ e = .returned (.tuple #[.agg zeroG, .bool false])))

def NumRelI (n m k N : Nat) (w : World) (x i : Value) (wr : World) : Prop :=
  ∃ c : Nat, c ≤ N ∧ i = .int .i64 c ∧ x = .int .i64 ((k / 3 ^ c : Nat) : Int) ∧ wr.heap[w.heap.size]? = some (.cells zeroG 39 (0, 0)) ∧ wr.heap[w.heap.size + 1]? = some (.cells (gcells n m (pad (ofL k c))) 39 (0, 0)) ∧ Below w.heap.size w wr

end Go.Proofs.YtongjijkdjagdaaDoor

/- GridOf of the program and of the specification, by their contracts. -/
namespace Go.Proofs.YtongjijkdjagdaaDoor
open Go.RowKit Go.Shelf

def PowRel (K : Nat) (x i : Value) : Prop := ∃ r : Nat, r ≤ K ∧ i = .int .i64 r ∧ x = .int .i64 ((3 ^ r : Nat) : Int)
def OutOf (n m k : Nat) (w : World) (x v i : Value) (wr : World) : Prop :=
  ∃ r : Nat, r ≤ n ∧ i = .int .i64 r ∧ x = .int .i64 ((k / 3 ^ (r * m) : Nat) : Int) ∧ GrowS wr w.heap.size v ((ruleG n m (ofF m k)).take r) ∧ Below w.heap.size w wr
def InOf (n m k r : Nat) (w wo : World) (ov : Value) (x v i : Value) (wr : World) : Prop :=
  ∃ p : Nat, p ≤ m ∧ i = .int .i64 p ∧ x = .int .i64 ((k / 3 ^ (r * m + p) : Nat) : Int) ∧ GrowB wr wo.heap.size v ((ruleL m (ofF m k r)).take p) ∧ GrowS wr w.heap.size ov ((ruleG n m (ofF m k)).take r) ∧ Below w.heap.size w wr ∧ wo.heap.size ≤ wr.heap.size

end Go.Proofs.YtongjijkdjagdaaDoor

/- A part of a grid, by its contract. -/
namespace Go.Proofs.YtongjijkdjagdaaDoor
open Go.RowKit Go.Shelf
attribute [local go_sem] Oper.semAt_some

/-- The letters of the part. -/
def partVal (m m1 a l : Nat) (ls : List UInt8) (k : Nat) : UInt8 := ls.getD ((a + k / m1) * m + (l + k % m1)) 0

end Go.Proofs.YtongjijkdjagdaaDoor

/- The grid of two grids beside or below each other (joinedGrid), by its contract. -/
namespace Go.Proofs.YtongjijkdjagdaaDoor
open Go.RowKit Go.Shelf
attribute [local go_sem] Oper.semAt_some

/-- Where a cell of a grid with m columns goes, in one with M columns, its upper left cell at row a, column l. -/
def joinPos (m M a l k : Nat) : Nat := (a + k / m) * M + (l + k % m)
/-- The letters of the grid of two. -/
def joinG (n m n' m' M a l : Nat) (ls ls' : List UInt8) : List UInt8 :=
  putAll (joinPos m' M a l) (fun k => ls'.getD k 0) (List.finRange (n' * m')) (putAll (joinPos m M 0 0) (fun k => ls.getD k 0) (List.finRange (n * m)) (pad []))

theorem own_lt {β : Type} (B b : Nat) (hb : b < B) (o : Obj) : OwnFrom B (fun (_ : β) W => W.heap[b]? = some o) := fun s W W' row hs hg hr =>
  (hg.block b (lt_of_block hs) (fun e => by have := (hr b e.symm).1; omega)).trans hs

set_option maxRecDepth 100000 in
set_option maxHeartbeats 4000000 in
theorem joinedGrid_any (n m n' m' N M a l : Nat) (ls ls' : List UInt8) (w : World) (hl : ls.length = 25) (hl' : ls'.length = 25) (hN : N ≤ 5) (hM : M ≤ 5) (hm : 1 ≤ m) (hm' : 1 ≤ m') (hnN : n ≤ N) (hmM : m ≤ M) (hn' : a + n' ≤ N) (hm2 : l + m' ≤ M) :
    Calls Tryd.prog 203 #[.int .i64 N, .int .i64 M, .agg (gcells n m ls), .agg (gcells n' m' ls'), .agg #[.int .i64 a, .int .i64 l]] w fun e w' => e = .returned (.agg (gcells N M (joinG n m n' m' M a l ls ls'))) ∧ Below w.heap.size w w' := by
  refine (callsIn_wide (n := 3)).1 ?_
  have HG := hid (show (Tryd.prog.info? 39).map (·.size) = some (gcells n m ls).size by rw [gcells_size hl]; exact Tryd.size_grid)
  have HG' := hid (show (Tryd.prog.info? 39).map (·.size) = some (gcells n' m' ls').size by rw [gcells_size hl']; exact Tryd.size_grid)
  have HT := hid (show (Tryd.prog.info? 39).map (·.size) = some (gcells N M (pad [])).size by rw [gcells_size (by rfl)]; exact Tryd.size_grid)
  have F : ∀ X : World, X = ((((w.alloc (.cells (gcells n m ls) 39)).alloc (.cells (gcells n' m' ls') 39)).alloc (.cells #[.int .i64 a, .int .i64 l] 97)).alloc (.cells zeroG 39)).alloc (.cells zeroG 39) →
      (X.setRow (w.heap.size + 1 + 1 + 1 + 1) (gcells N M (pad []))).heap[w.heap.size]? = some (.cells (gcells n m ls) 39 (0, 0)) ∧
      (X.setRow (w.heap.size + 1 + 1 + 1 + 1) (gcells N M (pad []))).heap[w.heap.size + 1]? = some (.cells (gcells n' m' ls') 39 (0, 0)) ∧
      (X.setRow (w.heap.size + 1 + 1 + 1 + 1) (gcells N M (pad []))).heap[w.heap.size + 1 + 1]? = some (.cells #[.int .i64 a, .int .i64 l] 97 (0, 0)) ∧
      (X.setRow (w.heap.size + 1 + 1 + 1 + 1) (gcells N M (pad []))).heap[w.heap.size + 1 + 1 + 1]? = some (.cells zeroG 39 (0, 0)) ∧
      (X.setRow (w.heap.size + 1 + 1 + 1 + 1) (gcells N M (pad []))).heap[w.heap.size + 1 + 1 + 1 + 1]? = some (.cells (gcells N M (pad [])) 39 (0, 0)) ∧
      Below w.heap.size w (X.setRow (w.heap.size + 1 + 1 + 1 + 1) (gcells N M (pad []))) ∧ (X.setRow (w.heap.size + 1 + 1 + 1 + 1) (gcells N M (pad []))).heap.size = w.heap.size + 5 ∧
      X.heap[w.heap.size + 1 + 1 + 1 + 1]? = some (.cells zeroG 39 (0, 0)) := fun X hX => by
    have e4 : X.heap[w.heap.size + 1 + 1 + 1 + 1]? = some (.cells zeroG 39 (0, 0)) := by
      rw [hX]; simpa using heap_new0 ((((w.alloc (.cells (gcells n m ls) 39)).alloc (.cells (gcells n' m' ls') 39)).alloc (.cells #[.int .i64 a, .int .i64 l] 97)).alloc (.cells zeroG 39)) (.cells zeroG 39)
    refine ⟨?_, ?_, ?_, ?_, setRow_heap _ _ _ _ _ _ e4, ?_, by rw [hX]; simp, e4⟩
    · rw [setRow_other _ _ _ _ (by omega), hX, Below.heap_alloc _ _ _ (by simp; omega), heap_new3]
    · rw [setRow_other _ _ _ _ (by omega), hX]; simpa using heap_new3 (w.alloc (.cells (gcells n m ls) 39)) (.cells (gcells n' m' ls') 39) _ _ _
    · rw [setRow_other _ _ _ _ (by omega), hX]; simpa using heap_new2 ((w.alloc (.cells (gcells n m ls) 39)).alloc (.cells (gcells n' m' ls') 39)) (.cells #[.int .i64 a, .int .i64 l] 97) _ _
    · rw [setRow_other _ _ _ _ (by omega), hX]; simpa using heap_new1 (((w.alloc (.cells (gcells n m ls) 39)).alloc (.cells (gcells n' m' ls') 39)).alloc (.cells #[.int .i64 a, .int .i64 l] 97)) (.cells zeroG 39) _
    · rw [hX]
      exact below_setRow' ((((((Below.refl _ w).alloc (Nat.le_refl _) _).alloc (by simp) _).alloc (by simp; omega) _).alloc (by simp; omega) _).alloc (by simp; omega) _) (by omega) _
  obtain ⟨g0, g1, g2, g3, g4, g5, g6, g7⟩ := F _ rfl
  have H0 := hid g0
  have H1 := hid g1
  have H2 := hid g2
  have H3 := hid g3
  have H4 := hid g4
  have H5 := hid g5
  have H6 := hid g6
  have H7 := hid g7
  clear F g0 g1 g2 g3 g4 g5 g6 g7
  refine callsIn_of_wp_marks Tryd.func203 rfl trivial ?_ rfl
  simp only [Tryd.ntmps203, List.size_toArray, List.length_cons, List.length_nil, Nat.reduceAdd, Nat.reduceSub, Array.replicate_succ, Array.replicate_zero, List.push_toArray, List.append_toArray, List.nil_append, List.cons_append]
  gi_wp2_with (first
    | refine wpListIn_store_row (Open.wide _) rfl 39 _ _ rfl (w.heap.size + 1 + 1 + 1 + 1) (gcells N M (pad [])) rfl rfl 39 zeroG H7.out HT.out (gcells_size (by rfl)).symm (gcells_one _ _ _) ?_
    | refine wpListIn_load_row (Open.wide _) rfl 39 _ rfl w.heap.size rfl 39 (gcells n m ls) (0, 0) _ H0.out Tryd.underlying39 rfl HG.out ?_)
  generalize World.setRow _ _ _ = W0 at H0 H1 H2 H3 H4 H5 H6
  refine ⟨trivial, callsIn_wide.2 ((cells_any (gcells n m ls) W0).mono ?_)⟩
  rintro e w1 ⟨rfl, hw1⟩
  have K1 := hid (show w1.heap[w.heap.size + 1]? = some (.cells (gcells n' m' ls') 39 (0, 0)) by rw [hw1]; exact (Below.heap_alloc _ _ _ (lt_of_block H1.out)).trans H1.out)
  have K2 := hid (show w1.heap[w.heap.size + 1 + 1]? = some (.cells #[.int .i64 a, .int .i64 l] 97 (0, 0)) by rw [hw1]; exact (Below.heap_alloc _ _ _ (lt_of_block H2.out)).trans H2.out)
  have K3 := hid (show w1.heap[w.heap.size + 1 + 1 + 1]? = some (.cells zeroG 39 (0, 0)) by rw [hw1]; exact (Below.heap_alloc _ _ _ (lt_of_block H3.out)).trans H3.out)
  have K4 := hid (show w1.heap[w.heap.size + 1 + 1 + 1 + 1]? = some (.cells (gcells N M (pad [])) 39 (0, 0)) by rw [hw1]; exact (Below.heap_alloc _ _ _ (lt_of_block H4.out)).trans H4.out)
  have KX := hid (show w1.heap[W0.heap.size]? = some (.cells (gcells n m ls) 39 (0, 0)) by rw [hw1]; exact heap_new0 W0 _)
  have KB := hid (show Below w.heap.size w w1 by rw [hw1]; exact H5.out.alloc H5.out.size _)
  have KS := hid (show w1.heap.size = w.heap.size + 6 by rw [hw1, World.size_alloc, H6.out])
  have KW := hid H6.out
  clear hw1 H0 H1 H2 H3 H4 H5 H6 H7
  have hnm : n * m ≤ 5 * 5 := Nat.mul_le_mul (Nat.le_trans hnN hN) (Nat.le_trans hmM hM)
  have hNM : N * M ≤ 5 * 5 := Nat.mul_le_mul hN hM
  have HLEN := hid (show ∀ pre : List (Fin (n * m)), (putAll (joinPos m M 0 0) (fun k => ls.getD k 0) pre (pad [])).length = 25 from fun pre => by rw [putAll_length]; rfl)
  have HACC := hid (HLEN.out (List.finRange (n * m)))
  gi_wp2
  refine wpIn_rangeFunc_ownH rfl (by omega) (gf := 87) (lb := #[.pointer (some ⟨W0.heap.size, 0, none⟩)]) rfl trivial (enters_of Tryd.func87 (by kernel_rfl) rfl)
    (cells_stops 2 W0.heap.size n m (n * m) rfl ls hl (by omega) hm (by omega) w1 KX.out) KeepsAt.trans (keepsAt_b (lt_of_block KX.out)) (Below.refl _ _) (fun _ => rfl)
    (fun pre W => ((((W.heap[w.heap.size + 1]? = some (.cells (gcells n' m' ls') 39 (0, 0)) ∧ W.heap[w.heap.size + 1 + 1]? = some (.cells #[.int .i64 a, .int .i64 l] 97 (0, 0))) ∧ W.heap[w.heap.size + 1 + 1 + 1]? = some (.cells zeroG 39 (0, 0))) ∧ W.heap[w.heap.size + 1 + 1 + 1 + 1]? = some (.cells (gcells N M (putAll (joinPos m M 0 0) (fun k => ls.getD k 0) pre (pad []))) 39 (0, 0))) ∧ Below w.heap.size w1 W))
    (fun _ _ _ => False)
    (OwnFrom.and (OwnFrom.and (OwnFrom.and (OwnFrom.and (ownFrom_heap _ _ (fun _ => _) (fun _ => rfl)) (ownFrom_heap _ _ (fun _ => _) (fun _ => rfl))) (ownFrom_heap _ _ (fun _ => _) (fun _ => rfl))) (ownFrom_heap _ _ (fun pre => .cells (gcells N M (putAll (joinPos m M 0 0) (fun k => ls.getD k 0) pre (pad []))) 39 (0, 0)) (fun _ => rfl))) (ownFrom_below (by rw [KS.out]; omega) (by rw [KS.out]; omega)))
    (fun _ _ _ _ _ hs _ _ => hs)
    ⟨⟨⟨⟨K1.out, K2.out⟩, K3.out⟩, K4.out⟩, Below.refl _ _⟩
    (fun x a' W => ∃ Bx, w.heap.size + 6 ≤ Bx ∧ W.heap[Bx]? = some (.cells #[.int .i64 ((x.val / m : Nat) : Int), .int .i64 ((x.val % m : Nat) : Int)] 97 (0, 0)) ∧ ∃ u0 u1 u2 u3 u4 u5 u6 u14 u15 u16 u17 u18 u19 u20 u21 u22 u23 u24 u25 u26 u27 u28 u29 u30 u31 u32 u33 u34 u35 u36 u37 u38 u39 u40 u41 u42 u43 u44 u45 : Value,
      a' = { tmps := #[u0, u1, u2, u3, u4, u5, u6, .pointer (some ⟨w.heap.size, 0, none⟩), .pointer (some ⟨w.heap.size + 1, 0, none⟩), .pointer (some ⟨w.heap.size + 1 + 1, 0, none⟩), .pointer (some ⟨w.heap.size + 1 + 1 + 1, 0, none⟩), .pointer (some ⟨w.heap.size + 1 + 1 + 1 + 1, 0, none⟩), .pointer (some ⟨Bx, 0, none⟩), .int .u8 ((ls.getD x.val 0).toNat : Int), u14, u15, u16, u17, u18, u19, u20, u21, u22, u23, u24, u25, u26, u27, u28, u29, u30, u31, u32, u33, u34, u35, u36, u37, u38, u39, u40, u41, u42, u43, u44, u45], defers := [] })
    (fun x a' _ X Y row hs hg hr => by
      obtain ⟨Bx, h1, h2, h3⟩ := hs
      exact ⟨Bx, h1, ownFrom_heap _ Bx (fun (_ : Unit) => Obj.cells #[.int .i64 ((x.val / m : Nat) : Int), .int .i64 ((x.val % m : Nat) : Int)] 97 (0, 0)) (fun _ => rfl) () X Y row h2 hg hr, h3⟩)
    ?assign ?body ?done ?stop
  case assign =>
    rintro l' pre x W K ⟨⟨⟨⟨i1, i2⟩, i3⟩, i4⟩, i5⟩ hK
    have J1 := hid i1
    have J2 := hid i2
    have J3 := hid i3
    have J4 := hid i4
    have J5 := hid i5
    have JK := hid hK
    clear i1 i2 i3 i4 i5 hK
    unfold encs
    obtain ⟨qv, hqv⟩ : ∃ qv : Int, ((x.val / m : Nat) : Int) = qv := ⟨_, rfl⟩
    obtain ⟨rv, hrv⟩ : ∃ rv : Int, ((x.val % m : Nat) : Int) = rv := ⟨_, rfl⟩
    obtain ⟨bv, hbv⟩ : ∃ bv : Int, ((ls.getD x.val 0).toNat : Int) = bv := ⟨_, rfl⟩
    rw [hqv, hrv, hbv] at JK ⊢
    gi_wp2
    have hsz : w.heap.size + 6 ≤ W.heap.size := by rw [← KS.out]; exact J5.out.size
    exact JK.out _ _ ((KeepsOthers.alloc _ _).from _) ⟨by simp, Below.heap_alloc _ _ _ (by rw [KW.out]; omega)⟩
      ⟨⟨⟨⟨(Below.heap_alloc _ _ _ (by omega)).trans J1.out, (Below.heap_alloc _ _ _ (by omega)).trans J2.out⟩, (Below.heap_alloc _ _ _ (by omega)).trans J3.out⟩, (Below.heap_alloc _ _ _ (by omega)).trans J4.out⟩, J5.out.alloc (by omega) _⟩
      ⟨W.heap.size, hsz, heap_new0 W _, _, _, _, _, _, _, _, _, _, _, _, _, _, _, _, _, _, _, _, _, _, _, _, _, _, _, _, _, _, _, _, _, _, _, _, _, _, _, _, rfl⟩
  case body =>
    rintro l' pre x a' W hlw ⟨r, hr⟩ ⟨⟨⟨⟨i1, i2⟩, i3⟩, i4⟩, i5⟩ ⟨Bx, hBx, hX, u0, u1, u2, u3, u4, u5, u6, u14, u15, u16, u17, u18, u19, u20, u21, u22, u23, u24, u25, u26, u27, u28, u29, u30, u31, u32, u33, u34, u35, u36, u37, u38, u39, u40, u41, u42, u43, u44, u45, rfl⟩ hlt
    have hxk := x.isLt
    have hq5 : x.val / m < n := by rw [Nat.div_lt_iff_lt_mul (by omega)]; exact hxk
    have hr5 : x.val % m < m := Nat.mod_lt _ (by omega)
    have hjp : joinPos m M 0 0 x.val = x.val / m * M + x.val % m := by unfold joinPos; rw [Nat.zero_add, Nat.zero_add]
    obtain ⟨qn, hqn⟩ : ∃ qn, x.val / m = qn := ⟨_, rfl⟩
    obtain ⟨rn, hrn⟩ : ∃ rn, x.val % m = rn := ⟨_, rfl⟩
    rw [hqn] at hq5 hjp hX
    rw [hrn] at hr5 hjp hX
    have hrow : qn * M + rn < N * M := lt_of_parts (by omega) (by omega)
    obtain ⟨pp, hpp⟩ : ∃ pp, qn * M + rn = pp := ⟨_, rfl⟩
    rw [hpp] at hrow hjp
    have hpi : (qn : Int) * (M : Int) + (rn : Int) = (pp : Int) := by
      rw [← hpp, Int.natCast_add, Int.natCast_mul]
    obtain ⟨bb, hbb⟩ : ∃ bb : UInt8, ls.getD x.val 0 = bb := ⟨_, rfl⟩
    rw [hbb]
    have HVL := hid hbb
    have HJP := hid hjp
    have HP := hid (show pp < 25 by omega)
    have HWT := hid (fun w' => with_any N M (putAll (joinPos m M 0 0) (fun k => ls.getD k 0) pre (pad [])) qn rn pp bb w' (HLEN.out pre) (by omega) hpi ⟨by omega, by omega⟩ hM)
    have HTT := hid (show ∀ ks : List (Fin (n * m)), (Tryd.prog.info? 39).map (·.size) = some (gcells N M (putAll (joinPos m M 0 0) (fun k => ls.getD k 0) ks (pad []))).size from fun ks => by rw [gcells_size (HLEN.out ks)]; exact Tryd.size_grid)
    have c0 : W.cell? ⟨Bx, 0, none⟩ = some (.int .i64 (qn : Int)) := by rw [cell_of_row _ _ _ _ _ _ hX]; rfl
    have c1 : W.cell? ⟨Bx, 1, none⟩ = some (.int .i64 (rn : Int)) := by rw [cell_of_row _ _ _ _ _ _ hX]; rfl
    have I1 := hid i1
    have I2 := hid i2
    have I3 := hid i3
    have I4 := hid i4
    have I5 := hid i5
    clear i1 i2 i3 i4 i5 hX hr hpi hpp hrow hqn hrn hjp hbb hxk hlt hq5 hr5 hnm hNM
    obtain ⟨qv, hqv⟩ : ∃ qv : Int, (qn : Int) = qv := ⟨_, rfl⟩
    obtain ⟨rv, hrv⟩ : ∃ rv : Int, (rn : Int) = rv := ⟨_, rfl⟩
    rw [hqv] at c0 HWT
    rw [hrv] at c1 HWT
    clear hqv hrv
    gi_wp2_with (refine wpListIn_load_row (Open.round _ l') rfl 39 _ rfl (w.heap.size + 1 + 1 + 1 + 1) rfl 39 _ (0, 0) _ I4.out Tryd.underlying39 rfl (HTT.out pre) ?_)
    refine ⟨trivial, CallsIn.inRound l' (callsIn_wide.2 ((HWT.out W).mono ?_))⟩
    rintro e w2 ⟨rfl, hbel⟩
    have E1 := hid ((hbel.block _ (lt_of_block I1.out)).trans I1.out)
    have E2 := hid ((hbel.block _ (lt_of_block I2.out)).trans I2.out)
    have E3 := hid ((hbel.block _ (lt_of_block I3.out)).trans I3.out)
    have E4 := hid ((hbel.block _ (lt_of_block I4.out)).trans I4.out)
    have hWs : w.heap.size + 6 ≤ W.heap.size := by rw [← KS.out]; exact I5.out.size
    have E5 := hid (I5.out.trans (hbel.mono (by omega)))
    have EK := hid (keeps_below hbel)
    have EA := hid (show KeepsAt W0.heap.size W w2 from ⟨hbel.size, hbel.block _ (by rw [KW.out]; omega)⟩)
    clear hbel c0 c1
    gi_wp2_with (refine wpListIn_store_row (Open.round _ l') rfl 39 _ _ rfl (w.heap.size + 1 + 1 + 1 + 1) (gcells N M ((putAll (joinPos m M 0 0) (fun k => ls.getD k 0) pre (pad [])).set pp bb)) rfl rfl 39 (gcells N M (putAll (joinPos m M 0 0) (fun k => ls.getD k 0) pre (pad []))) E4.out (by rw [gcells_size (by rw [List.length_set]; exact HLEN.out pre)]; exact Tryd.size_grid) (by rw [gcells_size (HLEN.out pre), gcells_size (by rw [List.length_set]; exact HLEN.out pre)]) (gcells_one _ _ _) ?_)
    refine ⟨(EK.out.trans (keeps_setRow _ _ _)).from _, EA.out.trans ⟨by simp, setRow_other _ _ _ _ (by rw [KW.out]; omega)⟩, ⟨⟨⟨?_, ?_⟩, ?_⟩, ?_⟩, ?_⟩
    · rw [setRow_other _ _ _ _ (by omega)]; exact E1.out
    · rw [setRow_other _ _ _ _ (by omega)]; exact E2.out
    · rw [setRow_other _ _ _ _ (by omega)]; exact E3.out
    · rw [putAll_snoc, HVL.out, HJP.out]; exact setRow_heap _ _ _ _ _ _ E4.out
    · exact below_setRow' E5.out (by omega) _
  case done =>
    rintro D xs W hD rfl ⟨⟨⟨⟨i1, i2⟩, i3⟩, i4⟩, i5⟩ hK
    have J1 := hid i1
    have J2 := hid i2
    have J3 := hid i3
    have J4 := hid i4
    have J5 := hid i5
    have JK := hid hK
    clear i1 i2 i3 i4 i5 hK
    gi_wp2_with (refine wpListIn_load_row (Open.wide _) rfl 39 _ rfl (w.heap.size + 1) rfl 39 (gcells n' m' ls') (0, 0) _ J1.out Tryd.underlying39 rfl HG'.out ?_)
    refine ⟨trivial, callsIn_wide.2 ((cells_any (gcells n' m' ls') W).mono ?_)⟩
    rintro e w2 ⟨rfl, hw2⟩
    have hsW : w.heap.size + 6 ≤ W.heap.size := by rw [← KS.out]; exact J5.out.size
    have M2 := hid (show w2.heap[w.heap.size + 1 + 1]? = some (.cells #[.int .i64 a, .int .i64 l] 97 (0, 0)) by rw [hw2]; exact (Below.heap_alloc _ _ _ (lt_of_block J2.out)).trans J2.out)
    have M3 := hid (show w2.heap[w.heap.size + 1 + 1 + 1]? = some (.cells zeroG 39 (0, 0)) by rw [hw2]; exact (Below.heap_alloc _ _ _ (lt_of_block J3.out)).trans J3.out)
    have M4 := hid (show w2.heap[w.heap.size + 1 + 1 + 1 + 1]? = some (.cells (gcells N M (putAll (joinPos m M 0 0) (fun k => ls.getD k 0) (List.finRange (n * m)) (pad []))) 39 (0, 0)) by rw [hw2]; exact (Below.heap_alloc _ _ _ (lt_of_block J4.out)).trans J4.out)
    have MX := hid (show w2.heap[W.heap.size]? = some (.cells (gcells n' m' ls') 39 (0, 0)) by rw [hw2]; exact heap_new0 W _)
    have MD := hid (show w2.heap[D]? = some (.deferred (some [])) by rw [hw2]; exact (Below.heap_alloc _ _ _ (lt_of_block JK.out)).trans JK.out)
    have MB := hid (show Below w.heap.size w w2 by rw [hw2]; exact (KB.out.trans J5.out).alloc (by omega) _)
    have MS := hid (show w2.heap.size = W.heap.size + 1 by rw [hw2, World.size_alloc])
    have MW := hid hsW
    have MDD := hid (show D < W.heap.size from lt_of_block JK.out)
    have MD6 := hid (show w.heap.size + 6 ≤ D by rw [KS.out] at hD; exact hD)
    clear hw2 J1 J2 J3 J4 J5 JK hsW hD HLEN
    generalize hacc : putAll (joinPos m M 0 0) (fun k => ls.getD k 0) (List.finRange (n * m)) (pad []) = acc at M4 HACC
    have HJ := hid (show joinG n m n' m' M a l ls ls' = putAll (joinPos m' M a l) (fun k => ls'.getD k 0) (List.finRange (n' * m')) acc by unfold joinG; rw [hacc])
    clear hacc
    have HLEN := hid (show ∀ pre : List (Fin (n' * m')), (putAll (joinPos m' M a l) (fun k => ls'.getD k 0) pre acc).length = 25 from fun pre => by rw [putAll_length]; exact HACC.out)
    gi_wp2
    refine wpIn_rangeFunc_ownH rfl (by omega) (gf := 87) (lb := #[.pointer (some ⟨W.heap.size, 0, none⟩)]) rfl trivial (enters_of Tryd.func87 (by kernel_rfl) rfl)
      (cells_stops 2 W.heap.size n' m' (n' * m') rfl ls' hl' (by omega) hm' (by omega) w2 MX.out) KeepsAt.trans (keepsAt_b (lt_of_block MX.out)) (Below.refl _ _) (fun _ => rfl)
      (fun pre W' => ((((W'.heap[D]? = some (.deferred (some [])) ∧ W'.heap[w.heap.size + 1 + 1]? = some (.cells #[.int .i64 a, .int .i64 l] 97 (0, 0))) ∧ W'.heap[w.heap.size + 1 + 1 + 1]? = some (.cells zeroG 39 (0, 0))) ∧ W'.heap[w.heap.size + 1 + 1 + 1 + 1]? = some (.cells (gcells N M (putAll (joinPos m' M a l) (fun k => ls'.getD k 0) pre acc)) 39 (0, 0))) ∧ Below w.heap.size w2 W'))
      (fun _ _ _ => False)
      (OwnFrom.and (OwnFrom.and (OwnFrom.and (OwnFrom.and (own_lt _ D (by have := MS.out; have := MDD.out; omega) _) (ownFrom_heap _ _ (fun _ => _) (fun _ => rfl))) (ownFrom_heap _ _ (fun _ => _) (fun _ => rfl))) (ownFrom_heap _ _ (fun pre => .cells (gcells N M (putAll (joinPos m' M a l) (fun k => ls'.getD k 0) pre acc)) 39 (0, 0)) (fun _ => rfl))) (ownFrom_below (by have := MS.out; have := MW.out; omega) (by have := MS.out; have := MW.out; omega)))
      (fun _ _ _ _ _ hs _ _ => hs)
      ⟨⟨⟨⟨MD.out, M2.out⟩, M3.out⟩, M4.out⟩, Below.refl _ _⟩
      (fun x a' W' => ∃ Bx, w2.heap.size ≤ Bx ∧ W'.heap[Bx]? = some (.cells #[.int .i64 ((x.val / m' : Nat) : Int), .int .i64 ((x.val % m' : Nat) : Int)] 97 (0, 0)) ∧ ∃ u0 u1 u2 u3 u4 u5 u6 u12 u13 u16 u17 u18 u19 u20 u21 u22 u23 u24 u25 u26 u27 u28 u29 u30 u31 u32 u33 u34 u35 u36 u37 u38 u39 u40 u41 u42 u43 u44 u45 : Value,
        a' = { tmps := #[u0, u1, u2, u3, u4, u5, u6, .pointer (some ⟨w.heap.size, 0, none⟩), .pointer (some ⟨w.heap.size + 1, 0, none⟩), .pointer (some ⟨w.heap.size + 1 + 1, 0, none⟩), .pointer (some ⟨w.heap.size + 1 + 1 + 1, 0, none⟩), .pointer (some ⟨w.heap.size + 1 + 1 + 1 + 1, 0, none⟩), u12, u13, .pointer (some ⟨Bx, 0, none⟩), .int .u8 ((ls'.getD x.val 0).toNat : Int), u16, u17, u18, u19, u20, u21, u22, u23, u24, u25, u26, u27, u28, u29, u30, u31, u32, u33, u34, u35, u36, u37, u38, u39, u40, u41, u42, u43, u44, u45], defers := [] })
      (fun x a' _ X Y row hs hg hr => by
        obtain ⟨Bx, h1, h2, h3⟩ := hs
        exact ⟨Bx, h1, ownFrom_heap _ Bx (fun (_ : Unit) => Obj.cells #[.int .i64 ((x.val / m' : Nat) : Int), .int .i64 ((x.val % m' : Nat) : Int)] 97 (0, 0)) (fun _ => rfl) () X Y row h2 hg hr, h3⟩)
      ?assign2 ?body2 ?done2 ?stop2
    case assign2 =>
      rintro l' pre x W' K ⟨⟨⟨⟨i1, i2⟩, i3⟩, i4⟩, i5⟩ hK
      have J1 := hid i1
      have J2 := hid i2
      have J3 := hid i3
      have J4 := hid i4
      have J5 := hid i5
      have JK := hid hK
      clear i1 i2 i3 i4 i5 hK
      unfold encs
      obtain ⟨qv, hqv⟩ : ∃ qv : Int, ((x.val / m' : Nat) : Int) = qv := ⟨_, rfl⟩
      obtain ⟨rv, hrv⟩ : ∃ rv : Int, ((x.val % m' : Nat) : Int) = rv := ⟨_, rfl⟩
      obtain ⟨bv, hbv⟩ : ∃ bv : Int, ((ls'.getD x.val 0).toNat : Int) = bv := ⟨_, rfl⟩
      rw [hqv, hrv, hbv] at JK ⊢
      gi_wp2
      have hsz : w2.heap.size ≤ W'.heap.size := J5.out.size
      exact JK.out _ _ ((KeepsOthers.alloc _ _).from _) ⟨by simp, Below.heap_alloc _ _ _ (by have := MS.out; omega)⟩
        ⟨⟨⟨⟨(Below.heap_alloc _ _ _ (lt_of_block J1.out)).trans J1.out, (Below.heap_alloc _ _ _ (lt_of_block J2.out)).trans J2.out⟩, (Below.heap_alloc _ _ _ (lt_of_block J3.out)).trans J3.out⟩, (Below.heap_alloc _ _ _ (lt_of_block J4.out)).trans J4.out⟩, J5.out.alloc (by have := MS.out; have := MW.out; omega) _⟩
        ⟨W'.heap.size, hsz, heap_new0 W' _, _, _, _, _, _, _, _, _, _, _, _, _, _, _, _, _, _, _, _, _, _, _, _, _, _, _, _, _, _, _, _, _, _, _, _, _, _, _, _, rfl⟩
    case body2 =>
      rintro l' pre x a' W' hlw ⟨r, hr⟩ ⟨⟨⟨⟨i1, i2⟩, i3⟩, i4⟩, i5⟩ ⟨Bx, hBx, hX, u0, u1, u2, u3, u4, u5, u6, u12, u13, u16, u17, u18, u19, u20, u21, u22, u23, u24, u25, u26, u27, u28, u29, u30, u31, u32, u33, u34, u35, u36, u37, u38, u39, u40, u41, u42, u43, u44, u45, rfl⟩ hlt
      have hxk := x.isLt
      have hq5 : x.val / m' < n' := by rw [Nat.div_lt_iff_lt_mul (by omega)]; exact hxk
      have hr5 : x.val % m' < m' := Nat.mod_lt _ (by omega)
      have hjp : joinPos m' M a l x.val = (a + x.val / m') * M + (l + x.val % m') := rfl
      obtain ⟨qn, hqn⟩ : ∃ qn, x.val / m' = qn := ⟨_, rfl⟩
      obtain ⟨rn, hrn⟩ : ∃ rn, x.val % m' = rn := ⟨_, rfl⟩
      rw [hqn] at hq5 hjp hX
      rw [hrn] at hr5 hjp hX
      have hrow : (a + qn) * M + (l + rn) < N * M := lt_of_parts (by omega) (by omega)
      obtain ⟨pp, hpp⟩ : ∃ pp, (a + qn) * M + (l + rn) = pp := ⟨_, rfl⟩
      rw [hpp] at hrow hjp
      have hpi : ((a : Int) + (qn : Int)) * (M : Int) + ((l : Int) + (rn : Int)) = (pp : Int) := by
        rw [← hpp, Int.natCast_add, Int.natCast_mul, Int.natCast_add, Int.natCast_add]
      obtain ⟨bb, hbb⟩ : ∃ bb : UInt8, ls'.getD x.val 0 = bb := ⟨_, rfl⟩
      rw [hbb]
      have HVL := hid hbb
      have HJP := hid hjp
      have HWT := hid (fun w' => with_any N M (putAll (joinPos m' M a l) (fun k => ls'.getD k 0) pre acc) ((a : Int) + (qn : Int)) ((l : Int) + (rn : Int)) pp bb w' (HLEN.out pre) (by omega) hpi ⟨by omega, by omega⟩ hM)
      have HTT := hid (show ∀ ks : List (Fin (n' * m')), (Tryd.prog.info? 39).map (·.size) = some (gcells N M (putAll (joinPos m' M a l) (fun k => ls'.getD k 0) ks acc)).size from fun ks => by rw [gcells_size (HLEN.out ks)]; exact Tryd.size_grid)
      have c0 : W'.cell? ⟨Bx, 0, none⟩ = some (.int .i64 (qn : Int)) := by rw [cell_of_row _ _ _ _ _ _ hX]; rfl
      have c1 : W'.cell? ⟨Bx, 1, none⟩ = some (.int .i64 (rn : Int)) := by rw [cell_of_row _ _ _ _ _ _ hX]; rfl
      have d0 : W'.cell? ⟨w.heap.size + 1 + 1, 0, none⟩ = some (.int .i64 (a : Int)) := by rw [cell_of_row _ _ _ _ _ _ i2]; rfl
      have d1 : W'.cell? ⟨w.heap.size + 1 + 1, 1, none⟩ = some (.int .i64 (l : Int)) := by rw [cell_of_row _ _ _ _ _ _ i2]; rfl
      have I1 := hid i1
      have I2 := hid i2
      have I3 := hid i3
      have I4 := hid i4
      have I5 := hid i5
      have z1 : (0 : Int) ≤ (a : Int) := Int.natCast_nonneg _
      have z2 : (0 : Int) ≤ (l : Int) := Int.natCast_nonneg _
      have z3 : (0 : Int) ≤ (qn : Int) := Int.natCast_nonneg _
      have z4 : (0 : Int) ≤ (rn : Int) := Int.natCast_nonneg _
      have z5 : (a : Int) ≤ 5 := by omega
      have z6 : (l : Int) ≤ 5 := by omega
      have z7 : (qn : Int) ≤ 5 := by omega
      have z8 : (rn : Int) ≤ 5 := by omega
      clear i1 i2 i3 i4 i5 hX hr hpi hpp hrow hqn hrn hjp hbb hxk hlt hq5 hr5 hnm hNM
      generalize (qn : Int) = qv at *
      generalize (rn : Int) = rv at *
      gi_wp2_with (refine wpListIn_load_row (Open.round _ l') rfl 39 _ rfl (w.heap.size + 1 + 1 + 1 + 1) rfl 39 _ (0, 0) _ I4.out Tryd.underlying39 rfl (HTT.out pre) ?_)
      refine ⟨trivial, CallsIn.inRound l' (callsIn_wide.2 ((HWT.out W').mono ?_))⟩
      rintro e w3 ⟨rfl, hbel⟩
      have E1 := hid ((hbel.block _ (lt_of_block I1.out)).trans I1.out)
      have E2 := hid ((hbel.block _ (lt_of_block I2.out)).trans I2.out)
      have E3 := hid ((hbel.block _ (lt_of_block I3.out)).trans I3.out)
      have E4 := hid ((hbel.block _ (lt_of_block I4.out)).trans I4.out)
      have hWs : w2.heap.size ≤ W'.heap.size := I5.out.size
      have hms := MS.out
      have hmw := MW.out
      have hmd := MD6.out
      have E5 := hid (I5.out.trans (hbel.mono (by omega)))
      have EK := hid (keeps_below hbel)
      have EA := hid (show KeepsAt W.heap.size W' w3 from ⟨hbel.size, hbel.block _ (by omega)⟩)
      clear hbel c0 c1 d0 d1
      gi_wp2_with (refine wpListIn_store_row (Open.round _ l') rfl 39 _ _ rfl (w.heap.size + 1 + 1 + 1 + 1) (gcells N M ((putAll (joinPos m' M a l) (fun k => ls'.getD k 0) pre acc).set pp bb)) rfl rfl 39 (gcells N M (putAll (joinPos m' M a l) (fun k => ls'.getD k 0) pre acc)) E4.out (by rw [gcells_size (by rw [List.length_set]; exact HLEN.out pre)]; exact Tryd.size_grid) (by rw [gcells_size (HLEN.out pre), gcells_size (by rw [List.length_set]; exact HLEN.out pre)]) (gcells_one _ _ _) ?_)
      refine ⟨(EK.out.trans (keeps_setRow _ _ _)).from _, EA.out.trans ⟨by simp, setRow_other _ _ _ _ (by omega)⟩, ⟨⟨⟨?_, ?_⟩, ?_⟩, ?_⟩, ?_⟩
      · rw [setRow_other _ _ _ _ (by omega)]; exact E1.out
      · rw [setRow_other _ _ _ _ (by omega)]; exact E2.out
      · rw [setRow_other _ _ _ _ (by omega)]; exact E3.out
      · rw [putAll_snoc, HVL.out, HJP.out]; exact setRow_heap _ _ _ _ _ _ E4.out
      · exact below_setRow' E5.out (by omega) _
    case done2 =>
      rintro D2 xs W' hD2 rfl ⟨⟨⟨⟨i1, i2⟩, i3⟩, i4⟩, i5⟩ hK
      have J1 := hid i1
      have J3 := hid i3
      have J4 := hid i4
      have J5 := hid i5
      have JK := hid hK
      clear i1 i2 i3 i4 i5 hK
      gi_wp2_with (first
        | refine wpListIn_load_row (Open.wide _) rfl 39 _ rfl (w.heap.size + 1 + 1 + 1 + 1) rfl 39 _ (0, 0) _ J4.out Tryd.underlying39 rfl (by rw [gcells_size (HLEN.out _)]; exact Tryd.size_grid) ?_
        | refine wpListIn_store_row (Open.wide _) rfl 39 _ _ rfl (w.heap.size + 1 + 1 + 1) (gcells N M (putAll (joinPos m' M a l) (fun k => ls'.getD k 0) (List.finRange (n' * m')) acc)) rfl rfl 39 zeroG J3.out (by rw [gcells_size (HLEN.out _)]; exact Tryd.size_grid) (by rw [gcells_size (HLEN.out _)]; rfl) (gcells_one _ _ _) ?_)
      have hms := MS.out
      have hmw := MW.out
      have hmd := MD6.out
      have hdd := MDD.out
      have q2 : (W'.setRow (w.heap.size + 1 + 1 + 1) (gcells N M (putAll (joinPos m' M a l) (fun k => ls'.getD k 0) (List.finRange (n' * m')) acc))).heap[D2]? = some (.deferred (some [])) := by
        rw [setRow_other _ _ _ _ (by omega)]; exact JK.out
      refine ⟨by simp, .inl ⟨_, _, rfl, run_takeDeferred q2, ?_⟩⟩
      have q1 : ((W'.setRow (w.heap.size + 1 + 1 + 1) (gcells N M (putAll (joinPos m' M a l) (fun k => ls'.getD k 0) (List.finRange (n' * m')) acc))).putObj D2 (.deferred none)).heap[D]? = some (.deferred (some [])) := by
        rw [World.putObj_heap_other (by omega), setRow_other _ _ _ _ (by omega)]; exact J1.out
      refine ⟨by simp, .inl ⟨_, _, rfl, run_takeDeferred q1, ?_⟩⟩
      refine ⟨_, results_cell_row Tryd.results203 _ _ (w.heap.size + 1 + 1 + 1) 39 _ (0, 0) _ (by rfl) ((World.putObj_heap_other (by omega)).trans ((World.putObj_heap_other (by omega)).trans (setRow_heap _ _ _ _ _ _ J3.out))) Tryd.underlying39 rfl (by rw [gcells_size (HLEN.out _)]; exact Tryd.size_grid), by rw [HJ.out], ?_⟩
      have b1 := below_setRow' (MB.out.trans J5.out) (g := w.heap.size + 1 + 1 + 1) (by omega) (gcells N M (putAll (joinPos m' M a l) (fun k => ls'.getD k 0) (List.finRange (n' * m')) acc))
      exact (b1.trans (belowK_b (w := w) (Nat.le_refl _) _ D2 _ _ (by omega) q2 rfl rfl)).trans (belowK_b (w := w) (Nat.le_refl _) _ D _ _ (by omega) q1 rfl rfl)
    case stop2 =>
      rintro D2 c pre W' _ _ h _
      exact h.elim
  case stop =>
    rintro D c pre W _ _ h _
    exact h.elim

end Go.Proofs.YtongjijkdjagdaaDoor

/- What GridBeside and GridUnder come to. -/
namespace Go.Proofs.YtongjijkdjagdaaDoor
open Go.RowKit

/-- Two grids that go beside each other; below each other. -/
def BesideIn (ss tt : List ByteArray) (n m n' m' : Nat) : Prop := IsGrid n m ss ∧ IsGrid n' m' tt ∧ n = n' ∧ m + m' ≤ 5
def UnderIn (ss tt : List ByteArray) (n m n' m' : Nat) : Prop := IsGrid n m ss ∧ IsGrid n' m' tt ∧ m = m' ∧ n + n' ≤ 5
def besideG (ss tt : List ByteArray) (n m n' m' : Nat) : List ByteArray := textsOf n (m + m') (joinG n m n' m' (m + m') 0 m (pad (flat ss)) (pad (flat tt)))
def underG (ss tt : List ByteArray) (n m n' m' : Nat) : List ByteArray := textsOf (n + n') m (joinG n m n' m' m n 0 (pad (flat ss)) (pad (flat tt)))
/-- What a function that joins two grids comes to. -/
def JoinEnd (In : List ByteArray → List ByteArray → Nat → Nat → Nat → Nat → Prop) (G : List ByteArray → List ByteArray → Nat → Nat → Nat → Nat → List ByteArray) (ss tt : List ByteArray) (w : World) (e : Ending) (w' : World) : Prop :=
  Below w.heap.size w w' ∧ ((∃ n m n' m' g, In ss tt n m n' m' ∧ w.heap.size ≤ g ∧ Row9 w' g (G ss tt n m n' m') ∧ e = .returned (.tuple #[.slice (some ⟨g, 0, none⟩) (G ss tt n m n' m').length (G ss tt n m n' m').length, .bool true])) ∨ ((∀ n m n' m', ¬ In ss tt n m n' m') ∧ e = .returned (.tuple #[.slice none 0 0, .bool false])))
end Go.Proofs.YtongjijkdjagdaaDoor

/- Grids beside and below each other: the program's lists are the rows joined: plain words. -/
namespace Go.Proofs.YtongjijkdjagdaaDoor
open Go.RowKit

def besideF (m m' : Nat) (fl fl' : List UInt8) (r q : Nat) : UInt8 := if q < m then fl.getD (r * m + q) 0 else fl'.getD (r * m' + (q - m)) 0
def underF (n m : Nat) (fl fl' : List UInt8) (r q : Nat) : UInt8 := if r < n then fl.getD (r * m + q) 0 else fl'.getD ((r - n) * m + q) 0

theorem beside_same {n m m' : Nat} {ss tt : List ByteArray} (h : IsGrid n m ss) (h' : IsGrid n m' tt) (h5 : m + m' ≤ 5) : besideG ss tt n m n m' = ruleG n (m + m') (besideF m m' (flat ss) (flat tt)) := by
  have hfl := h.flen
  have hfl' := h'.flen
  have hn5 := h.2.2.1
  refine rows_eq _ _ _ _ fun r hr q hq => ?_
  have hp := lt_of_parts hr hq
  have h25 : n * (m + m') ≤ 5 * 5 := Nat.mul_le_mul hn5 h5
  unfold joinG
  have hm : 1 ≤ m := h.2.2.2.1
  have hm' : 1 ≤ m' := h'.2.2.2.1
  have pos1 : ∀ x, joinPos m (m + m') 0 0 x = x / m * (m + m') + x % m := fun x => by unfold joinPos; rw [Nat.zero_add, Nat.zero_add]
  have pos2 : ∀ x, joinPos m' (m + m') 0 m x = x / m' * (m + m') + (m + x % m') := fun x => by unfold joinPos; rw [Nat.zero_add]
  have acc : (putAll (joinPos m (m + m') 0 0) (fun k => (pad (flat ss)).getD k 0) (List.finRange (n * m)) (pad [])).length = 25 := by rw [putAll_length]; rfl
  by_cases hqm : q < m
  · have hx : r * m + q < n * m := lt_of_parts hr hqm
    have hd := div_of (a := r) (m := m) (b := q) hqm
    have e1 : (putAll (joinPos m (m + m') 0 0) (fun k => (pad (flat ss)).getD k 0) (List.finRange (n * m)) (pad []))[r * (m + m') + q]? = some ((pad (flat ss)).getD (r * m + q) 0) :=
      put_all (joinPos m (m + m') 0 0) (fun k => (pad (flat ss)).getD k 0) (r * (m + m') + q) (r * m + q) hx (by omega) (by rw [pos1, hd.1, hd.2]) (fun x _ hxp => by
        rw [pos1] at hxp
        have hmod : x % m < m := Nat.mod_lt _ (by omega)
        obtain ⟨a1, a2⟩ := mul_inj hxp (by omega) hq
        have e3 := Nat.div_add_mod x m
        rw [a1, a2, Nat.mul_comm] at e3
        exact e3.symm)
    refine putAll_at _ _ _ _ _ _ (by rw [acc]; omega) (fun x _ hxp => ?_) (.inr ?_)
    · rw [pos2] at hxp
      have hmod : x.val % m' < m' := Nat.mod_lt _ (by omega)
      obtain ⟨_, a2⟩ := mul_inj hxp (by omega) hq
      omega
    · rw [e1, pad_getD _ _ (by rw [hfl]; exact hx)]
      unfold besideF
      rw [if_pos hqm]
  · have hq2 : q - m < m' := by omega
    have hx : r * m' + (q - m) < n * m' := lt_of_parts hr hq2
    have hd := div_of (a := r) (m := m') (b := q - m) hq2
    have hv : (pad (flat tt)).getD (r * m' + (q - m)) 0 = besideF m m' (flat ss) (flat tt) r q := by
      rw [pad_getD _ _ (by rw [hfl']; exact hx)]
      unfold besideF
      rw [if_neg hqm]
    refine putAll_at _ _ _ _ _ _ (by rw [acc]; omega) (fun x _ hxp => ?_) (.inl ⟨⟨r * m' + (q - m), hx⟩, List.mem_finRange _, ?_⟩)
    · rw [pos2] at hxp
      have hmod : x.val % m' < m' := Nat.mod_lt _ (by omega)
      obtain ⟨a1, a2⟩ := mul_inj hxp (by omega) hq
      have e3 := Nat.div_add_mod x.val m'
      rw [a1, Nat.mul_comm] at e3
      have e4 : x.val = r * m' + (q - m) := by omega
      rw [e4]; exact hv
    · show joinPos m' (m + m') 0 m (r * m' + (q - m)) = _
      rw [pos2, hd.1, hd.2]; omega
theorem under_same {n n' m : Nat} {ss tt : List ByteArray} (h : IsGrid n m ss) (h' : IsGrid n' m tt) (h5 : n + n' ≤ 5) : underG ss tt n m n' m = ruleG (n + n') m (underF n m (flat ss) (flat tt)) := by
  have hfl := h.flen
  have hfl' := h'.flen
  have hm5 := h.2.2.2.2.1
  refine rows_eq _ _ _ _ fun r hr q hq => ?_
  have hp := lt_of_parts hr hq
  have h25 : (n + n') * m ≤ 5 * 5 := Nat.mul_le_mul h5 hm5
  unfold joinG
  have hm : 1 ≤ m := h.2.2.2.1
  have pos1 : ∀ x, joinPos m m 0 0 x = x / m * m + x % m := fun x => by unfold joinPos; rw [Nat.zero_add, Nat.zero_add]
  have pos2 : ∀ x, joinPos m m n 0 x = (n + x / m) * m + x % m := fun x => by unfold joinPos; rw [Nat.zero_add]
  have acc : (putAll (joinPos m m 0 0) (fun k => (pad (flat ss)).getD k 0) (List.finRange (n * m)) (pad [])).length = 25 := by rw [putAll_length]; rfl
  by_cases hrn : r < n
  · have hx : r * m + q < n * m := lt_of_parts hrn hq
    have hd := div_of (a := r) (m := m) (b := q) hq
    have e1 : (putAll (joinPos m m 0 0) (fun k => (pad (flat ss)).getD k 0) (List.finRange (n * m)) (pad []))[r * m + q]? = some ((pad (flat ss)).getD (r * m + q) 0) :=
      put_all (joinPos m m 0 0) (fun k => (pad (flat ss)).getD k 0) (r * m + q) (r * m + q) hx (by omega) (by rw [pos1, hd.1, hd.2]) (fun x _ hxp => by
        rw [pos1, Nat.mul_comm, Nat.div_add_mod] at hxp
        exact hxp)
    refine putAll_at _ _ _ _ _ _ (by rw [acc]; omega) (fun x _ hxp => ?_) (.inr ?_)
    · rw [pos2] at hxp
      have hmod : x.val % m < m := Nat.mod_lt _ (by omega)
      obtain ⟨a1, _⟩ := mul_inj hxp hmod hq
      have : n ≤ n + x.val / m := Nat.le_add_right _ _
      exact absurd hrn (Nat.not_lt.2 (a1 ▸ this))
    · rw [e1, pad_getD _ _ (by rw [hfl]; exact hx)]
      unfold underF
      rw [if_pos hrn]
  · have hx : (r - n) * m + q < n' * m := lt_of_parts (by omega) hq
    have hd := div_of (a := r - n) (m := m) (b := q) hq
    have hv : (pad (flat tt)).getD ((r - n) * m + q) 0 = underF n m (flat ss) (flat tt) r q := by
      rw [pad_getD _ _ (by rw [hfl']; exact hx)]
      unfold underF
      rw [if_neg hrn]
    refine putAll_at _ _ _ _ _ _ (by rw [acc]; omega) (fun x _ hxp => ?_) (.inl ⟨⟨(r - n) * m + q, hx⟩, List.mem_finRange _, ?_⟩)
    · rw [pos2] at hxp
      have hmod : x.val % m < m := Nat.mod_lt _ (by omega)
      obtain ⟨a1, a2⟩ := mul_inj hxp hmod hq
      have e3 := Nat.div_add_mod x.val m
      obtain ⟨y, hy⟩ : ∃ y, x.val / m = y := ⟨_, rfl⟩
      rw [hy] at a1 e3
      obtain rfl : y = r - n := by omega
      rw [a2, Nat.mul_comm] at e3
      rw [← e3]; exact hv
    · show joinPos m m n 0 ((r - n) * m + q) = _
      rw [pos2, hd.1, hd.2, show n + (r - n) = r by omega]

/-- The rows of a grid by the rule. -/
theorem grid_row {n m r : Nat} {ss : List ByteArray} {s : ByteArray} (h : IsGrid n m ss) (hs : ss[r]? = some s) : s = ⟨(ruleL m fun q => (flat ss).getD (r * m + q) 0).toArray⟩ := by
  have hr : r < n := by rw [← h.1]; exact (List.getElem?_eq_some_iff.1 hs).1
  have e := rule_at (n := n) (m := m) (f := fun r q => (flat ss).getD (r * m + q) 0) hr
  rw [grid_rule h, hs] at e
  exact Option.some.inj e
theorem ruleL_add (a b : Nat) (f : Nat → UInt8) : ruleL (a + b) f = ruleL a f ++ ruleL b (fun q => f (a + q)) := by
  unfold ruleL
  rw [List.range_add, List.map_append, List.map_map]
  rfl
theorem ruleL_congr {a : Nat} {f g : Nat → UInt8} (h : ∀ q, q < a → f q = g q) : ruleL a f = ruleL a g := by
  unfold ruleL
  exact List.map_congr_left fun q hq => h q (List.mem_range.1 hq)
theorem beside_row {n m m' r : Nat} {ss tt : List ByteArray} {s s' : ByteArray} (h : IsGrid n m ss) (h' : IsGrid n m' tt) (hs : ss[r]? = some s) (hs' : tt[r]? = some s') :
    s ++ s' = ⟨(ruleL (m + m') (besideF m m' (flat ss) (flat tt) r)).toArray⟩ := by
  rw [grid_row h hs, grid_row h' hs', ByteArray.mk_append_mk, ruleL_add]
  congr 3
  · refine ruleL_congr fun q hq => ?_
    unfold besideF
    rw [if_pos hq]
  · refine ruleL_congr fun q hq => ?_
    unfold besideF
    rw [if_neg (by omega), show m + q - m = q by omega]
theorem under_rows {n n' m : Nat} {ss tt : List ByteArray} (h : IsGrid n m ss) (h' : IsGrid n' m tt) : ss ++ tt = ruleG (n + n') m (underF n m (flat ss) (flat tt)) := by
  unfold ruleG
  rw [List.range_add, List.map_append, List.map_map]
  congr 1
  · conv => lhs; rw [← grid_rule h]
    unfold ruleG
    refine List.map_congr_left fun r hr => ?_
    congr 2
    refine ruleL_congr fun q _ => ?_
    unfold underF
    rw [if_pos (List.mem_range.1 hr)]
  · conv => lhs; rw [← grid_rule h']
    unfold ruleG
    refine List.map_congr_left fun r hr => ?_
    simp only [Function.comp]
    congr 2
    refine ruleL_congr fun q _ => ?_
    unfold underF
    rw [if_neg (by omega), show n + r - n = r by omega]

/-- The outcome of a function that joins two grids. -/
def JoinOut (In : List ByteArray → List ByteArray → Nat → Nat → Nat → Nat → Prop) (G : List ByteArray → List ByteArray → Nat → Nat → Nat → Nat → List ByteArray) (ss tt : List ByteArray) (ok : Bool) (res : List ByteArray) : Prop :=
  (∃ n m n' m', In ss tt n m n' m' ∧ ok = true ∧ res = G ss tt n m n' m') ∨ ((∀ n m n' m', ¬ In ss tt n m n' m') ∧ ok = false ∧ res = [])
theorem joinOut_uniq {In : List ByteArray → List ByteArray → Nat → Nat → Nat → Nat → Prop} {G : List ByteArray → List ByteArray → Nat → Nat → Nat → Nat → List ByteArray} {ss tt : List ByteArray} {ok ok' : Bool} {res res' : List ByteArray}
    (hIn : ∀ n m n' m', In ss tt n m n' m' → IsGrid n m ss ∧ IsGrid n' m' tt) (h : JoinOut In G ss tt ok res) (h' : JoinOut In G ss tt ok' res') : ok' = ok ∧ res' = res := by
  rcases h with ⟨n, m, n', m', hg, rfl, rfl⟩ | ⟨hn, rfl, rfl⟩ <;> rcases h' with ⟨a, b, a', b', hg', rfl, rfl⟩ | ⟨hn', rfl, rfl⟩
  · obtain ⟨g1, g2⟩ := hIn _ _ _ _ hg
    obtain ⟨k1, k2⟩ := hIn _ _ _ _ hg'
    obtain ⟨rfl, rfl⟩ := g1.uniq k1
    obtain ⟨rfl, rfl⟩ := g2.uniq k2
    exact ⟨rfl, rfl⟩
  · exact absurd hg (hn' _ _ _ _)
  · exact absurd hg' (hn _ _ _ _)
  · exact ⟨rfl, rfl⟩
def BesideOut := JoinOut BesideIn besideG
def UnderOut := JoinOut UnderIn underG
theorem BesideOut.uniq {ss tt : List ByteArray} {ok ok' : Bool} {res res' : List ByteArray} (h : BesideOut ss tt ok res) (h' : BesideOut ss tt ok' res') : ok' = ok ∧ res' = res :=
  joinOut_uniq (fun _ _ _ _ h => ⟨h.1, h.2.1⟩) h h'
theorem UnderOut.uniq {ss tt : List ByteArray} {ok ok' : Bool} {res res' : List ByteArray} (h : UnderOut ss tt ok res) (h' : UnderOut ss tt ok' res') : ok' = ok ∧ res' = res :=
  joinOut_uniq (fun _ _ _ _ h => ⟨h.1, h.2.1⟩) h h'
theorem BesideOut.len {ss tt : List ByteArray} {ok : Bool} {res : List ByteArray} (h : BesideOut ss tt ok res) : res.length ≤ 1048576 := by
  rcases h with ⟨n, m, n', m', hg, _, rfl⟩ | ⟨_, _, rfl⟩
  · have h1 := hg.1.2.2.1
    unfold besideG
    rw [textsOf_length]; omega
  · simp
theorem UnderOut.len {ss tt : List ByteArray} {ok : Bool} {res : List ByteArray} (h : UnderOut ss tt ok res) : res.length ≤ 1048576 := by
  rcases h with ⟨n, m, n', m', hg, _, rfl⟩ | ⟨_, _, rfl⟩
  · have h1 := hg.2.2.2
    unfold underG
    rw [textsOf_length]; omega
  · simp
theorem joinEnd_open {In : List ByteArray → List ByteArray → Nat → Nat → Nat → Nat → Prop} {G : List ByteArray → List ByteArray → Nat → Nat → Nat → Nat → List ByteArray} {ss tt : List ByteArray} {w w' : World} {e : Ending} (h : JoinEnd In G ss tt w e w') :
    ∃ A res ok, e = .returned (.tuple #[.slice A res.length res.length, .bool ok]) ∧ JoinOut In G ss tt ok res ∧ Own2 w' w.heap.size A res ∧ Below w.heap.size w w' := by
  obtain ⟨hb, ⟨n, m, n', m', g, hg, hlo, hrow, rfl⟩ | ⟨hn, rfl⟩⟩ := h
  · exact ⟨_, _, true, rfl, .inl ⟨n, m, n', m', hg, rfl, rfl⟩, .inr ⟨g, rfl, hlo, hrow⟩, hb⟩
  · exact ⟨none, [], false, rfl, .inr ⟨hn, rfl, rfl⟩, .inl ⟨rfl, rfl⟩, hb⟩

end Go.Proofs.YtongjijkdjagdaaDoor

/- GridPart of the program, by its contract. -/
namespace Go.Proofs.YtongjijkdjagdaaDoor
open Go.RowKit Go.Shelf

/-- What GridPart takes. -/
def PartIn (ss : List ByteArray) (t lo le ri : Int) (n m a n1 l m1 : Nat) : Prop :=
  IsGrid n m ss ∧ t = (a : Int) ∧ lo = ((a + n1 : Nat) : Int) - 1 ∧ le = (l : Int) ∧ ri = ((l + m1 : Nat) : Int) - 1 ∧ 1 ≤ n1 ∧ a + n1 ≤ n ∧ 1 ≤ m1 ∧ l + m1 ≤ m
def partF (m a l : Nat) (fl : List UInt8) (r q : Nat) : UInt8 := fl.getD ((a + r) * m + (l + q)) 0
def PartOut (ss : List ByteArray) (t lo le ri : Int) (ok : Bool) (res : List ByteArray) : Prop :=
  (∃ n m a n1 l m1, PartIn ss t lo le ri n m a n1 l m1 ∧ ok = true ∧ res = ruleG n1 m1 (partF m a l (flat ss))) ∨ ((∀ n m a n1 l m1, ¬ PartIn ss t lo le ri n m a n1 l m1) ∧ ok = false ∧ res = [])
theorem PartOut.uniq {ss : List ByteArray} {t lo le ri : Int} {ok ok' : Bool} {res res' : List ByteArray} (h : PartOut ss t lo le ri ok res) (h' : PartOut ss t lo le ri ok' res') : ok' = ok ∧ res' = res := by
  rcases h with ⟨n, m, a, n1, l, m1, hg, rfl, rfl⟩ | ⟨hn, rfl, rfl⟩ <;> rcases h' with ⟨n', m', a', n1', l', m1', hg', rfl, rfl⟩ | ⟨hn', rfl, rfl⟩
  · obtain ⟨g1, g2, g3, g4, g5, _, _, _, _⟩ := hg
    obtain ⟨k1, k2, k3, k4, k5, _, _, _, _⟩ := hg'
    obtain ⟨rfl, rfl⟩ := g1.uniq k1
    obtain rfl : a = a' := by omega
    obtain rfl : l = l' := by omega
    obtain rfl : n1 = n1' := by omega
    obtain rfl : m1 = m1' := by omega
    exact ⟨rfl, rfl⟩
  · exact absurd hg (hn' _ _ _ _ _ _)
  · exact absurd hg' (hn _ _ _ _ _ _)
  · exact ⟨rfl, rfl⟩
theorem PartOut.len {ss : List ByteArray} {t lo le ri : Int} {ok : Bool} {res : List ByteArray} (h : PartOut ss t lo le ri ok res) : res.length ≤ 1048576 := by
  rcases h with ⟨n, m, a, n1, l, m1, hg, _, rfl⟩ | ⟨_, _, rfl⟩
  · have h1 := hg.1.2.2.1
    have h2 := hg.2.2.2.2.2.2.1
    rw [ruleG_length]; omega
  · simp
theorem part_same {n m a n1 l m1 : Nat} {ss : List ByteArray} (h : IsGrid n m ss) (h1 : a + n1 ≤ n) (h2 : l + m1 ≤ m) : textsOf n1 m1 (putAll samePos (partVal m m1 a l (pad (flat ss))) (List.finRange (n1 * m1)) (pad [])) = ruleG n1 m1 (partF m a l (flat ss)) := by
  have hfl := h.flen
  have hn5 := h.2.2.1
  have hm5 := h.2.2.2.2.1
  refine rows_eq _ _ _ _ fun r hr q hq => ?_
  have hp := lt_of_parts hr hq
  have h25 : n1 * m1 ≤ 5 * 5 := Nat.mul_le_mul (by omega) (by omega)
  have hx : (a + r) * m + (l + q) < n * m := lt_of_parts (by omega) (by omega)
  have hd := div_of (a := r) (m := m1) (b := q) hq
  rw [put_all samePos (partVal m m1 a l (pad (flat ss))) (r * m1 + q) (r * m1 + q) hp (by omega) rfl (fun x _ hx => hx)]
  unfold partVal partF
  rw [hd.1, hd.2, pad_getD _ _ (by rw [hfl]; exact hx)]

end Go.Proofs.YtongjijkdjagdaaDoor
