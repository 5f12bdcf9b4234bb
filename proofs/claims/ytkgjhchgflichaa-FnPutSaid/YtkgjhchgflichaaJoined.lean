/- The grid of two grids beside or below each other (joinedGrid), by its contract. -/
import Derived.Test.YtkgjhchgflichaaBunC
import Derived.Test.YtkgjhchgflichaaBunA
import Derived.Test.YtkgjhchgflichaaPart
namespace Go.Proofs.Ytkgjhchgflichaa
open Go.RowKit Go.Shelf
attribute [local go_sem] Oper.semAt_some

/-- Where a cell of a grid with m columns goes, in one with M columns, its upper left cell at row a, column l. -/
def joinPos (m M a l k : Nat) : Nat := (a + k / m) * M + (l + k % m)
/-- The letters of the grid of two. -/
def joinL (n m n' m' M a l : Nat) (ls ls' : List UInt8) : List UInt8 :=
  putAll (joinPos m' M a l) (fun k => ls'.getD k 0) (List.finRange (n' * m')) (putAll (joinPos m M 0 0) (fun k => ls.getD k 0) (List.finRange (n * m)) (pad []))

theorem own_lt {β : Type} (B b : Nat) (hb : b < B) (o : Obj) : OwnFrom B (fun (_ : β) W => W.heap[b]? = some o) := fun s W W' row hs hg hr =>
  (hg.block b (lt_of_block hs) (fun e => by have := (hr b e.symm).1; omega)).trans hs

set_option maxRecDepth 100000 in
set_option maxHeartbeats 4000000 in
theorem joinedGrid_any (n m n' m' N M a l : Nat) (ls ls' : List UInt8) (w : World) (hl : ls.length = 25) (hl' : ls'.length = 25) (hN : N ≤ 5) (hM : M ≤ 5) (hm : 1 ≤ m) (hm' : 1 ≤ m') (hnN : n ≤ N) (hmM : m ≤ M) (hn' : a + n' ≤ N) (hm2 : l + m' ≤ M) :
    Calls Try.prog 74 #[.int .i64 N, .int .i64 M, .agg (gcells n m ls), .agg (gcells n' m' ls'), .agg #[.int .i64 a, .int .i64 l]] w fun e w' => e = .returned (.agg (gcells N M (joinL n m n' m' M a l ls ls'))) ∧ Below w.heap.size w w' := by
  refine (callsIn_wide (n := 3)).1 ?_
  have HG := hid (show (Try.prog.info? 57).map (·.size) = some (gcells n m ls).size by rw [gcells_size hl]; exact Try.size_grid)
  have HG' := hid (show (Try.prog.info? 57).map (·.size) = some (gcells n' m' ls').size by rw [gcells_size hl']; exact Try.size_grid)
  have HT := hid (show (Try.prog.info? 57).map (·.size) = some (gcells N M (pad [])).size by rw [gcells_size (by rfl)]; exact Try.size_grid)
  have F : ∀ X : World, X = ((((w.alloc (.cells (gcells n m ls) 57)).alloc (.cells (gcells n' m' ls') 57)).alloc (.cells #[.int .i64 a, .int .i64 l] 72)).alloc (.cells zeroG 57)).alloc (.cells zeroG 57) →
      (X.setRow (w.heap.size + 1 + 1 + 1 + 1) (gcells N M (pad []))).heap[w.heap.size]? = some (.cells (gcells n m ls) 57 (0, 0)) ∧
      (X.setRow (w.heap.size + 1 + 1 + 1 + 1) (gcells N M (pad []))).heap[w.heap.size + 1]? = some (.cells (gcells n' m' ls') 57 (0, 0)) ∧
      (X.setRow (w.heap.size + 1 + 1 + 1 + 1) (gcells N M (pad []))).heap[w.heap.size + 1 + 1]? = some (.cells #[.int .i64 a, .int .i64 l] 72 (0, 0)) ∧
      (X.setRow (w.heap.size + 1 + 1 + 1 + 1) (gcells N M (pad []))).heap[w.heap.size + 1 + 1 + 1]? = some (.cells zeroG 57 (0, 0)) ∧
      (X.setRow (w.heap.size + 1 + 1 + 1 + 1) (gcells N M (pad []))).heap[w.heap.size + 1 + 1 + 1 + 1]? = some (.cells (gcells N M (pad [])) 57 (0, 0)) ∧
      Below w.heap.size w (X.setRow (w.heap.size + 1 + 1 + 1 + 1) (gcells N M (pad []))) ∧ (X.setRow (w.heap.size + 1 + 1 + 1 + 1) (gcells N M (pad []))).heap.size = w.heap.size + 5 ∧
      X.heap[w.heap.size + 1 + 1 + 1 + 1]? = some (.cells zeroG 57 (0, 0)) := fun X hX => by
    have e4 : X.heap[w.heap.size + 1 + 1 + 1 + 1]? = some (.cells zeroG 57 (0, 0)) := by
      rw [hX]; simpa using heap_new0 ((((w.alloc (.cells (gcells n m ls) 57)).alloc (.cells (gcells n' m' ls') 57)).alloc (.cells #[.int .i64 a, .int .i64 l] 72)).alloc (.cells zeroG 57)) (.cells zeroG 57)
    refine ⟨?_, ?_, ?_, ?_, setRow_heap _ _ _ _ _ _ e4, ?_, by rw [hX]; simp, e4⟩
    · rw [setRow_other _ _ _ _ (by omega), hX, Below.heap_alloc _ _ _ (by simp; omega), heap_new3]
    · rw [setRow_other _ _ _ _ (by omega), hX]; simpa using heap_new3 (w.alloc (.cells (gcells n m ls) 57)) (.cells (gcells n' m' ls') 57) _ _ _
    · rw [setRow_other _ _ _ _ (by omega), hX]; simpa using heap_new2 ((w.alloc (.cells (gcells n m ls) 57)).alloc (.cells (gcells n' m' ls') 57)) (.cells #[.int .i64 a, .int .i64 l] 72) _ _
    · rw [setRow_other _ _ _ _ (by omega), hX]; simpa using heap_new1 (((w.alloc (.cells (gcells n m ls) 57)).alloc (.cells (gcells n' m' ls') 57)).alloc (.cells #[.int .i64 a, .int .i64 l] 72)) (.cells zeroG 57) _
    · rw [hX]
      exact below_setRow' ((((((Below.refl _ w).alloc (Nat.le_refl _) _).alloc (by simp) _).alloc (by simp; omega) _).alloc (by simp; omega) _).alloc (by simp; omega) _) (by omega) _
  obtain ⟨g0, g1, g2, g3, g4, g5, g6, g7⟩ := F _ rfl
  have H0 := hid g0
  have H1 := hid g1
  have H2 := hid g2
  have H3 := hid g3
  have H4 := hid g4
  have H5 := hid g5
  have H6 := hid g6
  have H7 := hid g7
  clear F g0 g1 g2 g3 g4 g5 g6 g7
  refine callsIn_of_wp_marks Try.func74 rfl trivial ?_ rfl
  simp only [Try.ntmps74, List.size_toArray, List.length_cons, List.length_nil, Nat.reduceAdd, Nat.reduceSub, Array.replicate_succ, Array.replicate_zero, List.push_toArray, List.append_toArray, List.nil_append, List.cons_append]
  gi_wp2_with (first
    | refine wpListIn_store_row (Open.wide _) rfl 57 _ _ rfl (w.heap.size + 1 + 1 + 1 + 1) (gcells N M (pad [])) rfl rfl 57 zeroG H7.out HT.out (gcells_size (by rfl)).symm (gcells_one _ _ _) ?_
    | refine wpListIn_load_row (Open.wide _) rfl 57 _ rfl w.heap.size rfl 57 (gcells n m ls) (0, 0) _ H0.out Try.underlying57 rfl HG.out ?_)
  generalize World.setRow _ _ _ = W0 at H0 H1 H2 H3 H4 H5 H6
  refine ⟨trivial, callsIn_wide.2 ((cells_any (gcells n m ls) W0).mono ?_)⟩
  rintro e w1 ⟨rfl, hw1⟩
  have K1 := hid (show w1.heap[w.heap.size + 1]? = some (.cells (gcells n' m' ls') 57 (0, 0)) by rw [hw1]; exact (Below.heap_alloc _ _ _ (lt_of_block H1.out)).trans H1.out)
  have K2 := hid (show w1.heap[w.heap.size + 1 + 1]? = some (.cells #[.int .i64 a, .int .i64 l] 72 (0, 0)) by rw [hw1]; exact (Below.heap_alloc _ _ _ (lt_of_block H2.out)).trans H2.out)
  have K3 := hid (show w1.heap[w.heap.size + 1 + 1 + 1]? = some (.cells zeroG 57 (0, 0)) by rw [hw1]; exact (Below.heap_alloc _ _ _ (lt_of_block H3.out)).trans H3.out)
  have K4 := hid (show w1.heap[w.heap.size + 1 + 1 + 1 + 1]? = some (.cells (gcells N M (pad [])) 57 (0, 0)) by rw [hw1]; exact (Below.heap_alloc _ _ _ (lt_of_block H4.out)).trans H4.out)
  have KX := hid (show w1.heap[W0.heap.size]? = some (.cells (gcells n m ls) 57 (0, 0)) by rw [hw1]; exact heap_new0 W0 _)
  have KB := hid (show Below w.heap.size w w1 by rw [hw1]; exact H5.out.alloc H5.out.size _)
  have KS := hid (show w1.heap.size = w.heap.size + 6 by rw [hw1, World.size_alloc, H6.out])
  have KW := hid H6.out
  clear hw1 H0 H1 H2 H3 H4 H5 H6 H7
  have hnm : n * m ≤ 5 * 5 := Nat.mul_le_mul (Nat.le_trans hnN hN) (Nat.le_trans hmM hM)
  have hNM : N * M ≤ 5 * 5 := Nat.mul_le_mul hN hM
  have HLEN := hid (show ∀ pre : List (Fin (n * m)), (putAll (joinPos m M 0 0) (fun k => ls.getD k 0) pre (pad [])).length = 25 from fun pre => by rw [putAll_length]; rfl)
  have HACC := hid (HLEN.out (List.finRange (n * m)))
  gi_wp2
  refine wpIn_rangeFunc_ownH rfl (by omega) (gf := 114) (lb := #[.pointer (some ⟨W0.heap.size, 0, none⟩)]) rfl trivial (enters_of Try.func114 (by kernel_rfl) rfl)
    (cells_stops 2 W0.heap.size n m (n * m) rfl ls hl (by omega) hm (by omega) w1 KX.out) KeepsAt.trans (keepsAt_b (lt_of_block KX.out)) (Below.refl _ _) (fun _ => rfl)
    (fun pre W => ((((W.heap[w.heap.size + 1]? = some (.cells (gcells n' m' ls') 57 (0, 0)) ∧ W.heap[w.heap.size + 1 + 1]? = some (.cells #[.int .i64 a, .int .i64 l] 72 (0, 0))) ∧ W.heap[w.heap.size + 1 + 1 + 1]? = some (.cells zeroG 57 (0, 0))) ∧ W.heap[w.heap.size + 1 + 1 + 1 + 1]? = some (.cells (gcells N M (putAll (joinPos m M 0 0) (fun k => ls.getD k 0) pre (pad []))) 57 (0, 0))) ∧ Below w.heap.size w1 W))
    (fun _ _ _ => False)
    (OwnFrom.and (OwnFrom.and (OwnFrom.and (OwnFrom.and (ownFrom_heap _ _ (fun _ => _) (fun _ => rfl)) (ownFrom_heap _ _ (fun _ => _) (fun _ => rfl))) (ownFrom_heap _ _ (fun _ => _) (fun _ => rfl))) (ownFrom_heap _ _ (fun pre => .cells (gcells N M (putAll (joinPos m M 0 0) (fun k => ls.getD k 0) pre (pad []))) 57 (0, 0)) (fun _ => rfl))) (ownFrom_below (by rw [KS.out]; omega) (by rw [KS.out]; omega)))
    (fun _ _ _ _ _ hs _ _ => hs)
    ⟨⟨⟨⟨K1.out, K2.out⟩, K3.out⟩, K4.out⟩, Below.refl _ _⟩
    (fun x a' W => ∃ Bx, w.heap.size + 6 ≤ Bx ∧ W.heap[Bx]? = some (.cells #[.int .i64 ((x.val / m : Nat) : Int), .int .i64 ((x.val % m : Nat) : Int)] 72 (0, 0)) ∧ ∃ u0 u1 u2 u3 u4 u5 u6 u14 u15 u16 u17 u18 u19 u20 u21 u22 u23 u24 u25 u26 u27 u28 u29 u30 u31 u32 u33 u34 u35 u36 u37 u38 u39 u40 u41 u42 u43 u44 u45 : Value,
      a' = { tmps := #[u0, u1, u2, u3, u4, u5, u6, .pointer (some ⟨w.heap.size, 0, none⟩), .pointer (some ⟨w.heap.size + 1, 0, none⟩), .pointer (some ⟨w.heap.size + 1 + 1, 0, none⟩), .pointer (some ⟨w.heap.size + 1 + 1 + 1, 0, none⟩), .pointer (some ⟨w.heap.size + 1 + 1 + 1 + 1, 0, none⟩), .pointer (some ⟨Bx, 0, none⟩), .int .u8 ((ls.getD x.val 0).toNat : Int), u14, u15, u16, u17, u18, u19, u20, u21, u22, u23, u24, u25, u26, u27, u28, u29, u30, u31, u32, u33, u34, u35, u36, u37, u38, u39, u40, u41, u42, u43, u44, u45], defers := [] })
    (fun x a' _ X Y row hs hg hr => by
      obtain ⟨Bx, h1, h2, h3⟩ := hs
      exact ⟨Bx, h1, ownFrom_heap _ Bx (fun (_ : Unit) => Obj.cells #[.int .i64 ((x.val / m : Nat) : Int), .int .i64 ((x.val % m : Nat) : Int)] 72 (0, 0)) (fun _ => rfl) () X Y row h2 hg hr, h3⟩)
    ?assign ?body ?done ?stop
  case assign =>
    rintro l' pre x W K ⟨⟨⟨⟨i1, i2⟩, i3⟩, i4⟩, i5⟩ hK
    have J1 := hid i1
    have J2 := hid i2
    have J3 := hid i3
    have J4 := hid i4
    have J5 := hid i5
    have JK := hid hK
    clear i1 i2 i3 i4 i5 hK
    unfold encs
    obtain ⟨qv, hqv⟩ : ∃ qv : Int, ((x.val / m : Nat) : Int) = qv := ⟨_, rfl⟩
    obtain ⟨rv, hrv⟩ : ∃ rv : Int, ((x.val % m : Nat) : Int) = rv := ⟨_, rfl⟩
    obtain ⟨bv, hbv⟩ : ∃ bv : Int, ((ls.getD x.val 0).toNat : Int) = bv := ⟨_, rfl⟩
    rw [hqv, hrv, hbv] at JK ⊢
    gi_wp2
    have hsz : w.heap.size + 6 ≤ W.heap.size := by rw [← KS.out]; exact J5.out.size
    exact JK.out _ _ ((KeepsOthers.alloc _ _).from _) ⟨by simp, Below.heap_alloc _ _ _ (by rw [KW.out]; omega)⟩
      ⟨⟨⟨⟨(Below.heap_alloc _ _ _ (by omega)).trans J1.out, (Below.heap_alloc _ _ _ (by omega)).trans J2.out⟩, (Below.heap_alloc _ _ _ (by omega)).trans J3.out⟩, (Below.heap_alloc _ _ _ (by omega)).trans J4.out⟩, J5.out.alloc (by omega) _⟩
      ⟨W.heap.size, hsz, heap_new0 W _, _, _, _, _, _, _, _, _, _, _, _, _, _, _, _, _, _, _, _, _, _, _, _, _, _, _, _, _, _, _, _, _, _, _, _, _, _, _, _, rfl⟩
  case body =>
    rintro l' pre x a' W hlw ⟨r, hr⟩ ⟨⟨⟨⟨i1, i2⟩, i3⟩, i4⟩, i5⟩ ⟨Bx, hBx, hX, u0, u1, u2, u3, u4, u5, u6, u14, u15, u16, u17, u18, u19, u20, u21, u22, u23, u24, u25, u26, u27, u28, u29, u30, u31, u32, u33, u34, u35, u36, u37, u38, u39, u40, u41, u42, u43, u44, u45, rfl⟩ hlt
    have hxk := x.isLt
    have hq5 : x.val / m < n := by rw [Nat.div_lt_iff_lt_mul (by omega)]; exact hxk
    have hr5 : x.val % m < m := Nat.mod_lt _ (by omega)
    have hjp : joinPos m M 0 0 x.val = x.val / m * M + x.val % m := by unfold joinPos; rw [Nat.zero_add, Nat.zero_add]
    obtain ⟨qn, hqn⟩ : ∃ qn, x.val / m = qn := ⟨_, rfl⟩
    obtain ⟨rn, hrn⟩ : ∃ rn, x.val % m = rn := ⟨_, rfl⟩
    rw [hqn] at hq5 hjp hX
    rw [hrn] at hr5 hjp hX
    have hrow : qn * M + rn < N * M := lt_of_parts (by omega) (by omega)
    obtain ⟨pp, hpp⟩ : ∃ pp, qn * M + rn = pp := ⟨_, rfl⟩
    rw [hpp] at hrow hjp
    have hpi : (qn : Int) * (M : Int) + (rn : Int) = (pp : Int) := by
      rw [← hpp, Int.natCast_add, Int.natCast_mul]
    obtain ⟨bb, hbb⟩ : ∃ bb : UInt8, ls.getD x.val 0 = bb := ⟨_, rfl⟩
    rw [hbb]
    have HVL := hid hbb
    have HJP := hid hjp
    have HP := hid (show pp < 25 by omega)
    have HWT := hid (fun w' => with_any N M (putAll (joinPos m M 0 0) (fun k => ls.getD k 0) pre (pad [])) qn rn pp bb w' (HLEN.out pre) (by omega) hpi ⟨by omega, by omega⟩ hM)
    have HTT := hid (show ∀ ks : List (Fin (n * m)), (Try.prog.info? 57).map (·.size) = some (gcells N M (putAll (joinPos m M 0 0) (fun k => ls.getD k 0) ks (pad []))).size from fun ks => by rw [gcells_size (HLEN.out ks)]; exact Try.size_grid)
    have c0 : W.cell? ⟨Bx, 0, none⟩ = some (.int .i64 (qn : Int)) := by rw [cell_of_row _ _ _ _ _ _ hX]; rfl
    have c1 : W.cell? ⟨Bx, 1, none⟩ = some (.int .i64 (rn : Int)) := by rw [cell_of_row _ _ _ _ _ _ hX]; rfl
    have I1 := hid i1
    have I2 := hid i2
    have I3 := hid i3
    have I4 := hid i4
    have I5 := hid i5
    clear i1 i2 i3 i4 i5 hX hr hpi hpp hrow hqn hrn hjp hbb hxk hlt hq5 hr5 hnm hNM
    obtain ⟨qv, hqv⟩ : ∃ qv : Int, (qn : Int) = qv := ⟨_, rfl⟩
    obtain ⟨rv, hrv⟩ : ∃ rv : Int, (rn : Int) = rv := ⟨_, rfl⟩
    rw [hqv] at c0 HWT
    rw [hrv] at c1 HWT
    clear hqv hrv
    gi_wp2_with (refine wpListIn_load_row (Open.round _ l') rfl 57 _ rfl (w.heap.size + 1 + 1 + 1 + 1) rfl 57 _ (0, 0) _ I4.out Try.underlying57 rfl (HTT.out pre) ?_)
    refine ⟨trivial, CallsIn.inRound l' (callsIn_wide.2 ((HWT.out W).mono ?_))⟩
    rintro e w2 ⟨rfl, hbel⟩
    have E1 := hid ((hbel.block _ (lt_of_block I1.out)).trans I1.out)
    have E2 := hid ((hbel.block _ (lt_of_block I2.out)).trans I2.out)
    have E3 := hid ((hbel.block _ (lt_of_block I3.out)).trans I3.out)
    have E4 := hid ((hbel.block _ (lt_of_block I4.out)).trans I4.out)
    have hWs : w.heap.size + 6 ≤ W.heap.size := by rw [← KS.out]; exact I5.out.size
    have E5 := hid (I5.out.trans (hbel.mono (by omega)))
    have EK := hid (keeps_below hbel)
    have EA := hid (show KeepsAt W0.heap.size W w2 from ⟨hbel.size, hbel.block _ (by rw [KW.out]; omega)⟩)
    clear hbel c0 c1
    gi_wp2_with (refine wpListIn_store_row (Open.round _ l') rfl 57 _ _ rfl (w.heap.size + 1 + 1 + 1 + 1) (gcells N M ((putAll (joinPos m M 0 0) (fun k => ls.getD k 0) pre (pad [])).set pp bb)) rfl rfl 57 (gcells N M (putAll (joinPos m M 0 0) (fun k => ls.getD k 0) pre (pad []))) E4.out (by rw [gcells_size (by rw [List.length_set]; exact HLEN.out pre)]; exact Try.size_grid) (by rw [gcells_size (HLEN.out pre), gcells_size (by rw [List.length_set]; exact HLEN.out pre)]) (gcells_one _ _ _) ?_)
    refine ⟨(EK.out.trans (keeps_setRow _ _ _)).from _, EA.out.trans ⟨by simp, setRow_other _ _ _ _ (by rw [KW.out]; omega)⟩, ⟨⟨⟨?_, ?_⟩, ?_⟩, ?_⟩, ?_⟩
    · rw [setRow_other _ _ _ _ (by omega)]; exact E1.out
    · rw [setRow_other _ _ _ _ (by omega)]; exact E2.out
    · rw [setRow_other _ _ _ _ (by omega)]; exact E3.out
    · rw [putAll_snoc, HVL.out, HJP.out]; exact setRow_heap _ _ _ _ _ _ E4.out
    · exact below_setRow' E5.out (by omega) _
  case done =>
    rintro D xs W hD rfl ⟨⟨⟨⟨i1, i2⟩, i3⟩, i4⟩, i5⟩ hK
    have J1 := hid i1
    have J2 := hid i2
    have J3 := hid i3
    have J4 := hid i4
    have J5 := hid i5
    have JK := hid hK
    clear i1 i2 i3 i4 i5 hK
    gi_wp2_with (refine wpListIn_load_row (Open.wide _) rfl 57 _ rfl (w.heap.size + 1) rfl 57 (gcells n' m' ls') (0, 0) _ J1.out Try.underlying57 rfl HG'.out ?_)
    refine ⟨trivial, callsIn_wide.2 ((cells_any (gcells n' m' ls') W).mono ?_)⟩
    rintro e w2 ⟨rfl, hw2⟩
    have hsW : w.heap.size + 6 ≤ W.heap.size := by rw [← KS.out]; exact J5.out.size
    have M2 := hid (show w2.heap[w.heap.size + 1 + 1]? = some (.cells #[.int .i64 a, .int .i64 l] 72 (0, 0)) by rw [hw2]; exact (Below.heap_alloc _ _ _ (lt_of_block J2.out)).trans J2.out)
    have M3 := hid (show w2.heap[w.heap.size + 1 + 1 + 1]? = some (.cells zeroG 57 (0, 0)) by rw [hw2]; exact (Below.heap_alloc _ _ _ (lt_of_block J3.out)).trans J3.out)
    have M4 := hid (show w2.heap[w.heap.size + 1 + 1 + 1 + 1]? = some (.cells (gcells N M (putAll (joinPos m M 0 0) (fun k => ls.getD k 0) (List.finRange (n * m)) (pad []))) 57 (0, 0)) by rw [hw2]; exact (Below.heap_alloc _ _ _ (lt_of_block J4.out)).trans J4.out)
    have MX := hid (show w2.heap[W.heap.size]? = some (.cells (gcells n' m' ls') 57 (0, 0)) by rw [hw2]; exact heap_new0 W _)
    have MD := hid (show w2.heap[D]? = some (.deferred (some [])) by rw [hw2]; exact (Below.heap_alloc _ _ _ (lt_of_block JK.out)).trans JK.out)
    have MB := hid (show Below w.heap.size w w2 by rw [hw2]; exact (KB.out.trans J5.out).alloc (by omega) _)
    have MS := hid (show w2.heap.size = W.heap.size + 1 by rw [hw2, World.size_alloc])
    have MW := hid hsW
    have MDD := hid (show D < W.heap.size from lt_of_block JK.out)
    have MD6 := hid (show w.heap.size + 6 ≤ D by rw [KS.out] at hD; exact hD)
    clear hw2 J1 J2 J3 J4 J5 JK hsW hD HLEN
    generalize hacc : putAll (joinPos m M 0 0) (fun k => ls.getD k 0) (List.finRange (n * m)) (pad []) = acc at M4 HACC
    have HJ := hid (show joinL n m n' m' M a l ls ls' = putAll (joinPos m' M a l) (fun k => ls'.getD k 0) (List.finRange (n' * m')) acc by unfold joinL; rw [hacc])
    clear hacc
    have HLEN := hid (show ∀ pre : List (Fin (n' * m')), (putAll (joinPos m' M a l) (fun k => ls'.getD k 0) pre acc).length = 25 from fun pre => by rw [putAll_length]; exact HACC.out)
    gi_wp2
    refine wpIn_rangeFunc_ownH rfl (by omega) (gf := 114) (lb := #[.pointer (some ⟨W.heap.size, 0, none⟩)]) rfl trivial (enters_of Try.func114 (by kernel_rfl) rfl)
      (cells_stops 2 W.heap.size n' m' (n' * m') rfl ls' hl' (by omega) hm' (by omega) w2 MX.out) KeepsAt.trans (keepsAt_b (lt_of_block MX.out)) (Below.refl _ _) (fun _ => rfl)
      (fun pre W' => ((((W'.heap[D]? = some (.deferred (some [])) ∧ W'.heap[w.heap.size + 1 + 1]? = some (.cells #[.int .i64 a, .int .i64 l] 72 (0, 0))) ∧ W'.heap[w.heap.size + 1 + 1 + 1]? = some (.cells zeroG 57 (0, 0))) ∧ W'.heap[w.heap.size + 1 + 1 + 1 + 1]? = some (.cells (gcells N M (putAll (joinPos m' M a l) (fun k => ls'.getD k 0) pre acc)) 57 (0, 0))) ∧ Below w.heap.size w2 W'))
      (fun _ _ _ => False)
      (OwnFrom.and (OwnFrom.and (OwnFrom.and (OwnFrom.and (own_lt _ D (by have := MS.out; have := MDD.out; omega) _) (ownFrom_heap _ _ (fun _ => _) (fun _ => rfl))) (ownFrom_heap _ _ (fun _ => _) (fun _ => rfl))) (ownFrom_heap _ _ (fun pre => .cells (gcells N M (putAll (joinPos m' M a l) (fun k => ls'.getD k 0) pre acc)) 57 (0, 0)) (fun _ => rfl))) (ownFrom_below (by have := MS.out; have := MW.out; omega) (by have := MS.out; have := MW.out; omega)))
      (fun _ _ _ _ _ hs _ _ => hs)
      ⟨⟨⟨⟨MD.out, M2.out⟩, M3.out⟩, M4.out⟩, Below.refl _ _⟩
      (fun x a' W' => ∃ Bx, w2.heap.size ≤ Bx ∧ W'.heap[Bx]? = some (.cells #[.int .i64 ((x.val / m' : Nat) : Int), .int .i64 ((x.val % m' : Nat) : Int)] 72 (0, 0)) ∧ ∃ u0 u1 u2 u3 u4 u5 u6 u12 u13 u16 u17 u18 u19 u20 u21 u22 u23 u24 u25 u26 u27 u28 u29 u30 u31 u32 u33 u34 u35 u36 u37 u38 u39 u40 u41 u42 u43 u44 u45 : Value,
        a' = { tmps := #[u0, u1, u2, u3, u4, u5, u6, .pointer (some ⟨w.heap.size, 0, none⟩), .pointer (some ⟨w.heap.size + 1, 0, none⟩), .pointer (some ⟨w.heap.size + 1 + 1, 0, none⟩), .pointer (some ⟨w.heap.size + 1 + 1 + 1, 0, none⟩), .pointer (some ⟨w.heap.size + 1 + 1 + 1 + 1, 0, none⟩), u12, u13, .pointer (some ⟨Bx, 0, none⟩), .int .u8 ((ls'.getD x.val 0).toNat : Int), u16, u17, u18, u19, u20, u21, u22, u23, u24, u25, u26, u27, u28, u29, u30, u31, u32, u33, u34, u35, u36, u37, u38, u39, u40, u41, u42, u43, u44, u45], defers := [] })
      (fun x a' _ X Y row hs hg hr => by
        obtain ⟨Bx, h1, h2, h3⟩ := hs
        exact ⟨Bx, h1, ownFrom_heap _ Bx (fun (_ : Unit) => Obj.cells #[.int .i64 ((x.val / m' : Nat) : Int), .int .i64 ((x.val % m' : Nat) : Int)] 72 (0, 0)) (fun _ => rfl) () X Y row h2 hg hr, h3⟩)
      ?assign2 ?body2 ?done2 ?stop2
    case assign2 =>
      rintro l' pre x W' K ⟨⟨⟨⟨i1, i2⟩, i3⟩, i4⟩, i5⟩ hK
      have J1 := hid i1
      have J2 := hid i2
      have J3 := hid i3
      have J4 := hid i4
      have J5 := hid i5
      have JK := hid hK
      clear i1 i2 i3 i4 i5 hK
      unfold encs
      obtain ⟨qv, hqv⟩ : ∃ qv : Int, ((x.val / m' : Nat) : Int) = qv := ⟨_, rfl⟩
      obtain ⟨rv, hrv⟩ : ∃ rv : Int, ((x.val % m' : Nat) : Int) = rv := ⟨_, rfl⟩
      obtain ⟨bv, hbv⟩ : ∃ bv : Int, ((ls'.getD x.val 0).toNat : Int) = bv := ⟨_, rfl⟩
      rw [hqv, hrv, hbv] at JK ⊢
      gi_wp2
      have hsz : w2.heap.size ≤ W'.heap.size := J5.out.size
      exact JK.out _ _ ((KeepsOthers.alloc _ _).from _) ⟨by simp, Below.heap_alloc _ _ _ (by have := MS.out; omega)⟩
        ⟨⟨⟨⟨(Below.heap_alloc _ _ _ (lt_of_block J1.out)).trans J1.out, (Below.heap_alloc _ _ _ (lt_of_block J2.out)).trans J2.out⟩, (Below.heap_alloc _ _ _ (lt_of_block J3.out)).trans J3.out⟩, (Below.heap_alloc _ _ _ (lt_of_block J4.out)).trans J4.out⟩, J5.out.alloc (by have := MS.out; have := MW.out; omega) _⟩
        ⟨W'.heap.size, hsz, heap_new0 W' _, _, _, _, _, _, _, _, _, _, _, _, _, _, _, _, _, _, _, _, _, _, _, _, _, _, _, _, _, _, _, _, _, _, _, _, _, _, _, _, rfl⟩
    case body2 =>
      rintro l' pre x a' W' hlw ⟨r, hr⟩ ⟨⟨⟨⟨i1, i2⟩, i3⟩, i4⟩, i5⟩ ⟨Bx, hBx, hX, u0, u1, u2, u3, u4, u5, u6, u12, u13, u16, u17, u18, u19, u20, u21, u22, u23, u24, u25, u26, u27, u28, u29, u30, u31, u32, u33, u34, u35, u36, u37, u38, u39, u40, u41, u42, u43, u44, u45, rfl⟩ hlt
      have hxk := x.isLt
      have hq5 : x.val / m' < n' := by rw [Nat.div_lt_iff_lt_mul (by omega)]; exact hxk
      have hr5 : x.val % m' < m' := Nat.mod_lt _ (by omega)
      have hjp : joinPos m' M a l x.val = (a + x.val / m') * M + (l + x.val % m') := rfl
      obtain ⟨qn, hqn⟩ : ∃ qn, x.val / m' = qn := ⟨_, rfl⟩
      obtain ⟨rn, hrn⟩ : ∃ rn, x.val % m' = rn := ⟨_, rfl⟩
      rw [hqn] at hq5 hjp hX
      rw [hrn] at hr5 hjp hX
      have hrow : (a + qn) * M + (l + rn) < N * M := lt_of_parts (by omega) (by omega)
      obtain ⟨pp, hpp⟩ : ∃ pp, (a + qn) * M + (l + rn) = pp := ⟨_, rfl⟩
      rw [hpp] at hrow hjp
      have hpi : ((a : Int) + (qn : Int)) * (M : Int) + ((l : Int) + (rn : Int)) = (pp : Int) := by
        rw [← hpp, Int.natCast_add, Int.natCast_mul, Int.natCast_add, Int.natCast_add]
      obtain ⟨bb, hbb⟩ : ∃ bb : UInt8, ls'.getD x.val 0 = bb := ⟨_, rfl⟩
      rw [hbb]
      have HVL := hid hbb
      have HJP := hid hjp
      have HWT := hid (fun w' => with_any N M (putAll (joinPos m' M a l) (fun k => ls'.getD k 0) pre acc) ((a : Int) + (qn : Int)) ((l : Int) + (rn : Int)) pp bb w' (HLEN.out pre) (by omega) hpi ⟨by omega, by omega⟩ hM)
      have HTT := hid (show ∀ ks : List (Fin (n' * m')), (Try.prog.info? 57).map (·.size) = some (gcells N M (putAll (joinPos m' M a l) (fun k => ls'.getD k 0) ks acc)).size from fun ks => by rw [gcells_size (HLEN.out ks)]; exact Try.size_grid)
      have c0 : W'.cell? ⟨Bx, 0, none⟩ = some (.int .i64 (qn : Int)) := by rw [cell_of_row _ _ _ _ _ _ hX]; rfl
      have c1 : W'.cell? ⟨Bx, 1, none⟩ = some (.int .i64 (rn : Int)) := by rw [cell_of_row _ _ _ _ _ _ hX]; rfl
      have d0 : W'.cell? ⟨w.heap.size + 1 + 1, 0, none⟩ = some (.int .i64 (a : Int)) := by rw [cell_of_row _ _ _ _ _ _ i2]; rfl
      have d1 : W'.cell? ⟨w.heap.size + 1 + 1, 1, none⟩ = some (.int .i64 (l : Int)) := by rw [cell_of_row _ _ _ _ _ _ i2]; rfl
      have I1 := hid i1
      have I2 := hid i2
      have I3 := hid i3
      have I4 := hid i4
      have I5 := hid i5
      have z1 : (0 : Int) ≤ (a : Int) := Int.natCast_nonneg _
      have z2 : (0 : Int) ≤ (l : Int) := Int.natCast_nonneg _
      have z3 : (0 : Int) ≤ (qn : Int) := Int.natCast_nonneg _
      have z4 : (0 : Int) ≤ (rn : Int) := Int.natCast_nonneg _
      have z5 : (a : Int) ≤ 5 := by omega
      have z6 : (l : Int) ≤ 5 := by omega
      have z7 : (qn : Int) ≤ 5 := by omega
      have z8 : (rn : Int) ≤ 5 := by omega
      clear i1 i2 i3 i4 i5 hX hr hpi hpp hrow hqn hrn hjp hbb hxk hlt hq5 hr5 hnm hNM
      generalize (qn : Int) = qv at *
      generalize (rn : Int) = rv at *
      gi_wp2_with (refine wpListIn_load_row (Open.round _ l') rfl 57 _ rfl (w.heap.size + 1 + 1 + 1 + 1) rfl 57 _ (0, 0) _ I4.out Try.underlying57 rfl (HTT.out pre) ?_)
      refine ⟨trivial, CallsIn.inRound l' (callsIn_wide.2 ((HWT.out W').mono ?_))⟩
      rintro e w3 ⟨rfl, hbel⟩
      have E1 := hid ((hbel.block _ (lt_of_block I1.out)).trans I1.out)
      have E2 := hid ((hbel.block _ (lt_of_block I2.out)).trans I2.out)
      have E3 := hid ((hbel.block _ (lt_of_block I3.out)).trans I3.out)
      have E4 := hid ((hbel.block _ (lt_of_block I4.out)).trans I4.out)
      have hWs : w2.heap.size ≤ W'.heap.size := I5.out.size
      have hms := MS.out
      have hmw := MW.out
      have hmd := MD6.out
      have E5 := hid (I5.out.trans (hbel.mono (by omega)))
      have EK := hid (keeps_below hbel)
      have EA := hid (show KeepsAt W.heap.size W' w3 from ⟨hbel.size, hbel.block _ (by omega)⟩)
      clear hbel c0 c1 d0 d1
      gi_wp2_with (refine wpListIn_store_row (Open.round _ l') rfl 57 _ _ rfl (w.heap.size + 1 + 1 + 1 + 1) (gcells N M ((putAll (joinPos m' M a l) (fun k => ls'.getD k 0) pre acc).set pp bb)) rfl rfl 57 (gcells N M (putAll (joinPos m' M a l) (fun k => ls'.getD k 0) pre acc)) E4.out (by rw [gcells_size (by rw [List.length_set]; exact HLEN.out pre)]; exact Try.size_grid) (by rw [gcells_size (HLEN.out pre), gcells_size (by rw [List.length_set]; exact HLEN.out pre)]) (gcells_one _ _ _) ?_)
      refine ⟨(EK.out.trans (keeps_setRow _ _ _)).from _, EA.out.trans ⟨by simp, setRow_other _ _ _ _ (by omega)⟩, ⟨⟨⟨?_, ?_⟩, ?_⟩, ?_⟩, ?_⟩
      · rw [setRow_other _ _ _ _ (by omega)]; exact E1.out
      · rw [setRow_other _ _ _ _ (by omega)]; exact E2.out
      · rw [setRow_other _ _ _ _ (by omega)]; exact E3.out
      · rw [putAll_snoc, HVL.out, HJP.out]; exact setRow_heap _ _ _ _ _ _ E4.out
      · exact below_setRow' E5.out (by omega) _
    case done2 =>
      rintro D2 xs W' hD2 rfl ⟨⟨⟨⟨i1, i2⟩, i3⟩, i4⟩, i5⟩ hK
      have J1 := hid i1
      have J3 := hid i3
      have J4 := hid i4
      have J5 := hid i5
      have JK := hid hK
      clear i1 i2 i3 i4 i5 hK
      gi_wp2_with (first
        | refine wpListIn_load_row (Open.wide _) rfl 57 _ rfl (w.heap.size + 1 + 1 + 1 + 1) rfl 57 _ (0, 0) _ J4.out Try.underlying57 rfl (by rw [gcells_size (HLEN.out _)]; exact Try.size_grid) ?_
        | refine wpListIn_store_row (Open.wide _) rfl 57 _ _ rfl (w.heap.size + 1 + 1 + 1) (gcells N M (putAll (joinPos m' M a l) (fun k => ls'.getD k 0) (List.finRange (n' * m')) acc)) rfl rfl 57 zeroG J3.out (by rw [gcells_size (HLEN.out _)]; exact Try.size_grid) (by rw [gcells_size (HLEN.out _)]; rfl) (gcells_one _ _ _) ?_)
      have hms := MS.out
      have hmw := MW.out
      have hmd := MD6.out
      have hdd := MDD.out
      have q2 : (W'.setRow (w.heap.size + 1 + 1 + 1) (gcells N M (putAll (joinPos m' M a l) (fun k => ls'.getD k 0) (List.finRange (n' * m')) acc))).heap[D2]? = some (.deferred (some [])) := by
        rw [setRow_other _ _ _ _ (by omega)]; exact JK.out
      refine ⟨by simp, .inl ⟨_, _, rfl, run_takeDeferred q2, ?_⟩⟩
      have q1 : ((W'.setRow (w.heap.size + 1 + 1 + 1) (gcells N M (putAll (joinPos m' M a l) (fun k => ls'.getD k 0) (List.finRange (n' * m')) acc))).putObj D2 (.deferred none)).heap[D]? = some (.deferred (some [])) := by
        rw [World.putObj_heap_other (by omega), setRow_other _ _ _ _ (by omega)]; exact J1.out
      refine ⟨by simp, .inl ⟨_, _, rfl, run_takeDeferred q1, ?_⟩⟩
      refine ⟨_, results_cell_row Try.results74 _ _ (w.heap.size + 1 + 1 + 1) 57 _ (0, 0) _ (by rfl) ((World.putObj_heap_other (by omega)).trans ((World.putObj_heap_other (by omega)).trans (setRow_heap _ _ _ _ _ _ J3.out))) Try.underlying57 rfl (by rw [gcells_size (HLEN.out _)]; exact Try.size_grid), by rw [HJ.out], ?_⟩
      have b1 := below_setRow' (MB.out.trans J5.out) (g := w.heap.size + 1 + 1 + 1) (by omega) (gcells N M (putAll (joinPos m' M a l) (fun k => ls'.getD k 0) (List.finRange (n' * m')) acc))
      exact (b1.trans (belowK_b (w := w) (Nat.le_refl _) _ D2 _ _ (by omega) q2 rfl rfl)).trans (belowK_b (w := w) (Nat.le_refl _) _ D _ _ (by omega) q1 rfl rfl)
    case stop2 =>
      rintro D2 c pre W' _ _ h _
      exact h.elim
  case stop =>
    rintro D c pre W _ _ h _
    exact h.elim

end Go.Proofs.Ytkgjhchgflichaa
