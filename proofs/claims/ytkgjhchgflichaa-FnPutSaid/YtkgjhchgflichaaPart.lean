/- A part of a grid, by its contract. -/
import Derived.Test.YtkgjhchgflichaaBunD
import Derived.Test.YtkgjhchgflichaaPutI
namespace Go.Proofs.Ytkgjhchgflichaa
open Go.RowKit Go.Shelf
attribute [local go_sem] Oper.semAt_some

/-- The letters of the part. -/
def partVal (m m1 a l : Nat) (ls : List UInt8) (k : Nat) : UInt8 := ls.getD ((a + k / m1) * m + (l + k % m1)) 0

set_option maxRecDepth 100000 in
set_option maxHeartbeats 2000000 in
theorem part_any (n m n1 m1 a l : Nat) (ls : List UInt8) (w : World) (hl : ls.length = 25) (hn5 : n ≤ 5) (hm5 : m ≤ 5) (hn1 : 1 ≤ n1) (hm1 : 1 ≤ m1) (ha : a + n1 ≤ n) (hla : l + m1 ≤ m) :
    Calls Try.prog 79 #[.agg (gcells n m ls), .int .i64 a, .int .i64 ((a + n1 : Nat) - 1 : Int), .int .i64 l, .int .i64 ((l + m1 : Nat) - 1 : Int)] w fun e w' => e = .returned (.agg (gcells n1 m1 (putAll samePos (partVal m m1 a l ls) (List.finRange (n1 * m1)) (pad [])))) ∧ Below w.heap.size w w' := by
  refine (callsIn_wide (n := 3)).1 ?_
  have hn15 : n1 ≤ 5 := by omega
  have hm15 : m1 ≤ 5 := by omega
  have e1 : ((a + n1 : Nat) : Int) - 1 - (a : Int) + 1 = (n1 : Int) := by omega
  have e2 : ((l + m1 : Nat) : Int) - 1 - (l : Int) + 1 = (m1 : Int) := by omega
  have HG := hid (show (Try.prog.info? 57).map (·.size) = some (gcells n m ls).size by rw [gcells_size hl]; exact Try.size_grid)
  have HT := hid (show (Try.prog.info? 57).map (·.size) = some (gcells n1 m1 (pad [])).size by rw [gcells_size (by rfl)]; exact Try.size_grid)
  have F0 : ((((((w.alloc (.cells (gcells n m ls) 57)).alloc (.cells #[.int .i64 (a : Int)] 3)).alloc (.cells #[.int .i64 (l : Int)] 3)).alloc (.cells zeroG 57)).alloc (.cells zeroG 57)).setRow (w.heap.size + 1 + 1 + 1 + 1) (gcells n1 m1 (pad []))).heap[w.heap.size]? = some (.cells (gcells n m ls) 57 (0, 0)) := by
    rw [setRow_other _ _ _ _ (by omega)]; rw [Below.heap_alloc _ _ _ (by simp; omega)]; exact heap_new3 w _ _ _ _
  have F1 : Boxed ((((((w.alloc (.cells (gcells n m ls) 57)).alloc (.cells #[.int .i64 (a : Int)] 3)).alloc (.cells #[.int .i64 (l : Int)] 3)).alloc (.cells zeroG 57)).alloc (.cells zeroG 57)).setRow (w.heap.size + 1 + 1 + 1 + 1) (gcells n1 m1 (pad []))) (w.heap.size + 1) 3 (.int .i64 (a : Int)) := by
    unfold Boxed
    rw [setRow_other _ _ _ _ (by omega)]; simpa using heap_new3 (w.alloc (.cells (gcells n m ls) 57)) (.cells #[.int .i64 (a : Int)] 3) (.cells #[.int .i64 (l : Int)] 3) (.cells zeroG 57) (.cells zeroG 57)
  have F2 : Boxed ((((((w.alloc (.cells (gcells n m ls) 57)).alloc (.cells #[.int .i64 (a : Int)] 3)).alloc (.cells #[.int .i64 (l : Int)] 3)).alloc (.cells zeroG 57)).alloc (.cells zeroG 57)).setRow (w.heap.size + 1 + 1 + 1 + 1) (gcells n1 m1 (pad []))) (w.heap.size + 1 + 1) 3 (.int .i64 (l : Int)) := by
    unfold Boxed
    rw [setRow_other _ _ _ _ (by omega)]; simpa using heap_new2 ((w.alloc (.cells (gcells n m ls) 57)).alloc (.cells #[.int .i64 (a : Int)] 3)) (.cells #[.int .i64 (l : Int)] 3) (.cells zeroG 57) (.cells zeroG 57)
  have F3 : ((((((w.alloc (.cells (gcells n m ls) 57)).alloc (.cells #[.int .i64 (a : Int)] 3)).alloc (.cells #[.int .i64 (l : Int)] 3)).alloc (.cells zeroG 57)).alloc (.cells zeroG 57)).setRow (w.heap.size + 1 + 1 + 1 + 1) (gcells n1 m1 (pad []))).heap[w.heap.size + 1 + 1 + 1]? = some (.cells zeroG 57 (0, 0)) := by
    rw [setRow_other _ _ _ _ (by omega)]; simpa using heap_new1 (((w.alloc (.cells (gcells n m ls) 57)).alloc (.cells #[.int .i64 (a : Int)] 3)).alloc (.cells #[.int .i64 (l : Int)] 3)) (.cells zeroG 57) (.cells zeroG 57)
  have F4 : ((((((w.alloc (.cells (gcells n m ls) 57)).alloc (.cells #[.int .i64 (a : Int)] 3)).alloc (.cells #[.int .i64 (l : Int)] 3)).alloc (.cells zeroG 57)).alloc (.cells zeroG 57)).setRow (w.heap.size + 1 + 1 + 1 + 1) (gcells n1 m1 (pad []))).heap[w.heap.size + 1 + 1 + 1 + 1]? = some (.cells (gcells n1 m1 (pad [])) 57 (0, 0)) :=
    setRow_heap _ _ zeroG _ _ _ (by simpa using heap_new0 ((((w.alloc (.cells (gcells n m ls) 57)).alloc (.cells #[.int .i64 (a : Int)] 3)).alloc (.cells #[.int .i64 (l : Int)] 3)).alloc (.cells zeroG 57)) (.cells zeroG 57))
  have F5 : Below w.heap.size w ((((((w.alloc (.cells (gcells n m ls) 57)).alloc (.cells #[.int .i64 (a : Int)] 3)).alloc (.cells #[.int .i64 (l : Int)] 3)).alloc (.cells zeroG 57)).alloc (.cells zeroG 57)).setRow (w.heap.size + 1 + 1 + 1 + 1) (gcells n1 m1 (pad []))) :=
    below_setRow' ((((((Below.refl _ w).alloc (Nat.le_refl _) _).alloc (by simp) _).alloc (by simp; omega) _).alloc (by simp; omega) _).alloc (by simp; omega) _) (by omega) _
  have F6 : ((((((w.alloc (.cells (gcells n m ls) 57)).alloc (.cells #[.int .i64 (a : Int)] 3)).alloc (.cells #[.int .i64 (l : Int)] 3)).alloc (.cells zeroG 57)).alloc (.cells zeroG 57)).setRow (w.heap.size + 1 + 1 + 1 + 1) (gcells n1 m1 (pad []))).heap.size = w.heap.size + 5 := by simp
  have H0 := hid F0
  have H1 := hid F1
  have H2 := hid F2
  have H3 := hid F3
  have H4 := hid F4
  have H5 := hid F5
  have H6 := hid F6
  clear F0 F1 F2 F3 F4 F5 F6
  obtain ⟨lo, hlo⟩ : ∃ lo : Int, ((a + n1 : Nat) : Int) - 1 = lo := ⟨_, rfl⟩
  obtain ⟨ri, hri⟩ : ∃ ri : Int, ((l + m1 : Nat) : Int) - 1 = ri := ⟨_, rfl⟩
  rw [hlo] at e1 ⊢
  rw [hri] at e2 ⊢
  have hlo1 : 0 ≤ lo ∧ lo ≤ 5 := by omega
  have hri1 : 0 ≤ ri ∧ ri ≤ 5 := by omega
  obtain ⟨hlo2, hlo3⟩ := hlo1
  obtain ⟨hri2, hri3⟩ := hri1
  have ha5 : (a : Int) ≤ 5 := by omega
  have hl5 : (l : Int) ≤ 5 := by omega
  clear hlo hri
  refine callsIn_of_wp_marks Try.func79 rfl trivial ?_ rfl
  simp only [Try.ntmps79, List.size_toArray, List.length_cons, List.length_nil, Nat.reduceAdd, Nat.reduceSub, Array.replicate_succ, Array.replicate_zero, List.push_toArray, List.append_toArray, List.nil_append, List.cons_append]
  gi_wp2_with (first
    | refine wpListIn_store_row (Open.wide _) rfl 57 _ _ rfl (w.heap.size + 1 + 1 + 1 + 1) (gcells n1 m1 (pad [])) rfl rfl 57 zeroG (by simpa using heap_new0 ((((w.alloc _).alloc _).alloc _).alloc _) _) HT.out (gcells_size (by rfl)).symm (gcells_one _ _ _) ?_
    | refine wpListIn_load_row (Open.wide _) rfl 57 _ rfl (w.heap.size + 1 + 1 + 1 + 1) rfl 57 (gcells n1 m1 (pad [])) (0, 0) _ H4.out Try.underlying57 rfl HT.out ?_)
  generalize World.setRow _ _ _ = W0 at H0 H1 H2 H3 H4 H5 H6
  refine ⟨trivial, callsIn_wide.2 ((cells_any (gcells n1 m1 (pad [])) W0).mono ?_)⟩
  rintro e w1 ⟨rfl, hw1⟩
  have hnm : n1 * m1 ≤ 5 * 5 := Nat.mul_le_mul hn15 hm15
  have K0 := hid (show w1.heap[w.heap.size]? = some (.cells (gcells n m ls) 57 (0, 0)) by rw [hw1]; exact (Below.heap_alloc _ _ _ (lt_of_block H0.out)).trans H0.out)
  have K1 := hid (show Boxed w1 (w.heap.size + 1) 3 (.int .i64 (a : Int)) by rw [hw1]; exact H1.out.alloc _)
  have K2 := hid (show Boxed w1 (w.heap.size + 1 + 1) 3 (.int .i64 (l : Int)) by rw [hw1]; exact H2.out.alloc _)
  have K3 := hid (show w1.heap[w.heap.size + 1 + 1 + 1]? = some (.cells zeroG 57 (0, 0)) by rw [hw1]; exact (Below.heap_alloc _ _ _ (lt_of_block H3.out)).trans H3.out)
  have K4 := hid (show w1.heap[w.heap.size + 1 + 1 + 1 + 1]? = some (.cells (gcells n1 m1 (pad [])) 57 (0, 0)) by rw [hw1]; exact (Below.heap_alloc _ _ _ (lt_of_block H4.out)).trans H4.out)
  have KX := hid (show w1.heap[W0.heap.size]? = some (.cells (gcells n1 m1 (pad [])) 57 (0, 0)) by rw [hw1]; exact heap_new0 W0 _)
  have KB := hid (show Below w.heap.size w w1 by rw [hw1]; exact H5.out.alloc H5.out.size _)
  have KS := hid (show w1.heap.size = w.heap.size + 6 by rw [hw1, World.size_alloc, H6.out])
  have KW := hid H6.out
  clear hw1 H0 H1 H2 H3 H4 H5 H6
  gi_wp2
  have HLEN := hid (show ∀ pre : List (Fin (n1 * m1)), (putAll samePos (partVal m m1 a l ls) pre (pad [])).length = 25 from fun pre => by rw [putAll_length]; rfl)
  refine wpIn_rangeFunc_ownH rfl (by omega) (gf := 114) (lb := #[.pointer (some ⟨W0.heap.size, 0, none⟩)]) rfl trivial (enters_of Try.func114 (by kernel_rfl) rfl)
    (cells_stops 2 W0.heap.size n1 m1 (n1 * m1) rfl (pad []) rfl hn15 hm1 hm15 w1 KX.out) KeepsAt.trans (keepsAt_b (lt_of_block KX.out)) (Below.refl _ _) (fun _ => rfl)
    (fun pre W => ((((W.heap[w.heap.size]? = some (.cells (gcells n m ls) 57 (0, 0)) ∧ W.heap[w.heap.size + 1 + 1 + 1]? = some (.cells zeroG 57 (0, 0))) ∧ W.heap[w.heap.size + 1 + 1 + 1 + 1]? = some (.cells (gcells n1 m1 (putAll samePos (partVal m m1 a l ls) pre (pad []))) 57 (0, 0))) ∧ Boxed W (w.heap.size + 1) 3 (.int .i64 (a : Int))) ∧ Boxed W (w.heap.size + 1 + 1) 3 (.int .i64 (l : Int))) ∧ Below w.heap.size w1 W)
    (fun _ _ _ => False)
    (OwnFrom.and (OwnFrom.and (OwnFrom.and (OwnFrom.and (OwnFrom.and (ownFrom_heap _ _ (fun _ => _) (fun _ => rfl)) (ownFrom_heap _ _ (fun _ => _) (fun _ => rfl))) (ownFrom_heap _ _ (fun pre => .cells (gcells n1 m1 (putAll samePos (partVal m m1 a l ls) pre (pad []))) 57 (0, 0)) (fun _ => rfl))) (Own.from (boxed_own _ _ (fun _ => .int .i64 (a : Int))) _)) (Own.from (boxed_own _ _ (fun _ => .int .i64 (l : Int))) _)) (ownFrom_below (by rw [KS.out]; omega) (by rw [KS.out]; omega)))
    (fun _ _ _ _ _ hs _ _ => hs)
    ⟨⟨⟨⟨⟨K0.out, K3.out⟩, K4.out⟩, K1.out⟩, K2.out⟩, Below.refl _ _⟩
    (fun x a' W => ∃ Bx, w.heap.size + 6 ≤ Bx ∧ W.heap[Bx]? = some (.cells #[.int .i64 ((x.val / m1 : Nat) : Int), .int .i64 ((x.val % m1 : Nat) : Int)] 72 (0, 0)) ∧ ∃ u0 u1 u2 u3 u4 u7 u9 u13 u14 u15 u16 u17 u18 u19 u20 u21 u22 u23 u24 u25 u26 u27 u28 u29 u30 u31 u32 u33 u34 u35 u36 u37 u38 u39 u40 : Value,
      a' = { tmps := #[u0, u1, u2, u3, u4, .pointer (some ⟨w.heap.size, 0, none⟩), .pointer (some ⟨w.heap.size + 1, 0, none⟩), u7, .pointer (some ⟨w.heap.size + 1 + 1, 0, none⟩), u9, .pointer (some ⟨w.heap.size + 1 + 1 + 1, 0, none⟩), .pointer (some ⟨w.heap.size + 1 + 1 + 1 + 1, 0, none⟩), .pointer (some ⟨Bx, 0, none⟩), u13, u14, u15, u16, u17, u18, u19, u20, u21, u22, u23, u24, u25, u26, u27, u28, u29, u30, u31, u32, u33, u34, u35, u36, u37, u38, u39, u40], defers := [] })
    (fun x a' _ X Y row hs hg hr => by
      obtain ⟨Bx, h1, h2, h3⟩ := hs
      exact ⟨Bx, h1, ownFrom_heap _ Bx (fun (_ : Unit) => Obj.cells #[.int .i64 ((x.val / m1 : Nat) : Int), .int .i64 ((x.val % m1 : Nat) : Int)] 72 (0, 0)) (fun _ => rfl) () X Y row h2 hg hr, h3⟩)
    ?assign ?body ?done ?stop
  case assign =>
    rintro l' pre x W K ⟨⟨⟨⟨⟨i0, i3⟩, i4⟩, i1⟩, i2⟩, i5⟩ hK
    have J0 := hid i0
    have J1 := hid i1
    have J2 := hid i2
    have J3 := hid i3
    have J4 := hid i4
    have J5 := hid i5
    have JK := hid hK
    clear i0 i1 i2 i3 i4 i5 hK
    unfold encs
    obtain ⟨qv, hqv⟩ : ∃ qv : Int, ((x.val / m1 : Nat) : Int) = qv := ⟨_, rfl⟩
    obtain ⟨rv, hrv⟩ : ∃ rv : Int, ((x.val % m1 : Nat) : Int) = rv := ⟨_, rfl⟩
    rw [hqv, hrv] at JK ⊢
    gi_wp2
    have hsz : w.heap.size + 6 ≤ W.heap.size := by rw [← KS.out]; exact J5.out.size
    exact JK.out _ _ ((KeepsOthers.alloc _ _).from _) ⟨by simp, Below.heap_alloc _ _ _ (by rw [KW.out]; omega)⟩
      ⟨⟨⟨⟨⟨(Below.heap_alloc _ _ _ (by omega)).trans J0.out, (Below.heap_alloc _ _ _ (by omega)).trans J3.out⟩, (Below.heap_alloc _ _ _ (by omega)).trans J4.out⟩, J1.out.alloc _⟩, J2.out.alloc _⟩, J5.out.alloc (by omega) _⟩
      ⟨W.heap.size, hsz, heap_new0 W _, _, _, _, _, _, _, _, _, _, _, _, _, _, _, _, _, _, _, _, _, _, _, _, _, _, _, _, _, _, _, _, _, _, _, _, rfl⟩
  case body =>
    rintro l' pre x a' W hlw ⟨r, hr⟩ ⟨⟨⟨⟨⟨i0, i3⟩, i4⟩, i1⟩, i2⟩, i5⟩ ⟨Bx, hBx, hX, u0, u1, u2, u3, u4, u7, u9, u13, u14, u15, u16, u17, u18, u19, u20, u21, u22, u23, u24, u25, u26, u27, u28, u29, u30, u31, u32, u33, u34, u35, u36, u37, u38, u39, u40, rfl⟩ hlt
    have hxk := x.isLt
    have hq5 : x.val / m1 < n1 := by rw [Nat.div_lt_iff_lt_mul (by omega)]; exact hxk
    have hr5 : x.val % m1 < m1 := Nat.mod_lt _ (by omega)
    have hp : samePos x.val < 25 := by unfold samePos; omega
    have hvl : partVal m m1 a l ls x.val = ls.getD ((a + x.val / m1) * m + (l + x.val % m1)) 0 := rfl
    have hdm : x.val / m1 * m1 + x.val % m1 = x.val := by rw [Nat.mul_comm]; exact Nat.div_add_mod _ _
    obtain ⟨qn, hqn⟩ : ∃ qn, x.val / m1 = qn := ⟨_, rfl⟩
    obtain ⟨rn, hrn⟩ : ∃ rn, x.val % m1 = rn := ⟨_, rfl⟩
    rw [hqn] at hq5 hvl hdm hX
    rw [hrn] at hr5 hvl hdm hX
    have hpe : (qn : Int) * (m1 : Int) + (rn : Int) = ((samePos x.val : Nat) : Int) := by
      unfold samePos
      rw [← hdm, Int.natCast_add, Int.natCast_mul]
    have hrow : (a + qn) * m + (l + rn) < n * m := lt_of_parts (by omega) (by omega)
    have h25 : n * m ≤ 5 * 5 := Nat.mul_le_mul hn5 hm5
    obtain ⟨pp, hpp⟩ : ∃ pp, (a + qn) * m + (l + rn) = pp := ⟨_, rfl⟩
    rw [hpp] at hrow hvl
    have hpi : ((a : Int) + (qn : Int)) * (m : Int) + ((l : Int) + (rn : Int)) = (pp : Int) := by
      rw [← hpp, Int.natCast_add, Int.natCast_mul, Int.natCast_add, Int.natCast_add]
    obtain ⟨bb, hbb⟩ : ∃ bb : UInt8, ls.getD pp 0 = bb := ⟨_, rfl⟩
    have hlb : ls[pp]? = some bb := by
      rw [← hbb, List.getD_eq_getElem?_getD, List.getElem?_eq_getElem (by omega)]; rfl
    rw [hbb] at hvl
    have b1 : (qn : Int) ≤ 5 := by omega
    have b2 : (rn : Int) ≤ 5 := by omega
    have b3 : (0 : Int) ≤ qn := Int.natCast_nonneg _
    have b4 : (0 : Int) ≤ rn := Int.natCast_nonneg _
    have HAT := hid (fun w' => at_any n m ls ((a : Int) + (qn : Int)) ((l : Int) + (rn : Int)) pp bb w' hl (by omega) hpi ⟨by omega, by omega⟩ hm5 hlb)
    have HWT := hid (fun w' => with_any n1 m1 (putAll samePos (partVal m m1 a l ls) pre (pad [])) qn rn (samePos x.val) bb w' (HLEN.out pre) hp hpe ⟨by omega, by omega⟩ hm15)
    have HVL := hid hvl
    have HP := hid hp
    have HTT := hid (show ∀ ks : List (Fin (n1 * m1)), (Try.prog.info? 57).map (·.size) = some (gcells n1 m1 (putAll samePos (partVal m m1 a l ls) ks (pad []))).size from fun ks => by rw [gcells_size (HLEN.out ks)]; exact Try.size_grid)
    have D1 : ∀ w', Cls W w' → w'.cell? ⟨w.heap.size + 1, 0, none⟩ = some (.int .i64 (a : Int)) := fun w' hw => (show Boxed w' _ _ _ from (hw.block _ i1.lt).trans i1).cell
    have D2 : ∀ w', Cls W w' → w'.cell? ⟨w.heap.size + 1 + 1, 0, none⟩ = some (.int .i64 (l : Int)) := fun w' hw => (show Boxed w' _ _ _ from (hw.block _ i2.lt).trans i2).cell
    have D0 := hid (show ∀ w', Cls W w' → w'.heap[w.heap.size]? = some (.cells (gcells n m ls) 57 (0, 0)) from fun w' hw => (hw.block _ (lt_of_block i0)).trans i0)
    have D3 := hid (show ∀ w', Cls W w' → w'.heap[w.heap.size + 1 + 1 + 1]? = some (.cells zeroG 57 (0, 0)) from fun w' hw => (hw.block _ (lt_of_block i3)).trans i3)
    have D4 := hid (show ∀ w', Cls W w' → w'.heap[w.heap.size + 1 + 1 + 1 + 1]? = some (.cells (gcells n1 m1 (putAll samePos (partVal m m1 a l ls) pre (pad []))) 57 (0, 0)) from fun w' hw => (hw.block _ (lt_of_block i4)).trans i4)
    have DX : ∀ w', Cls W w' → w'.heap[Bx]? = some (.cells #[.int .i64 (qn : Int), .int .i64 (rn : Int)] 72 (0, 0)) := fun w' hw => (hw.block _ (lt_of_block hX)).trans hX
    have C0 := hid (show ∀ w', Cls W w' → w'.cell? ⟨Bx, 0, none⟩ = some (.int .i64 (qn : Int)) from fun w' hw => by rw [cell_of_row _ _ _ _ _ _ (DX w' hw)]; rfl)
    have C1 := hid (show ∀ w', Cls W w' → w'.cell? ⟨Bx, 1, none⟩ = some (.int .i64 (rn : Int)) from fun w' hw => by rw [cell_of_row _ _ _ _ _ _ (DX w' hw)]; rfl)
    have HDX := hid DX
    have HD1 := hid D1
    have HD2 := hid D2
    have I1 := hid i1
    have I2 := hid i2
    have I5 := hid i5
    have hWs : w.heap.size + 6 ≤ W.heap.size := by rw [← KS.out]; exact i5.size
    have HPL := hid (show (Try.prog.info? 72).map (·.size) = some (#[Value.int .i64 (qn : Int), .int .i64 (rn : Int)] : Array Value).size by kernel_rfl)
    clear i0 i1 i2 i3 i4 i5 hX DX D1 D2 hr hpe hpi hlb hbb hvl hpp hrow h25 hqn hrn hdm hp hxk hlt hnm
    gi_wp2
    refine wpIn_region_quiet_tail (Open.round _ l') 14 (Cls W) (by kernel_rfl) (by kernel_rfl) (Below.refl _ W).drew ?_
    simp only [List.take_succ_cons, List.take_zero, List.drop_succ_cons, List.drop_zero]
    refine wpQuiet_load_row rfl 57 _ rfl (w.heap.size + 1 + 1 + 1 + 1) rfl 57 _ (0, 0) _ D4.out Try.underlying57 rfl (HTT.out pre) ?_
    refine wpQuiet_load_row rfl 72 _ rfl Bx rfl 72 _ (0, 0) _ HDX.out Try.underlying72 rfl HPL.out ?_
    refine wpQuiet_load_row rfl 57 _ rfl w.heap.size rfl 57 _ (0, 0) _ D0.out Try.underlying57 rfl HG.out ?_
    refine wpQuiet_value rfl (.int .i64 (a : Int)) (fun w' hw => by have hc := HD1.out w' hw; go_simp) ?_
    quiet_step ((intro _; rfl))
    refine wpQuiet_value rfl (.int .i64 (qn : Int)) (fun w' hw => by have hc := C0.out w' hw; go_simp) ?_
    refine wpQuiet_value rfl (.int .i64 ((a : Int) + (qn : Int))) (fun w' _ => by go_simp; rw [IntKind.wrap_i64]; omega) ?_
    refine wpQuiet_value rfl (.int .i64 (l : Int)) (fun w' hw => by have hc := HD2.out w' hw; go_simp) ?_
    quiet_step ((intro _; rfl))
    refine wpQuiet_value rfl (.int .i64 (rn : Int)) (fun w' hw => by have hc := C1.out w' hw; go_simp) ?_
    refine wpQuiet_value rfl (.int .i64 ((l : Int) + (rn : Int))) (fun w' _ => by go_simp; rw [IntKind.wrap_i64]; omega) ?_
    quiet_step ((intro _; rfl))
    refine wpQuiet_call rfl 103 #[.agg (gcells n m ls), .agg #[.int .i64 ((a : Int) + (qn : Int)), .int .i64 ((l : Int) + (rn : Int))]] (.int .u8 bb.toNat) (fun w _ => by go_simp) (fun w' hw => (HAT.out w').mono fun e w'' ⟨he, hb'⟩ => ⟨he, hw.trans (hb'.mono hw.size)⟩) ?_
    refine wpQuiet_call rfl 84 #[.agg (gcells n1 m1 (putAll samePos (partVal m m1 a l ls) pre (pad []))), .agg #[.int .i64 (qn : Int), .int .i64 (rn : Int)], .int .u8 bb.toNat] (.agg (gcells n1 m1 ((putAll samePos (partVal m m1 a l ls) pre (pad [])).set (samePos x.val) bb))) (fun w _ => by go_simp) (fun w' hw => (HWT.out w').mono fun e w'' ⟨he, hb'⟩ => ⟨he, hw.trans (hb'.mono hw.size)⟩) ?_
    refine wpQuiet_nil ?_
    intro w2 hw2
    have E0 := hid (D0.out w2 hw2)
    have E3 := hid (D3.out w2 hw2)
    have E4 := hid (D4.out w2 hw2)
    have E1 := hid (show Boxed w2 _ _ _ from (hw2.block _ I1.out.lt).trans I1.out)
    have E2 := hid (show Boxed w2 _ _ _ from (hw2.block _ I2.out.lt).trans I2.out)
    have E5 := hid (I5.out.trans (hw2.mono (by omega)))
    have EK := hid (keeps_below hw2)
    have EA := hid (show KeepsAt W0.heap.size W w2 from ⟨hw2.size, hw2.block _ (by rw [KW.out]; omega)⟩)
    clear hw2
    gi_wp2_with (refine wpListIn_store_row (Open.round _ l') rfl 57 _ _ rfl (w.heap.size + 1 + 1 + 1 + 1) (gcells n1 m1 ((putAll samePos (partVal m m1 a l ls) pre (pad [])).set (samePos x.val) bb)) rfl rfl 57 (gcells n1 m1 (putAll samePos (partVal m m1 a l ls) pre (pad []))) E4.out (by rw [gcells_size (by rw [List.length_set]; exact HLEN.out pre)]; exact Try.size_grid) (by rw [gcells_size (HLEN.out pre), gcells_size (by rw [List.length_set]; exact HLEN.out pre)]) (gcells_one _ _ _) ?_)
    refine ⟨(EK.out.trans (keeps_setRow _ _ _)).from _, EA.out.trans ⟨by simp, setRow_other _ _ _ _ (by rw [KW.out]; omega)⟩, ⟨⟨⟨⟨⟨?_, ?_⟩, ?_⟩, ?_⟩, ?_⟩, ?_⟩⟩
    · rw [setRow_other _ _ _ _ (by omega)]; exact E0.out
    · rw [setRow_other _ _ _ _ (by omega)]; exact E3.out
    · rw [putAll_snoc, HVL.out]; exact setRow_heap _ _ _ _ _ _ E4.out
    · unfold Boxed; rw [setRow_other _ _ _ _ (by omega)]; exact E1.out
    · unfold Boxed; rw [setRow_other _ _ _ _ (by omega)]; exact E2.out
    · exact below_setRow' E5.out (by omega) _
  case done =>
    rintro D xs W hD rfl ⟨⟨⟨⟨⟨i0, i3⟩, i4⟩, i1⟩, i2⟩, i5⟩ hK
    have J3 := hid i3
    have J4 := hid i4
    have J5 := hid i5
    have JK := hid hK
    clear i0 i1 i2 i3 i4 i5 hK
    gi_wp2_with (first
      | refine wpListIn_load_row (Open.wide _) rfl 57 _ rfl (w.heap.size + 1 + 1 + 1 + 1) rfl 57 _ (0, 0) _ J4.out Try.underlying57 rfl (by rw [gcells_size (HLEN.out _)]; exact Try.size_grid) ?_
      | refine wpListIn_store_row (Open.wide _) rfl 57 _ _ rfl (w.heap.size + 1 + 1 + 1) (gcells n1 m1 (putAll samePos (partVal m m1 a l ls) (List.finRange (n1 * m1)) (pad []))) rfl rfl 57 zeroG J3.out (by rw [gcells_size (HLEN.out _)]; exact Try.size_grid) (by rw [gcells_size (HLEN.out _)]; rfl) (gcells_one _ _ _) ?_)
    have hne : w.heap.size + 1 + 1 + 1 ≠ D := by rw [KS.out] at hD; omega
    have hK' : (W.setRow (w.heap.size + 1 + 1 + 1) (gcells n1 m1 (putAll samePos (partVal m m1 a l ls) (List.finRange (n1 * m1)) (pad [])))).heap[D]? = some (.deferred (some [])) := by
      rw [setRow_other _ _ _ _ (fun e => hne e.symm)]; exact JK.out
    refine ⟨by simp, .inl ⟨_, _, rfl, run_takeDeferred hK', ?_⟩⟩
    refine ⟨_, results_cell_row Try.results79 _ _ (w.heap.size + 1 + 1 + 1) 57 _ (0, 0) _ (by rfl) ((World.putObj_heap_other hne).trans (setRow_heap _ _ _ _ _ _ J3.out)) Try.underlying57 rfl (by rw [gcells_size (HLEN.out _)]; exact Try.size_grid), rfl, ?_⟩
    exact (KB.out.trans (below_setRow' J5.out (by omega) _)).trans (belowK_b (w := w) (Nat.le_refl _) _ D _ _ (by rw [KS.out] at hD; omega) hK' rfl rfl)
  case stop =>
    rintro D c pre W _ _ h _
    exact h.elim

end Go.Proofs.Ytkgjhchgflichaa
