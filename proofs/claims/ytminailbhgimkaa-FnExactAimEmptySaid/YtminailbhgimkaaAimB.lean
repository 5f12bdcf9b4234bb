/- The board of letters: rows that are slices of one copy; its cells. -/
import Derived.Test.YtminailbhgimkaaAimR
import Derived.Test.YtminailbhgimkaaBunC
import Derived.Laws.CopyOwn
namespace Go.Proofs.Ytminailbhgimkaa
open Go.RowKit Go.Shelf

theorem Try.info_bytes : (Try.prog.info? 22).map (fun i => (i.zero, i.size, i.bytes)) = some (some (.slice none 0 0), 1, 24) := by kernel_rfl
/-- The letters in block L; the rows in block R: slices of these. -/
def LetAt (W : World) (L : Nat) (ls : List UInt8) : Prop := W.heap[L]? = some (.cells (bytesV ls).toArray 5 (0, 0))
def RowsAt (W : World) (R L n m : Nat) : Prop := ∃ rows, W.heap[R]? = some (.cells rows 22 (0, 0)) ∧ ∀ r, r < n → rows[r]? = some (.slice (some ⟨L, r * m, none⟩) m m)
theorem LetAt.cell {W : World} {L c : Nat} {ls : List UInt8} {b : UInt8} (h : LetAt W L ls) (hc : ls[c]? = some b) : W.cell? ⟨L, c, none⟩ = some (.int .u8 b.toNat) := by
  rw [cell_of_row _ _ _ _ _ _ h]
  simp [bytesV, hc]
theorem LetAt.free {W : World} {L c : Nat} {ls : List UInt8} (h : LetAt W L ls) : W.frozen? ⟨L, c, none⟩ = false := frozen_of_row _ _ _ _ _ h
theorem LetAt.set {W : World} {L c : Nat} {ls : List UInt8} (h : LetAt W L ls) (b : UInt8) : LetAt (W.setCell ⟨L, c, none⟩ (.int .u8 b.toNat)) L (ls.set c b) := by
  unfold LetAt
  rw [heap_setCell_same _ _ _ _ _ _ h]
  simp [bytesV, List.map_set]
theorem RowsAt.cell {W : World} {R L n m r : Nat} (h : RowsAt W R L n m) (hr : r < n) : W.cell? ⟨R, r, none⟩ = some (.slice (some ⟨L, r * m, none⟩) m m) := by
  obtain ⟨rows, h1, h2⟩ := h
  rw [cell_of_row _ _ _ _ _ _ h1]
  exact h2 r hr
theorem RowsAt.lt {W : World} {R L n m : Nat} (h : RowsAt W R L n m) : R < W.heap.size := by
  obtain ⟨rows, h1, _⟩ := h
  exact lt_of_block h1
theorem RowsAt.kept {W W' : World} {R L n m : Nat} (h : RowsAt W R L n m) (e : W'.heap[R]? = W.heap[R]?) : RowsAt W' R L n m := by
  obtain ⟨rows, h1, h2⟩ := h
  exact ⟨rows, e.trans h1, h2⟩

/-- What the operations of cell hand back. -/
def bcRel (B R L n m cap i k : Nat) (j : Nat) (v : Value) (_ : World) : Prop :=
  match j with
  | 0 => v = .slice (some ⟨R, 0, none⟩) n cap
  | 1 => v = .pointer (some ⟨B, 0, none⟩)
  | 2 => v = .int .i64 (i : Int)
  | 3 => v = .pointer (some ⟨R, i, none⟩)
  | 4 => v = .slice (some ⟨L, i * m, none⟩) m m
  | 5 => v = .pointer (some ⟨B, 1, none⟩)
  | 6 => v = .int .i64 (k : Int)
  | 7 => v = .pointer (some ⟨L, i * m + k, none⟩)
  | _ => True

set_option maxRecDepth 100000 in
set_option maxHeartbeats 1000000 in
theorem boardCell_any (R L n m cap i k : Nat) (w : World) (h : RowsAt w R L n m) (hi : i < n) (hk : k < m) :
    Calls Try.prog 111 #[.slice (some ⟨R, 0, none⟩) n cap, .agg #[.int .i64 (i : Int), .int .i64 (k : Int)]] w fun e w' => e = .returned (.pointer (some ⟨L, i * m + k, none⟩)) ∧ Below w.heap.size w w' := by
  have H0 := hid (heap_new0 w (.cells #[.int .i64 (i : Int), .int .i64 (k : Int)] 105))
  have HR := hid (h.kept (Below.heap_alloc w (.cells #[.int .i64 (i : Int), .int .i64 (k : Int)] 105) R h.lt))
  have HB := hid ((Below.refl w.heap.size w).alloc (Nat.le_refl _) (.cells #[.int .i64 (i : Int), .int .i64 (k : Int)] 105))
  clear h
  go_enter Try.func111, Try.ntmps111
  go_wp2_with fail
  generalize hw0 : w.alloc (.cells #[.int .i64 (i : Int), .int .i64 (k : Int)] 105) = w0 at *
  obtain ⟨z, hz⟩ : ∃ z, w.heap.size = z := ⟨_, rfl⟩
  rw [hz] at H0 HB ⊢
  have HZ := hid hz
  have HSZ := hid (show z ≤ w0.heap.size by rw [← hz]; exact HB.out.size)
  clear hz
  have hii : (i : Int) < (n : Int) := by omega
  have hi0 : (0 : Int) ≤ (i : Int) := by omega
  have hki : (k : Int) < (m : Int) := by omega
  have hk0 : (0 : Int) ≤ (k : Int) := by omega
  refine wp_region_rel_tail (by kernel_rfl) 8 (by kernel_rfl) (fun us => { tmps := #[.slice (some ⟨R, 0, none⟩) n cap, .agg #[.int .i64 (i : Int), .int .i64 (k : Int)], undef, .pointer (some ⟨z, 0, none⟩), .pointer none, us 0, us 1, us 2, us 3, us 4, us 5, us 6, us 7], defers := [] }) (fun _ => undef) rfl (bcRel z R L n m cap i k) (fun i v W W' h hb => h) (fun i us v hi => ?_) (fun j us W2 hj hb hd => ?_) (fun us W2 hb hr => ?_)
  · match i, hi with
    | 0, _ => rfl
    | 1, _ => rfl
    | 2, _ => rfl
    | 3, _ => rfl
    | 4, _ => rfl
    | 5, _ => rfl
    | 6, _ => rfl
    | 7, _ => rfl
  · have hbx := (hb.block _ (lt_of_block H0.out)).trans H0.out
    have c0 : W2.cell? ⟨z, 0, none⟩ = some (.int .i64 (i : Int)) := by rw [cell_of_row _ _ _ _ _ _ hbx]; rfl
    have c1 : W2.cell? ⟨z, 1, none⟩ = some (.int .i64 (k : Int)) := by rw [cell_of_row _ _ _ _ _ _ hbx]; rfl
    have c2 := (HR.out.kept (hb.block _ HR.out.lt)).cell hi
    match j, hj with
    | 0, _ => exact wpOp_val rfl rfl (by go_simp) rfl
    | 1, _ => exact wpOp_val rfl rfl (by go_simp) rfl
    | 2, _ =>
      have h0 : us 1 = _ := hd _ rfl { on := 1, ground := .data } (by simp) rfl
      rw [h0]
      exact wpOp_val rfl rfl (by go_simp) rfl
    | 3, _ =>
      have h0 : us 0 = _ := hd _ rfl { on := 0, ground := .data } (by simp) rfl
      have h1 : us 2 = _ := hd _ rfl { on := 2, ground := .data } (by simp) rfl
      rw [h0, h1]
      exact wpOp_val rfl rfl (by go_simp) rfl
    | 4, _ =>
      have h0 : us 3 = _ := hd _ rfl { on := 3, ground := .data } (by simp) rfl
      rw [h0]
      exact wpOp_val rfl rfl (by go_simp) rfl
    | 5, _ => exact wpOp_val rfl rfl (by go_simp) rfl
    | 6, _ =>
      have h0 : us 5 = _ := hd _ rfl { on := 5, ground := .data } (by simp) rfl
      rw [h0]
      exact wpOp_val rfl rfl (by go_simp) rfl
    | 7, _ =>
      have h0 : us 4 = _ := hd _ rfl { on := 4, ground := .data } (by simp) rfl
      have h1 : us 6 = _ := hd _ rfl { on := 6, ground := .data } (by simp) rfl
      rw [h0, h1]
      exact wpOp_val rfl rfl (by go_simp) rfl
  · have h7 : us 7 = _ := hr 7 (by omega)
    rw [h7]
    have HB2 := hid (HB.out.trans (hb.mono HSZ.out))
    clear hb hr h7
    simp only [List.drop_succ_cons, List.drop_zero]
    go_wp2
    go_ret
    exact ⟨rfl, by rw [HZ.out]; exact HB2.out⟩

theorem run_cut3 (L N p m r : Nat) (hm : 1 ≤ m) (hr : p + m = r) (hp : r ≤ N) (W : World) :
    (Instr.sliceAt 22 (.slice (some ⟨L, 0, none⟩) N N) (some (.int .i64 (p : Int))) (some (.int .i64 (r : Int))) (some (.int .i64 (r : Int)))).run Try.prog W = .ok (.slice (some ⟨L, p, none⟩) m m) W := by
  have hs : ∀ W, (sizeOf (Try.prog.elem 22)).run Try.prog W = .ok 1 W := fun W => by kernel_rfl
  have h1 : (p : Int) ≤ (r : Int) := by omega
  have h2 : (r : Int) ≤ (N : Int) := by omega
  have h0 : (0 : Int) ≤ (p : Int) := by omega
  have h3 : (0 : Int) ≤ (r : Int) := by omega
  have e3 : (Addr.add ⟨L, 0, none⟩ (p * 1) : Addr) = ⟨L, p, none⟩ := by unfold Addr.add; split <;> simp_all
  rw [run_sliceAt_slice W _ _ _ _ _ (by kernel_rfl), run_slice_any W _ _ _ _ (by kernel_rfl)]
  simp only [Instr.sliceBounds, run_sliceBound_if, Sem.run_bind, Sem.run_pure, Result.andThen_ok, h0, h2, h3, and_self, if_true]
  simp [hs, Result.andThen, sliced, h1]
  rw [Nat.mul_one] at e3
  rw [if_neg (by omega), e3]
  exact ⟨rfl, by omega⟩
/-- The rows that lie so far: each one a slice of the letters. -/
def sliceV (L m r : Nat) : Value := .slice (some ⟨L, r * m, none⟩) m m
theorem rows_of {W : World} {base g c L n m : Nat} (h : W.ownsRow base 22 1 (.slice (some ⟨g, 0, none⟩) n c) n ((List.range n).map (sliceV L m))) : RowsAt W g L n m := by
  rcases h.2 with ⟨h0, _⟩ | ⟨g', cap, cur, hv, hb, hg, h1, h2, h3, h4⟩
  · cases h0
  · cases hv
    refine ⟨cur, hg, fun r hr => ?_⟩
    have e : ((List.range n).map (sliceV L m))[r]? = some (sliceV L m r) := by simp [hr]
    rw [← h4, List.getElem?_take_of_lt (by omega)] at e
    rw [← Array.getElem?_toList]
    exact e
theorem row_ne {W : World} {base size n b : Nat} {e t : TypeId} {v : Value} {xs : List Value} {cs : Array Value} (h : W.ownsRow base e size v n xs) (hb : W.heap[b]? = some (.cells cs t (0, 0))) (ht : t ≠ e) : some b ≠ v.ownBlock := by
  rcases h.2 with ⟨rfl, _⟩ | ⟨g, cap, cur, rfl, _, hg, _⟩
  · simp [Value.ownBlock]
  · intro e'
    have : b = g := by simpa [Value.ownBlock] using e'
    subst this
    rw [hb] at hg
    cases hg
    exact ht rfl
section
variable {ops : Array Oper} {rest : List Oper} {o : Oper} {a : Act} {w : World} {Q : Exit → Act → World → Prop}
theorem wpList_appendR (hgd : o.guard = none) (s x : Operand) (ho : o.op = .call { callee := .builtin .append, args := #[s, x], argTypes := #[142, 142] })
    (base : Nat) (v : Value) (n : Nat) (xs : List Value) (hs : a.eval s = v) (hown : w.ownsRow base 22 1 v n xs) (h c : Nat) (hx : a.eval x = .slice (some ⟨h, 0, none⟩) 1 c) (u : Value) (hu : u.oneCell' = true) (hc : w.cell? ⟨h, 0, none⟩ = some u)
    (hl : n ≤ 1000) (hbase : base ≤ w.heap.size)
    (hk : ∀ v' w', w'.ownsRow base 22 1 v' (n + 1) (xs ++ [u]) → w.grownBy w' v.ownBlock → wpList Try.prog ops Q rest (a.put o.dst v') w') : wpList Try.prog ops Q (o :: rest) a w := by
  obtain ⟨i0, hi, hz0, hz1, hz2⟩ := info_parts Try.info_bytes
  refine wpList_append_own w hgd s x 142 ho base 22 i0 (.slice none 0 0) 1 24 Try.underlying142 hi hz0 hz1 hz2 rfl (by decide) v n xs hs hown ⟨h, 0, none⟩ 1 c [u] hx rfl ?_ ?_ (by unfold maxLen; omega) (by omega) hbase ?_
  · intro j u' hj
    match j, hj with
    | 0, hj => simp at hj; subst hj; simpa [Addr.add] using hc
  · intro u' hu'; simp at hu'; subst hu'; exact hu
  · intro v' w' h1 h2 _
    exact hk v' w' h1 h2
end
theorem rows_snoc (L m r : Nat) : (List.range (r + 1)).map (sliceV L m) = (List.range r).map (sliceV L m) ++ [sliceV L m r] := by
  rw [List.range_succ, List.map_append]
  rfl

/-- What board hands back. -/
def BoardEnd (n m : Nat) (ls : List UInt8) (w : World) (e : Ending) (w' : World) : Prop := ∃ R L cap, e = .returned (.slice (some ⟨R, 0, none⟩) n cap) ∧ RowsAt w' R L n m ∧ LetAt w' L (ls.take (n * m)) ∧ R ≠ L ∧ w.heap.size ≤ R ∧ w.heap.size ≤ L ∧ Below w.heap.size w w'

set_option maxRecDepth 100000 in
set_option maxHeartbeats 4000000 in
theorem board_any (n m : Nat) (ls : List UInt8) (w : World) (hl : ls.length = 25) (hn1 : 1 ≤ n) (hn5 : n ≤ 5) (hm1 : 1 ≤ m) (hm5 : m ≤ 5) :
    Calls Try.prog 108 #[.agg (gcells n m ls)] w (BoardEnd n m ls w) := by
  have HS := hid (show (Try.prog.info? 57).map (·.size) = some (gcells n m ls).size by rw [gcells_size hl]; exact Try.size_grid)
  have HSZ := hid (fun W => size_any n m ls W hn5 hm5)
  have HG := hid (heap_new0 w (.cells (gcells n m ls) 57))
  have HB := hid ((Below.refl w.heap.size w).alloc (Nat.le_refl _) (.cells (gcells n m ls) 57))
  obtain ⟨N, hN⟩ : ∃ N, n * m = N := ⟨_, rfl⟩
  have hN25 : N ≤ 25 := by rw [← hN]; exact Nat.mul_le_mul hn5 hm5
  have hN1 : 1 ≤ N := by rw [← hN]; exact Nat.mul_le_mul hn1 hm1
  have HN := hid hN
  have HC1 := hid (show (gcells n m ls)[1]? = some (.int .i64 (m : Int)) from gcells_1 n m ls)
  have HCA := hid (fun j (b : UInt8) (h : ls[j]? = some b) => gcells_at (n := n) (m := m) h)
  rw [hN] at HSZ
  have hmk := run_make_row' (P := Try.prog) 22 5 (.int .u8 0) 1 Try.underlying22 Try.info_byte rfl .i64 .i64 N (by omega) (by omega)
  go_enter Try.func108, Try.ntmps108
  go_wp2_with (refine wpList_load_row rfl 57 _ rfl w.heap.size rfl 57 (gcells n m ls) (0, 0) _ HG.out Try.underlying57 rfl HS.out ?_)
  generalize gcells n m ls = gc at *
  refine (HSZ.out _).mono ?_
  rintro e w1 ⟨rfl, hb1⟩
  have HG1 := hid ((hb1.block _ (lt_of_block HG.out)).trans HG.out)
  have HB1 := hid (HB.out.trans (hb1.mono HB.out.size))
  clear hb1 HG HB HSZ
  obtain ⟨g, hg⟩ : ∃ g, w.heap.size = g := ⟨_, rfl⟩
  rw [hg] at HG1 HB1 ⊢
  have HGE := hid hg
  clear hg
  have hlt : (ls.take N).length = N := by rw [List.length_take, hl]; omega
  obtain ⟨lt, hlt2⟩ : ∃ lt, ls.take N = lt := ⟨_, rfl⟩
  have HCT := hid (show ∀ (j : Nat) (b : UInt8), lt[j]? = some b → j < N ∧ ls[j]? = some b from fun j b h => by
    have hj : j < N := by have := (List.getElem?_eq_some_iff.1 h).1; rw [← hlt2, hlt] at this; exact this
    rw [← hlt2, List.getElem?_take_of_lt hj] at h
    exact ⟨hj, h⟩)
  have HTT := hid hlt2
  rw [hlt2] at hlt
  clear hlt2
  have HL := hid (heap_new0 w1 (.cells (madeCells #[.int .u8 0] N) 5))
  have HGA := hid ((Below.heap_alloc w1 (.cells (madeCells #[.int .u8 0] N) 5) _ (lt_of_block HG1.out)).trans HG1.out)
  have HSRC := hid (show ∀ (j : Nat) v, (bytesV lt)[j]? = some v → (w1.alloc (.cells (madeCells #[.int .u8 0] N) 5)).cell? (Addr.add ⟨g, 2, none⟩ j) = some v from fun j v hj => by
    unfold bytesV at hj
    rw [List.getElem?_map] at hj
    cases hk : lt[j]? with
    | none => rw [hk] at hj; cases hj
    | some b =>
      rw [hk] at hj
      cases hj
      rw [show (Addr.add ⟨g, 2, none⟩ j : Addr) = ⟨g, 2 + j, none⟩ by unfold Addr.add; split <;> simp_all, cell_of_row _ _ _ _ _ _ HGA.out]
      exact HCA.out j b (HCT.out j b hk).2)
  have HCL := hid (show (bytesV lt).length = Nat.min 25 N by unfold bytesV; rw [List.length_map, hlt]; show N = min 25 N; omega)
  have HONE := hid (show ∀ v ∈ bytesV lt, v.oneCell' = true from fun v hv => by
    unfold bytesV at hv
    obtain ⟨b, _, rfl⟩ := List.mem_map.1 hv
    rfl)
  have HFIT := hid (show 0 + (bytesV lt).length ≤ (madeCells #[.int .u8 0] N).size by rw [HCL.out, size_madeCells]; show 0 + min 25 N ≤ N; omega)
  have HROW := hid (show ((madeCells #[.int .u8 0] N).toList.take 0 ++ (bytesV lt ++ (madeCells #[.int .u8 0] N).toList.drop (0 + (bytesV lt).length))).toArray = (bytesV lt).toArray by
    rw [HCL.out, List.drop_eq_nil_of_le (by rw [Array.length_toList, size_madeCells]; show N ≤ 0 + min 25 N; omega), List.take_zero, List.nil_append, List.append_nil])
  have HLT := hid (show LetAt ((w1.alloc (.cells (madeCells #[.int .u8 0] N) 5)).setRow w1.heap.size (bytesV lt).toArray) w1.heap.size lt from setRow_heap _ _ _ _ _ _ HL.out)
  have HGY := hid (show ((w1.alloc (.cells (madeCells #[.int .u8 0] N) 5)).setRow w1.heap.size (bytesV lt).toArray).heap[g]? = some (.cells gc 57 (0, 0)) by
    rw [setRow_other _ _ _ _ (by have := lt_of_block HG1.out; omega)]; exact HGA.out)
  have HGB := hid (show g ≤ w1.heap.size by rw [← HGE.out]; exact HB1.out.size)
  have HBY := hid (below_setRow' (HB1.out.alloc HGB.out (.cells (madeCells #[.int .u8 0] N) 5)) HGB.out (bytesV lt).toArray)
  have HSY := hid (show ((w1.alloc (.cells (madeCells #[.int .u8 0] N) 5)).setRow w1.heap.size (bytesV lt).toArray).heap.size = w1.heap.size + 1 by simp)
  go_wp2_with (refine wpList_copy_own rfl _ _ _ _ rfl 5 Try.underlying22 (by kernel_rfl) w1.heap.size 0 N N ⟨g, 2, none⟩ 25 25 rfl rfl (madeCells #[.int .u8 0] N) 5 HL.out (bytesV lt) HCL.out HSRC.out HFIT.out HONE.out ?_; rw [HROW.out])
  have HNR := hid (show (World.alloc ((w1.alloc (.cells (madeCells #[.int .u8 0] N) 5)).setRow w1.heap.size (bytesV lt).toArray) (.cells #[] 22)).ownsRow g 22 1 (.slice (some ⟨w1.heap.size + 1, 0, none⟩) 0 0) 0 ((List.range 0).map (sliceV w1.heap.size m)) from
    ⟨rfl, .inr ⟨w1.heap.size + 1, 0, #[], rfl, by have := HGB.out; omega, by have := heap_new0 ((w1.alloc (.cells (madeCells #[.int .u8 0] N) 5)).setRow w1.heap.size (bytesV lt).toArray) (.cells #[] 22); rwa [HSY.out] at this, Nat.le_refl _, by unfold maxLen; omega, rfl, rfl⟩⟩)
  generalize World.setRow (w1.alloc (.cells (madeCells #[.int .u8 0] N) 5)) w1.heap.size (bytesV lt).toArray = Y at *
  have HLZ := hid (show LetAt (Y.alloc (.cells #[] 22)) w1.heap.size lt from (Below.heap_alloc _ _ _ (lt_of_block HLT.out)).trans HLT.out)
  have HGZ := hid ((Below.heap_alloc Y (.cells #[] 22) g (lt_of_block HGY.out)).trans HGY.out)
  have HBZ := hid (HBY.out.alloc (show g ≤ Y.heap.size by rw [HSY.out]; have := HGB.out; omega) (.cells #[] 22))
  generalize Y.alloc (.cells #[] 22) = Z at *
  generalize w1.heap.size = L at *
  go_loopw [4, 5, 6] (fun (v fv _ : Value) (wr : World) => ∃ r : Nat, r ≤ n ∧ fv = .int .i64 ((r * m : Nat) : Int) ∧ wr.ownsRow g 22 1 v r ((List.range r).map (sliceV L m)) ∧ LetAt wr L lt ∧ wr.heap[g]? = some (.cells gc 57 (0, 0)) ∧ Below g w wr) (fun _ fv _ _ => N - (intOf fv).toNat)
  case atStart => exact ⟨0, Nat.zero_le _, by rw [Nat.zero_mul]; rfl, HNR.out, HLZ.out, HGZ.out, HBZ.out⟩
  case round =>
    clear HNR HLZ HGZ HBZ HLT HGY HBY HL HGA HSRC HCL HONE HFIT HROW
    obtain ⟨r, hr, rfl, hrow, hlet, hgr, hbel⟩ := hrel
    have R0 := hid hrow
    have R1 := hid hlet
    have R2 := hid hgr
    have R3 := hid hbel
    clear hrow hlet hgr hbel
    have hcm : wr.cell? ⟨g, 1, none⟩ = some (.int .i64 (m : Int)) := by rw [cell_of_row _ _ _ _ _ _ R2.out]; exact HC1.out
    obtain ⟨p, hp⟩ : ∃ p, r * m = p := ⟨_, rfl⟩
    rw [hp]
    by_cases hlt2 : r < n
    · have hpN : p + m ≤ N := by
        rw [← hp, ← HN.out]
        calc r * m + m = (r + 1) * m := by rw [Nat.add_mul, Nat.one_mul]
          _ ≤ n * m := Nat.mul_le_mul_right m hlt2
      obtain ⟨p2, hp2⟩ : ∃ p2, p + m = p2 := ⟨_, rfl⟩
      have hp2i : (p : Int) + (m : Int) = (p2 : Int) := by omega
      have hpi : (p : Int) < (N : Int) := by omega
      have hN25i : (N : Int) ≤ 25 := by omega
      have hp0 : (0 : Int) ≤ (p : Int) := by omega
      have HP := hid (show (r + 1) * m = p2 by rw [Nat.add_mul, Nat.one_mul, hp, hp2])
      have HPE := hid hp
      have hsl := run_cut3 L N p m p2 hm1 hp2 (by omega)
      have HSN := hid (rows_snoc L m r)
      have HGW := hid (show g ≤ wr.heap.size by have := lt_of_block R1.out; have := HGB.out; omega)
      have hsv : sliceV L m r = .slice (some ⟨L, p, none⟩) m m := by unfold sliceV; rw [hp]
      have HSV := hid hsv
      clear hp hp2 hpN hsv
      go_wp2_with (at_builtin; refine wpList_appendR rfl _ _ rfl g u4 r ((List.range r).map (sliceV L m)) rfl (World.ownsRow.alloc R0.out _) wr.heap.size 1 rfl (.slice (some ⟨L, p, none⟩) m m) rfl (by have := heap_new0 wr (.cells #[Value.slice (some ⟨L, p, none⟩) m m] 22); rw [cell_of_row _ _ _ _ _ _ this]; rfl) (by omega) (Nat.le_trans HGW.out (by simp)) ?_)
      intro v' w' hr' hg'
      rw [← HSV.out, ← HSN.out] at hr'
      have G0 := hid hr'
      have G1 := hid (show LetAt w' L lt from (hg'.block _ (by have := lt_of_block R1.out; simp; omega) (row_ne R0.out R1.out (by decide))).trans ((Below.heap_alloc _ _ _ (lt_of_block R1.out)).trans R1.out))
      have G2 := hid ((hg'.block _ (by have := lt_of_block R2.out; simp; omega) (row_ne R0.out R2.out (by decide))).trans ((Below.heap_alloc _ _ _ (lt_of_block R2.out)).trans R2.out))
      have G3 := hid ((R3.out.alloc HGW.out (.cells #[Value.slice (some ⟨L, p, none⟩) m m] 22)).grown hg' (Nat.le_trans HGW.out (by simp)) (fun k e => (World.ownsRow.lt R0.out k e).1))
      have hcm2 : w'.cell? ⟨g, 1, none⟩ = some (.int .i64 (m : Int)) := by rw [cell_of_row _ _ _ _ _ _ G2.out]; exact HC1.out
      clear hr' hg' hcm hsl
      go_wp2_with fail
      go_roundw
      case rel => exact ⟨r + 1, by omega, by rw [HP.out], G0.out, G1.out, G2.out, G3.out⟩
      case measure => simp [intOf]; omega
    · obtain rfl : r = n := by omega
      have hpN : p = N := by rw [← hp, ← HN.out]
      have hpi : ¬ (p : Int) < (N : Int) := by omega
      have HTN := hid (show ls.take (r * m) = lt by rw [← HTT.out, ← HN.out])
      clear hpN hp
      obtain ⟨R, cap, rfl⟩ : ∃ R cap, u4 = .slice (some ⟨R, 0, none⟩) r cap := by
        obtain ⟨k, hk⟩ : ∃ k, r = k + 1 := ⟨r - 1, by omega⟩
        have := R0.out
        rw [hk] at this ⊢
        exact ownsRow_succ this
      have HRW := hid (rows_of R0.out)
      have HNE := hid (show R ≠ L from fun e => row_ne R0.out R1.out (by decide) (by rw [e]; rfl))
      have HRB := hid ((World.ownsRow.lt R0.out R rfl).1)
      go_wp2_with fail
      go_ret
      refine ⟨R, L, cap, rfl, HRW.out, ?_, HNE.out, ?_, ?_, ?_⟩
      · rw [HTN.out]; exact R1.out
      · rw [HGE.out]; exact HRB.out
      · rw [HGE.out]; exact HGB.out
      · rw [HGE.out]; exact R3.out
end Go.Proofs.Ytminailbhgimkaa
