/- beside and under of the program's grids, by their contracts. -/
import Derived.Test.YtongjijkdjagdaaDoorBunW
import Derived.Test.YtongjijkdjagdaaDoorBunA
namespace Go.Proofs.YtongjijkdjagdaaDoor
open Go.RowKit

/-- What beside and under hand back. -/
def gtwo (ok : Bool) (n m : Nat) (ls : List UInt8) : Value := .tuple #[.agg (if ok = true then gcells n m ls else zeroG), .bool ok]

set_option maxRecDepth 100000 in
set_option maxHeartbeats 8000000 in
theorem gbeside_any (n m n' m' : Nat) (ls ls' : List UInt8) (w : World) (hl : ls.length = 25) (hl' : ls'.length = 25) (hn5 : n ≤ 5) (hm : 1 ≤ m) (hm5 : m ≤ 5) (hm' : 1 ≤ m') (hm5' : m' ≤ 5) :
    Calls Tryd.prog 202 #[.agg (gcells n m ls), .agg (gcells n' m' ls')] w fun e w' => e = .returned (gtwo (decide (n = n') && decide (m + m' ≤ 5)) n (m + m') (joinG n m n' m' (m + m') 0 m ls ls')) ∧ Below w.heap.size w w' := by
  have HS := hid (show (Tryd.prog.info? 39).map (·.size) = some (gcells n m ls).size by rw [gcells_size hl]; exact Tryd.size_grid)
  have HS' := hid (show (Tryd.prog.info? 39).map (·.size) = some (gcells n' m' ls').size by rw [gcells_size hl']; exact Tryd.size_grid)
  have HJ := hid (fun (hs : n = n') (h5 : m + m' ≤ 5) W => joinedGrid_any n m n' m' n (m + m') 0 m ls ls' W hl hl' (by omega) (by omega) (by omega) (by omega) (by omega) (by omega) (by omega) (by omega))
  have HSJ := hid (show (Tryd.prog.info? 39).map (·.size) = some (gcells n (m + m') (joinG n m n' m' (m + m') 0 m ls ls')).size by rw [gcells_size (by unfold joinG; rw [putAll_length, putAll_length]; rfl)]; exact Tryd.size_grid)
  have HZJ := hid (show zeroG.size = (gcells n (m + m') (joinG n m n' m' (m + m') 0 m ls ls')).size by rw [gcells_size (by unfold joinG; rw [putAll_length, putAll_length]; rfl)]; rfl)
  have HOJ := hid (gcells_one n (m + m') (joinG n m n' m' (m + m') 0 m ls ls'))
  have g0 := gcells_0 n m ls
  have g1 := gcells_1 n m ls
  have g0' := gcells_0 n' m' ls'
  have g1' := gcells_1 n' m' ls'
  have HBW := hid ((((Below.refl w.heap.size w).alloc (Nat.le_refl _) (.cells (gcells n m ls) 39)).alloc (by simp) (.cells (gcells n' m' ls') 39)).alloc (by simp; omega) (.cells zeroG 39))
  have L0 := hid (heap_new2 w (.cells (gcells n m ls) 39) (.cells (gcells n' m' ls') 39) (.cells zeroG 39))
  have L1 := hid (heap_new1 (w.alloc (.cells (gcells n m ls) 39)) (.cells (gcells n' m' ls') 39) (.cells zeroG 39))
  have L2 := hid (heap_new0 ((w.alloc (.cells (gcells n m ls) 39)).alloc (.cells (gcells n' m' ls') 39)) (.cells zeroG 39))
  rw [World.size_alloc] at L1
  rw [World.size_alloc, World.size_alloc] at L2
  unfold gtwo
  generalize gcells n (m + m') (joinG n m n' m' (m + m') 0 m ls ls') = cj at *
  generalize gcells n m ls = cs at *
  generalize gcells n' m' ls' = cs' at *
  have hret : ∀ (X : World) (u : Array Value), (Tryd.prog.info? 39).map (·.size) = some u.size → X.heap[w.heap.size + 1 + 1]? = some (.cells zeroG 39 (0, 0)) → (X.setRow (w.heap.size + 1 + 1) u).heap[w.heap.size + 1 + 1]? = some (.cells u 39 (0, 0)) := fun X u _ hx => setRow_heap _ _ _ _ _ _ hx
  have HRET := hid hret
  clear hret
  by_cases hsame : n = n'
  · have hne : ((n : Int) != (n' : Int)) = false := by rw [bne_eq_false_iff_eq]; omega
    rw [show decide (n = n') = true from decide_eq_true hsame, Bool.true_and]
    have hsi := hid (fun W => sideIn_any ((m : Int) + (m' : Int)) W)
    by_cases hsum : m + m' ≤ 5
    · have hdec := decide_eq_true (show 1 ≤ (m : Int) + (m' : Int) ∧ (m : Int) + (m' : Int) ≤ 5 by omega)
      rw [hdec] at hsi
      have HJ2 := hid (HJ.out hsame hsum)
      rw [Int.natCast_add, show ((0 : Nat) : Int) = 0 from rfl] at HJ2
      rw [show decide (m + m' ≤ 5) = true from decide_eq_true hsum, if_pos rfl]
      clear hsame hsum hdec HJ
      go_enter Tryd.func202, Tryd.ntmps202
      go_wp2_with fail
      refine (hsi.out _).mono ?_
      rintro e w1 ⟨rfl, rfl⟩
      have hm5i : (m : Int) + (m' : Int) ≤ 10 := by omega
      generalize World.alloc (World.alloc (World.alloc w _) _) _ = X at L0 L1 L2 HBW ⊢
      have k0 : X.cell? ⟨w.heap.size, 0, none⟩ = some (.int .i64 n) := by rw [cell_of_row _ _ _ _ _ _ L0.out]; exact g0
      have k1 : X.cell? ⟨w.heap.size, 1, none⟩ = some (.int .i64 m) := by rw [cell_of_row _ _ _ _ _ _ L0.out]; exact g1
      have k0' : X.cell? ⟨w.heap.size + 1, 0, none⟩ = some (.int .i64 n') := by rw [cell_of_row _ _ _ _ _ _ L1.out]; exact g0'
      have k1' : X.cell? ⟨w.heap.size + 1, 1, none⟩ = some (.int .i64 m') := by rw [cell_of_row _ _ _ _ _ _ L1.out]; exact g1'
      go_wp2_with (first
        | refine wpList_load_row rfl 39 (.tmp 2) rfl w.heap.size rfl 39 cs (0, 0) _ L0.out Tryd.underlying39 rfl HS.out ?_
        | refine wpList_load_row rfl 39 (.tmp 3) rfl (w.heap.size + 1) rfl 39 cs' (0, 0) _ L1.out Tryd.underlying39 rfl HS'.out ?_)
      refine (HJ2.out _).mono ?_
      rintro e w2 ⟨rfl, hb2⟩
      have M2 := hid ((hb2.block _ (lt_of_block L2.out)).trans L2.out)
      have MB := hid (HBW.out.trans (hb2.mono HBW.out.size))
      clear hb2
      go_wp2_with (refine wpList_store_row rfl 39 _ _ rfl (w.heap.size + 1 + 1) cj rfl rfl 39 zeroG M2.out HSJ.out HZJ.out HOJ.out ?_)
      refine bodyPost_ret (results_row_tmp Tryd.results202 _ (w.heap.size + 1 + 1) 39 cj (0, 0) _ (by rfl) (setRow_heap _ _ _ _ _ _ M2.out) Tryd.underlying39 rfl HSJ.out) rfl ?_
      exact ⟨rfl, below_setRow' MB.out (by omega) _⟩
    · have hdec := decide_eq_false (show ¬ (1 ≤ (m : Int) + (m' : Int) ∧ (m : Int) + (m' : Int) ≤ 5) by omega)
      rw [hdec] at hsi
      rw [show decide (m + m' ≤ 5) = false from decide_eq_false hsum, if_neg (by decide)]
      clear hsame hsum hdec HJ
      go_enter Tryd.func202, Tryd.ntmps202
      go_wp2_with fail
      refine (hsi.out _).mono ?_
      rintro e w1 ⟨rfl, rfl⟩
      generalize World.alloc (World.alloc (World.alloc w _) _) _ = X at L0 L1 L2 HBW ⊢
      go_wp2_with (refine wpList_store_row rfl 39 _ _ rfl (w.heap.size + 1 + 1) zeroG rfl rfl 39 zeroG L2.out Tryd.size_grid rfl (gcells_one 0 0 (pad [])) ?_)
      refine bodyPost_ret (results_row_tmp Tryd.results202 _ (w.heap.size + 1 + 1) 39 zeroG (0, 0) _ (by rfl) (setRow_heap _ _ _ _ _ _ L2.out) Tryd.underlying39 rfl Tryd.size_grid) rfl ?_
      exact ⟨rfl, below_setRow' HBW.out (by omega) _⟩
  · have hne : ((n : Int) != (n' : Int)) = true := by rw [bne_iff_ne]; omega
    rw [show decide (n = n') = false from decide_eq_false hsame, Bool.false_and, if_neg (by decide)]
    clear hsame HJ
    go_enter Tryd.func202, Tryd.ntmps202
    go_wp2_with (refine wpList_store_row rfl 39 _ _ rfl (w.heap.size + 1 + 1) zeroG rfl rfl 39 zeroG L2.out Tryd.size_grid rfl (gcells_one 0 0 (pad [])) ?_)
    refine bodyPost_ret (results_row_tmp Tryd.results202 _ (w.heap.size + 1 + 1) 39 zeroG (0, 0) _ (by rfl) (setRow_heap _ _ _ _ _ _ L2.out) Tryd.underlying39 rfl Tryd.size_grid) rfl ?_
    exact ⟨rfl, below_setRow' HBW.out (by omega) _⟩

set_option maxRecDepth 100000 in
set_option maxHeartbeats 8000000 in
theorem gunder_any (n m n' m' : Nat) (ls ls' : List UInt8) (w : World) (hl : ls.length = 25) (hl' : ls'.length = 25) (hn : 1 ≤ n) (hn5 : n ≤ 5) (hm : 1 ≤ m) (hm5 : m ≤ 5) (hn' : 1 ≤ n') (hn5' : n' ≤ 5) (hm' : 1 ≤ m') :
    Calls Tryd.prog 201 #[.agg (gcells n m ls), .agg (gcells n' m' ls')] w fun e w' => e = .returned (gtwo (decide (m = m') && decide (n + n' ≤ 5)) (n + n') m (joinG n m n' m' m n 0 ls ls')) ∧ Below w.heap.size w w' := by
  have HS := hid (show (Tryd.prog.info? 39).map (·.size) = some (gcells n m ls).size by rw [gcells_size hl]; exact Tryd.size_grid)
  have HS' := hid (show (Tryd.prog.info? 39).map (·.size) = some (gcells n' m' ls').size by rw [gcells_size hl']; exact Tryd.size_grid)
  have HJ := hid (fun (hs : m = m') (h5 : n + n' ≤ 5) W => joinedGrid_any n m n' m' (n + n') m n 0 ls ls' W hl hl' (by omega) (by omega) (by omega) (by omega) (by omega) (by omega) (by omega) (by omega))
  have HSJ := hid (show (Tryd.prog.info? 39).map (·.size) = some (gcells (n + n') m (joinG n m n' m' m n 0 ls ls')).size by rw [gcells_size (by unfold joinG; rw [putAll_length, putAll_length]; rfl)]; exact Tryd.size_grid)
  have HZJ := hid (show zeroG.size = (gcells (n + n') m (joinG n m n' m' m n 0 ls ls')).size by rw [gcells_size (by unfold joinG; rw [putAll_length, putAll_length]; rfl)]; rfl)
  have HOJ := hid (gcells_one (n + n') m (joinG n m n' m' m n 0 ls ls'))
  have g0 := gcells_0 n m ls
  have g1 := gcells_1 n m ls
  have g0' := gcells_0 n' m' ls'
  have g1' := gcells_1 n' m' ls'
  have HBW := hid ((((Below.refl w.heap.size w).alloc (Nat.le_refl _) (.cells (gcells n m ls) 39)).alloc (by simp) (.cells (gcells n' m' ls') 39)).alloc (by simp; omega) (.cells zeroG 39))
  have L0 := hid (heap_new2 w (.cells (gcells n m ls) 39) (.cells (gcells n' m' ls') 39) (.cells zeroG 39))
  have L1 := hid (heap_new1 (w.alloc (.cells (gcells n m ls) 39)) (.cells (gcells n' m' ls') 39) (.cells zeroG 39))
  have L2 := hid (heap_new0 ((w.alloc (.cells (gcells n m ls) 39)).alloc (.cells (gcells n' m' ls') 39)) (.cells zeroG 39))
  rw [World.size_alloc] at L1
  rw [World.size_alloc, World.size_alloc] at L2
  unfold gtwo
  generalize gcells (n + n') m (joinG n m n' m' m n 0 ls ls') = cj at *
  generalize gcells n m ls = cs at *
  generalize gcells n' m' ls' = cs' at *
  have hret : ∀ (X : World) (u : Array Value), (Tryd.prog.info? 39).map (·.size) = some u.size → X.heap[w.heap.size + 1 + 1]? = some (.cells zeroG 39 (0, 0)) → (X.setRow (w.heap.size + 1 + 1) u).heap[w.heap.size + 1 + 1]? = some (.cells u 39 (0, 0)) := fun X u _ hx => setRow_heap _ _ _ _ _ _ hx
  have HRET := hid hret
  clear hret
  by_cases hsame : m = m'
  · have hne : ((m : Int) != (m' : Int)) = false := by rw [bne_eq_false_iff_eq]; omega
    rw [show decide (m = m') = true from decide_eq_true hsame, Bool.true_and]
    have hsi := hid (fun W => sideIn_any ((n : Int) + (n' : Int)) W)
    by_cases hsum : n + n' ≤ 5
    · have hdec := decide_eq_true (show 1 ≤ (n : Int) + (n' : Int) ∧ (n : Int) + (n' : Int) ≤ 5 by omega)
      rw [hdec] at hsi
      have HJ2 := hid (HJ.out hsame hsum)
      rw [Int.natCast_add, show ((0 : Nat) : Int) = 0 from rfl] at HJ2
      rw [show decide (n + n' ≤ 5) = true from decide_eq_true hsum, if_pos rfl]
      clear hsame hsum hdec HJ
      go_enter Tryd.func201, Tryd.ntmps201
      go_wp2_with fail
      refine (hsi.out _).mono ?_
      rintro e w1 ⟨rfl, rfl⟩
      have hm5i : (n : Int) + (n' : Int) ≤ 10 := by omega
      generalize World.alloc (World.alloc (World.alloc w _) _) _ = X at L0 L1 L2 HBW ⊢
      have k0 : X.cell? ⟨w.heap.size, 0, none⟩ = some (.int .i64 n) := by rw [cell_of_row _ _ _ _ _ _ L0.out]; exact g0
      have k1 : X.cell? ⟨w.heap.size, 1, none⟩ = some (.int .i64 m) := by rw [cell_of_row _ _ _ _ _ _ L0.out]; exact g1
      have k0' : X.cell? ⟨w.heap.size + 1, 0, none⟩ = some (.int .i64 n') := by rw [cell_of_row _ _ _ _ _ _ L1.out]; exact g0'
      have k1' : X.cell? ⟨w.heap.size + 1, 1, none⟩ = some (.int .i64 m') := by rw [cell_of_row _ _ _ _ _ _ L1.out]; exact g1'
      go_wp2_with (first
        | refine wpList_load_row rfl 39 (.tmp 2) rfl w.heap.size rfl 39 cs (0, 0) _ L0.out Tryd.underlying39 rfl HS.out ?_
        | refine wpList_load_row rfl 39 (.tmp 3) rfl (w.heap.size + 1) rfl 39 cs' (0, 0) _ L1.out Tryd.underlying39 rfl HS'.out ?_)
      refine (HJ2.out _).mono ?_
      rintro e w2 ⟨rfl, hb2⟩
      have M2 := hid ((hb2.block _ (lt_of_block L2.out)).trans L2.out)
      have MB := hid (HBW.out.trans (hb2.mono HBW.out.size))
      clear hb2
      go_wp2_with (refine wpList_store_row rfl 39 _ _ rfl (w.heap.size + 1 + 1) cj rfl rfl 39 zeroG M2.out HSJ.out HZJ.out HOJ.out ?_)
      refine bodyPost_ret (results_row_tmp Tryd.results201 _ (w.heap.size + 1 + 1) 39 cj (0, 0) _ (by rfl) (setRow_heap _ _ _ _ _ _ M2.out) Tryd.underlying39 rfl HSJ.out) rfl ?_
      exact ⟨rfl, below_setRow' MB.out (by omega) _⟩
    · have hdec := decide_eq_false (show ¬ (1 ≤ (n : Int) + (n' : Int) ∧ (n : Int) + (n' : Int) ≤ 5) by omega)
      rw [hdec] at hsi
      rw [show decide (n + n' ≤ 5) = false from decide_eq_false hsum, if_neg (by decide)]
      clear hsame hsum hdec HJ
      go_enter Tryd.func201, Tryd.ntmps201
      go_wp2_with fail
      refine (hsi.out _).mono ?_
      rintro e w1 ⟨rfl, rfl⟩
      generalize World.alloc (World.alloc (World.alloc w _) _) _ = X at L0 L1 L2 HBW ⊢
      go_wp2_with (refine wpList_store_row rfl 39 _ _ rfl (w.heap.size + 1 + 1) zeroG rfl rfl 39 zeroG L2.out Tryd.size_grid rfl (gcells_one 0 0 (pad [])) ?_)
      refine bodyPost_ret (results_row_tmp Tryd.results201 _ (w.heap.size + 1 + 1) 39 zeroG (0, 0) _ (by rfl) (setRow_heap _ _ _ _ _ _ L2.out) Tryd.underlying39 rfl Tryd.size_grid) rfl ?_
      exact ⟨rfl, below_setRow' HBW.out (by omega) _⟩
  · have hne : ((m : Int) != (m' : Int)) = true := by rw [bne_iff_ne]; omega
    rw [show decide (m = m') = false from decide_eq_false hsame, Bool.false_and, if_neg (by decide)]
    clear hsame HJ
    go_enter Tryd.func201, Tryd.ntmps201
    go_wp2_with (refine wpList_store_row rfl 39 _ _ rfl (w.heap.size + 1 + 1) zeroG rfl rfl 39 zeroG L2.out Tryd.size_grid rfl (gcells_one 0 0 (pad [])) ?_)
    refine bodyPost_ret (results_row_tmp Tryd.results201 _ (w.heap.size + 1 + 1) 39 zeroG (0, 0) _ (by rfl) (setRow_heap _ _ _ _ _ _ L2.out) Tryd.underlying39 rfl Tryd.size_grid) rfl ?_
    exact ⟨rfl, below_setRow' HBW.out (by omega) _⟩
end Go.Proofs.YtongjijkdjagdaaDoor
