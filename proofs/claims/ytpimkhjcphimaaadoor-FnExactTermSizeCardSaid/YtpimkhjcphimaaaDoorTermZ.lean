/- TermSize of both, by contracts. -/
import Derived.Test.YtpimkhjcphimaaaDoorTermU
namespace Go.Proofs.YtpimkhjcphimaaaDoor
open Go.RowKit

/-- The rows and columns of the grid that a text tells. -/
def sizeF (l : List UInt8) : Nat × Nat := match okT l with | some t => if t.fits = true then t.dim else (0, 0) | none => (0, 0)
def SizeIs (l : List UInt8) (w : World) (e : Ending) (w' : World) : Prop := e = .returned (.tuple #[.int .i64 ((sizeF l).1 : Int), .int .i64 ((sizeF l).2 : Int), .bool (okF l)]) ∧ Below w.heap.size w w'
theorem gc_dims {t : Tm} : t.gc[0]? = some (.int .i64 ((if t.fits = true then t.dim else (0, 0)).1 : Int)) ∧ t.gc[1]? = some (.int .i64 ((if t.fits = true then t.dim else (0, 0)).2 : Int)) := by
  unfold Tm.gc
  split
  · exact ⟨gcells_0 _ _ _, gcells_1 _ _ _⟩
  · exact ⟨rfl, rfl⟩

set_option maxRecDepth 100000 in
set_option maxHeartbeats 4000000 in
theorem specTermSize_any (l : List UInt8) (w : World) (hl : l.length ≤ 1048576) : Calls Tryd.prog 15 #[.string (strB l)] w (SizeIs l w) := by
  have HO := hid (l11Of_any l w hl)
  clear hl
  unfold SizeIs
  go_enter Tryd.func15, Tryd.ntmps15
  go_wp2_with fail
  refine HO.out.mono ?_
  rintro e w1 ⟨hb, t, cs, ok, rfl, ht, hf, hok⟩
  have HOK := hid (okF_of hf hok)
  obtain ⟨A, n, kk, rfl⟩ := ht.shape
  have HB := hid (hb.alloc hb.size (.cells (tmC t.sgn t.dim (.slice A n kk)) 35))
  unfold tmC at HB ⊢
  clear hb ht
  rcases hok with ⟨rfl, h⟩ | ⟨rfl, h⟩
  · have HS := hid (show sizeF l = t.dim by unfold sizeF; rw [h]; exact if_pos hf)
    clear h hf
    go_wp2_with fail
    go_region
    all_goals go_wp2_with fail
    refine bodyPost_ret (results_tmp3 rfl _ _ _) rfl ?_
    exact ⟨by rw [← HOK.out, HS.out]; rfl, HB.out.drew⟩
  · have HS := hid (show sizeF l = (0, 0) by
      unfold sizeF
      cases hc : okT l with
      | none => rfl
      | some t' => exact if_neg (by rw [h t' hc]; decide))
    clear h hf
    go_wp2_with fail
    refine bodyPost_ret (results_tmp3 rfl _ _ _) rfl ?_
    exact ⟨by rw [← HOK.out, HS.out]; rfl, HB.out⟩

set_option maxRecDepth 100000 in
set_option maxHeartbeats 4000000 in
theorem implTermSize_any (l : List UInt8) (w : World) (hl : l.length ≤ 1048576) (hE : LaidE w) : Calls Tryd.prog 16 #[.string (strB l)] w (SizeIs l w) := by
  have HO := hid (readTerm_any l w hl hE)
  clear hl hE
  unfold SizeIs
  go_enter Tryd.func16, Tryd.ntmps16
  go_wp2_with fail
  refine HO.out.mono ?_
  rintro e w1 ⟨hb, ⟨t, ht, rfl⟩ | ⟨ht, rfl⟩⟩
  · have hwf := (okT_text ht).2.1
    have HT := hid (show t.fits = okF l by unfold okF; rw [ht])
    have HS := hid (t.gc_size hwf)
    have HZ := hid (t.gc_zero hwf)
    have HO1 := hid t.gc_one
    have HD := hid (show sizeF l = if t.fits = true then t.dim else (0, 0) by unfold sizeF; rw [ht])
    have hg := gc_dims (t := t)
    rw [← HD.out] at hg
    generalize t.gc = gt at *
    have HB := hid (below_setRow' (hb.alloc hb.size (.cells zeroG 42)) hb.size gt)
    have J := hid (setRow_heap (w1.alloc (.cells zeroG 42)) w1.heap.size zeroG gt 42 (0, 0) (heap_new0 w1 _))
    generalize hY : (w1.alloc (.cells zeroG 42)).setRow w1.heap.size gt = Y at HB J
    have HY := hid hY
    have k0 : Y.cell? ⟨w1.heap.size, 0, none⟩ = some (.int .i64 ((sizeF l).1 : Int)) := by rw [cell_of_row _ _ _ _ _ _ J.out]; exact hg.1
    have k1 : Y.cell? ⟨w1.heap.size, 1, none⟩ = some (.int .i64 ((sizeF l).2 : Int)) := by rw [cell_of_row _ _ _ _ _ _ J.out]; exact hg.2
    clear hb ht hwf hg hY
    go_wp2_with (refine wpList_store_row rfl 42 _ _ rfl w1.heap.size gt rfl rfl 42 zeroG (heap_new0 w1 _) HS.out HZ.out HO1.out ?_; rw [HY.out])
    go_region
    all_goals go_wp2_with fail
    refine bodyPost_ret (results_tmp3 rfl _ _ _) rfl ?_
    exact ⟨by rw [← HT.out]; rfl, HB.out.drew⟩
  · have HT := hid (show false = okF l by unfold okF; rw [ht])
    have HD := hid (show sizeF l = (0, 0) by unfold sizeF; rw [ht])
    have HB := hid (below_setRow' (hb.alloc hb.size (.cells zeroG 42)) hb.size zeroG)
    have J := hid (setRow_heap (w1.alloc (.cells zeroG 42)) w1.heap.size zeroG zeroG 42 (0, 0) (heap_new0 w1 _))
    generalize hY : (w1.alloc (.cells zeroG 42)).setRow w1.heap.size zeroG = Y at HB J
    have HY := hid hY
    have k0 : Y.cell? ⟨w1.heap.size, 0, none⟩ = some (.int .i64 0) := by rw [cell_of_row _ _ _ _ _ _ J.out]; rfl
    have k1 : Y.cell? ⟨w1.heap.size, 1, none⟩ = some (.int .i64 0) := by rw [cell_of_row _ _ _ _ _ _ J.out]; rfl
    clear hb ht hY
    go_wp2_with (refine wpList_store_row rfl 42 _ _ rfl w1.heap.size zeroG rfl rfl 42 zeroG (heap_new0 w1 _) Tryd.size_grid rfl (gcells_one 0 0 (pad [])) ?_; rw [HY.out])
    go_region
    all_goals go_wp2_with fail
    refine bodyPost_ret (results_tmp3 rfl _ _ _) rfl ?_
    exact ⟨by rw [← HT.out, HD.out]; rfl, HB.out.drew⟩
end Go.Proofs.YtpimkhjcphimaaaDoor
