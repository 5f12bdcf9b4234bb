/- TermGrid of both, by contracts. -/
import Derived.Test.YtpimkhjcphimaaaDoorTermJ
import Derived.Test.YtpimkhjcphimaaaDoorTermU
import Derived.Test.YtpimkhjcphimaaaDoorBunD
import Derived.Test.YtpimkhjcphimaaaDoorTermW
import Derived.Test.YtpimkhjcphimaaaDoorBunC
namespace Go.Proofs.YtpimkhjcphimaaaDoor
open Go.RowKit

/-- The grid that a text tells. -/
def gridF (l : List UInt8) : List ByteArray := match okT l with | some t => if t.fits = true then t.G else [] | none => []
def GridFS (l : List UInt8) (w : World) (e : Ending) (w' : World) : Prop := (∃ A c, e = .returned (.tuple #[.slice A (gridF l).length c, .bool (okF l)]) ∧ Strs w' w'.heap.size A (gridF l)) ∧ Below w.heap.size w w'

set_option maxRecDepth 100000 in
set_option maxHeartbeats 4000000 in
theorem specTermGrid_any (l : List UInt8) (w : World) (hl : l.length ≤ 1048576) : Calls Tryd.prog 10 #[.string (strB l)] w (GridFS l w) := by
  have HO := hid (l11Of_any l w hl)
  have HNN := hid (fun W => l1None_any W)
  clear hl
  unfold GridFS
  go_enter Tryd.func10, Tryd.ntmps10
  go_wp2_with fail
  refine HO.out.mono ?_
  rintro e w1 ⟨hb, t, cs, ok, rfl, ht, hf, hok⟩
  have HOK := hid (okF_of hf hok)
  obtain ⟨A, n, kk, rfl⟩ := ht.shape
  have HB := hid (hb.alloc hb.size (.cells (tmC t.sgn t.dim (.slice A n kk)) 35))
  have HT := hid ((ht.mono (Nat.zero_le _)).kept (Keeps.of ((Below.refl w1.heap.size w1).alloc (Nat.le_refl _) (.cells (tmC t.sgn t.dim (.slice A n kk)) 35))))
  clear hb ht
  rcases hok with ⟨rfl, h⟩ | ⟨rfl, h⟩
  · obtain ⟨hx, hwf, h60⟩ := okT_text h
    have HS := hid (show gridF l = t.G by unfold gridF; rw [h]; exact if_pos hf)
    have HC := hid (fun W (h : TmAt 0 W t (tmC t.sgn t.dim (.slice A n kk))) => l11Grid_any t hwf hf W _ h)
    unfold tmC at HB HT HC ⊢
    clear h hf hx hwf h60
    go_wp2_with fail
    generalize World.alloc w1 _ = Y at HB HT ⊢
    refine (HC.out _ HT.out).mono ?_
    rintro e w2 ⟨hb2, A2, k2, rfl, hs⟩
    have HB2 := hid (HB.out.trans (hb2.mono HB.out.size))
    have HG := hid hs
    clear hb2 hs
    go_wp2_with fail
    refine bodyPost_ret (results_tmp2 rfl _ _ _) rfl ?_
    exact ⟨⟨A2, k2, by rw [← HOK.out, HS.out]; rfl, by rw [HS.out]; exact HG.out⟩, HB2.out⟩
  · have HS := hid (show gridF l = [] by
      unfold gridF
      cases hc : okT l with
      | none => rfl
      | some t' => exact if_neg (by rw [h t' hc]; decide))
    unfold tmC at HB ⊢
    clear h hf HT
    go_wp2_with fail
    generalize World.alloc w1 _ = Y at HB ⊢
    refine (HNN.out _).mono ?_
    rintro e w2 ⟨⟨A2, k2, rfl⟩, hb2⟩
    have HB2 := hid (HB.out.trans (hb2.mono HB.out.size))
    clear hb2
    go_wp2_with fail
    refine bodyPost_ret (results_tmp2 rfl _ _ _) rfl ?_
    exact ⟨⟨A2, k2, by rw [← HOK.out, HS.out]; rfl, by rw [HS.out]; exact Strs.nil_ _ _ _⟩, HB2.out⟩
theorem gtexts_flat {n m : Nat} {ss : List ByteArray} (h : IsGrid n m ss) : textsOf n m (pad (flat ss)) = ss := by
  rw [rows_eq n m (pad (flat ss)) (fun r q => (flat ss).getD (r * m + q) 0) (fun r hr q hq => ?_)]
  · exact grid_rule h
  · have hl : r * m + q < (flat ss).length := by rw [h.flen]; exact lt_of_parts hr hq
    rw [pad, List.getElem?_append_left hl, List.getD_eq_getElem?_getD, List.getElem?_eq_getElem hl]
    rfl
/-- What the program hands back is its own. -/
def GridFP (l : List UInt8) (w : World) (e : Ending) (w' : World) : Prop := (∃ A, e = .returned (.tuple #[.slice A (gridF l).length (gridF l).length, .bool (okF l)]) ∧ Own2 w' w.heap.size A (gridF l)) ∧ Below w.heap.size w w'
set_option maxRecDepth 100000 in
set_option maxHeartbeats 4000000 in
theorem implTermGrid_any (l : List UInt8) (w : World) (hl : l.length ≤ 1048576) (hE : LaidE w) : Calls Tryd.prog 11 #[.string (strB l)] w (GridFP l w) := by
  have HO := hid (readTerm_any l w hl hE)
  clear hl hE
  unfold GridFP
  go_enter Tryd.func11, Tryd.ntmps11
  go_wp2_with fail
  refine HO.out.mono ?_
  rintro e w1 ⟨hb, ⟨t, ht, rfl⟩ | ⟨ht, rfl⟩⟩
  · have hwf := (okT_text ht).2.1
    have HT := hid (show t.fits = okF l by unfold okF; rw [ht])
    have HS := hid (t.gc_size hwf)
    have HZ := hid (t.gc_zero hwf)
    have HO1 := hid t.gc_one
    rcases Bool.eq_false_or_eq_true t.fits with hf | hf
    · have HG := hid (t.grid hwf hf)
      have HD := hid (show gridF l = t.G by unfold gridF; rw [ht]; exact if_pos hf)
      have hgt : t.gc = gcells t.dim.1 t.dim.2 (pad (flat t.G)) := if_pos hf
      rw [hgt] at HS HZ HO1
      have HTX := hid (fun W => texts_any t.dim.1 t.dim.2 (pad (flat t.G)) W (IsGrid.plen HG.out) HG.out.2.2.1 HG.out.2.2.2.2.1)
      rw [gtexts_flat HG.out] at HTX
      rw [hgt, hf]
      rw [hf] at HT
      have HB := hid (below_setRow' (hb.alloc hb.size (.cells zeroG 42)) hb.size (gcells t.dim.1 t.dim.2 (pad (flat t.G))))
      have J := hid (setRow_heap (w1.alloc (.cells zeroG 42)) w1.heap.size zeroG (gcells t.dim.1 t.dim.2 (pad (flat t.G))) 42 (0, 0) (heap_new0 w1 _))
      generalize hY : (w1.alloc (.cells zeroG 42)).setRow w1.heap.size (gcells t.dim.1 t.dim.2 (pad (flat t.G))) = Y at HB J
      have HY := hid hY
      clear hb ht hwf hY hf hgt
      go_wp2_with (first
        | refine wpList_store_row rfl 42 _ _ rfl w1.heap.size (gcells t.dim.1 t.dim.2 (pad (flat t.G))) rfl rfl 42 zeroG (heap_new0 w1 _) HS.out HZ.out HO1.out ?_; rw [HY.out]
        | refine wpList_load_row rfl 42 _ rfl w1.heap.size rfl 42 (gcells t.dim.1 t.dim.2 (pad (flat t.G))) (0, 0) _ J.out Tryd.underlying42 rfl HS.out ?_)
      refine (HTX.out _).mono ?_
      rintro e w2 ⟨rfl, hrow, hb2⟩
      have HB2 := hid (HB.out.trans (hb2.mono HB.out.size))
      have HR := hid hrow
      clear hb2 hrow
      go_wp2_with fail
      refine bodyPost_ret (results_tmp2 rfl _ _ _) rfl ?_
      exact ⟨⟨_, by rw [← HT.out, HD.out, HG.out.1]; rfl, by rw [HD.out]; exact .inr ⟨_, rfl, Nat.le_trans HB.out.size (Nat.le_succ _), HR.out⟩⟩, HB2.out⟩
    · have HD := hid (show gridF l = [] by unfold gridF; rw [ht]; exact if_neg (by rw [hf]; decide))
      rw [hf]
      rw [hf] at HT
      generalize t.gc = gt at *
      have HB := hid (below_setRow' (hb.alloc hb.size (.cells zeroG 42)) hb.size gt)
      generalize hY : (w1.alloc (.cells zeroG 42)).setRow w1.heap.size gt = Y at HB
      have HY := hid hY
      clear hb ht hwf hY hf
      go_wp2_with (refine wpList_store_row rfl 42 _ _ rfl w1.heap.size gt rfl rfl 42 zeroG (heap_new0 w1 _) HS.out HZ.out HO1.out ?_; rw [HY.out])
      refine bodyPost_ret (results_tmp2 rfl _ _ _) rfl ?_
      exact ⟨⟨none, by rw [← HT.out, HD.out]; rfl, by rw [HD.out]; exact .inl ⟨rfl, rfl⟩⟩, HB.out⟩
  · have HT := hid (show false = okF l by unfold okF; rw [ht])
    have HD := hid (show gridF l = [] by unfold gridF; rw [ht])
    have HB := hid (below_setRow' (hb.alloc hb.size (.cells zeroG 42)) hb.size zeroG)
    generalize hY : (w1.alloc (.cells zeroG 42)).setRow w1.heap.size zeroG = Y at HB
    have HY := hid hY
    clear hb ht hY
    go_wp2_with (refine wpList_store_row rfl 42 _ _ rfl w1.heap.size zeroG rfl rfl 42 zeroG (heap_new0 w1 _) Tryd.size_grid rfl (gcells_one 0 0 (pad [])) ?_; rw [HY.out])
    refine bodyPost_ret (results_tmp2 rfl _ _ _) rfl ?_
    exact ⟨⟨none, by rw [← HT.out, HD.out]; rfl, by rw [HD.out]; exact .inl ⟨rfl, rfl⟩⟩, HB.out⟩
end Go.Proofs.YtpimkhjcphimaaaDoor
