/- TermGrid of both, by contracts. -/
import Derived.Test.YtongjijkdjagdaaDoorTermJ
import Derived.Test.YtongjijkdjagdaaDoorTermU
import Derived.Test.YtongjijkdjagdaaDoorBunD
import Derived.Test.YtongjijkdjagdaaDoorTermW
import Derived.Test.YtongjijkdjagdaaDoorBunC
namespace Go.Proofs.YtongjijkdjagdaaDoor
open Go.RowKit

/-- The grid that a text tells. -/
def gridF (l : List UInt8) : List ByteArray := match okT l with | some t => if t.fits = true then t.G else [] | none => []
def GridFS (l : List UInt8) (w : World) (e : Ending) (w' : World) : Prop := (∃ A c, e = .returned (.tuple #[.slice A (gridF l).length c, .bool (okF l)]) ∧ Strs w' w'.heap.size A (gridF l)) ∧ Below w.heap.size w w'

set_option maxRecDepth 100000 in
set_option maxHeartbeats 4000000 in
theorem specTermGrid_any (l : List UInt8) (w : World) (hl : l.length ≤ 1048576) : Calls Tryd.prog 21 #[.string (strB l)] w (GridFS l w) := by
  have HO := hid (l11Of_any l w hl)
  have HNN := hid (fun W => l1None_any W)
  clear hl
  unfold GridFS
  go_enter Tryd.func21, Tryd.ntmps21
  go_wp2_with fail
  refine HO.out.mono ?_
  rintro e w1 ⟨hb, t, cs, ok, rfl, ht, hf, hok⟩
  have HOK := hid (okF_of hf hok)
  obtain ⟨A, n, kk, rfl⟩ := ht.shape
  have HB := hid (hb.alloc hb.size (.cells (tmC t.sgn t.dim (.slice A n kk)) 72))
  have HT := hid ((ht.mono (Nat.zero_le _)).kept (Keeps.of ((Below.refl w1.heap.size w1).alloc (Nat.le_refl _) (.cells (tmC t.sgn t.dim (.slice A n kk)) 72))))
  clear hb ht
  rcases hok with ⟨rfl, h⟩ | ⟨rfl, h⟩
  · obtain ⟨hx, hwf, h60⟩ := okT_text h
    have HS := hid (show gridF l = t.G by unfold gridF; rw [h]; exact if_pos hf)
    have HC := hid (fun W (h : TmAt 0 W t (tmC t.sgn t.dim (.slice A n kk))) => l11Grid_any t hwf hf W _ h)
    unfold tmC at HB HT HC ⊢
    clear h hf hx hwf h60
    go_wp2_with fail
    generalize World.alloc w1 _ = Y at HB HT ⊢
    refine (HC.out _ HT.out).mono ?_
    rintro e w2 ⟨hb2, A2, k2, rfl, hs⟩
    have HB2 := hid (HB.out.trans (hb2.mono HB.out.size))
    have HG := hid hs
    clear hb2 hs
    go_wp2_with fail
    refine bodyPost_ret (results_tmp2 rfl _ _ _) rfl ?_
    exact ⟨⟨A2, k2, by rw [← HOK.out, HS.out]; rfl, by rw [HS.out]; exact HG.out⟩, HB2.out⟩
  · have HS := hid (show gridF l = [] by
      unfold gridF
      cases hc : okT l with
      | none => rfl
      | some t' => exact if_neg (by rw [h t' hc]; decide))
    unfold tmC at HB ⊢
    clear h hf HT
    go_wp2_with fail
    generalize World.alloc w1 _ = Y at HB ⊢
    refine (HNN.out _).mono ?_
    rintro e w2 ⟨⟨A2, k2, rfl⟩, hb2⟩
    have HB2 := hid (HB.out.trans (hb2.mono HB.out.size))
    clear hb2
    go_wp2_with fail
    refine bodyPost_ret (results_tmp2 rfl _ _ _) rfl ?_
    exact ⟨⟨A2, k2, by rw [← HOK.out, HS.out]; rfl, by rw [HS.out]; exact Strs.nil_ _ _ _⟩, HB2.out⟩
theorem gtexts_flat {n m : Nat} {ss : List ByteArray} (h : IsGrid n m ss) : textsOf n m (pad (flat ss)) = ss := by
  rw [rows_eq n m (pad (flat ss)) (fun r q => (flat ss).getD (r * m + q) 0) (fun r hr q hq => ?_)]
  · exact grid_rule h
  · have hl : r * m + q < (flat ss).length := by rw [h.flen]; exact lt_of_parts hr hq
    rw [pad, List.getElem?_append_left hl, List.getD_eq_getElem?_getD, List.getElem?_eq_getElem hl]
    rfl
/-- What the program hands back is its own. -/
def GridFP (l : List UInt8) (w : World) (e : Ending) (w' : World) : Prop := (∃ A, e = .returned (.tuple #[.slice A (gridF l).length (gridF l).length, .bool (okF l)]) ∧ Own2 w' w.heap.size A (gridF l)) ∧ Below w.heap.size w w'
end Go.Proofs.YtongjijkdjagdaaDoor
