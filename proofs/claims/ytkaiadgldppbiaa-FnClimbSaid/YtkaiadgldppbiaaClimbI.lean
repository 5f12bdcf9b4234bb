/- ChangeClimb of the program, by its contract. -/
import Derived.Test.YtkaiadgldppbiaaClimb
namespace Go.Proofs.Ytkaiadgldppbiaa
open Go.RowKit Go.Shelf

set_option maxRecDepth 100000 in
set_option maxHeartbeats 1000000 in
theorem changed_climb (A : Option Addr) (c : Nat) (ss : List ByteArray) (w : World) (h : Strs w w.heap.size A ss) (hn : ss.length ≤ 1048576) (hs : ∀ s ∈ ss, s.size ≤ 1048576) :
    Calls Try.prog 25 #[.slice A ss.length c, .func (.func 30) #[] #[]] w (ChangeEnd climbG ss w) := by
  have HR := hid (readGrid_any A c ss w h hn hs)
  clear h hs
  go_enter Try.func25, Try.ntmps25
  go_wp2_with fail
  refine HR.out.mono ?_
  rintro e w1 ⟨hbel, ⟨n, m, hg, rfl⟩ | ⟨hno, rfl⟩⟩
  · have HB := hid hbel
    have HGr := hid hg
    have HS := hid (show (Try.prog.info? 37).map (·.size) = some (gcells n m (pad (flat ss))).size by rw [hg.csize]; exact Try.size_grid)
    have HZ := hid (show zeroG.size = (gcells n m (pad (flat ss))).size by rw [hg.csize]; rfl)
    have HL := hid (setRow_heap (w1.alloc (.cells zeroG 37)) w1.heap.size zeroG (gcells n m (pad (flat ss))) 37 (0, 0) (heap_new0 w1 _))
    have HW := hid (HB.out.trans (below_setRow' ((Below.refl _ w1).alloc HB.out.size (.cells zeroG 37)) HB.out.size (gcells n m (pad (flat ss)))))
    have HM := hid (climbed_any n m (pad (flat ss)) ((w1.alloc (.cells zeroG 37)).setRow w1.heap.size (gcells n m (pad (flat ss)))) hg.plen hg.2.1 hg.2.2.1 hg.2.2.2.1 hg.2.2.2.2.1)
    clear hbel hg
    go_wp2_with (first
      | refine wpList_store_row rfl 37 _ _ rfl w1.heap.size (gcells n m (pad (flat ss))) rfl rfl 37 zeroG (heap_new0 w1 _) HS.out HZ.out (gcells_one _ _ _) ?_
      | refine wpList_load_row rfl 37 _ rfl w1.heap.size rfl 37 (gcells n m (pad (flat ss))) (0, 0) _ HL.out Try.underlying37 rfl HS.out ?_)
    refine HM.out.mono ?_
    rintro e w2 ⟨rfl, hb2⟩
    have HB2 := hid (HW.out.trans (hb2.mono HW.out.size))
    have HT := hid (texts_any n m (climbN n m 111 (pad (flat ss))) w2 (by rw [climbN_length]; exact HGr.out.plen) HGr.out.2.2.1 HGr.out.2.2.2.2.1)
    clear hb2
    go_wp2_with fail
    refine HT.out.mono ?_
    rintro e w3 ⟨rfl, hrow, hb3⟩
    have HB3 := hid (HB2.out.trans (hb3.mono HB2.out.size))
    have HRow := hid hrow
    clear hb3 hrow
    go_wp2_with fail
    refine bodyPost_ret (results_tmp2 rfl _ _ _) rfl ?_
    refine ⟨HB3.out, .inl ⟨n, m, w2.heap.size + 1, HGr.out, by have := HB2.out.size; omega, HRow.out, ?_⟩⟩
    have hlen : (climbG n m (pad (flat ss))).length = n := textsOf_length _ _ _
    rw [hlen]; rfl
  · have HB := hid hbel
    have HGr := hid hno
    clear hbel hno
    go_wp2_with (refine wpList_store_row rfl 37 _ _ rfl w1.heap.size zeroG rfl rfl 37 zeroG (heap_new0 w1 _) Try.size_grid rfl (gcells_one 0 0 (pad [])) ?_)
    refine bodyPost_ret (results_tmp2 rfl _ _ _) rfl ?_
    exact ⟨HB.out.trans (below_setRow' ((Below.refl _ w1).alloc HB.out.size _) HB.out.size _), .inr ⟨HGr.out, rfl⟩⟩

set_option maxHeartbeats 1000000 in
theorem implChangeClimb_any (A : Option Addr) (c : Nat) (ss : List ByteArray) (w : World) (h : Strs w w.heap.size A ss) (hn : ss.length ≤ 1048576) (hs : ∀ s ∈ ss, s.size ≤ 1048576) :
    Calls Try.prog 13 #[.slice A ss.length c] w (ChangeEnd climbG ss w) := by
  have HR := hid (changed_climb A c ss w h hn hs)
  clear h hs
  go_enter Try.func13, Try.ntmps13
  go_wp2_with fail
  refine HR.out.mono ?_
  rintro e w1 ⟨hbel, ⟨n, m, g, hg, hlo, hrow, rfl⟩ | ⟨hno, rfl⟩⟩
  · have HB := hid hbel
    have HGr := hid hg
    have HRow := hid hrow
    have HLo := hid hlo
    clear hbel hg hrow hlo
    go_wp2_with fail
    refine bodyPost_ret (results_tmp2 rfl _ _ _) rfl ?_
    exact ⟨HB.out, .inl ⟨n, m, g, HGr.out, HLo.out, HRow.out, rfl⟩⟩
  · have HB := hid hbel
    have HGr := hid hno
    clear hbel hno
    go_wp2_with fail
    refine bodyPost_ret (results_tmp2 rfl _ _ _) rfl ?_
    exact ⟨HB.out, .inr ⟨HGr.out, rfl⟩⟩

end Go.Proofs.Ytkaiadgldppbiaa
