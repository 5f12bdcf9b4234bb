/- GridUnder of the program, by its contract. -/
import Derived.Test.YtkgjhchgflichaaBesideI
namespace Go.Proofs.Ytkgjhchgflichaa
open Go.RowKit

set_option maxRecDepth 100000 in
set_option maxHeartbeats 8000000 in
theorem implGridUnder_any (A A' : Option Addr) (c c' : Nat) (ss tt : List ByteArray) (w : World) (h : Strs w w.heap.size A ss) (h' : Strs w w.heap.size A' tt) (hn : ss.length ≤ 1048576) (hs : ∀ s ∈ ss, s.size ≤ 1048576) (hn' : tt.length ≤ 1048576) (hs' : ∀ s ∈ tt, s.size ≤ 1048576) :
    Calls Try.prog 31 #[.slice A ss.length c, .slice A' tt.length c'] w (JoinEnd UnderIn underG ss tt w) := by
  have HR := hid (readGrid_any A c ss w h hn hs)
  have HR2 := hid (fun (w' : World) (hb : Below w.heap.size w w') => readGrid_any A' c' tt w' ((h'.below hb (Nat.le_refl _)).more hb.size) hn' hs')
  clear h hs h' hs'
  go_enter Try.func31, Try.ntmps31
  go_wp2_with fail
  refine HR.out.mono ?_
  rintro e w1 ⟨hbel, ⟨n, m, hg, rfl⟩ | ⟨hno, rfl⟩⟩
  · have HB := hid hbel
    have HGr := hid hg
    have HS := hid (show (Try.prog.info? 57).map (·.size) = some (gcells n m (pad (flat ss))).size by rw [hg.csize]; exact Try.size_grid)
    have HZ := hid (show zeroG.size = (gcells n m (pad (flat ss))).size by rw [hg.csize]; rfl)
    have HL := hid (setRow_heap (w1.alloc (.cells zeroG 57)) w1.heap.size zeroG (gcells n m (pad (flat ss))) 57 (0, 0) (heap_new0 w1 _))
    have HW := hid (HB.out.trans (below_setRow' ((Below.refl _ w1).alloc HB.out.size (.cells zeroG 57)) HB.out.size (gcells n m (pad (flat ss)))))
    generalize hX : (w1.alloc (.cells zeroG 57)).setRow w1.heap.size (gcells n m (pad (flat ss))) = X at HL HW
    have HX := hid hX
    clear hX hbel hg
    go_wp2_with (refine wpList_store_row rfl 57 _ _ rfl w1.heap.size (gcells n m (pad (flat ss))) rfl rfl 57 zeroG (heap_new0 w1 _) HS.out HZ.out (gcells_one _ _ _) ?_; rw [HX.out])
    refine (HR2.out X HW.out).mono ?_
    rintro e w2 ⟨hbel, ⟨n', m', hg, rfl⟩ | ⟨hno, rfl⟩⟩
    · have HB2 := hid hbel
      have HGr' := hid hg
      have HS' := hid (show (Try.prog.info? 57).map (·.size) = some (gcells n' m' (pad (flat tt))).size by rw [hg.csize]; exact Try.size_grid)
      have HZ' := hid (show zeroG.size = (gcells n' m' (pad (flat tt))).size by rw [hg.csize]; rfl)
      have HXW := hid HW.out.size
      have HL' := hid (setRow_heap (w2.alloc (.cells zeroG 57)) w2.heap.size zeroG (gcells n' m' (pad (flat tt))) 57 (0, 0) (heap_new0 w2 _))
      have HL2 := hid (show ((w2.alloc (.cells zeroG 57)).setRow w2.heap.size (gcells n' m' (pad (flat tt)))).heap[w1.heap.size]? = some (.cells (gcells n m (pad (flat ss))) 57 (0, 0)) by
        have h2 := HB2.out.size
        have h3 := lt_of_block HL.out
        rw [setRow_other _ _ _ _ (by omega), Below.heap_alloc _ _ _ (by omega)]
        exact (HB2.out.block _ h3).trans HL.out)
      have HW2 := hid (show Below w.heap.size w ((w2.alloc (.cells zeroG 57)).setRow w2.heap.size (gcells n' m' (pad (flat tt)))) from
        (HW.out.trans (HB2.out.mono HXW.out)).trans (below_setRow' ((Below.refl _ w2).alloc (by have := HB2.out.size; have := HXW.out; omega) _) (by have := HB2.out.size; have := HXW.out; omega) _))
      generalize hY : (w2.alloc (.cells zeroG 57)).setRow w2.heap.size (gcells n' m' (pad (flat tt))) = Y at HL' HL2 HW2
      have HY := hid hY
      have hn5 := HGr.out.2.2.1
      have hm5 := HGr.out.2.2.2.2.1
      have hn5' := HGr'.out.2.2.1
      have hm5' := HGr'.out.2.2.2.2.1
      have hm1 := HGr.out.2.2.2.1
      have hn1 := HGr.out.2.1
      have k0 : Y.cell? ⟨w1.heap.size, 0, none⟩ = some (.int .i64 n) := by rw [cell_of_row _ _ _ _ _ _ HL2.out]; exact gcells_0 _ _ _
      have k1 : Y.cell? ⟨w1.heap.size, 1, none⟩ = some (.int .i64 m) := by rw [cell_of_row _ _ _ _ _ _ HL2.out]; exact gcells_1 _ _ _
      have k0' : Y.cell? ⟨w2.heap.size, 0, none⟩ = some (.int .i64 n') := by rw [cell_of_row _ _ _ _ _ _ HL'.out]; exact gcells_0 _ _ _
      have k1' : Y.cell? ⟨w2.heap.size, 1, none⟩ = some (.int .i64 m') := by rw [cell_of_row _ _ _ _ _ _ HL'.out]; exact gcells_1 _ _ _
      clear hY hbel hg
      by_cases hsame : m = m'
      · have hne : ((m : Int) != (m' : Int)) = false := by rw [bne_eq_false_iff_eq]; omega
        have hsi := hid (sideIn_any ((n : Int) + (n' : Int)) Y)
        by_cases hsum : n + n' ≤ 5
        · have hdec := decide_eq_true (show 1 ≤ (n : Int) + (n' : Int) ∧ (n : Int) + (n' : Int) ≤ 5 by omega)
          rw [hdec] at hsi
          have HIn := hid (show UnderIn ss tt n m n' m' from ⟨HGr.out, HGr'.out, hsame, hsum⟩)
          have HJ := hid (joinedGrid_any n m n' m' (n + n') m n 0 (pad (flat ss)) (pad (flat tt)) Y HGr.out.plen HGr'.out.plen (by omega) (by omega) HGr.out.2.2.2.1 HGr'.out.2.2.2.1 (by omega) (by omega) (by omega) (by omega))
          have HTX := hid (fun w' => texts_any (n + n') m (joinL n m n' m' m n 0 (pad (flat ss)) (pad (flat tt))) w' (by unfold joinL; rw [putAll_length, putAll_length]; rfl) (by omega) (by omega))
          have hG : underG ss tt n m n' m' = textsOf (n + n') m (joinL n m n' m' m n 0 (pad (flat ss)) (pad (flat tt))) := rfl
          have HG := hid hG
          rw [Int.natCast_add, show ((0 : Nat) : Int) = 0 from rfl] at HJ
          clear hdec hG hsame
          generalize joinL n m n' m' m n 0 (pad (flat ss)) (pad (flat tt)) = jl at *
          generalize hc1 : gcells n m (pad (flat ss)) = cs at *
          generalize hc2 : gcells n' m' (pad (flat tt)) = cs' at *
          generalize hc3 : gcells (n + n') m jl = cj at *
          have HC1 := hid hc1
          have HC2 := hid hc2
          have HON := hid (show cs'.all (·.oneCell') = true by rw [← hc2]; exact gcells_one _ _ _)
          clear hc1 hc2 hc3
          go_wp2_with (first
            | (refine wpList_store_row rfl 57 _ _ rfl w2.heap.size cs' rfl rfl 57 zeroG (heap_new0 w2 _) HS'.out HZ'.out HON.out ?_; rw [HY.out])
            | refine wpList_load_row rfl 57 (.tmp 6) rfl w1.heap.size rfl 57 cs (0, 0) _ HL2.out Try.underlying57 rfl HS.out ?_
            | refine wpList_load_row rfl 57 (.tmp 8) rfl w2.heap.size rfl 57 cs' (0, 0) _ HL'.out Try.underlying57 rfl HS'.out ?_)
          refine hsi.out.mono ?_
          rintro e w3 ⟨rfl, rfl⟩
          go_wp2_with (first
            | refine wpList_load_row rfl 57 (.tmp 6) rfl w1.heap.size rfl 57 cs (0, 0) _ HL2.out Try.underlying57 rfl HS.out ?_
            | refine wpList_load_row rfl 57 (.tmp 8) rfl w2.heap.size rfl 57 cs' (0, 0) _ HL'.out Try.underlying57 rfl HS'.out ?_)
          refine HJ.out.mono ?_
          rintro e w4 ⟨rfl, hb4⟩
          have HB4 := hid (HW2.out.trans (hb4.mono HW2.out.size))
          clear hb4
          go_wp2_with fail
          refine (HTX.out w4).mono ?_
          rintro e w5 ⟨rfl, hrow, hb5⟩
          have HB5 := hid (HB4.out.trans (hb5.mono HB4.out.size))
          have HRow := hid hrow
          clear hb5 hrow
          go_wp2_with fail
          refine bodyPost_ret (results_tmp2 rfl _ _ _) rfl ?_
          refine ⟨HB5.out, .inl ⟨n, m, n', m', w4.heap.size + 1, HIn.out, by have := HB4.out.size; omega, by rw [HG.out]; exact HRow.out, ?_⟩⟩
          have hlen : (underG ss tt n m n' m').length = (n + n') := textsOf_length _ _ _
          rw [hlen]; rfl
        · have hdec := decide_eq_false (show ¬ (1 ≤ (n : Int) + (n' : Int) ∧ (n : Int) + (n' : Int) ≤ 5) by omega)
          rw [hdec] at hsi
          have HNo := hid (show ∀ a b c d, ¬ UnderIn ss tt a b c d from fun a b c d hh => by
            obtain ⟨rfl, rfl⟩ := HGr.out.uniq hh.1
            obtain ⟨rfl, rfl⟩ := HGr'.out.uniq hh.2.1
            exact hsum hh.2.2.2)
          clear hdec
          go_wp2_with (refine wpList_store_row rfl 57 _ _ rfl w2.heap.size (gcells n' m' (pad (flat tt))) rfl rfl 57 zeroG (heap_new0 w2 _) HS'.out HZ'.out (gcells_one _ _ _) ?_; rw [HY.out])
          refine hsi.out.mono ?_
          rintro e w3 ⟨rfl, rfl⟩
          go_wp2_with fail
          refine bodyPost_ret (results_tmp2 rfl _ _ _) rfl ?_
          exact ⟨HW2.out, .inr ⟨HNo.out, rfl⟩⟩
      · have hne : ((m : Int) != (m' : Int)) = true := by rw [bne_iff_ne]; omega
        have HNo := hid (show ∀ a b c d, ¬ UnderIn ss tt a b c d from fun a b c d hh => by
          obtain ⟨rfl, rfl⟩ := HGr.out.uniq hh.1
          obtain ⟨rfl, rfl⟩ := HGr'.out.uniq hh.2.1
          exact hsame hh.2.2.1)
        go_wp2_with (refine wpList_store_row rfl 57 _ _ rfl w2.heap.size (gcells n' m' (pad (flat tt))) rfl rfl 57 zeroG (heap_new0 w2 _) HS'.out HZ'.out (gcells_one _ _ _) ?_; rw [HY.out])
        refine bodyPost_ret (results_tmp2 rfl _ _ _) rfl ?_
        exact ⟨HW2.out, .inr ⟨HNo.out, rfl⟩⟩
    · have HB2 := hid hbel
      have HNo := hid (show ∀ a b c d, ¬ UnderIn ss tt a b c d from fun a b c d hh => hno _ _ hh.2.1)
      have HXW := hid HW.out.size
      clear hbel hno
      go_wp2_with (refine wpList_store_row rfl 57 _ _ rfl w2.heap.size zeroG rfl rfl 57 zeroG (heap_new0 w2 _) Try.size_grid rfl (gcells_one 0 0 (pad [])) ?_)
      refine bodyPost_ret (results_tmp2 rfl _ _ _) rfl ?_
      exact ⟨(HW.out.trans (HB2.out.mono HXW.out)).trans (below_setRow' ((Below.refl _ w2).alloc (by have := HB2.out.size; have := HXW.out; omega) _) (by have := HB2.out.size; have := HXW.out; omega) _), .inr ⟨HNo.out, rfl⟩⟩
  · have HB := hid hbel
    have HNo := hid (show ∀ a b c d, ¬ UnderIn ss tt a b c d from fun a b c d hh => hno _ _ hh.1)
    clear hbel hno
    have HW := hid (HB.out.trans (below_setRow' ((Below.refl _ w1).alloc HB.out.size (.cells zeroG 57)) HB.out.size zeroG))
    generalize hX : (w1.alloc (.cells zeroG 57)).setRow w1.heap.size zeroG = X at HW
    have HX := hid hX
    clear hX
    go_wp2_with (refine wpList_store_row rfl 57 _ _ rfl w1.heap.size zeroG rfl rfl 57 zeroG (heap_new0 w1 _) Try.size_grid rfl (gcells_one 0 0 (pad [])) ?_; rw [HX.out])
    refine (HR2.out X HW.out).mono ?_
    have fin : ∀ (w2 : World) (cs : Array Value), Below X.heap.size X w2 → Below w.heap.size w ((w2.alloc (.cells zeroG 57)).setRow w2.heap.size cs) := fun w2 cs hb =>
      (HW.out.trans (hb.mono HW.out.size)).trans (below_setRow' ((Below.refl _ w2).alloc (by have := hb.size; have := HW.out.size; omega) _) (by have := hb.size; have := HW.out.size; omega) _)
    rintro e w2 ⟨hbel, ⟨n', m', hg, rfl⟩ | ⟨hno, rfl⟩⟩
    · have HF := hid (fin w2 (gcells n' m' (pad (flat tt))) hbel)
      have HS' := hid (show (Try.prog.info? 57).map (·.size) = some (gcells n' m' (pad (flat tt))).size by rw [hg.csize]; exact Try.size_grid)
      have HZ' := hid (show zeroG.size = (gcells n' m' (pad (flat tt))).size by rw [hg.csize]; rfl)
      clear fin hbel hg
      go_wp2_with (refine wpList_store_row rfl 57 _ _ rfl w2.heap.size (gcells n' m' (pad (flat tt))) rfl rfl 57 zeroG (heap_new0 w2 _) HS'.out HZ'.out (gcells_one _ _ _) ?_)
      refine bodyPost_ret (results_tmp2 rfl _ _ _) rfl ?_
      exact ⟨HF.out, .inr ⟨HNo.out, rfl⟩⟩
    · have HF := hid (fin w2 zeroG hbel)
      clear fin hbel hno
      go_wp2_with (refine wpList_store_row rfl 57 _ _ rfl w2.heap.size zeroG rfl rfl 57 zeroG (heap_new0 w2 _) Try.size_grid rfl (gcells_one 0 0 (pad [])) ?_)
      refine bodyPost_ret (results_tmp2 rfl _ _ _) rfl ?_
      exact ⟨HF.out, .inr ⟨HNo.out, rfl⟩⟩

end Go.Proofs.Ytkgjhchgflichaa
