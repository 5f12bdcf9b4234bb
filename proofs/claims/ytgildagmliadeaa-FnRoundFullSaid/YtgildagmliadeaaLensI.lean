/- RoundLengths of the program, by its contract. -/
import Derived.Test.YtgildagmliadeaaBunH
import Derived.Test.YtgildagmliadeaaRoundC
import Derived.Test.YtgildagmliadeaaSort
import Derived.Test.YtgildagmliadeaaBunF
namespace Go.Proofs.Ytgildagmliadeaa
open Go.RowKit Go.Shelf

/-- The lengths of all rounds, in order. -/
def lensR (n m : Nat) (t : Int → Int → UInt8) : List Int := sortI (lensTo n m t (4 * (n * m)))
theorem lensR_length (n m : Nat) (t : Int → Int → UInt8) : (lensR n m t).length = (lensTo n m t (4 * (n * m))).length := sortI_length _
/-- What RoundLengths comes to. -/
def LensOut (ss : List ByteArray) (l : List Int) (ok : Bool) : Prop :=
  (∃ n m, IsGrid n m ss ∧ l = lensR n m (lett m (pad (flat ss))) ∧ ok = true) ∨ (NoGrid ss ∧ l = [] ∧ ok = false)
theorem LensOut.uniq {ss : List ByteArray} {l l' : List Int} {ok ok' : Bool} (h : LensOut ss l ok) (h' : LensOut ss l' ok') : l' = l ∧ ok' = ok := by
  rcases h with ⟨n, m, h1, rfl, rfl⟩ | ⟨h1, rfl, rfl⟩ <;> rcases h' with ⟨n', m', h1', rfl, rfl⟩ | ⟨h1', rfl, rfl⟩
  · obtain ⟨rfl, rfl⟩ := h1.uniq h1'
    exact ⟨rfl, rfl⟩
  · exact absurd h1 (h1' _ _)
  · exact absurd h1' (h1 _ _)
  · exact ⟨rfl, rfl⟩
theorem LensOut.len {ss : List ByteArray} {l : List Int} {ok : Bool} (h : LensOut ss l ok) : l.length ≤ 1048576 := by
  rcases h with ⟨n, m, hg, rfl, _⟩ | ⟨_, rfl, _⟩
  · have h1 := lensTo_le n m (lett m (pad (flat ss))) (4 * (n * m))
    have := hg.le25
    rw [lensR_length]
    omega
  · decide
/-- The rounds as they lie: a row of slices, told by their lengths alone. -/
theorem RoundsOf.row {w : World} {base g n m x : Nat} {t : Int → Int → UInt8} {v : Value} (h : RoundsOf w base g n m t x v) (h0 : 0 < (leadsTo n m t x).length) :
    ∃ b cap cur, v = .slice (some ⟨b, 0, none⟩) (leadsTo n m t x).length cap ∧ base ≤ b ∧ w.heap[b]? = some (.cells cur 106 (0, 0)) ∧
      ∀ (k : Nat) (l : Int), (lensTo n m t x)[k]? = some l → ∃ b2 l2 cap2, l = ((l2 : Nat) : Int) ∧ cur[k]? = some (.slice (some ⟨b2, 0, none⟩) l2 cap2) := by
  obtain ⟨vs, h1, h2, h3⟩ := h
  rcases h1.2 with ⟨_, h4⟩ | ⟨b, cap, cur, rfl, hb, hg, _, _, _, ht⟩
  · omega
  · refine ⟨b, cap, cur, by rw [h2], hb, hg, fun k l hk => ?_⟩
    unfold lensTo at hk
    rw [List.getElem?_map] at hk
    cases hc : (leadsTo n m t x)[k]? with
    | none => rw [hc] at hk; cases hk
    | some c =>
      rw [hc] at hk
      cases hk
      have hlead := (leadsTo_mem (List.mem_of_getElem? hc)).2
      have hon := (lead_iff.1 hlead).1
      obtain ⟨u, h4, b2, cap2, rfl, _⟩ := h3 k c hc
      have hl := (List.getElem?_eq_some_iff.1 h4).1
      rw [← ht, List.getElem?_take_of_lt (by omega)] at h4
      refine ⟨b2, rlen n m t (wayN m c), cap2, rfl, ?_⟩
      rw [← Array.getElem?_toList, h4, ringN_length]
      unfold goL
      rw [if_pos hon]

set_option maxRecDepth 100000 in
set_option maxHeartbeats 2000000 in
theorem implRoundLengths_any (A : Option Addr) (c : Nat) (ss : List ByteArray) (w : World) (h : Strs w w.heap.size A ss) (hn : ss.length ≤ 1048576) (hs : ∀ s ∈ ss, s.size ≤ 1048576) :
    Calls Try.prog 36 #[.slice A ss.length c] w fun e w' => Below w.heap.size w w' ∧ ∃ A c l ok, e = .returned (.tuple #[.slice A l.length c, .bool ok]) ∧ LensOut ss l ok ∧ Own3 w' w.heap.size A l := by
  have HR := hid (readGrid_any A c ss w h hn hs)
  clear h hs
  go_enter Try.func36, Try.ntmps36
  go_wp2_with fail
  refine HR.out.mono ?_
  rintro e w1 ⟨hbel, ⟨n, m, hg, rfl⟩ | ⟨hno, rfl⟩⟩
  · have HB := hid hbel
    have HGr := hid hg
    have HS := hid (show (Try.prog.info? 54).map (·.size) = some (gcells n m (pad (flat ss))).size by rw [hg.csize]; exact Try.size_grid)
    have HZ := hid (show zeroG.size = (gcells n m (pad (flat ss))).size by rw [hg.csize]; rfl)
    have HL := hid (setRow_heap (w1.alloc (.cells zeroG 54)) w1.heap.size zeroG (gcells n m (pad (flat ss))) 54 (0, 0) (heap_new0 w1 _))
    have HW := hid (HB.out.trans (below_setRow' ((Below.refl _ w1).alloc HB.out.size (.cells zeroG 54)) HB.out.size (gcells n m (pad (flat ss)))))
    have HNC := hid (fun w' => newChart_any n m (4 * (n * m)) (n * m) (pad (flat ss)) w' hg.plen hg.2.2.1 hg.2.2.2.1 hg.2.2.2.2.1 rfl rfl)
    have HRS := hid (fun g w' hst => rounds_any n m g (4 * (n * m)) (pad (flat ss)) w' hg.plen hg.2.2.1 hg.2.2.2.2.1 rfl hst)
    have HLE := hid (lensTo_le n m (lett m (pad (flat ss))) (4 * (n * m)))
    have H25 := hid hg.le25
    clear hbel hg
    have HLA := hid ((Below.heap_alloc ((w1.alloc (.cells zeroG 54)).setRow w1.heap.size (gcells n m (pad (flat ss)))) (.cells #[] 3) w1.heap.size (lt_of_block HL.out)).trans HL.out)
    have HGI := hid (growI_new ((w1.alloc (.cells zeroG 54)).setRow w1.heap.size (gcells n m (pad (flat ss)))) w.heap.size HW.out.size)
    have HWI := hid (HW.out.alloc HW.out.size (.cells #[] 3))
    have HSW := hid (show ((w1.alloc (.cells zeroG 54)).setRow w1.heap.size (gcells n m (pad (flat ss)))).heap.size = w1.heap.size + 1 by simp)
    go_wp2_with (first
      | refine wpList_store_row rfl 54 _ _ rfl w1.heap.size (gcells n m (pad (flat ss))) rfl rfl 54 zeroG (heap_new0 w1 _) HS.out HZ.out (gcells_one _ _ _) ?_
      | refine wpList_load_row_g (by rfl) 54 _ rfl w1.heap.size rfl 54 (gcells n m (pad (flat ss))) (0, 0) _ HLA.out Try.underlying54 rfl HS.out ?_)
    rw [HSW.out] at HGI
    have HSZ := hid (show (((w1.alloc (.cells zeroG 54)).setRow w1.heap.size (gcells n m (pad (flat ss)))).alloc (.cells #[] 3)).heap.size = w1.heap.size + 2 by simp)
    generalize ((w1.alloc (.cells zeroG 54)).setRow w1.heap.size (gcells n m (pad (flat ss)))).alloc (.cells #[] 3) = w2 at *
    refine (HNC.out w2).mono ?_
    rintro e w3 ⟨g, _, rfl, hst, hb3⟩
    have HRR := hid (HRS.out g w3 hst)
    have HB3 := hid (HWI.out.trans (hb3.mono HWI.out.size))
    have HG3 := hid (HGI.out.belowC hb3)
    have HZ3 := hid (Nat.le_trans (Nat.le_of_eq HSZ.out.symm) hb3.size)
    clear hb3 hst
    go_wp2_with fail
    refine HRR.out.mono ?_
    rintro e w4 ⟨v, rfl, hro, hb4⟩
    have HB4 := hid (HB3.out.trans (hb4.mono HB3.out.size))
    have HG4 := hid (HG3.out.belowC hb4)
    have HRO := hid hro
    obtain ⟨A1, cc, rfl⟩ := hro.sliceP
    have HLL := hid (lensTo_length n m (lett m (pad (flat ss))) (4 * (n * m)))
    obtain ⟨K, hK⟩ : ∃ K, (leadsTo n m (lett m (pad (flat ss))) (4 * (n * m))).length = K := ⟨_, rfl⟩
    rw [hK] at HLL ⊢
    have hKb : ((K : Nat) : Int) ≤ 100 := by have h1 := HLE.out; have h2 := H25.out; have h3 := HLL.out; omega
    have HKK := hid hK
    have HLR := hid (show lensR n m (lett m (pad (flat ss))) = sortI (lensTo n m (lett m (pad (flat ss))) (4 * (n * m))) from rfl)
    clear hb4 hro hK
    obtain ⟨br, hbr⟩ : ∃ br : Nat, br ≠ w1.heap.size + 1 ∧ ∀ (_ : 0 < K), ∃ cap cur, A1 = some ⟨br, 0, none⟩ ∧ cc = cap ∧ w3.heap.size + 1 ≤ br ∧ w4.heap[br]? = some (.cells cur 106 (0, 0)) ∧
      ∀ (k : Nat) (l : Int), (lensTo n m (lett m (pad (flat ss))) (4 * (n * m)))[k]? = some l → ∃ b2 l2 cap2, l = ((l2 : Nat) : Int) ∧ cur[k]? = some (.slice (some ⟨b2, 0, none⟩) l2 cap2) := by
      by_cases h0 : 0 < K
      · obtain ⟨b, cap, cur, h1, h2, h3, h4⟩ := HRO.out.row (by rw [HKK.out]; exact h0)
        rw [HKK.out] at h1
        cases h1
        exact ⟨b, by have := HZ3.out; omega, fun _ => ⟨_, cur, rfl, rfl, h2, h3, h4⟩⟩
      · exact ⟨0, by omega, fun h => absurd h h0⟩
    have HBR := hid hbr
    clear hbr
    generalize lensTo n m (lett m (pad (flat ss))) (4 * (n * m)) = ll at *
    go_wp2_with fail
    go_loopw [6, 21] (fun (v i : Value) (wr : World) => ∃ k : Nat, k ≤ K ∧ i = .int .i64 k ∧ GrowI wr w.heap.size v (ll.take k) ∧ v.ownBlock ≠ some br ∧ (k = 0 → v = .slice (some ⟨w1.heap.size + 1, 0, none⟩) 0 0) ∧ (0 < K → wr.heap[br]? = w4.heap[br]?) ∧ Below w.heap.size w wr) (fun _ i _ => K - (intOf i).toNat)
    case atStart => exact ⟨0, by omega, rfl, HG4.out, fun e => HBR.out.1 (by cases e; rfl), fun _ => rfl, fun _ => rfl, HB4.out⟩
    case round =>
      obtain ⟨k, hk, rfl, hgr, hne, hk0, hbk, hbel⟩ := hrel
      have HGR := hid hgr
      have HNE := hid hne
      have HK0 := hid hk0
      have HBK := hid hbk
      have HBE := hid hbel
      clear hgr hne hk0 hbk hbel
      by_cases hlt : k < K
      · obtain ⟨cap, cur, hA, rfl, hlo, hbb, hcu⟩ := HBR.out.2 (by omega)
        subst hA
        obtain ⟨x, hx⟩ : ∃ x, ll[k]? = some x := ⟨_, List.getElem?_eq_getElem (by rw [HLL.out]; exact hlt)⟩
        obtain ⟨b2, l2, cap2, rfl, hcl⟩ := hcu k _ hx
        have hbw := (HBK.out (by omega)).trans hbb
        have HTK := hid (show ll.take (k + 1) = ll.take k ++ [((l2 : Nat) : Int)] by
          obtain ⟨h1, h2⟩ := List.getElem?_eq_some_iff.1 hx
          rw [List.take_succ_eq_append_getElem h1, h2])
        have hcell : wr.cell? ⟨br, k, none⟩ = some (.slice (some ⟨b2, 0, none⟩) l2 cap2) := by rw [cell_of_row _ _ _ _ _ _ hbw]; exact hcl
        have HBW := hid hbw
        have hki0 : (0 : Int) ≤ (k : Int) := by omega
        have hkiK : (k : Int) < (K : Int) := by omega
        have HG7 := hid (HGR.out.belowC ((Below.refl _ wr).alloc (Nat.le_refl _) (.cells #[.int .i64 ((l2 : Nat) : Int)] 3)))
        have HB7 := hid (HBE.out.alloc HBE.out.size (.cells #[.int .i64 ((l2 : Nat) : Int)] 3))
        clear hlo hbb hcu hx hcl hbw
        go_wp2_with (at_builtin; refine wpList_appendI rfl _ _ rfl w.heap.size u6 (ll.take k) rfl HG7.out wr.heap.size 1 rfl _ (cell_newI wr _) ?c3 HB7.out.size ?_)
        case c3 => have h1 := HLL.out; have h2 := HLE.out; have h3 := H25.out; omega
        intro v' w6 hgr hgw hob
        have HGR6 := hid hgr
        have HB8 := hid (HB7.out.grown hgw HB7.out.size (fun k e => (World.ownsRow.lt HG7.out k e).1))
        have HN6 := hid (show v'.ownBlock ≠ some br by
          rcases hob with h1 | h1
          · rw [h1]; exact HNE.out
          · rw [h1]; intro e; have h2 := lt_of_block HBW.out; have h3 := Option.some.inj e; first | omega | (simp at h3; omega))
        have HBK6 := hid (show w6.heap[br]? = w4.heap[br]? by
          have h1 := hgw.block br (by have := lt_of_block HBW.out; simp; omega) (fun e => HNE.out e.symm)
          rw [h1, Below.heap_alloc _ _ _ (lt_of_block HBW.out)]
          exact HBK.out (by omega))
        clear hgr hgw hob hcell
        go_wp2
        go_roundw
        case rel => exact ⟨k + 1, by omega, by go_num, by rw [HTK.out]; exact HGR6.out, HN6.out, fun h => absurd h (by omega), fun _ => HBK6.out, HB8.out⟩
        case measure => simp [intOf]; omega
      · obtain rfl : k = K := by omega
        have hall : ll.take k = ll := List.take_of_length_le (by rw [HLL.out]; exact Nat.le_refl _)
        rw [hall] at HGR
        obtain ⟨gb, capb, hv⟩ : ∃ gb capb, u6 = .slice (some ⟨gb, 0, none⟩) ll.length capb := by
          rcases HGR.out.2 with ⟨h1, h2⟩ | ⟨gb, capb, cur, h1, _⟩
          · have h3 := HLL.out
            have h4 := HK0.out (by omega)
            rw [h1] at h4
            cases h4
          · exact ⟨gb, capb, h1⟩
        subst hv
        have HSO := hid (sort_any w.heap.size gb capb ll wr HGR.out (by have h1 := HLL.out; have h2 := HLE.out; have h3 := H25.out; omega))
        have HGB := hid ((World.ownsRow.lt HGR.out gb rfl).1)
        clear hall
        go_wp2_with fail
        refine HSO.out.mono ?_
        rintro e w5 ⟨rfl, hgs, hgw⟩
        obtain ⟨A2, c2, hA2, hown⟩ := GrowI.own hgs
        rw [sortI_length] at hA2
        have HOWN := hid hown
        have HA2 := hid hA2
        have HB5 := hid (HBE.out.grown hgw HBE.out.size (fun k e => by cases e; exact HGB.out))
        have HSL := hid (sortI_length ll)
        clear hgs hgw hown hA2
        go_wp2_with fail
        refine bodyPost_ret (results_tmp2 rfl _ _ _) rfl ?_
        exact ⟨HB5.out, A2, c2, sortI ll, true, by rw [HSL.out, ← HA2.out]; rfl, .inl ⟨n, m, HGr.out, HLR.out.symm, rfl⟩, HOWN.out⟩
  · have HB := hid hbel
    have HGr := hid hno
    clear hbel hno
    go_wp2_with (refine wpList_store_row rfl 54 _ _ rfl w1.heap.size zeroG rfl rfl 54 zeroG (heap_new0 w1 _) Try.size_grid rfl (gcells_one 0 0 (pad [])) ?_)
    refine bodyPost_ret (results_tmp2 rfl _ _ _) rfl ?_
    exact ⟨HB.out.trans (below_setRow' ((Below.refl _ w1).alloc HB.out.size _) HB.out.size _), _, _, [], false, rfl, .inr ⟨HGr.out, rfl, rfl⟩, .inl ⟨rfl, rfl⟩⟩
end Go.Proofs.Ytgildagmliadeaa
