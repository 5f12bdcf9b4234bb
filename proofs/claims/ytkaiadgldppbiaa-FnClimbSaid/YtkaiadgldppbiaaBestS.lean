/- l4Best and ChangeBest of the specification, by their contracts. -/
import Derived.Test.YtkaiadgldppbiaaBestI
import Derived.Test.YtkaiadgldppbiaaBunR
namespace Go.Proofs.Ytkaiadgldppbiaa
open Go.RowKit Go.Shelf

/-- The best cell as the specification writes it. -/
def bcode (m : Nat) (o : Option (Wy × UInt8)) : Int := match o with | none => -1 | some e => ((cellN m e.1 : Nat) : Int)

set_option maxRecDepth 100000 in
set_option maxHeartbeats 2000000 in
theorem l4Best_any (A : Option Addr) (c B n m : Nat) (ss : List ByteArray) (w : World) (h : Strs w B A ss) (hB : B ≤ w.heap.size) (hg : IsGrid n m ss) :
    Calls Try.prog 32 #[.slice A n c] w fun e w' => e = .returned (.tuple #[.int .i64 (bcode m (bestR n m (pad (flat ss))).1), .int .i64 (bestR n m (pad (flat ss))).2]) ∧ Below w.heap.size w w' := by
  obtain ⟨b, off, s0, rfl, hb, hk0, hc0⟩ := h.at_ (k := 0) (by have := hg.1; have := hg.2.1; omega)
  rw [Nat.add_zero] at hc0
  have hs0 : s0.size = m := (hg.2.2.2.2.2 s0 (List.mem_of_getElem? hk0)).1
  have hs0i : ((s0.size : Nat) : Int) = (m : Int) := by rw [hs0]
  have hn1 := hg.2.1
  have hn0 : (0 : Int) < (n : Int) := by omega
  have h25 := hg.le25
  have hnl := hg.1
  have HS := hid h
  obtain ⟨N, hN⟩ : ∃ N, n * m = N := ⟨_, rfl⟩
  have hNi : (n : Int) * (m : Int) = (N : Int) := by rw [← Int.natCast_mul, hN]
  have HC0 := hid (show ∀ w', Below w.heap.size w w' → w'.cell? ⟨b, off, none⟩ = some (.string s0) from fun w' hw => (hw.cell (p := ⟨b, off, none⟩) (by show b < _; omega)).trans hc0)
  have HCE := hid (show ∀ cc w', cc < N → Below w.heap.size w w' → Calls Try.prog 54 #[.slice (some ⟨b, off, none⟩) n c, .int .i64 cc] w' fun e w'' => e = .returned (.int .u8 ((pad (flat ss)).getD cc 0).toNat) ∧ ∃ d, w'' = w'.drewN d from fun cc w' hcc hw => by
    have h1 := l2Cell_any (some ⟨b, off, none⟩) c B n m cc ss _ w' (h.below hw hB) hg (by rw [hN]; exact hcc) (lett_cell hg (by rw [hN]; exact hcc))
    rw [show lett m (pad (flat ss)) ((cc / m : Nat) : Int) ((cc % m : Nat) : Int) = (pad (flat ss)).getD cc 0 from lett_place _, hnl] at h1
    exact h1)
  have HEX := hid (show ∀ cc w', cc < N → Below w.heap.size w w' → Calls Try.prog 34 #[.slice (some ⟨b, off, none⟩) n c, .int .i64 cc] w' fun e w'' => (∃ g cap, e = .returned (.slice (some ⟨g, 0, none⟩) n cap) ∧ Row9 w'' g (textsOf n m ((pad (flat ss)).set cc (oth ((pad (flat ss)).getD cc 0))))) ∧ Below w'.heap.size w' w'' from fun cc w' hcc hw => by
    have h1 := l4Exchange_any b off c B n m cc ss w' (h.below hw hB) (Nat.le_trans hB hw.size) hg (by rw [hN]; exact hcc)
    rw [show lett m (pad (flat ss)) ((cc / m : Nat) : Int) ((cc % m : Nat) : Int) = (pad (flat ss)).getD cc 0 from lett_place _, hnl] at h1
    exact h1)
  have HPA := hid (show ∀ cc A c w', cc < N → Strs w' w'.heap.size A (textsOf n m ((pad (flat ss)).set cc (oth ((pad (flat ss)).getD cc 0)))) → Calls Try.prog 33 #[.slice A n c] w' fun e w'' => e = .returned (.int .i64 (pathsX n m (pad (flat ss)) (placeN m cc, oth ((pad (flat ss)).getD cc 0)))) ∧ Below w'.heap.size w' w'' from fun cc A c w' hcc hw => by
    have hcc' : cc < n * m := by rw [hN]; exact hcc
    have hlt : isLet (oth ((pad (flat ss)).getD cc 0)) = true := by
      refine isLet_oth _ ?_
      obtain ⟨b', e, hb'⟩ := hg.let_at hcc'
      rw [lett_cell hg hcc', show lett m (pad (flat ss)) ((cc / m : Nat) : Int) ((cc % m : Nat) : Int) = (pad (flat ss)).getD cc 0 from lett_place _] at e
      cases e
      exact hb'
    obtain ⟨hg2, hp2⟩ := put_grid (b := oth ((pad (flat ss)).getD cc 0)) hg hcc' hlt
    have h1 := l3Paths_any A c w'.heap.size n m _ w' hw (Nat.le_refl _) hg2
    rw [hp2, hg2.1] at h1
    unfold pathsX
    rw [cellN_place]
    exact h1)
  have HBO := hid (fun l => bestTo_or n m (pad (flat ss)) hn1 l)
  have HPO := hid (fun e => pathsX_pos (n := n) (m := m) (ls := pad (flat ss)) (e := e) hn1)
  have HSN := hid (fun k (hk : k < N) => show bestTo n m (pad (flat ss)) (mirI m (pad (flat ss)) (upto N (k + 1))) = if ((pad (flat ss)).getD k 0 != 46) = true then (if (bestTo n m (pad (flat ss)) (mirI m (pad (flat ss)) (upto N k))).2 < pathsX n m (pad (flat ss)) (placeN m k, oth ((pad (flat ss)).getD k 0)) then (some (placeN m k, oth ((pad (flat ss)).getD k 0)), pathsX n m (pad (flat ss)) (placeN m k, oth ((pad (flat ss)).getD k 0))) else bestTo n m (pad (flat ss)) (mirI m (pad (flat ss)) (upto N k))) else bestTo n m (pad (flat ss)) (mirI m (pad (flat ss)) (upto N k)) by
    rw [upto_succ hk, mirI_snoc]
    by_cases hq : ((pad (flat ss)).getD k 0 != 46) = true
    · rw [if_pos hq, if_pos hq, bestTo_snoc]
    · rw [if_neg hq, if_neg hq, List.append_nil])
  have HRE := hid (show bestR n m (pad (flat ss)) = bestTo n m (pad (flat ss)) (mirI m (pad (flat ss)) (upto N N)) by
    unfold bestR
    rw [upto_all, hN])
  have HM := hid (fun cc => cellN_place m cc)
  rw [HRE.out]
  clear h hg hc0 hk0 hs0 hnl hN
  generalize pad (flat ss) = ls at *
  go_enter Try.func32, Try.ntmps32
  go_wp2_with fail
  go_loopw [4, 5, 6] (fun (v y i : Value) (wr : World) => ∃ k : Nat, k ≤ N ∧ i = .int .i64 k ∧ v = .int .i64 (bcode m (bestTo n m ls (mirI m ls (upto N k))).1) ∧ y = .int .i64 (bestTo n m ls (mirI m ls (upto N k))).2 ∧ Below w.heap.size w wr) (fun _ _ i _ => N - (intOf i).toNat)
  case atStart => exact ⟨0, by omega, rfl, by rw [upto_zero]; rfl, by rw [upto_zero]; rfl, Below.refl _ _⟩
  case round =>
    obtain ⟨k, hk, rfl, rfl, rfl, hbel⟩ := hrel
    have HBE := hid hbel
    have hcell := HC0.out wr hbel
    clear hbel
    have hk0 : (0 : Int) ≤ (k : Int) := by omega
    by_cases hlt : k < N
    · have hkN : (k : Int) < (N : Int) := by omega
      have hsn := HSN.out k hlt
      have HSK := hid hsn
      have HBK := hid (HBO.out (mirI m ls (upto N k)))
      have HCK := hid (HCE.out k wr hlt HBE.out)
      have HEK := hid (HEX.out k)
      have HPK := hid (HPA.out k)
      have HPP := hid (HPO.out (placeN m k, oth (ls.getD k 0)))
      clear hsn
      generalize bestTo n m ls (mirI m ls (upto N k)) = bt at *
      obtain ⟨bo, bm⟩ := bt
      simp only at HSK HBK ⊢
      have hbe := byte_beq46 (ls.getD k 0)
      obtain ⟨bv, hbv⟩ : ∃ bv : Int, (((ls.getD k 0).toNat : Nat) : Int) = bv := ⟨_, rfl⟩
      rw [hbv] at hbe HCK
      clear hbv
      go_wp2_with fail
      refine HCK.out.mono ?_
      rintro e w1 ⟨rfl, d, rfl⟩
      have HB1 := hid (HBE.out.trans ((below_drewN' (Below.refl wr.heap.size wr) d).mono HBE.out.size))
      cases hq : (ls.getD k 0 == 46) with
      | true =>
        rw [hq] at hbe
        have e1 := HSK.out
        rw [if_neg (by rw [bne, hq]; decide)] at e1
        have E1 := hid e1
        clear e1 hq
        go_wp2_with fail
        go_roundw
        case rel => exact ⟨k + 1, by omega, by go_num, by rw [E1.out], by rw [E1.out], HB1.out⟩
        case measure => simp [intOf]; omega
      | false =>
        rw [hq] at hbe
        have e1 := HSK.out
        rw [if_pos (by rw [bne, hq]; decide)] at e1
        have E1 := hid e1
        clear e1 hq
        go_wp2_with fail
        refine (HEK.out _ hlt HB1.out).mono ?_
        rintro e w2 ⟨⟨g, cap, rfl, hrow⟩, hb2⟩
        have HB2 := hid (HB1.out.trans (hb2.mono HB1.out.size))
        have HS2 := hid (hrow.strs (B := w2.heap.size) hrow.lt)
        clear hb2 hrow
        go_wp2_with fail
        refine (HPK.out _ cap w2 hlt HS2.out).mono ?_
        rintro e w3 ⟨rfl, hb3⟩
        have HB3 := hid (HB2.out.trans (hb3.mono HB2.out.size))
        clear hb3
        have hpp := HPP.out
        generalize pathsX n m ls (placeN m k, oth (ls.getD k 0)) = pa at *
        rcases HBK.out with ⟨_, hbn⟩ | ⟨e, _, he, he2, hpos⟩
        · cases hbn
          have e2 := E1.out
          rw [if_pos hpp] at e2
          have E2 := hid e2
          clear e2
          unfold bcode
          simp only
          go_wp2_with fail
          go_roundw
          case rel => exact ⟨k + 1, by omega, by go_num, by rw [E2.out]; unfold bcode; simp only [HM.out], by rw [E2.out], HB3.out⟩
          case measure => simp [intOf]; omega
        · cases he
          clear he2
          have hbc : bcode m (some e) = ((cellN m e.1 : Nat) : Int) := rfl
          rw [hbc]
          have HBC := hid hbc
          obtain ⟨bc, hbcc⟩ : ∃ bc, cellN m e.1 = bc := ⟨_, rfl⟩
          have HBCC := hid hbcc
          rw [hbcc]
          clear hbc hbcc
          have hbc0 : ¬ ((bc : Int) < 0) := by omega
          have hbc1 : decide ((bc : Int) < 0) = false := decide_eq_false hbc0
          by_cases hgt : bm < pa
          · have e2 := E1.out
            rw [if_pos hgt] at e2
            have E2 := hid e2
            clear e2
            have hgt' : decide (bm < pa) = true := decide_eq_true hgt
            go_wp2_with fail
            go_roundw
            case rel => exact ⟨k + 1, by omega, by go_num, by rw [E2.out]; unfold bcode; simp only [HM.out], by rw [E2.out], HB3.out⟩
            case measure => simp [intOf]; omega
          · have e2 := E1.out
            rw [if_neg hgt] at e2
            have E2 := hid e2
            clear e2
            have hle : pa ≤ bm := by omega
            have hgt' : decide (bm < pa) = false := decide_eq_false hgt
            go_wp2_with fail
            go_roundw
            case rel => exact ⟨k + 1, by omega, by go_num, by rw [E2.out, HBC.out, HBCC.out], by rw [E2.out], HB3.out⟩
            case measure => simp [intOf]; omega
    · obtain rfl : k = N := by omega
      go_wp2_with fail
      refine bodyPost_ret (results_tmp2 rfl _ _ _) rfl ?_
      exact ⟨rfl, HBE.out⟩

end Go.Proofs.Ytkaiadgldppbiaa
