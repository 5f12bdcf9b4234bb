/- JoinUnit of the specification, by its contract. -/
import Derived.Test.YtkooahfpogcmiaaClosed
import Derived.Test.YtkooahfpogcmiaaJoinSt
namespace Go.Proofs.Ytkooahfpogcmiaa
open Go.RowKit Go.Shelf

theorem made_pairC (N : Nat) : madeCells #[Value.int .i64 0] N = pairC (List.replicate N 0) := by
  refine Array.ext_getElem? fun k => ?_
  unfold pairC
  by_cases hk : k < N
  · simp [madeCells, hk, Nat.mod_one]
  · rw [Array.getElem?_eq_none (by rw [size_madeCells]; omega), Array.getElem?_eq_none (by simp; omega)]
/-- So far the ports in V have their partners, and these them. -/
def PairsIn (L : List Int) (N : Nat) (V : Nat → Prop) (s : Nat → Nat) : Prop := L.length = N ∧ ∀ q, q < N → V q → L[q]? = some ((s q : Nat) : Int) ∧ L[s q]? = some ((q : Nat) : Int)
theorem pairsIn_step {L : List Int} {N q0 : Nat} {V V' : Nat → Prop} {s : Nat → Nat} (hs : Mates N s) (h : PairsIn L N V s) (hq0 : q0 < N) (hV : ∀ q, V' q → V q ∨ q = q0) :
    PairsIn ((L.set q0 ((s q0 : Nat) : Int)).set (s q0) ((q0 : Nat) : Int)) N V' s := by
  obtain ⟨h1, h2⟩ := h
  have hs0 := hs.lt _ hq0
  have hne : s q0 ≠ q0 := hs.ne _ hq0
  have at0 : ((L.set q0 ((s q0 : Nat) : Int)).set (s q0) ((q0 : Nat) : Int))[q0]? = some ((s q0 : Nat) : Int) := by
    rw [List.getElem?_set_ne hne, List.getElem?_set_self (by omega)]
  have at1 : ((L.set q0 ((s q0 : Nat) : Int)).set (s q0) ((q0 : Nat) : Int))[s q0]? = some ((q0 : Nat) : Int) := by
    rw [List.getElem?_set_self (by rw [List.length_set]; omega)]
  refine ⟨by simp [h1], fun q hq hv => ?_⟩
  by_cases e : q = q0
  · subst e
    exact ⟨at0, at1⟩
  · rcases hV q hv with hv | hv
    · obtain ⟨k1, k2⟩ := h2 q hq hv
      by_cases e1 : q = s q0
      · subst e1
        rw [hs.back _ hq0]
        exact ⟨at1, at0⟩
      · have n3 : s q ≠ q0 := fun e2 => e1 (by rw [← e2, hs.back _ hq])
        have n5 : s q ≠ s q0 := fun e2 => e (by rw [← hs.back _ hq, e2, hs.back _ hq0])
        rw [List.getElem?_set_ne (fun x => e1 x.symm), List.getElem?_set_ne (fun x => e x.symm), List.getElem?_set_ne n5.symm, List.getElem?_set_ne n3.symm]
        exact ⟨k1, k2⟩
    · exact absurd hv e
theorem pairsIn_done {L : List Int} {N : Nat} {V : Nat → Prop} {s : Nat → Nat} (hs : Mates N s) (h : PairsIn L N V s) (hV : ∀ q, q < N → V q ∨ V (s q)) : L = listS N s := by
  refine listS_all h.1 fun q hq => ?_
  rcases hV q hq with hv | hv
  · exact (h.2 _ hq hv).1
  · have := (h.2 _ (hs.lt _ hq) hv).2
    rwa [hs.back _ hq] at this
theorem row8_pairC {w : World} {g : Nat} {l : List Int} (h : w.heap[g]? = some (.cells (pairC l) 3 (0, 0))) : Row8 w g l := ⟨_, h, fun _ _ hk => pairC_at hk⟩

set_option maxRecDepth 100000 in
set_option maxHeartbeats 4000000 in
theorem specJoinUnit_any (n m : Int) (w : World) :
    Calls Try.prog 35 #[.int .i64 n, .int .i64 m] w fun e w' => Below w.heap.size w w' ∧ ∃ A' c' res ok, e = .returned (.tuple #[.slice A' res.length c', .bool ok]) ∧ LOut ((1 ≤ n ∧ n ≤ 5) ∧ 1 ≤ m ∧ m ≤ 5) (unitL n.toNat m.toNat) res ok ∧ Ints w' w'.heap.size A' res := by
  have HS := hid (fun x W => l6In_any x 1 5 W)
  by_cases hn : 1 ≤ n ∧ n ≤ 5
  · obtain ⟨a, rfl⟩ : ∃ a : Nat, n = (a : Int) := ⟨n.toNat, by omega⟩
    have s1 := hid (show ∀ W, Calls Try.prog 56 #[.int .i64 (a : Int), .int .i64 1, .int .i64 5] W fun e w' => e = .returned (.bool true) ∧ W = w' from fun W => by have := HS.out (a : Int) W; rwa [decide_eq_true hn] at this)
    by_cases hm : 1 ≤ m ∧ m ≤ 5
    · obtain ⟨b, rfl⟩ : ∃ b : Nat, m = (b : Int) := ⟨m.toNat, by omega⟩
      have s2 := hid (show ∀ W, Calls Try.prog 56 #[.int .i64 (b : Int), .int .i64 1, .int .i64 5] W fun e w' => e = .returned (.bool true) ∧ W = w' from fun W => by have := HS.out (b : Int) W; rwa [decide_eq_true hm] at this)
      have HD := hid (And.intro hn hm)
      have ha5 : a ≤ 5 := by omega
      have hb5 : b ≤ 5 := by omega
      have ha1 : 1 ≤ a := by omega
      have hb1 : 1 ≤ b := by omega
      have HM := hid (unitN_mates (n := a) (m := b))
      have HCV := hid (fun q => unitN_cover (n := a) (m := b) (q := q))
      have HA := hid (show ∀ k, k < b → unitN a b k = a + 2 * b - 1 - k from fun k hk => by unfold unitN; rw [if_pos hk])
      have HBb := hid (show ∀ k, k < a → unitN a b (b + k) = 2 * a + 2 * b - 1 - k from fun k hk => by unfold unitN; rw [if_neg (by omega), if_pos (by omega)]; omega)
      have HFR := hid (show unitL (a : Int).toNat (b : Int).toNat = listS (2 * (a + b)) (unitN a b) by rw [Int.toNat_natCast, Int.toNat_natCast]; rfl)
      obtain ⟨N, hN⟩ : ∃ N, 2 * (a + b) = N := ⟨_, rfl⟩
      have HNN := hid hN
      have s3 := hid (show ∀ W, Calls Try.prog 57 #[.int .i64 (a : Int), .int .i64 (b : Int)] W fun e w' => e = .returned (.int .i64 (N : Int)) ∧ W = w' from fun W => by
        have := l2Ports_any a b W ha5 hb5
        rwa [show 2 * ((a : Int) + (b : Int)) = (N : Int) by omega] at this)
      rw [hN] at HM HFR
      have h20 : N ≤ 20 := by omega
      have hmk := run_make_row' (P := Try.prog) 23 3 (.int .i64 0) 8 Try.underlying23 Try.info_intRow rfl .i64 .i64 N (by omega) (by omega)
      generalize unitN a b = s at *
      clear hn hm hN
      have ha5i : (a : Int) ≤ 5 := by omega
      have hb5i : (b : Int) ≤ 5 := by omega
      have ha1i : 1 ≤ (a : Int) := by omega
      have hb1i : 1 ≤ (b : Int) := by omega
      have hN0 : 0 ≤ (N : Int) := by omega
      go_enter Try.func35, Try.ntmps35
      go_wp2_with fail
      refine (s1.out _).mono ?_
      rintro e w' ⟨rfl, rfl⟩
      go_wp2_with fail
      refine (s2.out _).mono ?_
      rintro e w' ⟨rfl, rfl⟩
      go_wp2_with fail
      refine (s3.out _).mono ?_
      rintro e w' ⟨rfl, rfl⟩
      go_wp2_with fail
      have M0 := hid (show (w.alloc (.cells (madeCells #[Value.int .i64 0] N) 3)).heap[w.heap.size]? = some (.cells (pairC (List.replicate N 0)) 3 (0, 0)) by rw [← made_pairC]; exact heap_new0 w _)
      have MB := hid ((Below.refl w.heap.size w).alloc (Nat.le_refl _) (.cells (madeCells #[Value.int .i64 0] N) 3))
      generalize World.alloc w _ = Y at M0 MB ⊢
      clear hmk
      go_loopw [7] (fun (iv : Value) (wr : World) => ∃ k : Nat, k ≤ b ∧ iv = .int .i64 k ∧ ∃ L : List Int, Hid (PairsIn L N (fun q => q < k) s) ∧ wr.heap[w.heap.size]? = some (.cells (pairC L) 3 (0, 0)) ∧ Below w.heap.size w wr) (fun i _ => b - (intOf i).toNat)
      case atStart => exact ⟨0, by omega, rfl, _, hid ⟨by simp, fun q _ hq => absurd hq (by omega)⟩, M0.out, MB.out⟩
      case round =>
        obtain ⟨k, hk, rfl, L, hl, hg, hb⟩ := hrel
        have HL := hl
        have HG := hid hg
        have HB := hid hb
        clear hl hg hb
        by_cases hlt : k < b
        · have hki : (k : Int) < (b : Int) := by omega
          obtain ⟨z, hz⟩ : ∃ z, a + 2 * b - 1 - k = z := ⟨_, rfl⟩
          have HSK := hid ((HA.out k hlt).trans hz)
          have hkN : k < N := by have := HNN.out; omega
          have hzN : z < N := by have := HNN.out; omega
          have HST := hid (pairsIn_step (V' := fun q => q < k + 1) HM.out HL.out hkN (fun q hq => by omega))
          rw [HSK.out] at HST
          have hzi : 2 * (b : Int) + (a : Int) - 1 - (k : Int) = (z : Int) := by omega
          obtain ⟨u, hu⟩ : ∃ u, (pairC L)[k]? = some u := ⟨_, Array.getElem?_eq_getElem (by rw [pairC_size, HL.out.1]; exact hkN)⟩
          obtain ⟨u', hu'⟩ : ∃ u, (pairC L)[z]? = some u := ⟨_, Array.getElem?_eq_getElem (by rw [pairC_size, HL.out.1]; exact hzN)⟩
          have hc : wr.cell? ⟨w.heap.size, k, none⟩ = some u := by rw [cell_of_row _ _ _ _ _ _ HG.out]; exact hu
          have hc' : wr.cell? ⟨w.heap.size, z, none⟩ = some u' := by rw [cell_of_row _ _ _ _ _ _ HG.out]; exact hu'
          have hf : wr.frozen? ⟨w.heap.size, k, none⟩ = false := frozen_of_row _ _ _ _ _ HG.out
          have hf' : wr.frozen? ⟨w.heap.size, z, none⟩ = false := frozen_of_row _ _ _ _ _ HG.out
          have hkz : ¬ k = z := by omega
          have hzk : ¬ z = k := by omega
          have hzNi : (z : Int) < (N : Int) := by omega
          have hkNi : (k : Int) < (N : Int) := by omega
          clear hu hu' hz
          go_wp2_with fail
          go_roundw
          case rel =>
            refine ⟨k + 1, by omega, by go_num, _, HST, ?_, ?_⟩
            · rw [← pairC_set, ← pairC_set]
              exact heap_setCell_same _ _ _ _ _ _ (heap_setCell_same _ _ _ _ _ _ HG.out)
            · exact (HB.out.setCell (p := ⟨w.heap.size, k, none⟩) (Nat.le_refl _) _).setCell (p := ⟨w.heap.size, z, none⟩) (Nat.le_refl _) _
          case measure => simp [intOf]; omega
        · obtain rfl : k = b := by omega
          have HL0 := hid (show PairsIn L N (fun q => q < k + 0) s from HL.out)
          clear HL
          go_wp2_with fail
          go_loopw [9] (fun (iv : Value) (wr : World) => ∃ j : Nat, j ≤ a ∧ iv = .int .i64 j ∧ ∃ L : List Int, Hid (PairsIn L N (fun q => q < k + j) s) ∧ wr.heap[w.heap.size]? = some (.cells (pairC L) 3 (0, 0)) ∧ Below w.heap.size w wr) (fun i _ => a - (intOf i).toNat)
          case atStart => exact ⟨0, by omega, rfl, _, HL0, HG.out, HB.out⟩
          case round =>
            clear HL0 HG HB
            obtain ⟨j, hj, rfl, L, hl, hg, hb⟩ := hrel
            have HL := hl
            have HG := hid hg
            have HB := hid hb
            clear hl hg hb
            by_cases hlt2 : j < a
            · have hji : (j : Int) < (a : Int) := by omega
              obtain ⟨y, hy⟩ : ∃ y, k + j = y := ⟨_, rfl⟩
              obtain ⟨z, hz⟩ : ∃ z, 2 * a + 2 * k - 1 - j = z := ⟨_, rfl⟩
              have HSK := hid (show s y = z by rw [← hy, ← hz]; exact HBb.out j hlt2)
              have hyN : y < N := by have := HNN.out; omega
              have hzN : z < N := by have := HNN.out; omega
              have HY := hid hy
              have HST := hid (pairsIn_step (V' := fun q => q < k + (j + 1)) HM.out HL.out hyN (fun q hq => by have := HY.out; omega))
              rw [HSK.out] at HST
              have hzi : (N : Int) - 1 - (j : Int) = (z : Int) := by have := HNN.out; omega
              have hyi : (k : Int) + (j : Int) = (y : Int) := by omega
              obtain ⟨u, hu⟩ : ∃ u, (pairC L)[y]? = some u := ⟨_, Array.getElem?_eq_getElem (by rw [pairC_size, HL.out.1]; exact hyN)⟩
              obtain ⟨u', hu'⟩ : ∃ u, (pairC L)[z]? = some u := ⟨_, Array.getElem?_eq_getElem (by rw [pairC_size, HL.out.1]; exact hzN)⟩
              have hc : wr.cell? ⟨w.heap.size, y, none⟩ = some u := by rw [cell_of_row _ _ _ _ _ _ HG.out]; exact hu
              have hc' : wr.cell? ⟨w.heap.size, z, none⟩ = some u' := by rw [cell_of_row _ _ _ _ _ _ HG.out]; exact hu'
              have hf : wr.frozen? ⟨w.heap.size, y, none⟩ = false := frozen_of_row _ _ _ _ _ HG.out
              have hf' : wr.frozen? ⟨w.heap.size, z, none⟩ = false := frozen_of_row _ _ _ _ _ HG.out
              have hkz : ¬ y = z := by omega
              have hzk : ¬ z = y := by omega
              have hzNi : (z : Int) < (N : Int) := by omega
              have hyNi : (y : Int) < (N : Int) := by omega
              have hN20i : (N : Int) ≤ 20 := by omega
              clear hu hu' hz hy
              go_wp2_with fail
              refine (s3.out _).mono ?_
              rintro e w' ⟨rfl, rfl⟩
              go_wp2_with fail
              go_roundw
              case rel =>
                refine ⟨j + 1, by omega, by go_num, _, HST, ?_, ?_⟩
                · rw [← pairC_set, ← pairC_set]
                  exact heap_setCell_same _ _ _ _ _ _ (heap_setCell_same _ _ _ _ _ _ HG.out)
                · exact (HB.out.setCell (p := ⟨w.heap.size, y, none⟩) (Nat.le_refl _) _).setCell (p := ⟨w.heap.size, z, none⟩) (Nat.le_refl _) _
              case measure => simp [intOf]; omega
            · obtain rfl : j = a := by omega
              have HE := hid (pairsIn_done HM.out HL.out (fun q hq => by have := HNN.out; exact HCV.out q (by omega)))
              have HRW := hid ((row8_pairC HG.out).ints (lt_of_block HG.out))
              have HLN := hid HL.out.1
              go_wp2_with fail
              refine bodyPost_ret (results_tmp2 rfl _ _ _) rfl ?_
              exact ⟨HB.out, some ⟨w.heap.size, 0, none⟩, N, L, true, by rw [HLN.out]; rfl, .inl ⟨HD.out, by rw [HFR.out]; exact HE.out, rfl⟩, HRW.out⟩
    · have s2 := hid (show ∀ W, Calls Try.prog 56 #[.int .i64 m, .int .i64 1, .int .i64 5] W fun e w' => e = .returned (.bool false) ∧ W = w' from fun W => by have := HS.out m W; rwa [decide_eq_false hm] at this)
      have HNo := hid (show ¬ ((1 ≤ (a : Int) ∧ (a : Int) ≤ 5) ∧ 1 ≤ m ∧ m ≤ 5) from fun h => hm h.2)
      clear hn hm
      go_enter Try.func35, Try.ntmps35
      go_wp2_with fail
      refine (s1.out _).mono ?_
      rintro e w' ⟨rfl, rfl⟩
      go_wp2_with fail
      refine (s2.out _).mono ?_
      rintro e w' ⟨rfl, rfl⟩
      go_wp2_with fail
      refine bodyPost_ret (results_tmp2 rfl _ _ _) rfl ?_
      exact ⟨(Below.refl _ _).alloc (Nat.le_refl _) _, _, _, [], false, rfl, .inr ⟨HNo.out, rfl, rfl⟩, fun h => absurd h (by simp)⟩
  · have s1 := hid (show ∀ W, Calls Try.prog 56 #[.int .i64 n, .int .i64 1, .int .i64 5] W fun e w' => e = .returned (.bool false) ∧ W = w' from fun W => by have := HS.out n W; rwa [decide_eq_false hn] at this)
    have HNo := hid (show ¬ ((1 ≤ n ∧ n ≤ 5) ∧ 1 ≤ m ∧ m ≤ 5) from fun h => hn h.1)
    clear hn
    go_enter Try.func35, Try.ntmps35
    go_wp2_with fail
    refine (s1.out _).mono ?_
    rintro e w' ⟨rfl, rfl⟩
    go_wp2_with fail
    refine bodyPost_ret (results_tmp2 rfl _ _ _) rfl ?_
    exact ⟨(Below.refl _ _).alloc (Nat.le_refl _) _, _, _, [], false, rfl, .inr ⟨HNo.out, rfl, rfl⟩, fun h => absurd h (by simp)⟩
end Go.Proofs.Ytkooahfpogcmiaa
