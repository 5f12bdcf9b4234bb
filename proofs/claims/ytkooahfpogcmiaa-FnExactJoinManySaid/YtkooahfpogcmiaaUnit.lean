/- The pairing of empty grids: unitPairing, JoinUnit of the program, by their contracts. -/
import Derived.Test.YtkooahfpogcmiaaJoinFt
namespace Go.Proofs.Ytkooahfpogcmiaa
open Go.RowKit Go.Shelf

/-- The pairing of the ends of rows and columns. -/
def unitL (n m : Nat) : List Int := listS (2 * (n + m)) (unitN n m)
theorem unitL_length (n m : Nat) : (unitL n m).length = 2 * (n + m) := listS_length _ _
theorem unitN_cover {n m q : Nat} (hq : q < 2 * (n + m)) : q < m + n ∨ unitN n m q < m + n := by
  rcases Nat.lt_or_ge q (m + n) with h | h
  · exact .inl h
  · right
    unfold unitN
    rw [if_neg (by omega), if_neg (by omega)]
    split <;> omega
theorem unitL_pair {n m : Nat} (h1 : 1 ≤ n) (h2 : 1 ≤ m) (h3 : n ≤ 5) (h4 : m ≤ 5) : IsPair (unitL n m) := listS_pair unitN_mates (by omega) (by omega)
/-- What the operations hand back that tell both ends of a row. -/
def rowRel (g n m k : Nat) (cs : Array Value) (i : Nat) (v : Value) (_ : World) : Prop :=
  match i with
  | 0 => v = .pointer (some ⟨g, 0, none⟩)
  | 1 => v = .agg cs
  | 2 => v = .int .i64 (k : Int)
  | 3 => v = .int .i64 ((m + k : Nat) : Int)
  | 4 => v = .agg cs
  | 5 => v = .int .i64 (k : Int)
  | 6 => v = .int .i64 ((2 * n + 2 * m - 1 - k : Nat) : Int)
  | _ => True

set_option maxRecDepth 100000 in
set_option maxHeartbeats 4000000 in
theorem unitPairing_any (n m : Nat) (w : World) (hn1 : 1 ≤ n) (hn : n ≤ 5) (hm1 : 1 ≤ m) (hm : m ≤ 5) :
    Calls Try.prog 59 #[.int .i64 (n : Int), .int .i64 (m : Int)] w fun e w' => e = .returned (.agg (pairC (joinL (padTo (unitL n m)) n m 0))) ∧ Below w.heap.size w w' := by
  have HUN := hid (fun w' => unpaired_any w')
  have HRE := hid (fun (L : List Int) k W (hL : L.length = 20) (hk : k < n) => rightEnd_any L n m 0 k W hL hm (by omega))
  have HLO := hid (fun (L : List Int) k W (hL : L.length = 20) (hk : k < m) => lowerEnd_any L n m 0 k W hL hn hm hk)
  have HLE := hid (fun (L : List Int) k W (hL : L.length = 20) (hk : k < n) => leftEnd_any L n m 0 k W hL hn hm hk)
  have HM := hid (unitN_mates (n := n) (m := m))
  have HNM := hid (names_id (2 * (n + m)))
  have HLP := hid (padTo_length (l := unitL n m) (by rw [unitL_length]; omega))
  have HTL := hid (show padTo (unitL n m) = padTo (listS (2 * (n + m)) (renS (fun q => q) (fun q => q) (unitN n m))) from rfl)
  have HCV := hid (fun q => unitN_cover (n := n) (m := m) (q := q))
  have HA := hid (show ∀ k, k < m → unitN n m k = n + 2 * m - 1 - k from fun k hk => by unfold unitN; rw [if_pos hk])
  have HBb := hid (show ∀ k, k < n → unitN n m (m + k) = 2 * n + 2 * m - 1 - k from fun k hk => by unfold unitN; rw [if_neg (by omega), if_pos (by omega)]; omega)
  obtain ⟨P, hP⟩ : ∃ P, 2 * (n + m) = P := ⟨_, rfl⟩
  rw [hP] at HM HNM HTL
  have HPP := hid hP
  have h20 : P ≤ 20 := by omega
  generalize padTo (unitL n m) = TL at *
  generalize unitN n m = s at *
  clear hP
  have H0 := hid (heap_new0 w (.cells zeroJ 51))
  have HB := hid ((Below.refl w.heap.size w).alloc (Nat.le_refl _) (.cells zeroJ 51))
  have HSI := hid (size_joinL (l := idL) rfl n m 0)
  have HZI := hid (zero_joinL (l := idL) rfl n m 0)
  go_enter Try.func59, Try.ntmps59
  go_wp2_with fail
  generalize World.alloc w _ = Y at H0 HB ⊢
  refine (HUN.out _).mono ?_
  rintro e w1 ⟨rfl, hb1⟩
  have I0 := hid ((hb1.block _ (lt_of_block H0.out)).trans H0.out)
  have IB := hid (HB.out.trans (hb1.mono HB.out.size))
  have IL := hid (lt_of_block I0.out)
  clear hb1
  have N0 := hid (heap_new0 w1 (.cells zeroJ 51))
  have K1 := hid (setRow_heap _ _ _ (pairC (joinL idL n m 0)) _ _ N0.out)
  have K0 := hid (show ((w1.alloc (.cells zeroJ 51)).setRow w1.heap.size (pairC (joinL idL n m 0))).heap[w.heap.size]? = some (.cells zeroJ 51 (0, 0)) by
    rw [setRow_other _ _ _ _ (by have := IL.out; omega), Below.heap_alloc _ _ _ IL.out]; exact I0.out)
  have KB := hid (below_setRow' (IB.out.alloc IB.out.size (.cells zeroJ 51)) IB.out.size (pairC (joinL idL n m 0)))
  generalize hX : (w1.alloc (.cells zeroJ 51)).setRow w1.heap.size (pairC (joinL idL n m 0)) = X at K0 K1 KB
  have HX := hid hX
  clear hX
  go_wp2_with (first
    | refine wpList_exec rfl (exec_build3 _ _ _ rfl idL n m rfl rfl rfl rfl) ?_
    | (refine wpList_store_row rfl 51 _ _ rfl w1.heap.size (pairC (joinL idL n m 0)) rfl rfl 51 zeroJ N0.out HSI.out HZI.out (pairC_one _) ?_; rw [HX.out]))
  go_loopw [13] (fun (iv : Value) (wr : World) => ∃ k : Nat, k ≤ m ∧ iv = .int .i64 k ∧ ∃ L : List Int, Hid (PairsUp L P (fun q => q < k) (fun q => q) s) ∧ wr.heap[w1.heap.size]? = some (.cells (pairC (joinL L n m 0)) 51 (0, 0)) ∧ wr.heap[w.heap.size]? = some (.cells zeroJ 51 (0, 0)) ∧ Below w.heap.size w wr) (fun i _ => m - (intOf i).toNat)
  case atStart => exact ⟨0, by omega, rfl, idL, hid (pairs_none (fun q hq => absurd hq (by omega))), K1.out, K0.out, KB.out⟩
  case round =>
    obtain ⟨k, hk, rfl, L, hL, hg, h0, hb⟩ := hrel
    have HL := hL
    have B0 := hid h0
    have B1 := hid hg
    have BB := hid hb
    clear hL h0 hg hb
    by_cases hlt : k < m
    · have hki : (k : Int) < (m : Int) := by omega
      have HSL := hid (size_joinL HL.out.1 n m 0)
      go_wp2_with (refine wpList_load_row rfl 51 _ rfl w1.heap.size rfl 51 (pairC (joinL L n m 0)) (0, 0) _ B1.out Try.underlying51 rfl HSL.out ?_)
      refine (HLO.out L k _ HL.out.1 hlt).mono ?_
      rintro e w2 ⟨rfl, hb2⟩
      have C0 := hid ((hb2.block _ (lt_of_block B0.out)).trans B0.out)
      have C1 := hid ((hb2.block _ (lt_of_block B1.out)).trans B1.out)
      have CB := hid (BB.out.trans (hb2.mono BB.out.size))
      clear hb2
      obtain ⟨z, hz⟩ : ∃ z, n + 2 * m - 1 - k = z := ⟨_, rfl⟩
      have HSK := hid ((HA.out k hlt).trans hz)
      have HPA := hid (pair_any w1.heap.size k z _ _ w2 C1.out (by rw [pairC_size, joinL_length HL.out.1]; omega) (by omega) (by omega) (by omega))
      have HZ20 := hid (show k < 20 ∧ z < 20 by omega)
      have hkP : k < P := by have := HPP.out; omega
      rw [hz]
      clear hz
      go_wp2_with fail
      refine HPA.out.mono ?_
      rintro e w3 ⟨rfl, hpr, hbut⟩
      have HG3 := hid (hpr.trans (by rw [paired_joinL HL.out.1 HZ20.out.1 HZ20.out.2]))
      have D0 := hid ((hbut.block _ (lt_of_block C0.out) (by have := IL.out; omega)).trans C0.out)
      have DB := hid (CB.out.trans (hbut.below IB.out.size CB.out.size))
      clear hpr hbut
      go_wp2_with fail
      go_roundw
      case rel =>
        refine ⟨k + 1, by omega, by go_num, _, hid (pairs_step (g := fun q => q) (s := s) h20 HNM.out HM.out HL.out hkP (V' := fun q => q < k + 1) (fun q hq => by omega)), ?_, D0.out, DB.out⟩
        rw [HSK.out]
        exact HG3.out
      case measure => simp [intOf]; omega
    · obtain rfl : k = m := by omega
      have HL0 := hid (show PairsUp L P (fun q => q < k + 0) (fun q => q) s from HL.out)
      clear HL
      go_wp2_with fail
      go_loopw [24] (fun (iv : Value) (wr : World) => ∃ j : Nat, j ≤ n ∧ iv = .int .i64 j ∧ ∃ L : List Int, Hid (PairsUp L P (fun q => q < k + j) (fun q => q) s) ∧ wr.heap[w1.heap.size]? = some (.cells (pairC (joinL L n k 0)) 51 (0, 0)) ∧ wr.heap[w.heap.size]? = some (.cells zeroJ 51 (0, 0)) ∧ Below w.heap.size w wr) (fun i _ => n - (intOf i).toNat)
      case atStart => exact ⟨0, by omega, rfl, L, HL0, B1.out, B0.out, BB.out⟩
      case round =>
        clear HL0 B0 B1 BB
        obtain ⟨j, hj, rfl, L, hL, hg, h0, hb⟩ := hrel
        have HL := hL
        have B0 := hid h0
        have B1 := hid hg
        have BB := hid hb
        clear hL h0 hg hb
        by_cases hlt2 : j < n
        · have hji : (j : Int) < (n : Int) := by omega
          have HSL := hid (size_joinL HL.out.1 n k 0)
          go_wp2_with fail
          refine wp_region_rel_tail (by kernel_rfl) 7 (by kernel_rfl) (fun us => { tmps := #[.int .i64 (n : Int), .int .i64 (k : Int), undef, undef, .pointer (some ⟨w.heap.size, 0, none⟩), .pointer (some ⟨w1.heap.size, 0, none⟩), u6, .int .i64 (j : Int), .agg (pairC idL), .int .i64 (n : Int), .int .i64 (k : Int), .agg (pairC (joinL idL n k 0)), .int .i64 (k : Int), .int .i64 (k : Int), .bool false, u15, u16, u17, u18, u19, u20, u21, u22,
            .int .i64 (n : Int), .int .i64 (j : Int), .bool true, .int .i64 (j : Int), us 0, us 1, us 2, us 3, us 4, us 5, us 6, u34, u35, undef], defers := [] }) (fun i => if i = 0 then u27 else if i = 1 then u28 else if i = 2 then u29 else if i = 3 then u30 else if i = 4 then u31 else if i = 5 then u32 else u33) rfl (rowRel w1.heap.size n k j (pairC (joinL L n k 0))) (fun i v W W' h hb => h) (fun i us v hi => ?_) (fun i us W hi hb hd => ?_) (fun us W hb hr => ?_)
          · match i, hi with
            | 0, _ => rfl
            | 1, _ => rfl
            | 2, _ => rfl
            | 3, _ => rfl
            | 4, _ => rfl
            | 5, _ => rfl
            | 6, _ => rfl
          · have L1 := hid ((hb.block _ (lt_of_block B1.out)).trans B1.out)
            match i, hi with
            | 0, _ => exact wpOp_val rfl rfl (by go_simp) rfl
            | 1, _ => exact wpOp_val rfl rfl (exec_load_row 51 _ rfl w1.heap.size rfl 51 (pairC (joinL L n k 0)) (0, 0) _ L1.out Try.underlying51 rfl HSL.out) rfl
            | 2, _ => exact wpOp_val rfl rfl (by go_simp) rfl
            | 3, _ =>
              have h0 : us 1 = _ := hd _ rfl { on := 1, ground := .data } (by simp) rfl
              have h1 : us 2 = _ := hd _ rfl { on := 2, ground := .data } (by simp) rfl
              rw [h0, h1]
              exact wpOp_call rfl rfl (by go_simp) ((HRE.out L j W HL.out.1 hlt2).mono fun e w'' ⟨he, hb'⟩ => ⟨_, he, rfl, hb'⟩)
            | 4, _ => exact wpOp_val rfl rfl (exec_load_row 51 _ rfl w1.heap.size rfl 51 (pairC (joinL L n k 0)) (0, 0) _ L1.out Try.underlying51 rfl HSL.out) rfl
            | 5, _ => exact wpOp_val rfl rfl (by go_simp) rfl
            | 6, _ =>
              have h0 : us 4 = _ := hd _ rfl { on := 4, ground := .data } (by simp) rfl
              have h1 : us 5 = _ := hd _ rfl { on := 5, ground := .data } (by simp) rfl
              rw [h0, h1]
              exact wpOp_call rfl rfl (by go_simp) ((HLE.out L j W HL.out.1 hlt2).mono fun e w'' ⟨he, hb'⟩ => ⟨_, he, rfl, hb'⟩)
          · have h0 : us 0 = _ := hr 0 (by omega)
            have h1 : us 1 = _ := hr 1 (by omega)
            have h2 : us 2 = _ := hr 2 (by omega)
            have h3 : us 3 = _ := hr 3 (by omega)
            have h4 : us 4 = _ := hr 4 (by omega)
            have h5 : us 5 = _ := hr 5 (by omega)
            have h6 : us 6 = _ := hr 6 (by omega)
            rw [h0, h1, h2, h3, h4, h5, h6]
            have L0 := hid ((hb.block _ (lt_of_block B0.out)).trans B0.out)
            have L1 := hid ((hb.block _ (lt_of_block B1.out)).trans B1.out)
            have LB := hid (BB.out.trans (hb.mono BB.out.size))
            clear h0 h1 h2 h3 h4 h5 h6 hr hb
            obtain ⟨y, hy⟩ : ∃ y, k + j = y := ⟨_, rfl⟩
            obtain ⟨z, hz⟩ : ∃ z, 2 * n + 2 * k - 1 - j = z := ⟨_, rfl⟩
            have HSK := hid (show s y = z by rw [← hy, ← hz]; exact HBb.out j hlt2)
            have HPA := hid (pair_any w1.heap.size y z _ _ W L1.out (by rw [pairC_size, joinL_length HL.out.1]; omega) (by omega) (by omega) (by omega))
            have HZ20 := hid (show y < 20 ∧ z < 20 by omega)
            have hyP : y < P := by have := HPP.out; omega
            have HY := hid hy
            rw [hy, hz]
            clear hy hz
            go_wp2_with fail
            refine HPA.out.mono ?_
            rintro e w3 ⟨rfl, hpr, hbut⟩
            have HG3 := hid (hpr.trans (by rw [paired_joinL HL.out.1 HZ20.out.1 HZ20.out.2]))
            have D0 := hid ((hbut.block _ (lt_of_block L0.out) (by have := IL.out; omega)).trans L0.out)
            have DB := hid (LB.out.trans (hbut.below IB.out.size LB.out.size))
            clear hpr hbut
            go_wp2_with fail
            go_roundw
            case rel =>
              refine ⟨j + 1, by omega, by go_num, _, hid (pairs_step (g := fun q => q) (s := s) h20 HNM.out HM.out HL.out hyP (V' := fun q => q < k + (j + 1)) (fun q hq => by have := HY.out; omega)), ?_, D0.out, DB.out⟩
              rw [HSK.out]
              exact HG3.out
            case measure => simp [intOf]; omega
        · obtain rfl : j = n := by omega
          have HTL2 := hid (HTL.out.trans (pairs_done h20 HNM.out HM.out HL.out (fun q hq => by have := HPP.out; exact HCV.out q (by omega))).symm)
          rw [← HTL2.out] at B1
          have HSZ := hid (size_joinL HLP.out j k 0)
          have HZZ2 := hid (zero_joinL HLP.out j k 0)
          go_wp2_with (first
            | refine wpList_load_row rfl 51 _ rfl w1.heap.size rfl 51 (pairC (joinL TL j k 0)) (0, 0) _ B1.out Try.underlying51 rfl HSZ.out ?_
            | refine wpList_store_row rfl 51 _ _ rfl w.heap.size (pairC (joinL TL j k 0)) rfl rfl 51 zeroJ B0.out HSZ.out HZZ2.out (pairC_one _) ?_)
          refine bodyPost_ret (results_cell_row Try.results59 _ _ w.heap.size 51 _ (0, 0) _ (by rfl) (setRow_heap _ _ _ _ _ _ B0.out) Try.underlying51 rfl HSZ.out) rfl ⟨rfl, ?_⟩
          exact below_setRow' BB.out (Nat.le_refl _) _
end Go.Proofs.Ytkooahfpogcmiaa
