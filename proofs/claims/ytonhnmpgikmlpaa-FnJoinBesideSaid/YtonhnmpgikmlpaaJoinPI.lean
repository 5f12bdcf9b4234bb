/- readBeside, JoinPairs, JoinRounds of the program, by their contracts. -/
import Derived.Test.YtonhnmpgikmlpaaBesideJ
namespace Go.Proofs.Ytonhnmpgikmlpaa
open Go.RowKit Go.Shelf

/-- The lists can be joined. -/
def TwoOf (n m : Int) (a : List Int) (k : Int) (b : List Int) : Prop := PairOf n m a ∧ PairOf n k b ∧ m + k ≤ 5
/-- What readBeside comes to. -/
def BReadEnd (n m : Int) (a : List Int) (k : Int) (b : List Int) (e : Ending) : Prop :=
  (∃ N M K : Nat, n = (N : Int) ∧ m = (M : Int) ∧ k = (K : Int) ∧ TwoOf n m a k b ∧ e = .returned (.tuple #[.agg (pairC (joinL (padTo (joinedL N M a b)) N (M + K) (joinedR N M a b))), .bool true])) ∨ (¬ TwoOf n m a k b ∧ e = .returned (.tuple #[.agg zeroJ, .bool false]))
theorem JReadEnd.some {n m : Int} {l : List Int} {e : Ending} (h : JReadEnd n m l e) : ∃ cs bb, e = .returned (.tuple #[.agg cs, .bool bb]) ∧ cs.size = 23 ∧ cs.all (·.oneCell') = true ∧ (bb = true → ∃ a b : Nat, n = (a : Int) ∧ m = (b : Int) ∧ PairOf n m l ∧ cs = pairC (joinL (padTo l) a b 0)) ∧ (bb = false → ¬ PairOf n m l) := by
  rcases h with ⟨a, b, h1, h2, hp, rfl⟩ | ⟨hp, rfl⟩
  · exact ⟨_, _, rfl, by rw [pairC_size, joinL_length (padTo_length hp.2.2.1.2.1)], pairC_one _, fun _ => ⟨a, b, h1, h2, hp, rfl⟩, (fun h => by cases h)⟩
  · exact ⟨_, _, rfl, rfl, zeroJ_one, (fun h => by cases h), fun _ => hp⟩
theorem joinedL_pair {n m k : Nat} {a b : List Int} (h : TwoOf (n : Int) (m : Int) a (k : Int) b) : IsPair (joinedL n m a b) ∧ (joinedL n m a b).length = 2 * (n + (m + k)) := by
  obtain ⟨h1, h2, h3⟩ := h
  have l1 := h1.2.2.2
  have l2 := h2.2.2.2
  have b1 := h1.1
  have b2 := h1.2.1
  have b3 := h2.2.1
  have hP : joinP n a b = 2 * (n + (m + k)) := by unfold joinP; omega
  refine ⟨listS_pair (joinS_mates h1.2.2.1 h2.2.2.1 (by omega) (by omega)) (by omega) (by omega), by rw [joinedL_length, hP]⟩
theorem joinedR_le (n m : Nat) (a b : List Int) : joinedR n m a b ≤ a.length + b.length := roundsTo_le _

set_option maxRecDepth 100000 in
set_option maxHeartbeats 4000000 in
theorem readBeside_any (n m : Int) (A : Option Addr) (c : Nat) (a : List Int) (k : Int) (A2 : Option Addr) (c2 : Nat) (b : List Int) (w : World) (h : Ints w w.heap.size A a) (h2 : Ints w w.heap.size A2 b) (hl : a.length ≤ 1048576) (hl2 : b.length ≤ 1048576) :
    Calls Try.prog 100 #[.int .i64 n, .int .i64 m, .slice A a.length c, .int .i64 k, .slice A2 b.length c2] w fun e w' => BReadEnd n m a k b e ∧ Below w.heap.size w w' := by
  have HR := hid (fun W (hb : Below w.heap.size w W) => readJoined_any n m A c a W ((h.below hb (Nat.le_refl _)).more hb.size) hl)
  have HR2 := hid (fun W (hb : Below w.heap.size w W) => readJoined_any n k A2 c2 b W ((h2.below hb (Nat.le_refl _)).more hb.size) hl2)
  have HS := hid (fun x W => sideIn_any x W)
  obtain ⟨la, hla⟩ : ∃ la, a.length = la := ⟨_, rfl⟩
  obtain ⟨lb, hlb⟩ : ∃ lb, b.length = lb := ⟨_, rfl⟩
  have HLL := hid (And.intro hla hlb)
  rw [hla] at HR ⊢
  rw [hlb] at HR2 ⊢
  clear h h2 hla hlb hl hl2
  have H0 := hid (heap_new0 w (.cells zeroJ 101))
  have HB := hid ((Below.refl w.heap.size w).alloc (Nat.le_refl _) (.cells zeroJ 101))
  go_enter Try.func100, Try.ntmps100
  go_wp2_with fail
  generalize World.alloc w _ = Y at H0 HB ⊢
  refine (HR.out _ HB.out).mono ?_
  rintro e w1 ⟨hend, hb1⟩
  obtain ⟨cs1, bb1, rfl, hs1, ho1, ht1, hf1⟩ := hend.some
  have I0 := hid ((hb1.block _ (lt_of_block H0.out)).trans H0.out)
  have IB := hid (HB.out.trans (hb1.mono HB.out.size))
  have IL := hid (lt_of_block I0.out)
  have HT1 := hid ht1
  have HF1 := hid hf1
  have HO1 := hid ho1
  have HS1 := hid (show (Try.prog.info? 101).map (·.size) = some cs1.size by rw [hs1]; exact Try.size_joined)
  have HZ1 := hid (show zeroJ.size = cs1.size by rw [hs1]; rfl)
  have N0 := hid (heap_new0 w1 (.cells zeroJ 101))
  have hbx := hid (show Below w1.heap.size w1 ((w1.alloc (.cells zeroJ 101)).setRow w1.heap.size cs1) from below_setRow' ((Below.refl w1.heap.size w1).alloc (Nat.le_refl _) _) (Nat.le_refl _) _)
  have X1 := hid (setRow_heap _ _ _ cs1 _ _ N0.out)
  generalize hX : (w1.alloc (.cells zeroJ 101)).setRow w1.heap.size cs1 = X at hbx X1
  have HX := hid hX
  have X0 := hid ((hbx.out.block _ IL.out).trans I0.out)
  have XB := hid (IB.out.trans (hbx.out.mono IB.out.size))
  clear hb1 hend ht1 hf1 ho1 hs1 hX
  go_wp2_with (refine wpList_store_row rfl 101 _ _ rfl w1.heap.size cs1 rfl rfl 101 zeroJ N0.out HS1.out HZ1.out HO1.out ?_; rw [HX.out])
  refine (HR2.out _ XB.out).mono ?_
  rintro e w2 ⟨hend, hb2⟩
  obtain ⟨cs2, bb2, rfl, hs2, ho2, ht2, hf2⟩ := hend.some
  have J0 := hid ((hb2.block _ (lt_of_block X0.out)).trans X0.out)
  have J1 := hid ((hb2.block _ (lt_of_block X1.out)).trans X1.out)
  have JB := hid (XB.out.trans (hb2.mono XB.out.size))
  have JL := hid (lt_of_block J1.out)
  have HT2 := hid ht2
  have HF2 := hid hf2
  have HO2 := hid ho2
  have HS2 := hid (show (Try.prog.info? 101).map (·.size) = some cs2.size by rw [hs2]; exact Try.size_joined)
  have HZ2 := hid (show zeroJ.size = cs2.size by rw [hs2]; rfl)
  have M0 := hid (heap_new0 w2 (.cells zeroJ 101))
  have hby := hid (show Below w2.heap.size w2 ((w2.alloc (.cells zeroJ 101)).setRow w2.heap.size cs2) from below_setRow' ((Below.refl w2.heap.size w2).alloc (Nat.le_refl _) _) (Nat.le_refl _) _)
  have Z2 := hid (setRow_heap _ _ _ cs2 _ _ M0.out)
  generalize hZ : (w2.alloc (.cells zeroJ 101)).setRow w2.heap.size cs2 = Z at hby Z2
  have HZ := hid hZ
  have Z0 := hid ((hby.out.block _ (lt_of_block J0.out)).trans J0.out)
  have Z1 := hid ((hby.out.block _ JL.out).trans J1.out)
  have ZB := hid (JB.out.trans (hby.out.mono JB.out.size))
  clear hb2 hend ht2 hf2 ho2 hs2 hZ
  have fin : ∀ (tmps : Array Value), ¬ TwoOf n m a k b → tmps.getD 10 undef = .pointer (some ⟨w.heap.size, 0, none⟩) → tmps.getD 11 undef = .bool false →
      bodyPost Try.prog Try.f100 (fun e w' => BReadEnd n m a k b e ∧ Below w.heap.size w w') .ret { tmps := tmps, defers := [] } (Z.setRow w.heap.size zeroJ) := fun tmps hno h6 h7 => by
    refine bodyPost_ret (results_row_tmp Try.results100 _ w.heap.size 101 _ (0, 0) _ h6 (setRow_heap _ _ _ _ _ _ Z0.out) Try.underlying101 rfl Try.size_joined) rfl ⟨.inr ⟨hno, by rw [h7]⟩, ?_⟩
    exact below_setRow' ZB.out (Nat.le_refl _) _
  cases bb1 with
  | false =>
    have HNO := hid (show ¬ TwoOf n m a k b from fun h => HF1.out rfl h.1)
    go_wp2_with (first
      | (refine wpList_store_row rfl 101 _ _ rfl w2.heap.size cs2 rfl rfl 101 zeroJ M0.out HS2.out HZ2.out HO2.out ?_; rw [HZ.out])
      | refine wpList_store_row rfl 101 _ _ rfl w.heap.size zeroJ rfl rfl 101 zeroJ Z0.out Try.size_joined rfl zeroJ_one ?_)
    refine fin _ HNO.out ?_ ?_ <;> rfl
  | true =>
    cases bb2 with
    | false =>
      have HNO := hid (show ¬ TwoOf n m a k b from fun h => HF2.out rfl h.2.1)
      go_wp2_with (first
        | (refine wpList_store_row rfl 101 _ _ rfl w2.heap.size cs2 rfl rfl 101 zeroJ M0.out HS2.out HZ2.out HO2.out ?_; rw [HZ.out])
        | refine wpList_store_row rfl 101 _ _ rfl w.heap.size zeroJ rfl rfl 101 zeroJ Z0.out Try.size_joined rfl zeroJ_one ?_)
      refine fin _ HNO.out ?_ ?_ <;> rfl
    | true =>
      obtain ⟨N, M, rfl, rfl, hpa, hc1⟩ := HT1.out rfl
      obtain ⟨N', K, hNN, rfl, hpb, hc2⟩ := HT2.out rfl
      obtain rfl : N = N' := by omega
      have HPA := hid hpa
      have HPB := hid hpb
      have hM5 : (M : Int) ≤ 5 := hpa.2.1.2
      have hM1 : 1 ≤ (M : Int) := hpa.2.1.1
      have hK5 : (K : Int) ≤ 5 := hpb.2.1.2
      have hK1 : 1 ≤ (K : Int) := hpb.2.1.1
      have HC1 := hid hc1
      have HC2 := hid hc2
      clear hpa hpb hNN hc1 hc2
      by_cases hs : (M : Int) + (K : Int) ≤ 5
      · have s1 := hid (show ∀ W, Calls Try.prog 97 #[.int .i64 ((M : Int) + (K : Int))] W fun e w' => e = .returned (.bool true) ∧ W = w' from fun W => by have := HS.out ((M : Int) + (K : Int)) W; rwa [decide_eq_true ⟨by omega, hs⟩] at this)
        have HTW := hid (show TwoOf (N : Int) (M : Int) a (K : Int) b from ⟨HPA.out, HPB.out, hs⟩)
        have HBS := hid (fun W => beside_any a b N M K 0 0 W HPA.out.2.2.1 HPB.out.2.2.1 (by have := HPA.out.1; omega) (by have := HPA.out.1; omega) (by omega) (by omega) (by omega) (by have := HPA.out.2.2.2; omega) (by have := HPB.out.2.2.2; omega) (by omega) (by omega))
        rw [← HC1.out, ← HC2.out] at HBS
        simp only [Nat.zero_add] at HBS
        have HJP := hid (joinedL_pair HTW.out).1
        have HSZ := hid (size_joinL (padTo_length HJP.out.2.1) N (M + K) (joinedR N M a b))
        have HZZ := hid (zero_joinL (padTo_length HJP.out.2.1) N (M + K) (joinedR N M a b))
        have HON := hid (pairC_one (joinL (padTo (joinedL N M a b)) N (M + K) (joinedR N M a b)))
        have HEND := hid (show ∀ cs, pairC (joinL (padTo (joinedL N M a b)) N (M + K) (joinedR N M a b)) = cs → BReadEnd (N : Int) (M : Int) a (K : Int) b (.returned (.tuple #[.agg cs, .bool true])) from fun cs h => .inl ⟨N, M, K, rfl, rfl, rfl, HTW.out, by rw [h]⟩)
        obtain ⟨CC, hCC⟩ : ∃ CC, pairC (joinL (padTo (joinedL N M a b)) N (M + K) (joinedR N M a b)) = CC := ⟨_, rfl⟩
        have HE := hid (HEND.out CC hCC)
        rw [hCC] at HBS HSZ HZZ HON
        clear hCC hs
        go_wp2_with (refine wpList_store_row rfl 101 _ _ rfl w2.heap.size cs2 rfl rfl 101 zeroJ M0.out HS2.out HZ2.out HO2.out ?_; rw [HZ.out])
        refine (s1.out _).mono ?_
        rintro e w' ⟨rfl, rfl⟩
        go_wp2_with (first
          | refine wpList_load_row rfl 101 _ rfl w1.heap.size rfl 101 cs1 (0, 0) _ Z1.out Try.underlying101 rfl HS1.out ?_
          | refine wpList_load_row rfl 101 _ rfl w2.heap.size rfl 101 cs2 (0, 0) _ Z2.out Try.underlying101 rfl HS2.out ?_)
        refine (HBS.out _).mono ?_
        rintro e w3 ⟨rfl, hb3⟩
        have L0 := hid ((hb3.block _ (lt_of_block Z0.out)).trans Z0.out)
        have LB := hid (ZB.out.trans (hb3.mono ZB.out.size))
        clear hb3
        go_wp2_with (refine wpList_store_row rfl 101 _ _ rfl w.heap.size CC rfl rfl 101 zeroJ L0.out HSZ.out HZZ.out HON.out ?_)
        refine bodyPost_ret (results_row_tmp Try.results100 _ w.heap.size 101 _ (0, 0) _ rfl (setRow_heap _ _ _ _ _ _ L0.out) Try.underlying101 rfl HSZ.out) rfl ⟨HE.out, ?_⟩
        exact below_setRow' LB.out (Nat.le_refl _) _
      · have s1 := hid (show ∀ W, Calls Try.prog 97 #[.int .i64 ((M : Int) + (K : Int))] W fun e w' => e = .returned (.bool false) ∧ W = w' from fun W => by have := HS.out ((M : Int) + (K : Int)) W; rwa [decide_eq_false (fun h => hs h.2)] at this)
        have HNO := hid (show ¬ TwoOf (N : Int) (M : Int) a (K : Int) b from fun h => hs h.2.2)
        clear hs
        go_wp2_with (refine wpList_store_row rfl 101 _ _ rfl w2.heap.size cs2 rfl rfl 101 zeroJ M0.out HS2.out HZ2.out HO2.out ?_; rw [HZ.out])
        refine (s1.out _).mono ?_
        rintro e w' ⟨rfl, rfl⟩
        go_wp2_with (refine wpList_store_row rfl 101 _ _ rfl w.heap.size zeroJ rfl rfl 101 zeroJ Z0.out Try.size_joined rfl zeroJ_one ?_)
        refine fin _ HNO.out ?_ ?_ <;> rfl

set_option maxRecDepth 100000 in
set_option maxHeartbeats 4000000 in
theorem implJoinPairs_any (n m : Int) (A : Option Addr) (c : Nat) (a : List Int) (k : Int) (A2 : Option Addr) (c2 : Nat) (b : List Int) (w : World) (h : Ints w w.heap.size A a) (h2 : Ints w w.heap.size A2 b) (hl : a.length ≤ 1048576) (hl2 : b.length ≤ 1048576) :
    Calls Try.prog 39 #[.int .i64 n, .int .i64 m, .slice A a.length c, .int .i64 k, .slice A2 b.length c2] w fun e w' => Below w.heap.size w w' ∧ ∃ A' c' res ok, e = .returned (.tuple #[.slice A' res.length c', .bool ok]) ∧ LOut (TwoOf n m a k b) (joinedL n.toNat m.toNat a b) res ok ∧ Own3 w' w.heap.size A' res := by
  have H := hid (readBeside_any n m A c a k A2 c2 b w h h2 hl hl2)
  go_enter Try.func39, Try.ntmps39
  go_wp2_with fail
  refine H.out.mono ?_
  rintro e w1 ⟨⟨N, M, K, rfl, rfl, rfl, hp, rfl⟩ | ⟨hp, rfl⟩, hb⟩
  · have HD := hid hp
    have HJP := hid (joinedL_pair hp).1
    have hpl := padTo_length HJP.out.2.1
    have HSJ := hid (size_joinL hpl N (M + K) (joinedR N M a b))
    have HZJ := hid (zero_joinL hpl N (M + K) (joinedR N M a b))
    have HON := hid (pairC_one (joinL (padTo (joinedL N M a b)) N (M + K) (joinedR N M a b)))
    have HSP := hid (size_pairL hpl)
    have HPRE := hid (fun (j : Nat) (v : Value) (h : (pairC (padTo (joinedL N M a b)))[j]? = some v) => joinL_pre (n := N) (m := M + K) (r := joinedR N M a b) h)
    have HLI := hid (fun W => pair_plist (joinedL N M a b) W HJP.out)
    have HFR := hid (show joinedL (N : Int).toNat (M : Int).toNat a b = joinedL N M a b by rw [Int.toNat_natCast, Int.toNat_natCast])
    obtain ⟨CC, hCC⟩ : ∃ CC, pairC (joinL (padTo (joinedL N M a b)) N (M + K) (joinedR N M a b)) = CC := ⟨_, rfl⟩
    rw [hCC] at HSJ HZJ HON HPRE ⊢
    generalize joinedL N M a b = FR at *
    have N0 := hid (heap_new0 w1 (.cells zeroJ 101))
    have NB := hid (below_setRow' (hb.alloc hb.size (.cells zeroJ 101)) hb.size CC)
    have N1 := hid (setRow_heap _ _ _ CC _ _ N0.out)
    clear hb hp hpl hCC
    generalize hY : World.setRow (w1.alloc (.cells zeroJ 101)) w1.heap.size CC = Y at NB N1
    have HY := hid hY
    clear hY
    go_wp2_with (first
      | (refine wpList_store_row rfl 101 _ _ rfl w1.heap.size CC rfl rfl 101 zeroJ N0.out HSJ.out HZJ.out HON.out ?_; rw [HY.out])
      | refine wpList_exec rfl (exec_load_head 82 _ rfl w1.heap.size rfl 101 CC (0, 0) (pairC (padTo FR)) _ N1.out HPRE.out Try.underlying82 rfl HSP.out) ?_)
    refine (HLI.out _).mono ?_
    rintro e w3 ⟨v, rfl, hg3, hb3⟩
    obtain ⟨A', c', rfl, hown⟩ := (hg3.lower NB.out.size).own
    have HOW := hid hown
    have B3 := hid (NB.out.trans (hb3.mono NB.out.size))
    clear hg3 hb3 hown
    go_wp2_with fail
    refine bodyPost_ret (results_tmp2 rfl _ _ _) rfl ?_
    exact ⟨B3.out, A', c', FR, true, rfl, .inl ⟨HD.out, HFR.out.symm, rfl⟩, HOW.out⟩
  · have HNo := hid hp
    have HB := hid hb
    clear hb hp
    have N0 := hid (heap_new0 w1 (.cells zeroJ 101))
    have NB := hid (below_setRow' (HB.out.alloc HB.out.size (.cells zeroJ 101)) HB.out.size zeroJ)
    go_wp2_with (refine wpList_store_row rfl 101 _ _ rfl w1.heap.size zeroJ rfl rfl 101 zeroJ N0.out Try.size_joined rfl zeroJ_one ?_)
    refine bodyPost_ret (results_tmp2 rfl _ _ _) rfl ?_
    exact ⟨NB.out, none, 0, [], false, rfl, .inr ⟨HNo.out, rfl, rfl⟩, .inl ⟨rfl, rfl⟩⟩

set_option maxRecDepth 100000 in
set_option maxHeartbeats 4000000 in
theorem implJoinRounds_any (n m : Int) (A : Option Addr) (c : Nat) (a : List Int) (k : Int) (A2 : Option Addr) (c2 : Nat) (b : List Int) (w : World) (h : Ints w w.heap.size A a) (h2 : Ints w w.heap.size A2 b) (hl : a.length ≤ 1048576) (hl2 : b.length ≤ 1048576) :
    Calls Try.prog 42 #[.int .i64 n, .int .i64 m, .slice A a.length c, .int .i64 k, .slice A2 b.length c2] w fun e w' => Below w.heap.size w w' ∧ ∃ res ok, e = .returned (.tuple #[.int .i64 res, .bool ok]) ∧ IOut (TwoOf n m a k b) ((joinedR n.toNat m.toNat a b : Nat) : Int) res ok := by
  have H := hid (readBeside_any n m A c a k A2 c2 b w h h2 hl hl2)
  go_enter Try.func42, Try.ntmps42
  go_wp2_with fail
  refine H.out.mono ?_
  rintro e w1 ⟨⟨N, M, K, rfl, rfl, rfl, hp, rfl⟩ | ⟨hp, rfl⟩, hb⟩
  · have HD := hid hp
    have hpl := padTo_length (joinedL_pair hp).1.2.1
    have HSJ := hid (size_joinL hpl N (M + K) (joinedR N M a b))
    have HZJ := hid (zero_joinL hpl N (M + K) (joinedR N M a b))
    have HON := hid (pairC_one (joinL (padTo (joinedL N M a b)) N (M + K) (joinedR N M a b)))
    have HRC := hid (joinL_rounds hpl N (M + K) (joinedR N M a b))
    have HFR := hid (show ((joinedR (N : Int).toNat (M : Int).toNat a b : Nat) : Int) = ((joinedR N M a b : Nat) : Int) by rw [Int.toNat_natCast, Int.toNat_natCast])
    obtain ⟨CC, hCC⟩ : ∃ CC, pairC (joinL (padTo (joinedL N M a b)) N (M + K) (joinedR N M a b)) = CC := ⟨_, rfl⟩
    rw [hCC] at HSJ HZJ HON HRC ⊢
    generalize joinedR N M a b = R at *
    have N0 := hid (heap_new0 w1 (.cells zeroJ 101))
    have NB := hid (below_setRow' (hb.alloc hb.size (.cells zeroJ 101)) hb.size CC)
    have N1 := hid (setRow_heap _ _ _ CC _ _ N0.out)
    have hcell : (World.setRow (w1.alloc (.cells zeroJ 101)) w1.heap.size CC).cell? ⟨w1.heap.size, 22, none⟩ = some (.int .i64 (R : Int)) := by rw [cell_of_row _ _ _ _ _ _ N1.out]; exact HRC.out
    clear hb hp hpl hCC
    generalize hY : World.setRow (w1.alloc (.cells zeroJ 101)) w1.heap.size CC = Y at NB N1 hcell
    have HY := hid hY
    clear hY
    go_wp2_with (refine wpList_store_row rfl 101 _ _ rfl w1.heap.size CC rfl rfl 101 zeroJ N0.out HSJ.out HZJ.out HON.out ?_; rw [HY.out])
    refine bodyPost_ret (results_tmp2 rfl _ _ _) rfl ?_
    exact ⟨NB.out, (R : Int), true, rfl, .inl ⟨HD.out, HFR.out.symm, rfl⟩⟩
  · have HNo := hid hp
    have HB := hid hb
    clear hb hp
    have N0 := hid (heap_new0 w1 (.cells zeroJ 101))
    have NB := hid (below_setRow' (HB.out.alloc HB.out.size (.cells zeroJ 101)) HB.out.size zeroJ)
    go_wp2_with (refine wpList_store_row rfl 101 _ _ rfl w1.heap.size zeroJ rfl rfl 101 zeroJ N0.out Try.size_joined rfl zeroJ_one ?_)
    refine bodyPost_ret (results_tmp2 rfl _ _ _) rfl ?_
    exact ⟨NB.out, 0, false, rfl, .inr ⟨HNo.out, rfl, rfl⟩⟩
end Go.Proofs.Ytonhnmpgikmlpaa
