/- Pairings of rows and columns read, turned, flipped: readJoined, flipped, JoinFlip, JoinTurn of the program, by their contracts. -/
import Derived.Test.YtkkifpjeafchnaaRenM
import Derived.Test.YtkkifpjeafchnaaRelW
namespace Go.Proofs.Ytkkifpjeafchnaa
open Go.RowKit Go.Shelf

/-- The list is a pairing of so many rows and columns. -/
def PairOf (n m : Int) (l : List Int) : Prop := (1 ≤ n ∧ n ≤ 5) ∧ (1 ≤ m ∧ m ≤ 5) ∧ IsPair l ∧ (l.length : Int) = 2 * (n + m)
/-- What readJoined comes to. -/
def JReadEnd (n m : Int) (l : List Int) (e : Ending) : Prop := (∃ a b : Nat, n = (a : Int) ∧ m = (b : Int) ∧ PairOf n m l ∧ e = .returned (.tuple #[.agg (pairC (joinL (padTo l) a b 0)), .bool true])) ∨ (¬ PairOf n m l ∧ e = .returned (.tuple #[.agg zeroJ, .bool false]))

set_option maxRecDepth 100000 in
set_option maxHeartbeats 4000000 in
theorem readJoined_any (n m : Int) (A : Option Addr) (c : Nat) (l : List Int) (w : World) (h : Ints w w.heap.size A l) (hl : l.length ≤ 1048576) :
    Calls Try.prog 93 #[.int .i64 n, .int .i64 m, .slice A l.length c] w fun e w' => JReadEnd n m l e ∧ Below w.heap.size w w' := by
  have HR := hid (fun W (hb : Below w.heap.size w W) (hs : w.heap.size ≤ W.heap.size) => readPairing_any A c l W ((h.below hb (Nat.le_refl _)).more hs) hl)
  have HS := hid (fun x W => sideIn_any x W)
  obtain ⟨len, hlen⟩ : ∃ len, l.length = len := ⟨_, rfl⟩
  have HLEN := hid hlen
  rw [hlen] at HR ⊢
  clear h hlen
  have H0 := hid (heap_new0 w (.cells zeroJ 80))
  have HB := hid ((Below.refl w.heap.size w).alloc (Nat.le_refl _) (.cells zeroJ 80))
  go_enter Try.func93, Try.ntmps93
  go_wp2_with fail
  generalize World.alloc w _ = Y at H0 HB ⊢
  refine (HR.out _ HB.out HB.out.size).mono ?_
  rintro e w1 ⟨hend, hb1⟩
  have I0 := hid ((hb1.block _ (lt_of_block H0.out)).trans H0.out)
  have IB := hid (HB.out.trans (hb1.mono HB.out.size))
  have IL := hid (show w.heap.size < w1.heap.size from lt_of_block I0.out)
  clear hb1
  have N0 := hid (heap_new0 w1 (.cells zeroP 60))
  -- the end that fails, from whatever world
  have fin : ∀ (W : World) (tmps : Array Value), W.heap[w.heap.size]? = some (.cells zeroJ 80 (0, 0)) → Below w.heap.size w W → ¬ PairOf n m l → tmps.getD 6 undef = .pointer (some ⟨w.heap.size, 0, none⟩) → tmps.getD 7 undef = .bool false →
      bodyPost Try.prog Try.f93 (fun e w' => JReadEnd n m l e ∧ Below w.heap.size w w') .ret { tmps := tmps, defers := [] } (W.setRow w.heap.size zeroJ) := fun W tmps h0 hb hno h6 h7 => by
    refine bodyPost_ret (results_row_tmp Try.results93 _ w.heap.size 80 _ (0, 0) _ h6 (setRow_heap _ _ _ _ _ _ h0) Try.underlying80 rfl Try.size_joined) rfl ⟨.inr ⟨hno, by rw [h7]⟩, ?_⟩
    exact below_setRow' hb (Nat.le_refl _) _
  rcases hend with ⟨hp, rfl⟩ | ⟨hp, rfl⟩
  · have HP := hid hp
    have h20 := hp.2.1
    have HSP := hid (size_pairL (padTo_length h20))
    have HZP := hid (show zeroP.size = (pairC (padTo l)).size by rw [pairC_size, padTo_length h20]; rfl)
    have HPO := hid (fun W => pports_any (padTo l) W (padTo_length h20))
    rw [hp.ports, HLEN.out] at HPO
    have HL20 := hid h20
    rw [HLEN.out] at h20
    have K1 := hid (setRow_heap _ _ _ (pairC (padTo l)) _ _ N0.out)
    have K0 := hid (show ((w1.alloc (.cells zeroP 60)).setRow w1.heap.size (pairC (padTo l))).heap[w.heap.size]? = some (.cells zeroJ 80 (0, 0)) by
      rw [setRow_other _ _ _ _ (by have := IL.out; omega), Below.heap_alloc _ _ _ IL.out]; exact I0.out)
    have KB := hid (below_setRow' (IB.out.alloc IB.out.size (.cells zeroP 60)) IB.out.size (pairC (padTo l)))
    generalize hX : (w1.alloc (.cells zeroP 60)).setRow w1.heap.size (pairC (padTo l)) = X at K0 K1 KB
    have HX := hid hX
    clear hX hp
    have hlen20 : (len : Int) ≤ 20 := by omega
    by_cases hn : 1 ≤ n ∧ n ≤ 5
    · obtain ⟨a, rfl⟩ : ∃ a : Nat, n = (a : Int) := ⟨n.toNat, by omega⟩
      have s1 := hid (show ∀ W, Calls Try.prog 99 #[.int .i64 (a : Int)] W fun e w' => e = .returned (.bool true) ∧ W = w' from fun W => by have := HS.out (a : Int) W; rwa [decide_eq_true hn] at this)
      by_cases hm : 1 ≤ m ∧ m ≤ 5
      · obtain ⟨b, rfl⟩ : ∃ b : Nat, m = (b : Int) := ⟨m.toNat, by omega⟩
        have s2 := hid (show ∀ W, Calls Try.prog 99 #[.int .i64 (b : Int)] W fun e w' => e = .returned (.bool true) ∧ W = w' from fun W => by have := HS.out (b : Int) W; rwa [decide_eq_true hm] at this)
        have HNM := hid (And.intro hn hm)
        have ha5 : (a : Int) ≤ 5 := hn.2
        have hb5 : (b : Int) ≤ 5 := hm.2
        have ha1 : 1 ≤ (a : Int) := hn.1
        have hb1 : 1 ≤ (b : Int) := hm.1
        clear hn hm
        go_wp2_with (refine wpList_store_row rfl 60 _ _ rfl w1.heap.size (pairC (padTo l)) rfl rfl 60 zeroP N0.out HSP.out HZP.out (pairC_one (padTo l)) ?_; rw [HX.out])
        refine (s1.out _).mono ?_
        rintro e w' ⟨rfl, rfl⟩
        go_wp2_with fail
        refine (s2.out _).mono ?_
        rintro e w' ⟨rfl, rfl⟩
        go_wp2_with (refine wpList_load_row_g (by rfl) 60 _ rfl w1.heap.size rfl 60 (pairC (padTo l)) (0, 0) _ K1.out Try.underlying60 rfl HSP.out ?_)
        refine (HPO.out _).mono ?_
        rintro e w2 ⟨rfl, hb2⟩
        have J0 := hid ((hb2.block _ (lt_of_block K0.out)).trans K0.out)
        have J1 := hid ((hb2.block _ (lt_of_block K1.out)).trans K1.out)
        have JB := hid (KB.out.trans (hb2.mono KB.out.size))
        clear hb2
        by_cases hlen : (len : Int) = 2 * ((a : Int) + (b : Int))
        · have HOK := hid (show PairOf (a : Int) (b : Int) l from ⟨HNM.out.1, HNM.out.2, HP.out, by rw [HLEN.out]; exact hlen⟩)
          have hne : ((len : Int) != 2 * ((a : Int) + (b : Int))) = false := by rw [hlen]; simp
          have HPL := hid (padTo_length HL20.out)
          have HSJ := hid (size_joinL (padTo_length HL20.out) a b 0)
          have HZJ := hid (zero_joinL (padTo_length HL20.out) a b 0)
          clear hlen
          go_wp2_with (first
            | refine wpList_exec rfl (exec_build3 _ _ _ rfl (padTo l) a b HPL.out rfl rfl rfl) ?_
            | refine wpList_store_row rfl 80 _ _ rfl w.heap.size (pairC (joinL (padTo l) a b 0)) rfl rfl 80 zeroJ J0.out HSJ.out HZJ.out (pairC_one _) ?_
            | refine wpList_load_row rfl 60 _ rfl w1.heap.size rfl 60 (pairC (padTo l)) (0, 0) _ J1.out Try.underlying60 rfl HSP.out ?_)
          refine bodyPost_ret (results_row_tmp Try.results93 _ w.heap.size 80 _ (0, 0) _ rfl (setRow_heap _ _ _ _ _ _ J0.out) Try.underlying80 rfl HSJ.out) rfl ⟨.inl ⟨a, b, rfl, rfl, HOK.out, rfl⟩, ?_⟩
          exact below_setRow' JB.out (Nat.le_refl _) _
        · have HNO := hid (show ¬ PairOf (a : Int) (b : Int) l from fun h => hlen (by rw [← HLEN.out]; exact h.2.2.2))
          have hne : ((len : Int) != 2 * ((a : Int) + (b : Int))) = true := by simpa using hlen
          clear hlen
          go_wp2_with (refine wpList_store_row rfl 80 _ _ rfl w.heap.size zeroJ rfl rfl 80 zeroJ J0.out Try.size_joined rfl zeroJ_one ?_)
          refine fin _ _ J0.out JB.out HNO.out ?_ ?_ <;> rfl
      · have s2 := hid (show ∀ W, Calls Try.prog 99 #[.int .i64 m] W fun e w' => e = .returned (.bool false) ∧ W = w' from fun W => by have := HS.out m W; rwa [decide_eq_false hm] at this)
        have HNO := hid (show ¬ PairOf (a : Int) m l from fun h => hm h.2.1)
        clear hn hm
        go_wp2_with (refine wpList_store_row rfl 60 _ _ rfl w1.heap.size (pairC (padTo l)) rfl rfl 60 zeroP N0.out HSP.out HZP.out (pairC_one (padTo l)) ?_; rw [HX.out])
        refine (s1.out _).mono ?_
        rintro e w' ⟨rfl, rfl⟩
        go_wp2_with fail
        refine (s2.out _).mono ?_
        rintro e w' ⟨rfl, rfl⟩
        go_wp2_with (refine wpList_store_row rfl 80 _ _ rfl w.heap.size zeroJ rfl rfl 80 zeroJ K0.out Try.size_joined rfl zeroJ_one ?_)
        refine fin _ _ K0.out KB.out HNO.out ?_ ?_ <;> rfl
    · have s1 := hid (show ∀ W, Calls Try.prog 99 #[.int .i64 n] W fun e w' => e = .returned (.bool false) ∧ W = w' from fun W => by have := HS.out n W; rwa [decide_eq_false hn] at this)
      have HNO := hid (show ¬ PairOf n m l from fun h => hn h.1)
      clear hn
      go_wp2_with (refine wpList_store_row rfl 60 _ _ rfl w1.heap.size (pairC (padTo l)) rfl rfl 60 zeroP N0.out HSP.out HZP.out (pairC_one (padTo l)) ?_; rw [HX.out])
      refine (s1.out _).mono ?_
      rintro e w' ⟨rfl, rfl⟩
      go_wp2_with (refine wpList_store_row rfl 80 _ _ rfl w.heap.size zeroJ rfl rfl 80 zeroJ K0.out Try.size_joined rfl zeroJ_one ?_)
      refine fin _ _ K0.out KB.out HNO.out ?_ ?_ <;> rfl
  · have HNO := hid (show ¬ PairOf n m l from fun h => hp h.2.2.1)
    have K0 := hid (show ((w1.alloc (.cells zeroP 60)).setRow w1.heap.size zeroP).heap[w.heap.size]? = some (.cells zeroJ 80 (0, 0)) by
      rw [setRow_other _ _ _ _ (by have := IL.out; omega), Below.heap_alloc _ _ _ IL.out]; exact I0.out)
    have KB := hid (below_setRow' (IB.out.alloc IB.out.size (.cells zeroP 60)) IB.out.size zeroP)
    generalize hX : (w1.alloc (.cells zeroP 60)).setRow w1.heap.size zeroP = X at K0 KB
    have HX := hid hX
    clear hX hp
    go_wp2_with (first
      | (refine wpList_store_row rfl 60 _ _ rfl w1.heap.size zeroP rfl rfl 60 zeroP N0.out Try.size_pair rfl (pairC_one (List.replicate 20 0)) ?_; rw [HX.out])
      | refine wpList_store_row rfl 80 _ _ rfl w.heap.size zeroJ rfl rfl 80 zeroJ K0.out Try.size_joined rfl zeroJ_one ?_)
    refine fin _ _ K0.out KB.out HNO.out ?_ ?_ <;> rfl
end Go.Proofs.Ytkkifpjeafchnaa
