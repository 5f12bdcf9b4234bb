/- Climbing from exchange to exchange: climbed, by its contract. -/
import Derived.Test.YtkaiadgldppbiaaBestI
import Derived.Test.YtkaiadgldppbiaaBunD
import Derived.Test.YtkaiadgldppbiaaBunR
import Derived.Deep.LoopGhost
namespace Go.Proofs.Ytkaiadgldppbiaa
open Go.RowKit Go.Shelf

/-- The paths of a grid. -/
def pathsG (n m : Nat) (ls : List UInt8) : Int := (pathsR n m (lett m ls)).1
/-- The grid behind at most k exchanges. -/
def climbN (n m : Nat) : Nat → List UInt8 → List UInt8
  | 0, ls => ls
  | k + 1, ls => match (bestR n m ls).1 with
    | none => ls
    | some e => if (bestR n m ls).2 ≤ pathsG n m ls then ls else climbN n m k (ls.set (cellN m e.1) e.2)
def climbG (n m : Nat) (ls : List UInt8) : List ByteArray := textsOf n m (climbN n m 111 ls)
theorem climbN_length (n m : Nat) : ∀ (k : Nat) (ls : List UInt8), (climbN n m k ls).length = ls.length
  | 0, ls => rfl
  | k + 1, ls => by
    unfold climbN
    split
    · rfl
    · split
      · rfl
      · rw [climbN_length n m k, List.length_set]
/-- The two ways a round may go. -/
theorem climb_or {n m : Nat} {ls : List UInt8} (hn : 1 ≤ n) (hn5 : n ≤ 5) (hm5 : m ≤ 5) (k : Nat) (hk : 110 < (k : Int) + pathsG n m ls) :
    ((bestR n m ls = (none, 0)) ∧ climbN n m k ls = ls) ∨ (∃ x b y, bestR n m ls = (some (x, b), y) ∧ 0 < y ∧ y ≤ pathsG n m ls ∧ climbN n m k ls = ls) ∨
    (∃ x b y, bestR n m ls = (some (x, b), y) ∧ 0 < y ∧ pathsG n m ls < y ∧ (x, b) ∈ mirI m ls (List.finRange (n * m)) ∧ ∃ k', k' < k ∧ climbN n m k ls = climbN n m k' (ls.set (cellN m x) b) ∧ 110 < (k' : Int) + pathsG n m (ls.set (cellN m x) b)) := by
  have hle := pathsR_le (n := n) (m := m) (t := lett m ls) hn5 hm5
  have hle' : 0 ≤ pathsG n m ls ∧ pathsG n m ls ≤ 110 := hle
  obtain ⟨k', rfl⟩ : ∃ k', k = k' + 1 := ⟨k - 1, by omega⟩
  rcases bestTo_or n m ls hn (mirI m ls (List.finRange (n * m))) with ⟨_, h2⟩ | ⟨⟨x, b⟩, h1, h2, h3, h4⟩
  · have h2' : bestR n m ls = (none, 0) := h2
    refine .inl ⟨h2', ?_⟩
    unfold climbN
    rw [h2']
  · obtain ⟨y, hy⟩ : ∃ y, (bestR n m ls).2 = y := ⟨_, rfl⟩
    have h2' : (bestR n m ls).1 = some (x, b) := h2
    have hy4 : 0 < y := by rw [← hy]; exact h4
    have hy3 : y = pathsG n m (ls.set (cellN m x) b) := by rw [← hy]; exact h3
    have hbr : bestR n m ls = (some (x, b), y) := by rw [← h2', ← hy]
    by_cases hq : y ≤ pathsG n m ls
    · refine .inr (.inl ⟨x, b, y, hbr, hy4, hq, ?_⟩)
      unfold climbN
      rw [hbr]
      simp only
      rw [if_pos hq]
    · refine .inr (.inr ⟨x, b, y, hbr, hy4, by omega, h1, k', by omega, ?_, by rw [← hy3]; omega⟩)
      conv => lhs; unfold climbN
      rw [hbr]
      simp only
      rw [if_neg hq]

set_option maxRecDepth 100000 in
set_option maxHeartbeats 2000000 in
theorem climbed_any (n m : Nat) (ls : List UInt8) (w : World) (hl : ls.length = 25) (hn : 1 ≤ n) (hn5 : n ≤ 5) (hm : 1 ≤ m) (hm5 : m ≤ 5) :
    Calls Try.prog 30 #[.agg (gcells n m ls)] w fun e w' => e = .returned (.agg (gcells n m (climbN n m 111 ls))) ∧ Below w.heap.size w w' := by
  have HG := hid (show ∀ l : List UInt8, l.length = 25 → (Try.prog.info? 37).map (·.size) = some (gcells n m l).size from fun l h => by rw [gcells_size h]; exact Try.size_grid)
  have HZ := hid (show ∀ l : List UInt8, l.length = 25 → zeroG.size = (gcells n m l).size from fun l h => by rw [gcells_size h]; rfl)
  have HBE := hid (fun l W (h : l.length = 25) => best_any n m l W h hn5 hm hm5)
  have HPA := hid (fun l W (h : l.length = 25) => paths_any n m l W h hn5 hm hm5)
  have HMK := hid (show ∀ l x b g0 g1 g2 W, l.length = 25 → inG n m x → MadeAt W n m l x b g0 g1 g2 → _ from fun l x b g0 g1 g2 W h hx hma => made_any n m l x b g0 g1 g2 W h hn5 hm5 hx hma)
  have HOR := hid (fun l k h => climb_or (n := n) (m := m) (ls := l) hn hn5 hm5 k h)
  have HIN := hid (show ∀ l, ∀ e ∈ mirI m l (List.finRange (n * m)), inG n m e.1 from fun l e he => by
    unfold mirI at he
    obtain ⟨x, _, rfl⟩ := List.mem_map.1 he
    exact placeN_in x.isLt)
  have hp0 := pathsR_le (n := n) (m := m) (t := lett m ls) hn5 hm5
  have HP0 := hid (show 110 < ((111 : Nat) : Int) + pathsG n m ls by have := hp0.1; unfold pathsG; omega)
  have H0 := hid (heap_new1 w (.cells (gcells n m ls) 37) (.cells zeroG 37))
  have H1 := hid (show ((w.alloc (.cells (gcells n m ls) 37)).alloc (.cells zeroG 37)).heap[w.heap.size + 1]? = some (.cells zeroG 37 (0, 0)) by
    have := heap_new0 (w.alloc (.cells (gcells n m ls) 37)) (.cells zeroG 37)
    rwa [World.size_alloc] at this)
  have H2 := hid (show Below w.heap.size w ((w.alloc (.cells (gcells n m ls) 37)).alloc (.cells zeroG 37)) from ((Below.refl _ w).alloc (Nat.le_refl _) _).alloc (by simp) _)
  have HL := hid hl
  clear hl hp0
  go_enter Try.func30, Try.ntmps30
  go_wp2_with fail
  generalize World.alloc (World.alloc w _) _ = W0 at *
  go_loopg [4] 111 (fun (k : Nat) (_ : Value) (wr : World) => ∃ l : List UInt8, l.length = 25 ∧ wr.heap[w.heap.size]? = some (.cells (gcells n m l) 37 (0, 0)) ∧ wr.heap[w.heap.size + 1]? = some (.cells zeroG 37 (0, 0)) ∧
    climbN n m k l = climbN n m 111 ls ∧ 110 < (k : Int) + pathsG n m l ∧ Below w.heap.size w wr)
  case atStart => exact ⟨ls, HL.out, H0.out, H1.out, rfl, HP0.out, H2.out⟩
  case round =>
    obtain ⟨l, hll, hg0, hg1, hcl, hpk, hbel⟩ := hrel
    have K0 := hid hg0
    have K1 := hid hg1
    have KC := hid hcl
    have KL := hid hll
    have KB := hid hbel
    have KO := hid (HOR.out l gk hpk)
    clear hg0 hg1 hcl hll hbel hpk
    go_wp2_with (refine wpList_load_row rfl 37 _ rfl w.heap.size rfl 37 (gcells n m l) (0, 0) _ K0.out Try.underlying37 rfl (HG.out l KL.out) ?_)
    refine (HBE.out l _ KL.out).mono ?_
    rintro e w1 ⟨cs, rfl, hbv, hb1⟩
    have e1 : bestTo n m l (mirI m l (List.finRange (n * m))) = bestR n m l := rfl
    rw [e1] at hbv ⊢
    have HSZ := hid (show (Try.prog.info? 72).map (·.size) = some cs.size by rw [hbv.size.1]; exact Try.size_change)
    have HS2 := hid (show (#[.int .i64 0, .nilFunc] : Array Value).size = cs.size from hbv.size.1.symm)
    have HS1 := hid hbv.size.2
    have L0 := hid ((hb1.block _ (lt_of_block K0.out)).trans K0.out)
    have L1 := hid ((hb1.block _ (lt_of_block K1.out)).trans K1.out)
    have LB := hid (KB.out.trans (hb1.mono KB.out.size))
    have L3 := hid (setRow_heap (w1.alloc (.cells #[.int .i64 0, .nilFunc] 72)) w1.heap.size #[.int .i64 0, .nilFunc] cs 72 (0, 0) (heap_new0 w1 _))
    have HB4 := hid (below_setRow' ((Below.refl _ w1).alloc (Nat.le_refl _) (.cells #[.int .i64 0, .nilFunc] 72)) (Nat.le_refl _) cs)
    have M0 := hid ((HB4.out.block _ (lt_of_block L0.out)).trans L0.out)
    have M1 := hid ((HB4.out.block _ (lt_of_block L1.out)).trans L1.out)
    have MB := hid (LB.out.trans (HB4.out.mono LB.out.size))
    clear hb1 e1
    rcases KO.out with ⟨hb0, hs0⟩ | ⟨x, b, y, hb0, hy, hyl, hs0⟩ | ⟨x, b, y, hb0, hy, hyl, hmem, k', hk', hs0, hp'⟩
    · have KS := hid (hs0.symm.trans KC.out)
      rw [hb0] at hbv ⊢
      clear hs0 hbv hb0
      simp only [show decide ((0 : Int) < 0) = false from rfl]
      go_wp2_with (guard_target =~ wpList _ _ _ _ _ _; first
        | refine wpList_store_row rfl 72 _ _ rfl w1.heap.size cs rfl rfl 72 #[.int .i64 0, .nilFunc] (heap_new0 w1 _) HSZ.out HS2.out HS1.out ?_
        | refine wpList_load_row_g rfl 37 _ rfl w.heap.size rfl 37 (gcells n m l) (0, 0) _ M0.out Try.underlying37 rfl (HG.out l KL.out) ?_
        | refine wpList_store_row rfl 37 _ _ rfl (w.heap.size + 1) (gcells n m l) rfl rfl 37 zeroG M1.out (HG.out l KL.out) (HZ.out l KL.out) (gcells_one _ _ _) ?_
        | fail)
      refine bodyPost_ret (results_cell_row Try.results30 _ _ (w.heap.size + 1) 37 _ (0, 0) _ (by rfl) (setRow_heap _ _ _ _ _ _ M1.out) Try.underlying37 rfl (HG.out l KL.out)) rfl ?_
      exact ⟨by rw [KS.out], below_setRow' MB.out (by omega) _⟩
    · have KS := hid (hs0.symm.trans KC.out)
      have hdy : decide ((0 : Int) < y) = true := by simpa using hy
      have hp0 : pathsR n m (lett m l) = pathsR n m (lett m l) := rfl
      have HPy := hid (show y ≤ (pathsR n m (lett m l)).1 from hyl)
      rw [hb0] at hbv ⊢
      clear hs0 hbv hb0 hyl hp0
      simp only [hdy]
      go_wp2_with (guard_target =~ wpList _ _ _ _ _ _; first
        | refine wpList_store_row rfl 72 _ _ rfl w1.heap.size cs rfl rfl 72 #[.int .i64 0, .nilFunc] (heap_new0 w1 _) HSZ.out HS2.out HS1.out ?_
        | refine wpList_load_row_g rfl 37 _ rfl w.heap.size rfl 37 (gcells n m l) (0, 0) _ M0.out Try.underlying37 rfl (HG.out l KL.out) ?_
        | fail)
      refine (HPA.out l _ KL.out).mono ?_
      rintro e w2 ⟨rfl, hb2⟩
      have N0 := hid ((hb2.block _ (lt_of_block M0.out)).trans M0.out)
      have N1 := hid ((hb2.block _ (lt_of_block M1.out)).trans M1.out)
      have NB := hid (MB.out.trans (hb2.mono MB.out.size))
      have hyp := HPy.out
      generalize (pathsR n m (lett m l)).1 = pa at *
      clear hb2
      go_wp2_with (guard_target =~ wpList _ _ _ _ _ _; first
        | refine wpList_load_row_g rfl 37 _ rfl w.heap.size rfl 37 (gcells n m l) (0, 0) _ N0.out Try.underlying37 rfl (HG.out l KL.out) ?_
        | refine wpList_store_row rfl 37 _ _ rfl (w.heap.size + 1) (gcells n m l) rfl rfl 37 zeroG N1.out (HG.out l KL.out) (HZ.out l KL.out) (gcells_one _ _ _) ?_
        | fail)
      refine bodyPost_ret (results_cell_row Try.results30 _ _ (w.heap.size + 1) 37 _ (0, 0) _ (by rfl) (setRow_heap _ _ _ _ _ _ N1.out) Try.underlying37 rfl (HG.out l KL.out)) rfl ?_
      exact ⟨by rw [KS.out], below_setRow' NB.out (by omega) _⟩
    · have hdy : decide ((0 : Int) < y) = true := by simpa using hy
      have HPy := hid (show (pathsR n m (lett m l)).1 < y from hyl)
      have HK' := hid hk'
      have KS := hid (hs0.symm.trans KC.out)
      have HP' := hid hp'
      have hx := HIN.out l (x, b) hmem
      rw [hb0] at hbv ⊢
      obtain ⟨g0, g1, g2, rfl, hma⟩ : ∃ g0 g1 g2, cs = changeC ((cellN m x : Nat) : Int) g0 g1 g2 ∧ MadeAt w1 n m l x b g0 g1 g2 := by
        rcases hbv with ⟨h, _⟩ | ⟨x', b', g0, g1, g2, h1, h2, h3⟩
        · cases h
        · cases h1
          exact ⟨g0, g1, g2, h2, h3⟩
      have M2 := hid (hma.below HB4.out)
      have HKX := hid (fun W h => HMK.out l x b g0 g1 g2 W KL.out hx h)
      have HLX := hid (show (l.set (cellN m x) b).length = 25 by rw [List.length_set]; exact KL.out)
      have hc3 : ((w1.alloc (.cells #[.int .i64 0, .nilFunc] 72)).setRow w1.heap.size (changeC ((cellN m x : Nat) : Int) g0 g1 g2)).cell? ⟨w1.heap.size, 1, none⟩ = some (madeV g0 g1 g2) := by rw [cell_of_row _ _ _ _ _ _ L3.out]; rfl
      unfold madeV at hc3
      clear hs0 hbv hb0 hyl hk' hp' hx hma hmem
      simp only [hdy]
      go_wp2_with (guard_target =~ wpList _ _ _ _ _ _; first
        | refine wpList_store_row rfl 72 _ _ rfl w1.heap.size (changeC ((cellN m x : Nat) : Int) g0 g1 g2) rfl rfl 72 #[.int .i64 0, .nilFunc] (heap_new0 w1 _) HSZ.out HS2.out HS1.out ?_
        | refine wpList_load_row_g rfl 37 _ rfl w.heap.size rfl 37 (gcells n m l) (0, 0) _ M0.out Try.underlying37 rfl (HG.out l KL.out) ?_
        | fail)
      refine (HPA.out l _ KL.out).mono ?_
      rintro e w2 ⟨rfl, hb2⟩
      have N0 := hid ((hb2.block _ (lt_of_block M0.out)).trans M0.out)
      have N1 := hid ((hb2.block _ (lt_of_block M1.out)).trans M1.out)
      have N2 := hid (M2.out.below hb2)
      have N3 := hid ((hb2.block _ (lt_of_block L3.out)).trans L3.out)
      have NB := hid (MB.out.trans (hb2.mono MB.out.size))
      have hyp := HPy.out
      have hc4 : w2.cell? ⟨w1.heap.size, 1, none⟩ = some (.func (.func 77) #[] #[.pointer (some ⟨g0, 0, none⟩), .pointer (some ⟨g1, 0, none⟩), .pointer (some ⟨g2, 0, none⟩)]) := by rw [cell_of_row _ _ _ _ _ _ N3.out]; rfl
      generalize (pathsR n m (lett m l)).1 = pa at *
      clear hb2 hc3
      go_wp2_with fail
      refine (HKX.out w2 N2.out).mono ?_
      rintro e w3 ⟨rfl, hb3⟩
      have Q0 := hid ((hb3.block _ (lt_of_block N0.out)).trans N0.out)
      have Q1 := hid ((hb3.block _ (lt_of_block N1.out)).trans N1.out)
      have QB := hid (NB.out.trans (hb3.mono NB.out.size))
      clear hb3 hc4
      go_wp2_with (guard_target =~ wpList _ _ _ _ _ _; first
        | refine wpList_store_row rfl 37 _ _ rfl w.heap.size (gcells n m (l.set (cellN m x) b)) rfl rfl 37 (gcells n m l) Q0.out (HG.out _ HLX.out) (by rw [gcells_size KL.out, gcells_size HLX.out]) (gcells_one _ _ _) ?_
        | fail)
      go_roundg k'
      case measure => exact HK'.out
      case rel => exact ⟨_, HLX.out, setRow_heap _ _ _ _ _ _ Q0.out, by rw [setRow_other _ _ _ _ (by omega)]; exact Q1.out, KS.out, HP'.out, below_setRow' QB.out (Nat.le_refl _) _⟩
end Go.Proofs.Ytkaiadgldppbiaa
