/- readGrid, by its contract. -/
import Derived.Test.YtmdgbcepjnfbnaaGrid1
import Derived.Deep.LoopGhost
namespace Go.Proofs.Ytmdgbcepjnfbnaa
open Go.RowKit

/-- What readGrid comes to. -/
def ReadEnd (ss : List ByteArray) (w : World) (e : Ending) (w' : World) : Prop :=
  Below w.heap.size w w' ∧ ((∃ n m, IsGrid n m ss ∧ e = .returned (.tuple #[.agg (gcells n m (pad (flat ss))), .bool true])) ∨ (NoGrid ss ∧ e = .returned (.tuple #[.agg zeroG, .bool false])))

/-- What the world holds in the middle: the zero grid that is handed back where something fails, and the grid read so far, its first q letters. -/
def RInv (ss : List ByteArray) (m : Nat) (w : World) (q : Nat) (wr : World) : Prop :=
  wr.heap[w.heap.size]? = some (.cells zeroG 57 (0, 0)) ∧ wr.heap[w.heap.size + 1]? = some (.cells (gcells ss.length m (pad ((flat ss).take q))) 57 (0, 0)) ∧ Below w.heap.size w wr
theorem RInv.cell {ss : List ByteArray} {m q : Nat} {w wr : World} (h : RInv ss m w q wr) : wr.cell? ⟨w.heap.size + 1, 1, none⟩ = some (.int .i64 m) := by
  rw [cell_of_row _ _ _ _ _ _ h.2.1, gcells_1]
theorem RInv.step {ss : List ByteArray} {m q : Nat} {w wr w1 : World} (h : RInv ss m w q wr) (hb : Below wr.heap.size wr w1) {b : UInt8} (hq : (flat ss)[q]? = some b) (hq2 : q < 25) :
    RInv ss m w (q + 1) (w1.setRow (w.heap.size + 1) (gcells ss.length m ((pad ((flat ss).take q)).set q b))) := by
  have l0 := lt_of_block h.1
  have l1 := lt_of_block h.2.1
  refine ⟨?_, ?_, ?_⟩
  · rw [setRow_other _ _ _ _ (by omega)]; exact (hb.block _ l0).trans h.1
  · rw [pad_step hq hq2]; exact setRow_heap _ _ _ _ _ _ ((hb.block _ l1).trans h.2.1)
  · exact below_setRow' (h.2.2.trans (hb.mono h.2.2.size)) (by omega) _
def OutRel (ss : List ByteArray) (m : Nat) (w : World) (i : Value) (wr : World) : Prop :=
  ∃ r : Nat, r ≤ ss.length ∧ i = .int .i64 r ∧ RInv ss m w (r * m) wr ∧ ∀ (j : Nat) (t : ByteArray), j < r → ss[j]? = some t → rowOk m t
def InRel (ss : List ByteArray) (m : Nat) (s : ByteArray) (r : Nat) (w : World) (i : Value) (wr : World) : Prop :=
  ∃ c : Nat, c ≤ m ∧ i = .int .i64 c ∧ RInv ss m w (r * m + c) wr ∧ ∀ (j : Nat) (b : UInt8), j < c → s.data.toList[j]? = some b → isLet b = true

set_option maxRecDepth 100000 in
set_option maxHeartbeats 1000000 in
theorem readGrid_core (b off c m : Nat) (s0 : ByteArray) (ss : List ByteArray) (w : World) (h : Strs w w.heap.size (some ⟨b, off, none⟩) ss) (h1 : 1 ≤ ss.length ∧ ss.length ≤ 5) (hm0 : s0.size = m) (h2 : 1 ≤ m ∧ m ≤ 5) (hk0 : ss[0]? = some s0) (hs : ∀ s ∈ ss, s.size ≤ 1048576)
    (hb : b < w.heap.size) (hc0 : w.cell? ⟨b, off, none⟩ = some (.string s0)) :
    Calls Try.prog 67 #[.slice (some ⟨b, off, none⟩) ss.length c] w (ReadEnd ss w) := by
  obtain ⟨h11, h12⟩ := h1
  obtain ⟨h21, h22⟩ := h2
  have d1 : decide (1 ≤ (ss.length : Int) ∧ (ss.length : Int) ≤ 5) = true := by simp; omega
  have d2 : decide (1 ≤ (m : Int) ∧ (m : Int) ≤ 5) = true := by simp; omega
  have g1 := hid (sideIn_any (ss.length : Int))
  have g2 := hid (sideIn_any (m : Int))
  rw [d1] at g1
  rw [d2] at g2
  have HK := hid hk0
  have HH := hid h
  have HS := hid hs
  have hl0 : (0 : Int) < (ss.length : Int) := by omega
  have G1 : ∀ q, q ≤ 25 → (Try.prog.info? 57).map (·.size) = some (gcells ss.length m (pad ((flat ss).take q))).size := fun q hq => by rw [Try.size_grid, gcells_size (pad_length (by simp; omega))]
  have HG := hid G1
  clear hk0 h hs d1 d2 G1
  go_enter Try.func67, Try.ntmps67
  go_wp2_with fail
  refine (g1.out _).mono ?_
  rintro e w' ⟨rfl, rfl⟩
  go_wp2_with fail
  refine (g2.out _).mono ?_
  rintro e w' ⟨rfl, rfl⟩
  go_wp2_with (refine wpList_store_row rfl 57 _ _ rfl (w.heap.size + 1) (gcells ss.length m (pad [])) rfl rfl 57 zeroG (by simpa using heap_new0 (w.alloc _) _) (HG.out 0 (by omega)) (gcells_size (by rfl)).symm (gcells_one _ _ _) ?_)
  go_loopw [30] (OutRel ss m w) (fun i _ => ss.length - (intOf i).toNat)
  case atStart =>
    have n1 := heap_new0 (w.alloc (.cells zeroG 57)) (.cells zeroG 57)
    simp only [World.size_alloc] at n1
    refine ⟨0, Nat.zero_le _, rfl, ⟨?_, ?_, ?_⟩, fun j t hj => absurd hj (by omega)⟩
    · rw [setRow_other _ _ _ _ (by omega)]; exact heap_new1 w _ _
    · rw [Nat.zero_mul, List.take_zero]; exact setRow_heap _ _ _ _ _ _ n1
    · exact below_setRow' (((Below.refl _ w).alloc (Nat.le_refl _) _).alloc (by simp) _) (by omega) _
  case round =>
    obtain ⟨r, hr, rfl, hinv, hrows⟩ := hrel
    by_cases hlt : r < ss.length
    · obtain ⟨b', off', s, hA, hb', hks, hc⟩ := (HH.out.below hinv.2.2 (Nat.le_refl _)).at_ hlt
      obtain ⟨rfl, rfl⟩ : b = b' ∧ off = off' := by cases hA; exact ⟨rfl, rfl⟩
      have hcol := hinv.cell
      have hssz := HS.out s (List.mem_of_getElem? hks)
      have HI := hid hinv
      have HR := hid hrows
      have HKs := hid hks
      clear hinv hrows hks hA
      obtain ⟨wo, rfl⟩ : ∃ wo : World, wo = wr := ⟨_, rfl⟩
      by_cases hsm : s.size = m
      · have hsm' : ((s.size : Int) != (m : Int)) = false := by simp [hsm]
        have HM := hid hsm
        clear hsm
        have hrm : r * m ≤ 4 * 5 := Nat.mul_le_mul (by omega) (by omega)
        go_wp2_with fail
        go_loopw [43] (InRel ss m s r w) (fun i _ => m - (intOf i).toNat)
        case atStart => exact ⟨0, Nat.zero_le _, rfl, HI.out, fun j b hj => absurd hj (by omega)⟩
        case round =>
          obtain ⟨c', hc', rfl, hin, hlet⟩ := hrel
          have HN := hid hin
          have HL := hid hlet
          clear hin hlet
          by_cases hlc : c' < m
          · obtain ⟨bt, hbt⟩ : ∃ bt, s.data.toList[c']? = some bt := ⟨_, List.getElem?_eq_getElem (by rw [← Lib.size_eq, HM.out]; exact hlc)⟩
            have hcs : c' < s.size := by rw [HM.out]; exact hlc
            have hx : (s.extract c' (c' + 1)).data.toList = [bt] := by
              rw [Lib.extract_data, Nat.add_sub_cancel_left, List.take_one, List.head?_drop, hbt]; rfl
            have hbyte : s[c'] = bt := byte_of hbt hcs
            have gl := hid (letterIn_one (s.extract c' (c' + 1)) bt hx)
            have HB := hid hbt
            clear hbt hx
            cases hlb : isLet bt with
            | false =>
              rw [hlb] at gl
              have HF := hid hlb
              clear hlb
              go_wp2_with fail
              refine (gl.out _).mono ?_
              rintro e w' ⟨rfl, rfl⟩
              go_wp2_with (refine wpList_store_row rfl 57 _ _ rfl w.heap.size zeroG rfl rfl 57 zeroG HN.out.1 Try.size_grid rfl (gcells_one 0 0 (pad [])) ?_)
              refine bodyPost_ret (results_row_tmp Try.results67 _ w.heap.size 57 zeroG (0, 0) _ (by rfl) (setRow_heap _ _ _ _ _ _ HN.out.1) Try.underlying57 rfl Try.size_grid) rfl ?_
              exact ⟨below_setRow' HN.out.2.2 (Nat.le_refl _) _, .inr ⟨noGrid_letter HKs.out HB.out HF.out, rfl⟩⟩
            | true =>
              rw [hlb] at gl
              have HF := hid hlb
              clear hlb
              go_wp2_with fail
              refine (gl.out _).mono ?_
              rintro e w' ⟨rfl, rfl⟩
              go_wp2_with fail
              have hq : r * m + c' < 25 := by omega
              have hload := hid (HN.out.2.1)
              have hbn : bt.toNat < 256 := bt.toNat_lt
              refine wp_region_still_tail 7 (by kernel_rfl) (by kernel_rfl) ?_
              simp only [List.take_succ_cons, List.take_zero, List.drop_succ_cons, List.drop_zero]
              refine wpStill_load_row rfl 57 _ rfl (w.heap.size + 1) rfl 57 _ (0, 0) _ hload.out Try.underlying57 rfl (HG.out _ (by omega)) ?_
              repeat still_step
              try refine wpStill_nil ?_
              change wpList _ _ _ _ _ wr.drew
              have hd : RInv ss m w (r * m + c') wr.drew := ⟨HN.out.1, HN.out.2.1, HN.out.2.2.drew⟩
              have HD := hid hd
              clear hd
              generalize wr.drew = wd at HD
              go_wp2_with fail
              have hfq : (flat ss)[r * m + c']? = some bt := by
                rw [flat_at ss r c' s (fun j t hj ht => (HR.out j t hj ht).1) HKs.out hcs]; exact HB.out
              have HQ := hid hfq
              clear hfq
              refine (with_any ss.length m (pad ((flat ss).take (r * m + c'))) r c' (r * m + c') bt _ (pad_length (by simp; omega)) hq (by simp) ⟨by omega, by omega⟩ h22).mono ?_
              rintro e w1 ⟨rfl, hbel⟩
              have HE := hid hbel
              clear hbel
              have hst := HD.out.step HE.out HQ.out hq
              have HT := hid hst
              clear hst
              go_wp2_with (refine wpList_store_row rfl 57 _ _ rfl (w.heap.size + 1) (gcells ss.length m ((pad ((flat ss).take (r * m + c'))).set (r * m + c') bt)) rfl rfl 57 (gcells ss.length m (pad ((flat ss).take (r * m + c')))) ((HE.out.block _ (lt_of_block HD.out.2.1)).trans HD.out.2.1) (by rw [pad_step HQ.out hq]; exact HG.out _ (by omega)) (by rw [gcells_size (pad_length (by simp; omega)), gcells_size (by rw [List.length_set]; exact pad_length (by simp; omega))]) (gcells_one _ _ _) ?_)
              go_roundw
              case rel => exact ⟨c' + 1, by omega, by go_num, HT.out, fun j b hj hb => by
                by_cases hjc : j < c'
                · exact HL.out j b hjc hb
                · obtain rfl : j = c' := by omega
                  rw [HB.out] at hb; cases hb; exact HF.out⟩
              case measure => simp [intOf]; omega
          · obtain rfl : c' = m := by omega
            go_wp2_with fail
            go_roundw
            case rel => exact ⟨r + 1, by omega, by go_num, by rw [Nat.add_mul, Nat.one_mul]; exact HN.out, fun j t hj ht => by
              by_cases hjr : j < r
              · exact HR.out j t hjr ht
              · obtain rfl : j = r := by omega
                rw [HKs.out] at ht; cases ht
                exact ⟨HM.out, fun b hb => by
                  obtain ⟨i, hi, rfl⟩ := List.mem_iff_getElem.1 hb
                  exact HL.out i _ (by rw [← HM.out, Lib.size_eq]; exact hi) (List.getElem?_eq_getElem hi)⟩⟩
            case measure => simp [intOf]; omega
      · have hsm' : ((s.size : Int) != (m : Int)) = true := by simp; omega
        have HM := hid hsm
        clear hsm
        go_wp2_with (refine wpList_store_row rfl 57 _ _ rfl w.heap.size zeroG rfl rfl 57 zeroG HI.out.1 Try.size_grid rfl (gcells_one 0 0 (pad [])) ?_)
        refine bodyPost_ret (results_row_tmp Try.results67 _ w.heap.size 57 zeroG (0, 0) _ (by rfl) (setRow_heap _ _ _ _ _ _ HI.out.1) Try.underlying57 rfl Try.size_grid) rfl ?_
        exact ⟨below_setRow' HI.out.2.2 (Nat.le_refl _) _, .inr ⟨noGrid_size HK.out HKs.out (by rw [hm0]; exact HM.out), rfl⟩⟩
    · obtain rfl : r = ss.length := by omega
      have HI := hid hinv
      have HR := hid hrows
      clear hinv hrows
      have hrm : ss.length * m ≤ 5 * 5 := Nat.mul_le_mul (by omega) (by omega)
      go_wp2_with (first
        | refine wpList_load_row rfl 57 _ rfl (w.heap.size + 1) rfl 57 _ (0, 0) _ HI.out.2.1 Try.underlying57 rfl (HG.out _ (by omega)) ?_
        | refine wpList_store_row rfl 57 _ _ rfl w.heap.size (gcells ss.length m (pad ((flat ss).take (ss.length * m)))) rfl rfl 57 zeroG HI.out.1 (HG.out _ (by omega)) (by rw [gcells_size (pad_length (by simp; omega))]; rfl) (gcells_one _ _ _) ?_)
      refine bodyPost_ret (results_row_tmp Try.results67 _ w.heap.size 57 _ (0, 0) _ (by rfl) (setRow_heap _ _ _ _ _ _ HI.out.1) Try.underlying57 rfl (HG.out _ (by omega))) rfl ?_
      have hall : ∀ s ∈ ss, rowOk m s := fun s hs => by
        obtain ⟨i, hi, rfl⟩ := List.mem_iff_getElem.1 hs
        exact HR.out i _ hi (List.getElem?_eq_getElem hi)
      refine ⟨below_setRow' HI.out.2.2 (Nat.le_refl _) _, .inl ⟨ss.length, m, ⟨rfl, h11, h12, h21, h22, hall⟩, ?_⟩⟩
      rw [List.take_of_length_le (by rw [flat_length ss (fun s hs => (hall s hs).1)]; exact Nat.le_refl _)]
      rfl

set_option maxRecDepth 100000 in
set_option maxHeartbeats 1000000 in
theorem readGrid_any (A : Option Addr) (c : Nat) (ss : List ByteArray) (w : World) (h : Strs w w.heap.size A ss) (hn : ss.length ≤ 1048576) (hs : ∀ s ∈ ss, s.size ≤ 1048576) :
    Calls Try.prog 67 #[.slice A ss.length c] w (ReadEnd ss w) := by
  by_cases h1 : 1 ≤ ss.length ∧ ss.length ≤ 5
  · obtain ⟨b, off, s0, rfl, hb, hk0, hc0⟩ := h.at_ (k := 0) (by omega)
    rw [Nat.add_zero] at hc0
    by_cases h2 : 1 ≤ s0.size ∧ s0.size ≤ 5
    · exact readGrid_core b off c s0.size s0 ss w h h1 rfl h2 hk0 hs hb hc0
    · have hs0 := hs s0 (List.mem_of_getElem? hk0)
      have d1 : decide (1 ≤ (ss.length : Int) ∧ (ss.length : Int) ≤ 5) = true := by simp; omega
      have d2 : decide (1 ≤ (s0.size : Int) ∧ (s0.size : Int) ≤ 5) = false := by simp; omega
      have g1 := hid (sideIn_any (ss.length : Int))
      have g2 := hid (sideIn_any (s0.size : Int))
      rw [d1] at g1
      rw [d2] at g2
      have HN := hid (noGrid_first hk0 h2)
      have hl0 : (0 : Int) < (ss.length : Int) := by omega
      clear hk0 h hs d1 d2 h1 h2
      go_enter Try.func67, Try.ntmps67
      go_wp2_with fail
      refine (g1.out _).mono ?_
      rintro e w' ⟨rfl, rfl⟩
      go_wp2_with fail
      refine (g2.out _).mono ?_
      rintro e w' ⟨rfl, rfl⟩
      go_wp2_with (refine wpList_store_row rfl 57 _ _ rfl w.heap.size zeroG rfl rfl 57 zeroG (heap_new0 w _) Try.size_grid rfl (gcells_one 0 0 (pad [])) ?_)
      refine bodyPost_ret (results_row_tmp Try.results67 _ w.heap.size 57 zeroG (0, 0) _ (by rfl) (setRow_heap _ _ _ _ _ _ (heap_new0 w _)) Try.underlying57 rfl Try.size_grid) rfl ?_
      exact ⟨below_setRow' ((Below.refl _ w).alloc (Nat.le_refl _) _) (Nat.le_refl _) _, .inr ⟨HN.out, rfl⟩⟩
  · have d1 : decide (1 ≤ (ss.length : Int) ∧ (ss.length : Int) ≤ 5) = false := by simp; omega
    have g1 := hid (sideIn_any (ss.length : Int))
    rw [d1] at g1
    have HN := hid (noGrid_len h1)
    clear h hs d1 h1
    go_enter Try.func67, Try.ntmps67
    go_wp2_with fail
    refine (g1.out _).mono ?_
    rintro e w' ⟨rfl, rfl⟩
    go_wp2_with (refine wpList_store_row rfl 57 _ _ rfl w.heap.size zeroG rfl rfl 57 zeroG (heap_new0 w _) Try.size_grid rfl (gcells_one 0 0 (pad [])) ?_)
    refine bodyPost_ret (results_row_tmp Try.results67 _ w.heap.size 57 zeroG (0, 0) _ (by rfl) (setRow_heap _ _ _ _ _ _ (heap_new0 w _)) Try.underlying57 rfl Try.size_grid) rfl ?_
    exact ⟨below_setRow' ((Below.refl _ w).alloc (Nat.le_refl _) _) (Nat.le_refl _) _, .inr ⟨HN.out, rfl⟩⟩

end Go.Proofs.Ytmdgbcepjnfbnaa
