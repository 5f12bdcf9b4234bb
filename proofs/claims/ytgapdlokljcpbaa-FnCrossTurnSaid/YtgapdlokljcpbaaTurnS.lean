/- CrossTurn of the specification, by its contract. -/
import Derived.Test.YtgapdlokljcpbaaBunS
import Derived.Test.YtgapdlokljcpbaaCameI
namespace Go.Proofs.Ytgapdlokljcpbaa
open Go.RowKit Go.Shelf

set_option maxRecDepth 100000 in
set_option maxHeartbeats 2000000 in
theorem specCrossTurn_any (A : Option Addr) (c B : Nat) (l : List Int) (k : Int) (w : World) (h : Ints w B A l) (hB : B ≤ w.heap.size) (hn : l.length ≤ 1048576) :
    Calls Try.prog 36 #[.slice A l.length c, .int .i64 k] w fun e w' => Below w.heap.size w w' ∧ ∃ A' c' res ok, e = .returned (.tuple #[.slice A' res.length c', .bool ok]) ∧ TurnOut l k res ok ∧ Ints w' w'.heap.size A' res := by
  have H := hid (l5In_any A c B l w h hn)
  have g1 := hid (fun (w : World) => l6In_any k 0 20 w)
  have HI := hid h
  have HBW := hid hB
  have hmk := fun (h20 : l.length ≤ 20) => run_make_row' (P := Try.prog) 33 3 (.int .i64 0) 8 Try.underlying33 Try.info_intRow rfl .i64 .i64 l.length (by omega) (by omega)
  have HMK := hid hmk
  clear h hmk hB
  go_enter Try.func36, Try.ntmps36
  go_wp2_with fail
  refine H.out.mono ?_
  rintro e w1 ⟨rfl, d, rfl⟩
  by_cases hp : IsPair l
  · rw [isPairB_true hp]
    have HP := hid hp
    have hmk := HMK.out hp.2.1
    have HC0 := hid (fun kn => Turned.zero l kn)
    have HST := hid (fun kn p C (h : Turned l kn p C) hp => h.step (l := l) hp)
    have HAL := hid (fun kn C (h : Turned l kn l.length C) => h.all)
    have HTL := hid (fun kn => turnL_length l kn)
    have HX := hid (show ∀ q, q < l.length → ∃ x : Nat, x < l.length ∧ l[q]? = some (x : Int) ∧ ∀ kn, turnV l kn q = (((x + kn) % l.length : Nat) : Int) from fun q hq => by
      have := hp.mates hq
      exact ⟨mateN l q, this.1, this.2.2.1, fun _ => rfl⟩)
    have h4 := hp.1
    have h20 := hp.2.1
    clear hp
    go_wp2_with fail
    refine (g1.out _).mono ?_
    rintro e w2 ⟨rfl, rfl⟩
    by_cases hk : 0 ≤ k ∧ k ≤ 20
    · rw [decide_eq_true hk]
      obtain ⟨kn, rfl⟩ : ∃ kn : Nat, k = (kn : Int) := ⟨k.toNat, by omega⟩
      have hkn : kn ≤ 20 := by omega
      have HKN := hid hkn
      obtain ⟨n, hnl⟩ : ∃ n, l.length = n := ⟨_, rfl⟩
      have HNL := hid hnl
      have HC1 := hid (show (madeCells #[Value.int .i64 0] n).size = n from size_madeCells _ _)
      rw [hnl] at hmk h4 h20 HC0 HST HAL HTL HX ⊢
      clear hk hnl hn
      have h4i : (4 : Int) ≤ (n : Int) := by omega
      have h20i : (n : Int) ≤ 20 := by omega
      have hki : (kn : Int) ≤ 20 := by omega
      have hki0 : (0 : Int) ≤ (kn : Int) := by omega
      have hnz : ((n : Int) == 0) = false := by simp; omega
      have hnz' : ¬ n = 0 := by omega
      go_wp2_with fail
      have M0 := hid (heap_new0 (w.drewN d) (.cells (madeCells #[Value.int .i64 0] n) 3))
      have MB := hid ((below_drewN' (Below.refl w.heap.size w) d).alloc (show w.heap.size ≤ (w.drewN d).heap.size from Nat.le_refl _) (.cells (madeCells #[Value.int .i64 0] n) 3))
      generalize World.alloc (w.drewN d) _ = Y at M0 MB ⊢
      rw [show (w.drewN d).heap.size = w.heap.size from rfl] at M0
      go_loopw [8] (fun (iv : Value) (wr : World) => ∃ q : Nat, q ≤ n ∧ iv = .int .i64 q ∧ ∃ C : Array Value, Hid (Turned l kn q C) ∧ Hid (C.size = n) ∧ wr.heap[w.heap.size]? = some (.cells C 3 (0, 0)) ∧ Below w.heap.size w wr) (fun i _ => n - (intOf i).toNat)
      case atStart => exact ⟨0, by omega, rfl, _, hid (HC0.out kn), hid HC1.out, M0.out, MB.out⟩
      case round =>
        obtain ⟨q, hq, rfl, C, ht, hcs, hg, hb⟩ := hrel
        have HT := ht
        have HCS := hcs
        have HG := hid hg
        have HB := hid hb
        clear ht hcs hg hb
        by_cases hlt : q < n
        · obtain ⟨x, hx, hlx, htx⟩ := HX.out q hlt
          obtain ⟨b, off, x', rfl, hbB, hx', hcx⟩ := (HI.out.below HB.out HBW.out).at_ (k := q) (by rw [HNL.out]; exact hlt)
          have hxe : x' = (x : Int) := by rw [hlx] at hx'; exact (Option.some.inj hx').symm
          rw [hxe] at hcx
          have HSTP := hid (HST.out kn q C HT.out hlt)
          rw [htx kn] at HSTP
          obtain ⟨a, ha⟩ : ∃ a, (q + kn) % n = a := ⟨_, rfl⟩
          obtain ⟨z, hz⟩ : ∃ z, (x + kn) % n = z := ⟨_, rfl⟩
          have han : a < n := by rw [← ha]; exact Nat.mod_lt _ (by omega)
          have hzn : z < n := by rw [← hz]; exact Nat.mod_lt _ (by omega)
          have hai : ((q : Int) + (kn : Int)) % (n : Int) = (a : Int) := by rw [← ha]; rfl
          have hzi : ((x : Int) + (kn : Int)) % (n : Int) = (z : Int) := by rw [← hz]; rfl
          rw [ha, hz] at HSTP
          obtain ⟨u, hu⟩ : ∃ u, C[a]? = some u := ⟨_, Array.getElem?_eq_getElem (by rw [HCS.out]; exact han)⟩
          have hcell : wr.cell? ⟨w.heap.size, a, none⟩ = some u := by rw [cell_of_row _ _ _ _ _ _ HG.out]; exact hu
          have hfr : wr.frozen? ⟨w.heap.size, a, none⟩ = false := frozen_of_row _ _ _ _ _ HG.out
          have hw1 : IntKind.i64.wrap ((q : Int) + (kn : Int)) = (q : Int) + (kn : Int) := IntWalk.i64_in _ (by omega)
          have hw2 : IntKind.i64.wrap ((x : Int) + (kn : Int)) = (x : Int) + (kn : Int) := IntWalk.i64_in _ (by omega)
          have hai0 : (0 : Int) ≤ (a : Int) := by omega
          have hai1 : (a : Int) < (n : Int) := by omega
          have hqi1 : (q : Int) < (n : Int) := by omega
          have hqi0 : (0 : Int) ≤ (q : Int) := by omega
          have hqk0 : (0 : Int) ≤ (q : Int) + (kn : Int) := by omega
          have hxk0 : (0 : Int) ≤ (x : Int) + (kn : Int) := by omega
          clear hu hx' hlx htx hbB hxe
          go_wp2_with fail
          go_still_tail 14, (by kernel_rfl)
          go_wp2_with fail
          go_roundw
          case rel =>
            refine ⟨q + 1, by omega, by go_num, _, hid HSTP.out, hid (by simpa using HCS.out), ?_, ?_⟩
            · exact heap_setCell_same wr _ _ _ _ _ HG.out
            · exact (HB.out.setCell (p := ⟨w.heap.size, a, none⟩) (Nat.le_refl _) _).drew
          case measure => simp [intOf]; omega
        · obtain rfl : q = n := by omega
          have HAL2 := hid (HAL.out kn C HT.out)
          have HTLk := hid (HTL.out kn)
          go_wp2_with fail
          refine bodyPost_ret (results_tmp2 rfl _ _ _) rfl ?_
          refine ⟨HB.out, some ⟨w.heap.size, 0, none⟩, q, turnL l kn, true, by rw [HTLk.out]; rfl, .inl ⟨kn, HP.out, HKN.out, rfl, rfl, rfl⟩, fun _ => ⟨w.heap.size, 0, rfl, lt_of_block HG.out, fun j x hj => ?_⟩⟩
          rw [Nat.zero_add, cell_of_row _ _ _ _ _ _ HG.out]
          exact HAL2.out j x hj
    · have HNo := hid (show ¬ (IsPair l ∧ 0 ≤ k ∧ k ≤ 20) from fun h => hk h.2)
      rw [decide_eq_false hk]
      go_wp2_with fail
      refine bodyPost_ret (results_tmp2 rfl _ _ _) rfl ?_
      exact ⟨(below_drewN' (Below.refl _ _) d).alloc (Nat.le_refl _) _, _, _, [], false, rfl, .inr ⟨HNo.out, rfl, rfl⟩, fun h => absurd h (by simp)⟩
  · rw [isPairB_false hp]
    have HNo := hid (show ¬ (IsPair l ∧ 0 ≤ k ∧ k ≤ 20) from fun h => hp h.1)
    clear hp
    go_wp2_with fail
    refine bodyPost_ret (results_tmp2 rfl _ _ _) rfl ?_
    exact ⟨(below_drewN' (Below.refl _ _) d).alloc (Nat.le_refl _) _, _, _, [], false, rfl, .inr ⟨HNo.out, rfl, rfl⟩, fun h => absurd h (by simp)⟩
end Go.Proofs.Ytgapdlokljcpbaa
