/- How often a trace goes through a place; how often a number stands on a list (the specification's l2Often). -/
import Derived.Test.YtpbppkidglmacaaLength
import Derived.Test.YtpbppkidglmacaaBunB
import Derived.Test.YtpbppkidglmacaaOften
namespace Go.Proofs.Ytpbppkidglmacaa
open Go.RowKit Go.Shelf Go.Maps

theorem mem_goes {bw : Nat → Wy} {L : Nat} {y : Wy} : decide (y ∈ waysL bw L) = goesTo bw L y := by
  rw [Bool.eq_iff_iff, decide_eq_true_iff, goesTo_iff, waysL_mem]

def TimesRel (g : Nat → Bool) (w : World) (tv hv : Value) (wr : World) : Prop :=
  ∃ j : Nat, j ≤ 4 ∧ tv = .int .i64 ((upT g j : Nat) : Int) ∧ hv = .int .i64 (j : Int) ∧ wr = w

section
attribute [local go_sem] Oper.semAt_some
set_option maxRecDepth 100000 in
set_option maxHeartbeats 2000000 in
theorem times_any (cs : Array Value) (hc : cs.size = 27) (b : Nat) (bw : Nat → Wy) (L : Nat) (i k : Int) (hi : -100 ≤ i ∧ i ≤ 100 ∧ -100 ≤ k ∧ k ≤ 100) (w : World) (hm : MapOf w b (waysL bw L)) (hx : ∀ x ∈ waysL bw L, okW x) :
    Calls Try.prog 91 #[.agg (tcells cs b), .agg #[.int .i64 i, .int .i64 k]] w fun e w' => e = .returned (.int .i64 ((upT (fun d => goesTo bw L ⟨i, k, d⟩) 4 : Nat) : Int)) ∧ Below w.heap.size w w' := by
  have HG := hid (show ∀ d : Nat, decide ((⟨i, k, d⟩ : Wy) ∈ waysL bw L) = goesTo bw L ⟨i, k, d⟩ from fun d => mem_goes)
  generalize hg : (fun d => goesTo bw L ⟨i, k, d⟩) = g
  have HG2 := hid (show ∀ d : Nat, decide ((⟨i, k, d⟩ : Wy) ∈ waysL bw L) = g d from fun d => by rw [← hg]; exact mem_goes)
  clear HG hg
  generalize waysL bw L = xs at *
  have HM := hid ((hm.alloc (.cells (tcells cs b) 62)).alloc (.cells #[.int .i64 i, .int .i64 k] 55))
  have HX := hid hx
  have HI := hid hi
  have hcell : ((w.alloc (.cells (tcells cs b) 62)).alloc (.cells #[.int .i64 i, .int .i64 k] 55)).cell? ⟨w.heap.size, 27, none⟩ = some (.map (some b)) := by
    rw [cell_of_row _ _ _ _ _ _ (heap_new1 w _ _)]; exact tcells_map hc b
  have hb0 := heap_new0 (w.alloc (.cells (tcells cs b) 62)) (.cells #[.int .i64 i, .int .i64 k] 55)
  rw [World.size_alloc] at hb0
  have hp0 : ((w.alloc (.cells (tcells cs b) 62)).alloc (.cells #[.int .i64 i, .int .i64 k] 55)).cell? ⟨w.heap.size + 1, 0, none⟩ = some (.int .i64 i) := by rw [cell_of_row _ _ _ _ _ _ hb0]; rfl
  have hp1 : ((w.alloc (.cells (tcells cs b) 62)).alloc (.cells #[.int .i64 i, .int .i64 k] 55)).cell? ⟨w.heap.size + 1, 1, none⟩ = some (.int .i64 k) := by rw [cell_of_row _ _ _ _ _ _ hb0]; rfl
  have HBe := hid (show Below w.heap.size w ((w.alloc (.cells (tcells cs b) 62)).alloc (.cells #[.int .i64 i, .int .i64 k] 55)) from ((Below.refl _ w).alloc (Nat.le_refl _) _).alloc (by simp) _)
  have HC := hid hcell
  have HP0 := hid hp0
  have HP1 := hid hp1
  clear hm hx hi hc hcell hb0 hp0 hp1
  generalize tcells cs b = ts at *
  generalize hY : (w.alloc (.cells ts 62)).alloc (.cells #[.int .i64 i, .int .i64 k] 55) = Y at HM HC HP0 HP1 HBe
  have HY := hid hY
  clear hY
  refine (callsIn_wide (n := 3)).1 ?_
  refine callsIn_of_wp Try.func91 rfl trivial ?_ rfl
  simp only [Try.ntmps91, List.size_toArray, List.length_cons, List.length_nil, Nat.reduceAdd, Nat.reduceSub, Array.replicate_succ, Array.replicate_zero, List.push_toArray, List.append_toArray, List.nil_append, List.cons_append]
  gi_wp2_with fail
  rw [HY.out]
  gi_loopw [5, 7] (TimesRel g Y) (fun _ h _ => 4 - (intOf h).toNat)
  case atStart => exact ⟨0, by decide, rfl, rfl, rfl⟩
  case round =>
    obtain ⟨j, hj, rfl, rfl, rfl⟩ := hrel
    have hle := upT_le g j
    have hsuc : upT g (j + 1) = upT g j + (g j).toNat := rfl
    have hbb := HG2.out j
    obtain ⟨tj, htj⟩ : ∃ tj, upT g j = tj := ⟨_, rfl⟩
    rw [htj] at hle hsuc ⊢
    have HTJ := hid htj
    clear htj
    by_cases hlt : j < 4
    · have hok : okW ⟨i, k, j⟩ := by
        have := HI.out
        exact ⟨this.1, this.2.1, this.2.2.1, this.2.2.2, by show j ≤ 100; omega⟩
      have HOK := hid hok
      have hcell := HC.out
      have hp0 := HP0.out
      have hp1 := HP1.out
      have HSU := hid hsuc
      clear hsuc hok
      cases hgj : g j with
      | true =>
        rw [hgj] at hbb HSU
        have HBB := hid hbb
        have HSX := hid (show upT g (j + 1) = tj + 1 from HSU.out)
        clear hbb hgj
        gi_wp2_with (refine wpListIn_look_way rfl _ _ rfl ⟨i, k, j⟩ HOK.out rfl HM.out HX.out rfl ?_; rw [HBB.out])
        go_roundw
        case rel => exact ⟨j + 1, by omega, by rw [HSX.out]; go_num, by go_num, rfl⟩
        case measure => simp [intOf]; omega
      | false =>
        rw [hgj] at hbb HSU
        have HBB := hid hbb
        have HSX := hid (show upT g (j + 1) = tj from HSU.out)
        clear hbb hgj
        gi_wp2_with (refine wpListIn_look_way rfl _ _ rfl ⟨i, k, j⟩ HOK.out rfl HM.out HX.out rfl ?_; rw [HBB.out])
        go_roundw
        case rel => exact ⟨j + 1, by omega, by rw [HSX.out], by go_num, rfl⟩
        case measure => simp [intOf]; omega
    · obtain rfl : j = 4 := by omega
      gi_wp2
      refine bodyPost_ret (results_tmp rfl _ _ _) rfl ?_
      exact ⟨by rw [HTJ.out]; rfl, HBe.out⟩
end

end Go.Proofs.Ytpbppkidglmacaa
