/- heldStringS, by its contract; marks on nothing. -/
import Derived.Test.YtmdgbcepjnfbnaaMarks
import Derived.Test.YtmdgbcepjnfbnaaCells1
import Derived.Test.YtmdgbcepjnfbnaaIter
namespace Go.Proofs.Ytmdgbcepjnfbnaa
open Go.RowKit Go.Shelf
attribute [local go_sem] Oper.semAt_some

set_option maxHeartbeats 400000 in
theorem markStringS_nil (k0 : Nat) (w : World) :
    Calls Try.prog 37 #[.slice none 0 0, .int .i64 k0] w fun e w' => e = .returned (.int .i64 k0) ∧ w = w' := by
  go_enter Try.func37, Try.ntmps37
  go_wp2
  refine wp_loop_rounds 1 ?_
  rw [rounds_succ]
  go_wp2
  go_ret
  exact ⟨rfl, rfl⟩

set_option maxHeartbeats 400000 in
theorem heldStringS_nil (k0 : Nat) (w : World) :
    Calls Try.prog 52 #[.slice none 0 0, .int .i64 k0] w fun e w' => e = .returned (.int .i64 k0) ∧ w = w' := by
  go_enter Try.func52, Try.ntmps52
  go_wp2
  refine wp_loop_rounds 1 ?_
  rw [rounds_succ]
  go_wp2
  go_ret
  exact ⟨rfl, rfl⟩

def HdRel (k0 n : Nat) (w : World) (kv iv : Value) (wr : World) : Prop :=
  ∃ i : Nat, i ≤ n ∧ kv = .int .i64 ((k0 + i : Nat) : Int) ∧ iv = .int .i64 i ∧ Below w.heap.size w wr

set_option maxRecDepth 100000 in
set_option maxHeartbeats 1000000 in
theorem heldStringS_row (g c n k0 : Nat) (w : World) (h : Row9 w g (marksOf k0 n)) (h1 : 1 ≤ k0) (h2 : k0 + n ≤ 4194304) :
    Calls Try.prog 52 #[.slice (some ⟨g, 0, none⟩) n c, .int .i64 k0] w fun e w' => e = .returned (.int .i64 ((k0 + n : Nat) : Int)) ∧ Below w.heap.size w w' := by
  have HH := hid h
  clear h
  refine (callsIn_wide (n := 3)).1 ?_
  refine callsIn_of_wp Try.func52 rfl trivial ?_ rfl
  simp only [Try.ntmps52, List.size_toArray, List.length_cons, List.length_nil, Nat.reduceAdd, Nat.reduceSub, Array.replicate_succ, Array.replicate_zero, List.push_toArray, List.append_toArray, List.nil_append, List.cons_append]
  gi_wp2
  gi_loopw [1, 5] (HdRel k0 n w) (fun _ i _ => n - (intOf i).toNat)
  case atStart => exact ⟨0, Nat.zero_le _, rfl, rfl, Below.refl _ _⟩
  case round =>
    obtain ⟨i, hi, rfl, rfl, hb⟩ := hrel
    have HB := hid hb
    clear hb
    by_cases hlt : i < n
    · have hr := HH.out.below HB.out HH.out.lt
      obtain ⟨kk, hkk⟩ : ∃ kk, k0 + i = kk := ⟨_, rfl⟩
      have hki : ((k0 + i : Nat) : Int) = (kk : Int) := by rw [hkk]
      rw [hki]
      obtain ⟨tx, htx⟩ : ∃ tx, markOf kk = tx := ⟨_, rfl⟩
      have hmk : ∀ w', Cls wr w' → Calls Try.prog 86 #[.int .i64 kk] w' fun e w'' => e = .returned (.string tx) ∧ Cls wr w'' := fun w' hw =>
        htx ▸ (markText_any kk w' (by omega) (by omega)).mono fun e w'' ⟨he, hb'⟩ => ⟨he, hw.trans (hb'.mono hw.size)⟩
      have hcell : ∀ w', Cls wr w' → w'.cell? ⟨g, i, none⟩ = some (.string tx) := fun w' hw => by
        obtain ⟨cs, hg, hc⟩ := hr.below hw hr.lt
        rw [cell_of_row _ _ _ _ _ _ hg]
        have := hc i _ (marksOf_at hlt)
        rw [hkk, htx] at this
        exact this
      have hk1 : (kk : Int) + 1 ≤ 4194305 := by omega
      have hk0 : 0 ≤ (kk : Int) := by omega
      have hii : (i : Int) < (n : Int) := by omega
      have hi0 : 0 ≤ (i : Int) := by omega
      have HKK := hid hkk
      have HM := hid hmk
      have HC := hid hcell
      clear hkk hki hr htx hmk hcell
      gi_wp2
      refine wpIn_region_quiet_tail (Open.wide _) 6 (Cls wr) (by kernel_rfl) (by kernel_rfl) (Below.refl _ wr).drew ?_
      simp only [List.take_succ_cons, List.take_zero, List.drop_succ_cons, List.drop_zero]
      quiet_step ((intro _; rfl))
      quiet_step ((intro _; rfl))
      quiet_step ((intro _; rfl))
      refine wpQuiet_value rfl (.string tx) (fun w hw => by have hc := HC.out w hw; go_simp) ?_
      quiet_step ((intro _; rfl))
      refine wpQuiet_call rfl 86 #[.int .i64 kk] (.string tx) (fun w _ => by go_simp) HM.out ?_
      refine wpQuiet_nil ?_
      intro w2 hw2
      have HW := hid (HB.out.trans (hw2.mono HB.out.size))
      clear hw2
      gi_wp2
      go_roundw
      case rel => exact ⟨i + 1, by omega, by rw [← Nat.add_assoc, HKK.out]; go_num, by go_num, HW.out⟩
      case measure => simp [intOf]; omega
    · obtain rfl : i = n := by omega
      gi_wp2
      refine bodyPost_ret (results_tmp rfl _ _ _) rfl ?_
      exact ⟨rfl, HB.out⟩

end Go.Proofs.Ytmdgbcepjnfbnaa
