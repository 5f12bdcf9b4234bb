/- Joined pairings seen from behind: fromBehind, flipped of the program, by their contracts. -/
import Derived.Test.YtkooahfpogcmiaaJoinF
import Derived.Test.YtkooahfpogcmiaaBunG
namespace Go.Proofs.Ytkooahfpogcmiaa
open Go.RowKit Go.Shelf

theorem rangeAt_head {w : World} {b : Nat} {all : Array Value} {t : TypeId} {fr : Nat × Nat} {cs : Array Value} (hg : w.heap[b]? = some (.cells all t fr)) (hpre : ∀ (j : Nat) (v : Value), cs[j]? = some v → all[j]? = some v) : w.rangeAt b 0 cs.toList := fun j v hv => by
  rw [cell_of_row _ _ _ _ _ _ hg, Nat.zero_add]
  exact hpre j v (by simpa using hv)

set_option maxRecDepth 100000 in
set_option maxHeartbeats 4000000 in
theorem fromBehind_any (l : List Int) (n m r P k : Nat) (w : World) (hl : l.length = 20) (hP : portsN l = P) (h20 : P ≤ 20) (hm1 : 1 ≤ m) (hm : m ≤ 5) (hk : k < P) :
    Calls Try.prog 74 #[.agg (pairC (joinL l n m r)), .int .i64 (k : Int)] w fun e w' => e = .returned (.int .i64 ((flipN P m k : Nat) : Int)) ∧ Below w.heap.size w w' := by
  have HPO := hid (fun W => pports_any l W hl)
  rw [hP] at HPO
  have HSP := hid (size_pairL hl)
  have H1 := hid (joinL_columns hl n m r)
  have HPRE := hid (fun (j : Nat) (v : Value) (h : (pairC l)[j]? = some v) => joinL_pre (n := n) (m := m) (r := r) h)
  generalize pairC (joinL l n m r) = cs at *
  generalize pairC l = pc at *
  clear hl hP
  have H0 := hid (heap_new0 w (.cells cs 51))
  have HB := hid ((Below.refl w.heap.size w).alloc (Nat.le_refl _) (.cells cs 51))
  obtain ⟨z, hz⟩ : ∃ z, flipN P m k = z := ⟨_, rfl⟩
  rw [hz]
  have HZ := hid (show ((P : Int) + (m : Int) - 1 - (k : Int)).tmod (P : Int) = (z : Int) by
    rw [show (P : Int) + (m : Int) - 1 - (k : Int) = ((P + m - 1 - k : Nat) : Int) by omega, Int.tmod_eq_emod_of_nonneg (Int.natCast_nonneg _), ← hz]
    rfl)
  clear hz
  have hw1 : IntKind.i64.wrap ((P : Int) + (m : Int)) = (P : Int) + (m : Int) := IntWalk.i64_in _ (by omega)
  have hw2 : IntKind.i64.wrap ((P : Int) + (m : Int) - 1) = (P : Int) + (m : Int) - 1 := IntWalk.i64_in _ (by omega)
  have hw3 : IntKind.i64.wrap ((P : Int) + (m : Int) - 1 - (k : Int)) = (P : Int) + (m : Int) - 1 - (k : Int) := IntWalk.i64_in _ (by omega)
  have hPz : ¬ P = 0 := by omega
  go_enter Try.func74, Try.ntmps74
  go_wp2_with fail
  generalize World.alloc w _ = X at H0 HB ⊢
  have HX := hid (fun W (hw : Cls X W) => (hw.block _ (lt_of_block H0.out)).trans H0.out)
  refine wp_region_quiet (C := Cls X) (by kernel_rfl) (by kernel_rfl) (Below.refl _ X).drew ?_
  quiet_step ((intro _; rfl))
  refine wpQuiet_load_mid (by go_simp) 49 _ rfl w.heap.size 0 rfl pc _ (fun W hw => rangeAt_head (HX.out W hw) HPRE.out) Try.underlying49 rfl HSP.out ?_
  refine wpQuiet_call rfl 68 #[.agg pc] (.int .i64 (P : Int)) (fun w _ => by go_simp) (fun w' hw => (HPO.out w').mono fun e w'' ⟨he, hb'⟩ => ⟨he, hw.trans (hb'.mono hw.size)⟩) ?_
  quiet_step ((intro _; rfl))
  refine wpQuiet_value rfl (.int .i64 (m : Int)) (fun w' hw => by have hc : w'.cell? ⟨w.heap.size, 21, none⟩ = some (.int .i64 (m : Int)) := by { rw [cell_of_row _ _ _ _ _ _ (HX.out w' hw)]; exact H1.out }; go_simp) ?_
  refine wpQuiet_value rfl (.int .i64 ((P : Int) + (m : Int))) (fun w' _ => by go_simp) ?_
  refine wpQuiet_value rfl (.int .i64 ((P : Int) + (m : Int) - 1)) (fun w' _ => by go_simp) ?_
  quiet_step ((intro _; rfl))
  refine wpQuiet_value rfl (.int .i64 ((P : Int) + (m : Int) - 1 - (k : Int))) (fun w' _ => by go_simp) ?_
  quiet_step ((intro _; rfl))
  refine wpQuiet_load_mid (by go_simp) 49 _ rfl w.heap.size 0 rfl pc _ (fun W hw => rangeAt_head (HX.out W hw) HPRE.out) Try.underlying49 rfl HSP.out ?_
  refine wpQuiet_call rfl 68 #[.agg pc] (.int .i64 (P : Int)) (fun w _ => by go_simp) (fun w' hw => (HPO.out w').mono fun e w'' ⟨he, hb'⟩ => ⟨he, hw.trans (hb'.mono hw.size)⟩) ?_
  refine wpQuiet_value rfl (.int .i64 (z : Int)) (fun w' _ => by have hz := HZ.out; go_simp) ?_
  quiet_step ((intro _; rfl))
  refine wpQuiet_nil ?_
  intro w2 hw2
  have HB2 := hid (HB.out.trans (hw2.mono HB.out.size))
  clear hw2
  go_wp2_with fail
  go_ret
  exact ⟨rfl, HB2.out⟩
end Go.Proofs.Ytkooahfpogcmiaa
