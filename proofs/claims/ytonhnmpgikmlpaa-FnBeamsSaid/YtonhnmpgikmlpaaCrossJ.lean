/- CrossTotal, CrossBeams, CrossRounds of the program, by their contracts. -/
import Derived.Test.YtonhnmpgikmlpaaCrossI
namespace Go.Proofs.Ytonhnmpgikmlpaa
open Go.RowKit Go.Shelf

set_option maxRecDepth 100000 in
set_option maxHeartbeats 2000000 in
theorem implCrossTotal_any (A : Option Addr) (c : Nat) (ss : List ByteArray) (w : World) (h : Strs w w.heap.size A ss) (hn : ss.length ≤ 1048576) (hs : ∀ s ∈ ss, s.size ≤ 1048576) :
    Calls Try.prog 20 #[.slice A ss.length c] w fun e w' => Below w.heap.size w w' ∧ ∃ x ok, e = .returned (.tuple #[.int .i64 x, .bool ok]) ∧ GridOut (crossR [0, 1, 2]) ss x ok := by
  have HB := hid ((Below.refl w.heap.size w).alloc (Nat.le_refl _) (.cells #[.int .i64 0, .int .i64 1, .int .i64 2] 3))
  have HN := hid (heap_new0 w (.cells #[.int .i64 0, .int .i64 1, .int .i64 2] 3))
  have HC := hid (crossings_any A c ss (some ⟨w.heap.size, 0, none⟩) 3 [0, 1, 2] (w.alloc (.cells #[.int .i64 0, .int .i64 1, .int .i64 2] 3)) ((h.below HB.out (Nat.le_refl _)).more (by simp)) (fun _ => ⟨w.heap.size, 0, rfl, by simp, fun k x hk => by
    rw [Nat.zero_add, cell_of_row _ _ _ _ _ _ HN.out]
    match k, hk with
    | 0, hk => simp at hk; subst hk; rfl
    | 1, hk => simp at hk; subst hk; rfl
    | 2, hk => simp at hk; subst hk; rfl
    | k + 3, hk => simp at hk⟩) (by decide) hn hs)
  clear h hs
  go_enter Try.func20, Try.ntmps20
  go_wp2_with fail
  refine HC.out.mono ?_
  rintro e w1 ⟨hb1, x, ok, rfl, hout⟩
  have HB1 := hid (HB.out.trans (hb1.mono HB.out.size))
  have HO := hid hout
  clear hb1 hout
  go_wp2_with fail
  refine bodyPost_ret (results_tmp2 rfl _ _ _) rfl ?_
  exact ⟨HB1.out, x, ok, rfl, HO.out⟩

set_option maxRecDepth 100000 in
set_option maxHeartbeats 2000000 in
theorem implCrossBeams_any (A : Option Addr) (c : Nat) (ss : List ByteArray) (w : World) (h : Strs w w.heap.size A ss) (hn : ss.length ≤ 1048576) (hs : ∀ s ∈ ss, s.size ≤ 1048576) :
    Calls Try.prog 23 #[.slice A ss.length c] w fun e w' => Below w.heap.size w w' ∧ ∃ x ok, e = .returned (.tuple #[.int .i64 x, .bool ok]) ∧ GridOut (crossR [0]) ss x ok := by
  have HB := hid ((Below.refl w.heap.size w).alloc (Nat.le_refl _) (.cells #[.int .i64 0] 3))
  have HN := hid (heap_new0 w (.cells #[.int .i64 0] 3))
  have HC := hid (crossings_any A c ss (some ⟨w.heap.size, 0, none⟩) 1 [0] (w.alloc (.cells #[.int .i64 0] 3)) ((h.below HB.out (Nat.le_refl _)).more (by simp)) (fun _ => ⟨w.heap.size, 0, rfl, by simp, fun k x hk => by
    rw [Nat.zero_add, cell_of_row _ _ _ _ _ _ HN.out]
    match k, hk with
    | 0, hk => simp at hk; subst hk; rfl
    | k + 1, hk => simp at hk⟩) (by decide) hn hs)
  clear h hs
  go_enter Try.func23, Try.ntmps23
  go_wp2_with fail
  refine HC.out.mono ?_
  rintro e w1 ⟨hb1, x, ok, rfl, hout⟩
  have HB1 := hid (HB.out.trans (hb1.mono HB.out.size))
  have HO := hid hout
  clear hb1 hout
  go_wp2_with fail
  refine bodyPost_ret (results_tmp2 rfl _ _ _) rfl ?_
  exact ⟨HB1.out, x, ok, rfl, HO.out⟩

set_option maxRecDepth 100000 in
set_option maxHeartbeats 2000000 in
theorem implCrossRounds_any (A : Option Addr) (c : Nat) (ss : List ByteArray) (w : World) (h : Strs w w.heap.size A ss) (hn : ss.length ≤ 1048576) (hs : ∀ s ∈ ss, s.size ≤ 1048576) :
    Calls Try.prog 30 #[.slice A ss.length c] w fun e w' => Below w.heap.size w w' ∧ ∃ x ok, e = .returned (.tuple #[.int .i64 x, .bool ok]) ∧ GridOut (crossR [2]) ss x ok := by
  have HB := hid ((Below.refl w.heap.size w).alloc (Nat.le_refl _) (.cells #[.int .i64 2] 3))
  have HN := hid (heap_new0 w (.cells #[.int .i64 2] 3))
  have HC := hid (crossings_any A c ss (some ⟨w.heap.size, 0, none⟩) 1 [2] (w.alloc (.cells #[.int .i64 2] 3)) ((h.below HB.out (Nat.le_refl _)).more (by simp)) (fun _ => ⟨w.heap.size, 0, rfl, by simp, fun k x hk => by
    rw [Nat.zero_add, cell_of_row _ _ _ _ _ _ HN.out]
    match k, hk with
    | 0, hk => simp at hk; subst hk; rfl
    | k + 1, hk => simp at hk⟩) (by decide) hn hs)
  clear h hs
  go_enter Try.func30, Try.ntmps30
  go_wp2_with fail
  refine HC.out.mono ?_
  rintro e w1 ⟨hb1, x, ok, rfl, hout⟩
  have HB1 := hid (HB.out.trans (hb1.mono HB.out.size))
  have HO := hid hout
  clear hb1 hout
  go_wp2_with fail
  refine bodyPost_ret (results_tmp2 rfl _ _ _) rfl ?_
  exact ⟨HB1.out, x, ok, rfl, HO.out⟩

end Go.Proofs.Ytonhnmpgikmlpaa
