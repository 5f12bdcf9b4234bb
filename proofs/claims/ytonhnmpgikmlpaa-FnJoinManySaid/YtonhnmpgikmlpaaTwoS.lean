/- JoinPairs and JoinRounds of the specification, by their contracts. -/
import Derived.Test.YtonhnmpgikmlpaaJoinedS
namespace Go.Proofs.Ytonhnmpgikmlpaa
open Go.RowKit Go.Shelf

noncomputable def twoOfB (n m : Int) (a : List Int) (k : Int) (b : List Int) : Bool := @decide (TwoOf n m a k b) (Classical.propDecidable _)
theorem twoOfB_true {n m k : Int} {a b : List Int} (h : TwoOf n m a k b) : twoOfB n m a k b = true := by unfold twoOfB; exact @decide_eq_true _ (Classical.propDecidable _) h
theorem twoOfB_false {n m k : Int} {a b : List Int} (h : ¬ TwoOf n m a k b) : twoOfB n m a k b = false := by unfold twoOfB; exact @decide_eq_false _ (Classical.propDecidable _) h

set_option maxRecDepth 100000 in
set_option maxHeartbeats 2000000 in
theorem l6jTwo_any (n m : Int) (A : Option Addr) (c : Nat) (a : List Int) (k : Int) (A2 : Option Addr) (c2 B : Nat) (b : List Int) (w : World) (h : Ints w B A a) (h2 : Ints w B A2 b) (hB : B ≤ w.heap.size) (hl : a.length ≤ 1048576) (hl2 : b.length ≤ 1048576) :
    Calls Try.prog 101 #[.int .i64 n, .int .i64 m, .slice A a.length c, .int .i64 k, .slice A2 b.length c2] w fun e w' => e = .returned (.bool (twoOfB n m a k b)) ∧ ∃ d, w' = w.drewN d := by
  have H1 := hid (l6jOf_any n m A c B a w h hl)
  have HB2 := hid (fun d : Nat => h2.below (below_drewN' (Below.refl w.heap.size w) d) hB)
  have H2 := hid (fun d : Nat => l6jOf_any n k A2 c2 B b (w.drewN d) (HB2.out d) hl2)
  clear h h2 hB hl hl2
  by_cases hpa : PairOf n m a
  · rw [pairOfB_true hpa] at H1
    by_cases hpb : PairOf n k b
    · simp only [pairOfB_true hpb] at H2
      have hm1 := hpa.2.1.1
      have hm2 := hpa.2.1.2
      have hk1 := hpb.2.1.1
      have hk2 := hpb.2.1.2
      have HP := hid (And.intro hpa hpb)
      clear hpa hpb
      by_cases hs : m + k ≤ 5
      · have HT := hid (twoOfB_true (n := n) (m := m) (k := k) (a := a) (b := b) ⟨HP.out.1, HP.out.2, hs⟩)
        go_enter Try.func101, Try.ntmps101
        go_wp2_with fail
        refine H1.out.mono ?_
        rintro e w1 ⟨rfl, d, rfl⟩
        go_wp2_with fail
        refine (H2.out d).mono ?_
        rintro e w1 ⟨rfl, d2, rfl⟩
        go_wp2_with fail
        go_ret
        exact ⟨by rw [HT.out]; rfl, _, rfl⟩
      · have HT := hid (twoOfB_false (n := n) (m := m) (k := k) (a := a) (b := b) (fun h => hs h.2.2))
        have HSN := hid hs
        go_enter Try.func101, Try.ntmps101
        go_wp2_with fail
        refine H1.out.mono ?_
        rintro e w1 ⟨rfl, d, rfl⟩
        go_wp2_with fail
        refine (H2.out d).mono ?_
        rintro e w1 ⟨rfl, d2, rfl⟩
        go_wp2_with fail
        go_ret
        exact ⟨by rw [HT.out]; show Ending.returned (.bool (decide (m + k ≤ 5))) = _; rw [decide_eq_false (show ¬ m + k ≤ 5 by have := HSN.out; omega)], _, rfl⟩
    · simp only [pairOfB_false hpb] at H2
      have HT := hid (twoOfB_false (n := n) (m := m) (k := k) (a := a) (b := b) (fun h => hpb h.2.1))
      clear hpa hpb
      go_enter Try.func101, Try.ntmps101
      go_wp2_with fail
      refine H1.out.mono ?_
      rintro e w1 ⟨rfl, d, rfl⟩
      go_wp2_with fail
      refine (H2.out d).mono ?_
      rintro e w1 ⟨rfl, d2, rfl⟩
      go_wp2_with fail
      go_ret
      exact ⟨by rw [HT.out]; rfl, _, rfl⟩
  · rw [pairOfB_false hpa] at H1
    have HT := hid (twoOfB_false (n := n) (m := m) (k := k) (a := a) (b := b) (fun h => hpa h.1))
    clear hpa H2
    go_enter Try.func101, Try.ntmps101
    go_wp2_with fail
    refine H1.out.mono ?_
    rintro e w1 ⟨rfl, d, rfl⟩
    go_wp2_with fail
    go_ret
    exact ⟨by rw [HT.out]; rfl, d, rfl⟩

set_option maxRecDepth 100000 in
set_option maxHeartbeats 2000000 in
theorem specJoinPairs_any (n m : Int) (A : Option Addr) (c : Nat) (a : List Int) (k : Int) (A2 : Option Addr) (c2 B : Nat) (b : List Int) (w : World) (h : Ints w B A a) (h2 : Ints w B A2 b) (hB : B ≤ w.heap.size) (hl : a.length ≤ 1048576) (hl2 : b.length ≤ 1048576) :
    Calls Try.prog 40 #[.int .i64 n, .int .i64 m, .slice A a.length c, .int .i64 k, .slice A2 b.length c2] w fun e w' => Below w.heap.size w w' ∧ ∃ A' c' res ok, e = .returned (.tuple #[.slice A' res.length c', .bool ok]) ∧ LOut (TwoOf n m a k b) (joinedL n.toNat m.toNat a b) res ok ∧ Ints w' w'.heap.size A' res := by
  have H := hid (l6jTwo_any n m A c a k A2 c2 B b w h h2 hB hl hl2)
  by_cases hp : TwoOf n m a k b
  · rw [twoOfB_true hp] at H
    have HD := hid hp
    have hn1 := hp.1.1
    have hm1 := hp.1.2.1
    have hk1 := hp.2.1.2.1
    obtain ⟨N, rfl⟩ : ∃ N : Nat, n = (N : Int) := ⟨n.toNat, by omega⟩
    obtain ⟨M, rfl⟩ : ∃ M : Nat, m = (M : Int) := ⟨m.toNat, by omega⟩
    obtain ⟨K, rfl⟩ : ∃ K : Nat, k = (K : Int) := ⟨k.toNat, by omega⟩
    have HJ := hid (fun d : Nat => l6jJoined_any N M K A A2 c c2 B a b (w.drewN d) (h.below (below_drewN' (Below.refl w.heap.size w) d) hB) (h2.below (below_drewN' (Below.refl w.heap.size w) d) hB) hB hp)
    rw [Int.toNat_natCast, Int.toNat_natCast]
    generalize joinedR N M a b = RN at *
    generalize joinedL N M a b = JL at *
    clear hp h h2 hB hl hl2 hn1 hm1 hk1
    go_enter Try.func40, Try.ntmps40
    go_wp2_with fail
    refine H.out.mono ?_
    rintro e w1 ⟨rfl, d, rfl⟩
    go_wp2_with fail
    refine (HJ.out d).mono ?_
    rintro e w1 ⟨hb, g, c', rfl, hr⟩
    have HB := hid ((below_drewN' (Below.refl w.heap.size w) d).trans hb)
    have HR := hid hr
    clear hb hr
    go_wp2_with fail
    refine bodyPost_ret (results_tmp2 rfl _ _ _) rfl ?_
    exact ⟨HB.out, some ⟨g, 0, none⟩, c', JL, true, rfl, .inl ⟨HD.out, rfl, rfl⟩, HR.out.ints HR.out.lt⟩
  · rw [twoOfB_false hp] at H
    have HNo := hid hp
    clear hp h h2
    go_enter Try.func40, Try.ntmps40
    go_wp2_with fail
    refine H.out.mono ?_
    rintro e w1 ⟨rfl, d, rfl⟩
    go_wp2_with fail
    refine bodyPost_ret (results_tmp2 rfl _ _ _) rfl ?_
    exact ⟨(below_drewN' (Below.refl w.heap.size w) d).alloc (Nat.le_refl _) _, _, _, [], false, rfl, .inr ⟨HNo.out, rfl, rfl⟩, fun h0 => absurd h0 (by simp)⟩

set_option maxRecDepth 100000 in
set_option maxHeartbeats 2000000 in
theorem specJoinRounds_any (n m : Int) (A : Option Addr) (c : Nat) (a : List Int) (k : Int) (A2 : Option Addr) (c2 B : Nat) (b : List Int) (w : World) (h : Ints w B A a) (h2 : Ints w B A2 b) (hB : B ≤ w.heap.size) (hl : a.length ≤ 1048576) (hl2 : b.length ≤ 1048576) :
    Calls Try.prog 59 #[.int .i64 n, .int .i64 m, .slice A a.length c, .int .i64 k, .slice A2 b.length c2] w fun e w' => Below w.heap.size w w' ∧ ∃ res ok, e = .returned (.tuple #[.int .i64 res, .bool ok]) ∧ IOut (TwoOf n m a k b) ((joinedR n.toNat m.toNat a b : Nat) : Int) res ok := by
  have H := hid (l6jTwo_any n m A c a k A2 c2 B b w h h2 hB hl hl2)
  by_cases hp : TwoOf n m a k b
  · rw [twoOfB_true hp] at H
    have HD := hid hp
    have hn1 := hp.1.1
    have hm1 := hp.1.2.1
    have hk1 := hp.2.1.2.1
    obtain ⟨N, rfl⟩ : ∃ N : Nat, n = (N : Int) := ⟨n.toNat, by omega⟩
    obtain ⟨M, rfl⟩ : ∃ M : Nat, m = (M : Int) := ⟨m.toNat, by omega⟩
    obtain ⟨K, rfl⟩ : ∃ K : Nat, k = (K : Int) := ⟨k.toNat, by omega⟩
    have HJ := hid (fun d : Nat => l6jJoined_any N M K A A2 c c2 B a b (w.drewN d) (h.below (below_drewN' (Below.refl w.heap.size w) d) hB) (h2.below (below_drewN' (Below.refl w.heap.size w) d) hB) hB hp)
    rw [Int.toNat_natCast, Int.toNat_natCast]
    generalize joinedR N M a b = RN at *
    generalize joinedL N M a b = JL at *
    clear hp h h2 hB hl hl2 hn1 hm1 hk1
    go_enter Try.func59, Try.ntmps59
    go_wp2_with fail
    refine H.out.mono ?_
    rintro e w1 ⟨rfl, d, rfl⟩
    go_wp2_with fail
    refine (HJ.out d).mono ?_
    rintro e w1 ⟨hb, g, c', rfl, hr⟩
    have HB := hid ((below_drewN' (Below.refl w.heap.size w) d).trans hb)
    clear hb hr
    go_wp2_with fail
    refine bodyPost_ret (results_tmp2 rfl _ _ _) rfl ?_
    exact ⟨HB.out, (RN : Int), true, rfl, .inl ⟨HD.out, rfl, rfl⟩⟩
  · rw [twoOfB_false hp] at H
    have HNo := hid hp
    clear hp h h2
    go_enter Try.func59, Try.ntmps59
    go_wp2_with fail
    refine H.out.mono ?_
    rintro e w1 ⟨rfl, d, rfl⟩
    go_wp2_with fail
    refine bodyPost_ret (results_tmp2 rfl _ _ _) rfl ?_
    exact ⟨below_drewN' (Below.refl _ _) d, 0, false, rfl, .inr ⟨HNo.out, rfl, rfl⟩⟩
end Go.Proofs.Ytonhnmpgikmlpaa
