/- Pairings of rows and columns of the specification: l6jOf, l6jMap, JoinFlip, JoinTurn, by their contracts. -/
import Derived.Test.YtkkifpjeafchnaaJoinFt
import Derived.Test.YtkkifpjeafchnaaPairS
import Derived.Test.YtkkifpjeafchnaaCameI
namespace Go.Proofs.Ytkkifpjeafchnaa
open Go.RowKit Go.Shelf

/-- Whether the list is a pairing of so many rows and columns, as a bool. -/
noncomputable def pairOfB (n m : Int) (l : List Int) : Bool := @decide (PairOf n m l) (Classical.propDecidable _)
theorem pairOfB_true {n m : Int} {l : List Int} (h : PairOf n m l) : pairOfB n m l = true := by unfold pairOfB; exact @decide_eq_true _ (Classical.propDecidable _) h
theorem pairOfB_false {n m : Int} {l : List Int} (h : ¬ PairOf n m l) : pairOfB n m l = false := by unfold pairOfB; exact @decide_eq_false _ (Classical.propDecidable _) h

set_option maxRecDepth 100000 in
set_option maxHeartbeats 2000000 in
theorem l6jOf_any (n m : Int) (A : Option Addr) (c B : Nat) (l : List Int) (w : World) (h : Ints w B A l) (hn : l.length ≤ 1048576) :
    Calls Try.prog 92 #[.int .i64 n, .int .i64 m, .slice A l.length c] w fun e w' => e = .returned (.bool (pairOfB n m l)) ∧ ∃ d, w' = w.drewN d := by
  have H := hid (fun W (hh : Ints W B A l) => l5In_any A c B l W hh hn)
  have HI := hid h
  have HS := hid (fun x W => l6In_any x 1 5 W)
  have HLP := hid (fun (a b : Nat) W (ha : a ≤ 5) (hb : b ≤ 5) => l2Ports_any a b W ha hb)
  have HPB := hid (fun (h : IsPair l) => isPairB_true h)
  have HPF := hid (fun (h : ¬ IsPair l) => isPairB_false h)
  obtain ⟨len, hlen⟩ : ∃ len, l.length = len := ⟨_, rfl⟩
  have HLEN := hid hlen
  rw [hlen] at H ⊢
  clear h hlen
  by_cases hn1 : 1 ≤ n ∧ n ≤ 5
  · obtain ⟨a, rfl⟩ : ∃ a : Nat, n = (a : Int) := ⟨n.toNat, by omega⟩
    have s1 := hid (show ∀ W, Calls Try.prog 69 #[.int .i64 (a : Int), .int .i64 1, .int .i64 5] W fun e w' => e = .returned (.bool true) ∧ W = w' from fun W => by have := HS.out (a : Int) W; rwa [decide_eq_true hn1] at this)
    by_cases hm1 : 1 ≤ m ∧ m ≤ 5
    · obtain ⟨b, rfl⟩ : ∃ b : Nat, m = (b : Int) := ⟨m.toNat, by omega⟩
      have s2 := hid (show ∀ W, Calls Try.prog 69 #[.int .i64 (b : Int), .int .i64 1, .int .i64 5] W fun e w' => e = .returned (.bool true) ∧ W = w' from fun W => by have := HS.out (b : Int) W; rwa [decide_eq_true hm1] at this)
      have s3 := hid (fun W => HLP.out a b W (by omega) (by omega))
      have HNM := hid (And.intro hn1 hm1)
      clear hn1 hm1
      go_enter Try.func92, Try.ntmps92
      by_cases hl : (len : Int) = 2 * ((a : Int) + (b : Int))
      · have heq : ((len : Int) == 2 * ((a : Int) + (b : Int))) = true := by rw [hl]; simp
        have HL := hid hl
        clear hl
        go_wp2_with fail
        refine (s1.out _).mono ?_
        rintro e w' ⟨rfl, rfl⟩
        go_wp2_with fail
        refine (s2.out _).mono ?_
        rintro e w' ⟨rfl, rfl⟩
        go_wp2_with fail
        refine (s3.out _).mono ?_
        rintro e w' ⟨rfl, rfl⟩
        go_wp2_with fail
        refine (H.out _ HI.out).mono ?_
        rintro e w1 ⟨rfl, d, rfl⟩
        by_cases hp : IsPair l
        · rw [HPB.out hp]
          have HT := hid (pairOfB_true (n := (a : Int)) (m := (b : Int)) (l := l) ⟨HNM.out.1, HNM.out.2, hp, by rw [HLEN.out]; exact HL.out⟩)
          clear hp
          go_wp2_with fail
          go_ret
          exact ⟨by rw [HT.out]; rfl, d, rfl⟩
        · rw [HPF.out hp]
          have HT := hid (pairOfB_false (n := (a : Int)) (m := (b : Int)) (l := l) fun h => hp h.2.2.1)
          clear hp
          go_wp2_with fail
          go_ret
          exact ⟨by rw [HT.out]; rfl, d, rfl⟩
      · have heq : ((len : Int) == 2 * ((a : Int) + (b : Int))) = false := by simpa using hl
        have HT := hid (pairOfB_false (n := (a : Int)) (m := (b : Int)) (l := l) fun h => hl (by rw [← HLEN.out]; exact h.2.2.2))
        clear hl
        go_wp2_with fail
        refine (s1.out _).mono ?_
        rintro e w' ⟨rfl, rfl⟩
        go_wp2_with fail
        refine (s2.out _).mono ?_
        rintro e w' ⟨rfl, rfl⟩
        go_wp2_with fail
        refine (s3.out _).mono ?_
        rintro e w' ⟨rfl, rfl⟩
        go_wp2_with fail
        go_ret
        exact ⟨by rw [HT.out]; rfl, 0, rfl⟩
    · have s2 := hid (show ∀ W, Calls Try.prog 69 #[.int .i64 m, .int .i64 1, .int .i64 5] W fun e w' => e = .returned (.bool false) ∧ W = w' from fun W => by have := HS.out m W; rwa [decide_eq_false hm1] at this)
      have HT := hid (pairOfB_false (n := (a : Int)) (m := m) (l := l) fun h => hm1 h.2.1)
      clear hn1 hm1
      go_enter Try.func92, Try.ntmps92
      go_wp2_with fail
      refine (s1.out _).mono ?_
      rintro e w' ⟨rfl, rfl⟩
      go_wp2_with fail
      refine (s2.out _).mono ?_
      rintro e w' ⟨rfl, rfl⟩
      go_wp2_with fail
      go_ret
      exact ⟨by rw [HT.out]; rfl, 0, rfl⟩
  · have s1 := hid (show ∀ W, Calls Try.prog 69 #[.int .i64 n, .int .i64 1, .int .i64 5] W fun e w' => e = .returned (.bool false) ∧ W = w' from fun W => by have := HS.out n W; rwa [decide_eq_false hn1] at this)
    have HT := hid (pairOfB_false (n := n) (m := m) (l := l) fun h => hn1 h.1)
    clear hn1
    go_enter Try.func92, Try.ntmps92
    go_wp2_with fail
    refine (s1.out _).mono ?_
    rintro e w' ⟨rfl, rfl⟩
    go_wp2_with fail
    go_ret
    exact ⟨by rw [HT.out]; rfl, 0, rfl⟩

/-- The cells that l6jMap has filled after k rounds. -/
def Mapped (N : Nat) (f s : Nat → Nat) (k : Nat) (C : Array Value) : Prop := C.size = N ∧ ∀ q, q < k → C[f q]? = some (Value.int .i64 ((f (s q) : Nat) : Int))
theorem Mapped.step {N k : Nat} {f g s : Nat → Nat} {C : Array Value} (hn : Names N f g) (h : Mapped N f s k C) (hk : k < N) : Mapped N f s (k + 1) (C.setIfInBounds (f k) (.int .i64 ((f (s k) : Nat) : Int))) := by
  refine ⟨by simpa using h.1, fun q hq => ?_⟩
  rw [Array.getElem?_setIfInBounds]
  have hlt := hn.flt k hk
  by_cases e : f k = f q
  · have e2 := congrArg g e
    rw [hn.gf k hk, hn.gf q (by omega)] at e2
    rw [if_pos e, if_pos (by rw [h.1]; exact hlt), e2]
  · rw [if_neg e]
    exact h.2 q (by
      rcases Nat.lt_or_ge q k with h1 | h1
      · exact h1
      · exact absurd (by rw [show q = k by omega]) e)
theorem Mapped.all {N : Nat} {f g s : Nat → Nat} {C : Array Value} (hn : Names N f g) (h : Mapped N f s N C) : ∀ (j : Nat) (x : Int), (listS N (renS f g s))[j]? = some x → C[j]? = some (.int .i64 x) := fun j x hj => by
  have hlt := (List.getElem?_eq_some_iff.1 hj).1
  rw [listS_length] at hlt
  rw [listS_at hlt] at hj
  obtain rfl := Option.some.inj hj
  have := h.2 (g j) (hn.glt j hlt)
  rw [hn.fg j hlt] at this
  exact this

end Go.Proofs.Ytkkifpjeafchnaa
