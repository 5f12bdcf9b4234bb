/- The drawing of the numbers of rows and columns of full grids that are counted. -/
import Derived.Test.YtminailbhgimkaaPKD
namespace Go.Proofs.Ytminailbhgimkaa
open Go.RowKit Go.Shelf

set_option maxRecDepth 100000 in
set_option maxHeartbeats 4000000 in
theorem l92Counts_any (A : Option Addr) (len cap : Nat) (w : World) (h : CodeAt w A len) (hl : len ≤ 1048576) (hc : len ≤ cap) (hc2 : cap ≤ 9223372036854775807) :
    Calls Try.prog 43 #[.slice A len cap] w fun e w' => Below w.heap.size w w' ∧ ∃ (n m : Nat), e = .returned (.tuple #[.int .i64 (n : Int), .int .i64 (m : Int)]) ∧ n ≤ 4 ∧ m ≤ 12 := by
  have HOP := hid (dOpen A len cap w h hl hc hc2)
  clear h
  go_enter Try.func43, Try.ntmps43
  go_wp2_with fail
  refine HOP.out.mono ?_
  rintro e w1 ⟨rfl, hd⟩
  have HD1 := hid hd
  clear hd HOP
  have HC1 := hid (dPick 4 HD1.out (by omega) (by omega) (by omega))
  go_wp2_with fail
  refine HC1.out.mono ?_
  rintro e w2 ⟨hg, hd, v1, hv1, rfl⟩
  have HD2 := hid hd
  clear hg hd HC1 HD1
  have hv4 : v1 = 0 ∨ v1 = 1 ∨ v1 = 2 ∨ v1 = 3 := by omega
  clear hv1
  rcases hv4 with rfl | rfl | rfl | rfl
  · have HC2 := hid (dPick 8 HD2.out (by omega) (by omega) (by omega))
    go_wp2_with fail
    refine HC2.out.mono ?_
    rintro e w3 ⟨hg, hd, v2, hv2, rfl⟩
    have HD3 := hid hd
    clear hg hd HC2 HD2
    obtain ⟨k, ek⟩ : ∃ k, 1 + v2 = k := ⟨_, rfl⟩
    have zik : (1 : Int) + (v2 : Int) = (k : Int) := by omega
    have lk : 1 ≤ k := by omega
    have uk : k ≤ 9 := by omega
    clear ek
    have HC3 := hid (dPick 40 HD3.out (by omega) (by omega) (by omega))
    go_wp2_with fail
    refine HC3.out.mono ?_
    rintro e w4 ⟨hg, hd, v3, hv3, rfl⟩
    have HD4 := hid hd
    clear hg hd HC3 HD3
    obtain ⟨q, hq, hq39⟩ : ∃ q : Nat, q ≤ 1 ∧ (v3 : Int) / 39 = (q : Int) := ⟨v3 / 39, by omega, by omega⟩
    obtain ⟨m, hm⟩ : ∃ m : Nat, k + q * 4 = m := ⟨_, rfl⟩
    have hmi : (k : Int) + (q : Int) * 4 = (m : Int) := by omega
    have hm12 : m ≤ 12 := by omega
    clear hm
    go_wp2_with fail
    refine bodyPost_ret (results_tmp2 rfl _ _ _) rfl ?_
    exact ⟨HD4.out.below, 1, m, rfl, by omega, hm12⟩
  · have HC2 := hid (dPick 4 HD2.out (by omega) (by omega) (by omega))
    go_wp2_with fail
    refine HC2.out.mono ?_
    rintro e w3 ⟨hg, hd, v2, hv2, rfl⟩
    have HD3 := hid hd
    clear hg hd HC2 HD2
    obtain ⟨k, ek⟩ : ∃ k, 1 + v2 = k := ⟨_, rfl⟩
    have zik : (1 : Int) + (v2 : Int) = (k : Int) := by omega
    have lk : 1 ≤ k := by omega
    have uk : k ≤ 9 := by omega
    clear ek
    have HC3 := hid (dPick 40 HD3.out (by omega) (by omega) (by omega))
    go_wp2_with fail
    refine HC3.out.mono ?_
    rintro e w4 ⟨hg, hd, v3, hv3, rfl⟩
    have HD4 := hid hd
    clear hg hd HC3 HD3
    obtain ⟨q, hq, hq39⟩ : ∃ q : Nat, q ≤ 1 ∧ (v3 : Int) / 39 = (q : Int) := ⟨v3 / 39, by omega, by omega⟩
    obtain ⟨m, hm⟩ : ∃ m : Nat, k + q * 4 = m := ⟨_, rfl⟩
    have hmi : (k : Int) + (q : Int) * 4 = (m : Int) := by omega
    have hm12 : m ≤ 12 := by omega
    clear hm
    go_wp2_with fail
    refine bodyPost_ret (results_tmp2 rfl _ _ _) rfl ?_
    exact ⟨HD4.out.below, 2, m, rfl, by omega, hm12⟩
  · have HC2 := hid (dPick 2 HD2.out (by omega) (by omega) (by omega))
    go_wp2_with fail
    refine HC2.out.mono ?_
    rintro e w3 ⟨hg, hd, v2, hv2, rfl⟩
    have HD3 := hid hd
    clear hg hd HC2 HD2
    obtain ⟨k, ek⟩ : ∃ k, 1 + v2 = k := ⟨_, rfl⟩
    have zik : (1 : Int) + (v2 : Int) = (k : Int) := by omega
    have lk : 1 ≤ k := by omega
    have uk : k ≤ 9 := by omega
    clear ek
    have HC3 := hid (dPick 40 HD3.out (by omega) (by omega) (by omega))
    go_wp2_with fail
    refine HC3.out.mono ?_
    rintro e w4 ⟨hg, hd, v3, hv3, rfl⟩
    have HD4 := hid hd
    clear hg hd HC3 HD3
    obtain ⟨q, hq, hq39⟩ : ∃ q : Nat, q ≤ 1 ∧ (v3 : Int) / 39 = (q : Int) := ⟨v3 / 39, by omega, by omega⟩
    obtain ⟨m, hm⟩ : ∃ m : Nat, k + q * 4 = m := ⟨_, rfl⟩
    have hmi : (k : Int) + (q : Int) * 4 = (m : Int) := by omega
    have hm12 : m ≤ 12 := by omega
    clear hm
    go_wp2_with fail
    refine bodyPost_ret (results_tmp2 rfl _ _ _) rfl ?_
    exact ⟨HD4.out.below, 3, m, rfl, by omega, hm12⟩
  · have HC2 := hid (dPick 2 HD2.out (by omega) (by omega) (by omega))
    go_wp2_with fail
    refine HC2.out.mono ?_
    rintro e w3 ⟨hg, hd, v2, hv2, rfl⟩
    have HD3 := hid hd
    clear hg hd HC2 HD2
    obtain ⟨k, ek⟩ : ∃ k, 1 + v2 = k := ⟨_, rfl⟩
    have zik : (1 : Int) + (v2 : Int) = (k : Int) := by omega
    have lk : 1 ≤ k := by omega
    have uk : k ≤ 9 := by omega
    clear ek
    have HC3 := hid (dPick 40 HD3.out (by omega) (by omega) (by omega))
    go_wp2_with fail
    refine HC3.out.mono ?_
    rintro e w4 ⟨hg, hd, v3, hv3, rfl⟩
    have HD4 := hid hd
    clear hg hd HC3 HD3
    obtain ⟨q, hq, hq39⟩ : ∃ q : Nat, q ≤ 1 ∧ (v3 : Int) / 39 = (q : Int) := ⟨v3 / 39, by omega, by omega⟩
    obtain ⟨m, hm⟩ : ∃ m : Nat, k + q * 4 = m := ⟨_, rfl⟩
    have hmi : (k : Int) + (q : Int) * 4 = (m : Int) := by omega
    have hm12 : m ≤ 12 := by omega
    clear hm
    go_wp2_with fail
    refine bodyPost_ret (results_tmp2 rfl _ _ _) rfl ?_
    exact ⟨HD4.out.below, 4, m, rfl, by omega, hm12⟩
end Go.Proofs.Ytminailbhgimkaa
