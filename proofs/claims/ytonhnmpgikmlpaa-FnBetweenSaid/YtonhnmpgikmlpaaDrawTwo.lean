/- DrawCrossBetween: a grid and two ports' numbers that are drawn. -/
import Derived.Test.YtonhnmpgikmlpaaPKD
import Derived.Test.YtonhnmpgikmlpaaBunE
namespace Go.Proofs.Ytonhnmpgikmlpaa
open Go.RowKit Go.Shelf

set_option maxRecDepth 100000 in
set_option maxHeartbeats 2000000 in
theorem DrawCrossBetween_any (A : Option Addr) (len cap : Nat) (w : World) (h : CodeAt w A len) (hl : len ≤ 1048576) (hc : len ≤ cap) (hc2 : cap ≤ 9223372036854775807) :
    Calls Try.prog 15 #[.slice A len cap] w fun e w' => Below w.heap.size w w' ∧ ∃ A c ts x y, e = .returned (.tuple #[.slice A ts.length c, .int .i64 x, .int .i64 y]) ∧ LS w' A ts ∧ Drawn 4 4 ts ∧ -100 ≤ x ∧ x ≤ 100 ∧ -100 ≤ y ∧ y ≤ 100 := by
  have HOP := hid (dOpen A len cap w h hl hc hc2)
  clear h
  go_enter Try.func15, Try.ntmps15
  go_wp2_with fail
  refine HOP.out.mono ?_
  rintro e w1 ⟨rfl, hd⟩
  have HC := hid (dSome 4 4 hd (by omega) (by omega) (by omega) (by omega) (by omega))
  clear hd HOP
  go_wp2_with fail
  refine HC.out.mono ?_
  rintro e w2 ⟨hg, hd, A1, c1, ts, ht, hlc, hx, rfl⟩
  obtain ⟨b0, o0, s0, rfl, hb0, hk0, hc0⟩ := Strs.at_ (k := 0) hx.1 ht.1
  rw [Nat.add_zero] at hc0
  have hs0 := ht.2.2 s0 (List.mem_of_getElem? hk0)
  have hl1 := ht.1
  have hl4 := ht.2.1
  have HT := hid ht
  have HX := hid hx
  have HD := hid hd
  obtain ⟨L, hL⟩ : ∃ L, ts.length = L := ⟨_, rfl⟩
  have HL := hid hL
  rw [hL] at hl1 hl4 ⊢
  obtain ⟨M, hM⟩ : ∃ M, s0.size = M := ⟨_, rfl⟩
  have hMi : ((s0.size : Nat) : Int) = (M : Int) := by rw [hM]
  rw [hM] at hs0
  obtain ⟨hM1, hM5⟩ := hs0
  have hL0 : 0 < L := hl1
  obtain ⟨N, hN⟩ : ∃ N, 2 * (L + M) = N := ⟨_, rfl⟩
  have hNi : 2 * ((L : Int) + (M : Int)) = (N : Int) := by omega
  have HPO := hid (show ∀ W, Calls Try.prog 62 #[.int .i64 L, .int .i64 M] W fun e w' => e = .returned (.int .i64 (N : Int)) ∧ W = w' from fun W => by
    have := l2Ports_any L M W (by omega) hM5
    rw [hNi] at this
    exact this)
  have HPK := hid (fun p P W (hD : Dr w w.heap.size P W) (hP : P ≤ 90000) (hp1 : 1 ≤ p) (hp : p ≤ 1000) => dPick p hD hP hp1 hp)
  have hN1 : 1 ≤ N := by omega
  have hN20 : N ≤ 20 := by omega
  clear hg hd ht hx hlc hk0 hM hL HC hN hNi
  go_wp2_with fail
  refine (HPO.out _).mono ?_
  rintro e _ ⟨rfl, rfl⟩
  have HC := hid (HPK.out N _ w2 HD.out (by omega) hN1 (by omega))
  clear hc0
  go_wp2_with fail
  refine HC.out.mono ?_
  rintro e w3 ⟨hg, hd, v, hv, rfl⟩
  have HX3 := hid (HX.out.step hg)
  have HC4 := hid (HPK.out 24 _ w3 hd (by omega) (by omega) (by omega))
  clear hg hd HC
  go_wp2_with fail
  refine HC4.out.mono ?_
  rintro e w4 ⟨hg, hd, v2, hv2, rfl⟩
  obtain ⟨q, hq, hq23⟩ := q23 v2 hv2
  obtain ⟨N2, hN2⟩ : ∃ N2, N + q = N2 := ⟨_, rfl⟩
  have hN2i : (N : Int) + (q : Int) = (N2 : Int) := by omega
  have HX4 := hid (HX3.out.step hg)
  have HC5 := hid (HPK.out N2 _ w4 hd (by omega) (by omega) (by omega))
  clear hg hd HC4
  go_wp2_with fail
  refine HC5.out.mono ?_
  rintro e w5 ⟨hg, hd, v3, hv3, rfl⟩
  have HX5 := hid (HX4.out.step hg)
  have HC6 := hid (HPK.out 24 _ w5 hd (by omega) (by omega) (by omega))
  clear hg hd HC5
  go_wp2_with fail
  refine HC6.out.mono ?_
  rintro e w6 ⟨hg, hd, v4, hv4, rfl⟩
  obtain ⟨q4, hq4, hq423⟩ := q23 v4 hv4
  have HX6 := hid (HX5.out.step hg)
  have HD6 := hid hd
  clear hg hd HC6
  go_wp2_with fail
  refine bodyPost_ret (results_tmp3 rfl _ _ _) rfl ?_
  exact ⟨HD6.out.below, _, c1, ts, _, _, by rw [HL.out]; rfl, HX6.out.1, HT.out, by omega, by omega, by omega, by omega⟩
end Go.Proofs.Ytonhnmpgikmlpaa
