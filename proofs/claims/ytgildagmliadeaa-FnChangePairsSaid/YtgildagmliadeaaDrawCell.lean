/- l91Cell: a grid and a cell that are drawn. -/
import Derived.Test.YtgildagmliadeaaBunM
import Derived.Test.YtgildagmliadeaaBunR
namespace Go.Proofs.Ytgildagmliadeaa
open Go.RowKit Go.Shelf

set_option maxRecDepth 100000 in
set_option maxHeartbeats 2000000 in
theorem l91Cell_any (A : Option Addr) (len cap : Nat) (w : World) (h : CodeAt w A len) (hl : len ≤ 1048576) (hc : len ≤ cap) (hc2 : cap ≤ 9223372036854775807) :
    Calls Try.prog 83 #[.slice A len cap] w fun e w' => (∃ A c ts x, e = .returned (.tuple #[.slice A ts.length c, .int .i64 x]) ∧ Strs w' w'.heap.size A ts ∧ Drawn 4 4 ts ∧ -100 ≤ x ∧ x ≤ 100) ∧ Below w.heap.size w w' := by
  have HOP := hid (l6Open_any A len cap w (by omega) hc hc2)
  have HRD := hid (fun len' (h1 : len' ≤ len) (h2 : len' ≤ 2000) => open_rd (cap := cap) h h1 h2)
  have HSO := hid (fun W (hr : Rd W w.heap.size 0) => l91Some_any w.heap.size 0 4 4 W hr (by omega) (by omega) (by omega) (by omega) (by omega))
  clear h
  go_enter Try.func83, Try.ntmps83
  go_wp2_with fail
  refine HOP.out.mono ?_
  rintro e w1 ⟨rfl, len', h1, h2, _, rfl⟩
  have HS := hid (HSO.out _ (HRD.out len' h1 h2))
  go_wp2_with fail
  refine HS.out.mono ?_
  rintro e w2 ⟨⟨gb, c1, ts, rfl, hgb, hrow, h3, h4, h5⟩, hrd, hgw⟩
  have HD := hid (show Drawn 4 4 ts from ⟨h3, h4, h5⟩)
  have HGB := hid (show gb ≠ w.heap.size by simp at hgb; omega)
  have HB2 := hid (((Below.refl _ w).alloc (Nat.le_refl _) (.cells #[.slice A len' cap, .int .i64 0] 153)).grown hgw (by simp) (fun k e => by cases e; exact Nat.le_refl _))
  have HAT := hid (fun p W (hr : Rd W w.heap.size p) (hp : p ≤ 90000) (hs : Row9 W gb ts) => l91At_any w.heap.size p c1 W.heap.size (some ⟨gb, 0, none⟩) ts W hr (hs.strs hs.lt) HD.out hp)
  have HA2 := hid (HAT.out _ w2 hrd (by omega) hrow)
  have HN := hid (show ts.length ≤ 1048576 by omega)
  have HNS := hid (show ∀ s ∈ ts, s.size ≤ 1048576 from fun s hs => by have := (h5 s hs).2; omega)
  have HRW := hid hrow
  clear hgb hrow h3 h4 h5 hrd hgw
  go_wp2_with fail
  refine HA2.out.mono ?_
  rintro e w3 ⟨⟨x, hx0, hx1, rfl⟩, hrd, hgw, hsz⟩
  have HRD3 := hid hrd
  have HR3 := hid (HRW.out.kept hgw HGB.out)
  have HB3 := hid (HB2.out.grown hgw HB2.out.size (fun k e => by cases e; exact Nat.le_refl _))
  clear hrd hgw hsz HA2
  go_wp2_with fail
  go_loopw [6, 7] (fun (v iv : Value) (wr : World) => ∃ (i : Nat) (x : Int), i ≤ 3 ∧ iv = .int .i64 i ∧ v = .int .i64 x ∧ -100 ≤ x ∧ x ≤ 100 ∧ Rd wr w.heap.size (300 + 3 * i) ∧ Row9 wr gb ts ∧ Below w.heap.size w wr) (fun _ iv _ => 3 - (intOf iv).toNat)
  case atStart => exact ⟨0, x, by omega, rfl, rfl, hx0, hx1, HRD3.out.more (by omega), HR3.out, HB3.out⟩
  case round =>
    obtain ⟨i, x, hi, rfl, rfl, hx0, hx1, hrd, hrow, hbel⟩ := hrel
    have HRD := hid hrd
    have HRO := hid hrow
    have HBE := hid hbel
    have hst := hid (hrow.strs (B := wr.heap.size) hrow.lt)
    clear hrd hrow hbel
    by_cases hlt : i < 3
    · have hii : (i : Int) < 3 := by omega
      have HGV := hid (l4Given_any (some ⟨gb, 0, none⟩) c1 wr.heap.size ts x wr hst.out HN.out HNS.out)
      go_wp2_with fail
      refine HGV.out.mono ?_
      rintro e w4 ⟨ok, rfl, hok, d, rfl⟩
      have HBD := hid (below_drewN' (Below.refl wr.heap.size wr) d)
      rcases hok with ⟨rfl, n, m, cc, hci⟩ | ⟨rfl, _⟩
      · have hg := hci.1
        have hcc := hci.2.2
        obtain rfl := hci.2.1
        have HCE := hid (l2Cell_any (some ⟨gb, 0, none⟩) c1 wr.heap.size n m cc ts _ (wr.drewN d) (hst.out.drewN d) hg hcc (lett_cell hg hcc))
        generalize lett m (pad (flat ts)) ((cc / m : Nat) : Int) ((cc % m : Nat) : Int) = bt at HCE
        have hbq := beq46 bt
        obtain ⟨bv, hbv⟩ : ∃ bv : Int, ((bt.toNat : Nat) : Int) = bv := ⟨_, rfl⟩
        rw [hbv] at HCE hbq
        clear hci hg hcc hbv
        go_wp2_with fail
        refine HCE.out.mono ?_
        rintro e w5 ⟨rfl, d2, rfl⟩
        have HBD2 := hid (below_drewN' (Below.refl wr.heap.size wr) (d + d2))
        have HBE2 := hid (HBE.out.trans (HBD2.out.mono HBE.out.size))
        have HRD2 := hid (HRD.out.below HBD2.out)
        have HRO2 := hid (HRO.out.below HBD2.out HRO.out.lt)
        cases hq : (bt == 46) with
        | true =>
          rw [hq] at hbq
          have HA3 := hid (HAT.out _ _ HRD2.out (by omega) HRO2.out)
          go_wp2_with fail
          refine HA3.out.mono ?_
          rintro e w6 ⟨⟨y, hy0, hy1, rfl⟩, hrd, hgw, hsz⟩
          have HRD3 := hid hrd
          have HR3 := hid (HRO2.out.kept hgw HGB.out)
          have HB3 := hid (HBE2.out.grown hgw HBE2.out.size (fun k e => by cases e; exact Nat.le_refl _))
          clear hrd hgw hsz
          go_wp2_with fail
          go_roundw
          case rel => exact ⟨i + 1, y, by omega, by go_num, rfl, hy0, hy1, HRD3.out.more (by omega), HR3.out, HB3.out⟩
          case measure => simp [intOf]; omega
        | false =>
          rw [hq] at hbq
          go_wp2_with fail
          refine bodyPost_ret (results_tmp2 rfl _ _ _) rfl ?_
          exact ⟨⟨_, c1, ts, _, rfl, HRO2.out.strs HRO2.out.lt, HD.out, hx0, hx1⟩, HBE2.out⟩
      · have HBE2 := hid (HBE.out.trans (HBD.out.mono HBE.out.size))
        have HRO2 := hid (HRO.out.below HBD.out HRO.out.lt)
        go_wp2_with fail
        refine bodyPost_ret (results_tmp2 rfl _ _ _) rfl ?_
        exact ⟨⟨_, c1, ts, _, rfl, HRO2.out.strs HRO2.out.lt, HD.out, hx0, hx1⟩, HBE2.out⟩
    · obtain rfl : i = 3 := by omega
      go_wp2_with fail
      refine bodyPost_ret (results_tmp2 rfl _ _ _) rfl ?_
      exact ⟨⟨_, c1, ts, _, rfl, hst.out, HD.out, hx0, hx1⟩, HBE.out⟩
end Go.Proofs.Ytgildagmliadeaa
