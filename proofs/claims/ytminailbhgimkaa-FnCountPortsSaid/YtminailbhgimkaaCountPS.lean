/- CountPorts of the specification, by its contract. -/
import Derived.Test.YtminailbhgimkaaCountPI
import Derived.Test.YtminailbhgimkaaCountS
import Derived.Test.YtminailbhgimkaaBunE
namespace Go.Proofs.Ytminailbhgimkaa
open Go.RowKit Go.Shelf

set_option maxRecDepth 100000 in
set_option maxHeartbeats 4000000 in
theorem specCountPorts_any (a b : Int) (w : World) :
    Calls Try.prog 26 #[.int .i64 a, .int .i64 b] w fun e w' => Below w.heap.size w w' ∧ ∃ A c l ok, e = .returned (.tuple #[.slice A l.length c, .bool ok]) ∧ CPortsOut a b l ok ∧ Ints w' w'.heap.size A l := by
  have HG := hid (fun W => l10Given_any a b W)
  go_enter Try.func26, Try.ntmps26
  go_wp2_with fail
  refine (HG.out w).mono ?_
  rintro e w' ⟨⟨ok, rfl, ⟨rfl, n, m, hin⟩ | ⟨rfl, hno⟩⟩, rfl⟩
  · obtain ⟨rfl, rfl, hn1, hn5, hm1, hm5, h9⟩ := hin
    have HIN := hid (show MostIn (n : Int) (m : Int) n m from ⟨rfl, rfl, hn1, hn5, hm1, hm5, h9⟩)
    obtain ⟨N, hN⟩ : ∃ N, n * m = N := ⟨_, rfl⟩
    have hNi : (n : Int) * (m : Int) = (N : Int) := by rw [← Int.natCast_mul, hN]
    have hN9 : N ≤ 9 := by omega
    obtain ⟨M, hM⟩ : ∃ M, 2 ^ N = M := ⟨_, rfl⟩
    have hM512 : M ≤ 512 := by rw [← hM]; exact Nat.pow_le_pow_right (by omega) hN9
    have hwr : wrap64 ((2 : Int) ^ N) = (M : Int) := by
      rw [show (2 : Int) ^ N = ((2 ^ N : Nat) : Int) by rw [Int.natCast_pow]; rfl, hM]
      exact IntWalk.wrap64_in ((M : Nat) : Int) (by omega)
    have HBND := hid (fun (pre : List (Fin M)) (hp : pre.length ≤ 512) => ptsX_bound (n := n) (m := m) pre hp)
    have HLEN := hid (fun (pre : List (Fin M)) => ptsX_length hn1 hm1 pre)
    have HSN := hid (fun (pre : List (Fin M)) x => ptsX_snoc hn1 hm1 pre x)
    have HEL := hid (fun x => endF_lt hn1 hm1 x)
    have HALL := hid (show ptsX n m (upto M M) = portsR n m by rw [upto_all, ptsX_all]; unfold portsR; rw [hN, hM])
    have HUL := hid (fun x (hx : x ≤ M) => show (upto M x).length ≤ 512 by
      have := congrArg List.length (upto_val (N := M) (k := x) hx)
      rw [List.length_map, List.length_range] at this
      omega)
    have HNIL := hid (ptsX_nil n m M)
    have HLP := hid (fun W => l2Ports_any n m W hn5 hm5)
    clear hN hM h9 HG
    have hnm2 : 2 ≤ n + m := by omega
    go_wp2_with fail
    refine (HLP.out w).mono ?_
    rintro e wp ⟨rfl, hwp⟩
    rw [show 2 * ((n : Int) + (m : Int)) = ((2 * (n + m) : Nat) : Int) by omega]
    obtain ⟨P, hP⟩ : ∃ P, 2 * (n + m) = P := ⟨_, rfl⟩
    have hP20 : P ≤ 20 := by omega
    have HPP := hid hP
    have hP0 : 0 < P := by omega
    rw [hP] at HLEN HEL HNIL ⊢
    have hmk := run_make_row' (P := Try.prog) 25 3 (.int .i64 0) 8 Try.underlying25 Try.info_int rfl .i64 .i64 P (by omega) (by omega)
    clear hP HLP
    have hBP : Below w.heap.size w wp := by first | (rw [hwp]; exact Below.refl _ _) | (rw [← hwp]; exact Below.refl _ _) | exact hwp
    have HBP := hid hBP
    clear hwp hBP
    go_wp2_with fail
    clear hmk
    have HNEW := hid (growI_made (heap_new0 wp (.cells (madeCells #[.int .i64 0] P) 3)) HBP.out.size (by omega))
    have HNB := hid (HBP.out.alloc HBP.out.size (.cells (madeCells #[.int .i64 0] P) 3))
    have HWZ := hid HBP.out.size
    generalize wp.alloc (.cells (madeCells #[.int .i64 0] P) 3) = w0 at HNEW HNB ⊢
    generalize wp.heap.size = z at HNEW HWZ ⊢
    go_loopw [7, 8, 9, 10] (fun (iv _ _ _ : Value) (wr : World) => ∃ x : Nat, x ≤ M ∧ iv = .int .i64 x ∧ GrowI wr w.heap.size (.slice (some ⟨z, 0, none⟩) P P) (ptsX n m (upto M x)) ∧ Below w.heap.size w wr) (fun iv _ _ _ _ => M - (intOf iv).toNat)
    case atStart => exact ⟨0, Nat.zero_le _, rfl, by rw [upto_zero, HNIL.out]; exact HNEW.out, HNB.out⟩
    case round =>
      obtain ⟨x, hx, rfl, hgr, hbel⟩ := hrel
      have HGR := hid hgr
      have HBE := hid hbel
      clear hgr hbel
      have hMi : (M : Int) ≤ 512 := by omega
      have hx0 : (0 : Int) ≤ (x : Int) := by omega
      by_cases hlt : x < M
      · have hxi : (x : Int) < (M : Int) := by omega
        obtain ⟨mg1, mg2⟩ := mir_grid (x := x) hn1 hn5 hm1 hm5
        have HMI := hid (l3Mirrors_any n m x wr hn5 hm1 hm5 (by omega))
        have hsn := HSN.out (upto M x) ⟨x, hlt⟩
        rw [← upto_succ hlt] at hsn
        have hlen := HLEN.out (upto M x)
        have hbd := HBND.out (upto M x) (HUL.out x hx) (endF n m x)
        have hpl := HEL.out x
        have HRL := hid (show (ruleG n m (mirF m x)).length = n from ruleG_length _ _ _)
        have HWY := hid (fun (A1 : Option Addr) (c1 : Nat) (W : World) (hst : Strs W W.heap.size A1 (ruleG n m (mirF m x))) => show Calls Try.prog 56 #[.slice A1 (ruleG n m (mirF m x)).length c1, .int .i64 0] W fun e w' => ∃ v v', e = .returned (.tuple #[v, v', .int .i64 ((endF n m x : Nat) : Int)]) ∧ Below W.heap.size W w' from by
          have h := l2Way_port A1 c1 W.heap.size n m 0 (ruleG n m (mirF m x)) W hst (Nat.le_refl _) mg1 (by omega)
          rw [mg2] at h
          exact h.mono fun e w' ⟨v, v', he, _, _, hb⟩ => ⟨v, v', he, hb⟩)
        obtain ⟨p, hp⟩ : ∃ p, endF n m x = p := ⟨_, rfl⟩
        have hsn' : ptsX n m (upto M (x + 1)) = (ptsX n m (upto M x)).set p ((ptsX n m (upto M x)).getD p 0 + 1) := by rw [hsn, ← hp]
        rw [hp] at hbd hpl HWY
        have HSX := hid hsn'
        clear hsn hsn' hp
        generalize ptsX n m (upto M x) = cl at HGR HSX hlen hbd ⊢
        obtain ⟨y, hy⟩ : ∃ y, cl[p]? = some y := ⟨_, List.getElem?_eq_getElem (by rw [hlen]; exact hpl)⟩
        have hyd : cl.getD p 0 = y := by rw [List.getD_eq_getElem?_getD, hy]; rfl
        rw [hyd] at hbd HSX
        obtain ⟨hy0, hy1⟩ := hbd
        have hpi : (p : Int) < (P : Int) := by omega
        have hp0 : (0 : Int) ≤ (p : Int) := by omega
        have HYY := hid hy
        clear mg1 mg2 hlen hy hyd
        go_wp2_with fail
        refine HMI.out.mono ?_
        rintro e w1 ⟨⟨v, rfl, hgs⟩, hb1⟩
        obtain ⟨A1, c1, rfl, hst⟩ := hgs.strs
        have HB1 := hid (HBE.out.trans (hb1.mono HBE.out.size))
        have HG1 := hid (HGR.out.belowC hb1)
        have HR := hid (HWY.out A1 c1 w1 hst)
        clear hgs hst hb1 HMI HWY
        go_wp2_with fail
        refine HR.out.mono ?_
        rintro e w2 ⟨v, v', rfl, hb2⟩
        have HB2 := hid (HB1.out.trans (hb2.mono HB1.out.size))
        have HG2 := hid (HG1.out.belowC hb2)
        clear hb2 HR
        have hcp := growI_at HG2.out HYY.out
        obtain ⟨hfr, hb1, hb2⟩ := growI_free (j := p) HG2.out
        have HBZ := hid hb1
        clear hb1 hb2
        go_wp2_with fail
        go_roundw
        case rel => exact ⟨x + 1, by omega, by go_num, by rw [HSX.out]; exact growI_put HG2.out, HB2.out.setCell (p := ⟨z, p, none⟩) HBZ.out _⟩
        case measure => simp [intOf]; omega
      · obtain rfl : x = M := by omega
        have hint := HGR.out.ints
        rw [HALL.out] at hint
        obtain ⟨A1, c1, he, hI⟩ := hint
        have HI := hid hI
        have HE := hid he
        clear hI he
        go_wp2_with fail
        refine bodyPost_ret (results_tmp2 rfl _ _ _) rfl ?_
        exact ⟨HBE.out, A1, c1, _, true, by rw [HE.out]; rfl, .inl ⟨n, m, HIN.out, rfl, rfl⟩, HI.out⟩
  · have HNo := hid hno
    clear hno HG
    go_wp2_with fail
    refine bodyPost_ret (results_tmp2 rfl _ _ _) rfl ?_
    exact ⟨(Below.refl _ w).alloc (Nat.le_refl _) _, _, _, [], false, rfl, .inr ⟨HNo.out, rfl, rfl⟩, fun h => absurd h (by simp)⟩
end Go.Proofs.Ytminailbhgimkaa
