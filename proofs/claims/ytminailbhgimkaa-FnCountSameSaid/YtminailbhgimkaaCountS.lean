/- CountRounds and CountTotal of the specification, by their contracts. -/
import Derived.Test.YtminailbhgimkaaCountI
import Derived.Test.YtminailbhgimkaaMostS
namespace Go.Proofs.Ytminailbhgimkaa
open Go.RowKit Go.Shelf

set_option maxHeartbeats 1000000 in
theorem l10Given_any (a b : Int) (w : World) :
    Calls Try.prog 46 #[.int .i64 a, .int .i64 b] w fun e w' => (∃ ok : Bool, e = .returned (.bool ok) ∧ ((ok = true ∧ ∃ n m, MostIn a b n m) ∨ (ok = false ∧ ∀ n m, ¬ MostIn a b n m))) ∧ w = w' := by
  have g1 := hid (l6In_any a 1 5)
  have g2 := hid (l6In_any b 1 5)
  go_enter Try.func46, Try.ntmps46
  go_wp2_with fail
  refine (g1.out _).mono ?_
  rintro e w' ⟨rfl, rfl⟩
  by_cases ha : 1 ≤ a ∧ a ≤ 5
  · rw [show decide (1 ≤ a ∧ a ≤ 5) = true by simpa using ha]
    have HA := hid ha
    clear ha
    go_wp2_with fail
    refine (g2.out _).mono ?_
    rintro e w' ⟨rfl, rfl⟩
    by_cases hb : 1 ≤ b ∧ b ≤ 5
    · rw [show decide (1 ≤ b ∧ b ≤ 5) = true by simpa using hb]
      obtain ⟨n, rfl⟩ : ∃ n : Nat, a = n := ⟨a.toNat, by have := HA.out.1; omega⟩
      obtain ⟨m, rfl⟩ : ∃ m : Nat, b = m := ⟨b.toNat, by omega⟩
      have HBb := hid hb
      obtain ⟨N, hN⟩ : ∃ N, n * m = N := ⟨_, rfl⟩
      have hNi : (n : Int) * (m : Int) = (N : Int) := by rw [← Int.natCast_mul, hN]
      have hn5 : n ≤ 5 := by have := HA.out.2; omega
      have hm5 : m ≤ 5 := by omega
      have hN25 : N ≤ 25 := by rw [← hN]; exact Nat.mul_le_mul hn5 hm5
      have HN := hid hN
      clear hb hN
      by_cases h9 : N ≤ 9
      · have h9i : (N : Int) ≤ 9 := by omega
        have h9d : decide ((N : Int) ≤ 9) = true := decide_eq_true h9i
        go_wp2_with fail
        go_ret
        exact ⟨⟨true, rfl, .inl ⟨rfl, n, m, rfl, rfl, by have := HA.out.1; omega, by have := HA.out.2; omega, by have := HBb.out.1; omega, by have := HBb.out.2; omega, by rw [HN.out]; exact h9⟩⟩, rfl⟩
      · have h9i : ¬ (N : Int) ≤ 9 := by omega
        have h9d : decide ((N : Int) ≤ 9) = false := decide_eq_false h9i
        go_wp2_with fail
        go_ret
        refine ⟨⟨false, rfl, .inr ⟨rfl, fun n' m' h => h9 ?_⟩⟩, rfl⟩
        obtain ⟨h1, h2, _, _, _, _, h3⟩ := h
        obtain rfl : n = n' := by omega
        obtain rfl : m = m' := by omega
        rw [HN.out] at h3
        exact h3
    · rw [show decide (1 ≤ b ∧ b ≤ 5) = false by simpa using hb]
      have HBb := hid hb
      clear hb
      go_wp2_with fail
      go_ret
      exact ⟨⟨false, rfl, .inr ⟨rfl, fun n m h => HBb.out (by obtain ⟨_, h2, _, _, h3, h4, _⟩ := h; omega)⟩⟩, rfl⟩
  · rw [show decide (1 ≤ a ∧ a ≤ 5) = false by simpa using ha]
    have HA := hid ha
    clear ha
    go_wp2_with fail
    go_ret
    exact ⟨⟨false, rfl, .inr ⟨rfl, fun n m h => HA.out (by obtain ⟨h1, _, h3, h4, _⟩ := h; omega)⟩⟩, rfl⟩

set_option maxRecDepth 100000 in
set_option maxHeartbeats 4000000 in
theorem specCountRounds_any (a b : Int) (w : World) :
    Calls Try.prog 16 #[.int .i64 a, .int .i64 b] w fun e w' => Below w.heap.size w w' ∧ ∃ A c l ok, e = .returned (.tuple #[.slice A l.length c, .bool ok]) ∧ CountOut a b l ok ∧ Ints w' w'.heap.size A l := by
  have HG := hid (fun W => l10Given_any a b W)
  go_enter Try.func16, Try.ntmps16
  go_wp2_with fail
  have HN := hid (growI_new w w.heap.size (Nat.le_refl _))
  have HB0 := hid ((Below.refl w.heap.size w).alloc (Nat.le_refl _) (.cells #[] 3))
  generalize w.alloc (.cells #[] 3) = w0 at *
  refine (HG.out w0).mono ?_
  rintro e w' ⟨⟨ok, rfl, ⟨rfl, n, m, hin⟩ | ⟨rfl, hno⟩⟩, rfl⟩
  · obtain ⟨rfl, rfl, hn1, hn5, hm1, hm5, h9⟩ := hin
    have HIN := hid (show MostIn (n : Int) (m : Int) n m from ⟨rfl, rfl, hn1, hn5, hm1, hm5, h9⟩)
    obtain ⟨N, hN⟩ : ∃ N, n * m = N := ⟨_, rfl⟩
    have hNi : (n : Int) * (m : Int) = (N : Int) := by rw [← Int.natCast_mul, hN]
    have hN9 : N ≤ 9 := by omega
    obtain ⟨M, hM⟩ : ∃ M, 2 ^ N = M := ⟨_, rfl⟩
    have hM512 : M ≤ 512 := by rw [← hM]; exact Nat.pow_le_pow_right (by omega) hN9
    have hwr : wrap64 ((2 : Int) ^ N) = (M : Int) := by
      rw [show (2 : Int) ^ N = ((2 ^ N : Nat) : Int) by rw [Int.natCast_pow]; rfl, hM]
      exact IntWalk.wrap64_in ((M : Nat) : Int) (by omega)
    have HLE := hid (fun (pre : List (Fin M)) (hp : pre.length ≤ 512) => cntX_bound (n := n) (m := m) h9 pre hp)
    have HCL := hid (fun x => cntF_le (n := n) (m := m) (x := x) h9)
    have HALL := hid (show cntX n m (upto M M) = countsR n m by rw [upto_all, cntX_all]; unfold countsR; rw [hN, hM])
    have HUL := hid (fun x (hx : x ≤ M) => show (upto M x).length ≤ 512 by
      have := congrArg List.length (upto_val (N := M) (k := x) hx)
      rw [List.length_map, List.length_range] at this
      omega)
    clear hN hM h9 HG
    go_wp2_with fail
    go_loopw [6, 7] (fun (v iv : Value) (wr : World) => ∃ x g c : Nat, x ≤ M ∧ iv = .int .i64 x ∧ v = .slice (some ⟨g, 0, none⟩) (cntX n m (upto M x)).length c ∧ GrowI wr w.heap.size v (cntX n m (upto M x)) ∧ Below w.heap.size w wr) (fun _ iv _ => M - (intOf iv).toNat)
    case atStart => exact ⟨0, w.heap.size, 0, Nat.zero_le _, rfl, by rw [upto_zero]; rfl, by rw [upto_zero]; exact HN.out, HB0.out⟩
    case round =>
      obtain ⟨x, g, c, hx, rfl, rfl, hgr, hbel⟩ := hrel
      have HGR := hid hgr
      have HBE := hid hbel
      clear hgr hbel
      have hMi : (M : Int) ≤ 512 := by omega
      have hx0 : (0 : Int) ≤ (x : Int) := by omega
      by_cases hlt : x < M
      · have hxi : (x : Int) < (M : Int) := by omega
        obtain ⟨mg1, mg2⟩ := mir_grid (x := x) hn1 hn5 hm1 hm5
        have HGI := hid mg1
        have HPF := hid mg2
        have HMI := hid (l3Mirrors_any n m x wr hn5 hm1 hm5 (by omega))
        have hms := cntX_snoc n m (upto M x) ⟨x, hlt⟩
        rw [← upto_succ hlt] at hms
        obtain ⟨hle, hbd⟩ := HLE.out (upto M x) (HUL.out x hx)
        have hck := HCL.out x
        have hlen : (lensTo n m (lett m (pad (flat (ruleG n m (mirF m x))))) (4 * (n * m))).length = cntF n m x := by
          rw [mg2, lensTo_length, leadsTo_all]
          rfl
        obtain ⟨K, hK⟩ : ∃ K, cntF n m x = K := ⟨_, rfl⟩
        have hms' : cntX n m (upto M (x + 1)) = addAt (cntX n m (upto M x)) K 1 := by rw [hms, ← hK]
        rw [hK] at hck hlen
        have HMS := hid hms'
        have HLN := hid hlen
        have HBD := hid hbd
        generalize cntX n m (upto M x) = cl at HGR HMS HBD hle ⊢
        have hK36 : (K : Int) ≤ 36 := by omega
        have hRL : (ruleG n m (mirF m x)).length = n := ruleG_length _ _ _
        have HRL := hid hRL
        have HCLE := hid hle
        clear mg1 mg2 hms hms' hK hlen hRL hbd hle
        go_wp2_with fail
        refine HMI.out.mono ?_
        rintro e w1 ⟨⟨v, rfl, hgs⟩, hb1⟩
        obtain ⟨A1, c1, rfl, hst⟩ := hgs.strs
        have HB1 := hid (HBE.out.trans (hb1.mono HBE.out.size))
        have HG1 := hid (HGR.out.belowC hb1)
        have HR := hid (l3Rounds_any A1 c1 w1.heap.size n m (ruleG n m (mirF m x)) w1 hst (Nat.le_refl _) HGI.out)
        clear hgs hst hb1 HMI
        go_wp2_with fail
        refine HR.out.mono ?_
        rintro e w2 ⟨v, rfl, hgr, hb2⟩
        obtain ⟨A2, c2, rfl, _⟩ := hgr.ints
        rw [HLN.out]
        have HB2 := hid (HB1.out.trans (hb2.mono HB1.out.size))
        have HG2 := hid (HG1.out.belowC hb2)
        clear hgr hb2 HR
        have HAD := hid (l10Add_any g c K cl 1 w2 (growI_free (j := 0) HG2.out).2.2 (fun k y hk => growI_at HG2.out hk) (by have := HCLE.out; omega) (by omega) (by omega) (fun k => by have := HBD.out k; omega))
        go_wp2_with fail
        refine HAD.out.mono ?_
        rintro e w3 ⟨g3, c3, rfl, hg3, hb3⟩
        have HG3 := hid (hg3.lower HB2.out.size)
        have HB3 := hid (HB2.out.trans (hb3.mono HB2.out.size))
        clear hg3 hb3
        go_wp2_with fail
        go_roundw
        case rel => exact ⟨x + 1, g3, c3, by omega, by go_num, by rw [HMS.out], by rw [HMS.out]; exact HG3.out, HB3.out⟩
        case measure => simp [intOf]; omega
      · obtain rfl : x = M := by omega
        have hint := HGR.out.ints
        rw [HALL.out] at hint ⊢
        obtain ⟨A1, c1, he, hI⟩ := hint
        cases he
        have HI := hid hI
        clear hI
        go_wp2_with fail
        refine bodyPost_ret (results_tmp2 rfl _ _ _) rfl ?_
        exact ⟨HBE.out, _, _, _, true, rfl, .inl ⟨n, m, HIN.out, rfl, rfl⟩, HI.out⟩
  · have HNo := hid hno
    clear hno HG
    go_wp2_with fail
    refine bodyPost_ret (results_tmp2 rfl _ _ _) rfl ?_
    exact ⟨HB0.out, _, _, [], false, rfl, .inr ⟨HNo.out, rfl, rfl⟩, fun h => absurd h (by simp)⟩

set_option maxRecDepth 100000 in
set_option maxHeartbeats 4000000 in
theorem specCountTotal_any (a b : Int) (w : World) :
    Calls Try.prog 23 #[.int .i64 a, .int .i64 b] w fun e w' => Below w.heap.size w w' ∧ ∃ x ok, e = .returned (.tuple #[.int .i64 x, .bool ok]) ∧ TotalOut a b x ok := by
  have HC := hid (specCountRounds_any a b w)
  go_enter Try.func23, Try.ntmps23
  go_wp2_with fail
  refine HC.out.mono ?_
  rintro e w1 ⟨hb, A, c, cl, ok, rfl, hout, hint⟩
  have HB := hid hb
  have HI := hid hint
  have HO := hid (show TotalOut a b (weigh cl) ok by
    rcases hout with ⟨n, m, h1, h2, h3⟩ | ⟨h1, h2, h3⟩
    · exact .inl ⟨n, m, h1, by rw [h2], h3⟩
    · exact .inr ⟨h1, by rw [h2]; rfl, h3⟩)
  have hfacts : cl.length ≤ 37 ∧ (∀ k, 0 ≤ cl.getD k 0 ∧ cl.getD k 0 ≤ 512) ∧ ∀ k, k ≤ cl.length → 0 ≤ weighTo cl k ∧ weighTo cl k ≤ 1000000 := by
    rcases hout with ⟨n, m, h1, rfl, h3⟩ | ⟨h1, rfl, h3⟩
    · have h9 := h1.2.2.2.2.2.2
      exact ⟨countsR_len h9, countsR_bound h9, fun k hk => countsR_weigh h9 k hk⟩
    · exact ⟨by simp, fun k => by simp, fun k hk => by
        obtain rfl : k = 0 := by simpa using hk
        rw [weighTo_zero]; omega⟩
  obtain ⟨hL37', hbd, hwb⟩ := hfacts
  have HBD := hid hbd
  have HWB := hid hwb
  have HSU := hid (fun k => weighTo_succ cl k)
  have HWE := hid (show weighTo cl cl.length = weigh cl from rfl)
  obtain ⟨L, hL⟩ : ∃ L, cl.length = L := ⟨_, rfl⟩
  have HL := hid hL
  have hL37 : L ≤ 37 := by rw [← hL]; exact hL37'
  rw [hL] at HWB HWE ⊢
  clear hb hint hout hbd hwb hL hL37' HC
  go_wp2_with fail
  go_loopw [8, 9] (fun (v iv : Value) (wr : World) => ∃ k : Nat, k ≤ L ∧ iv = .int .i64 k ∧ v = .int .i64 (weighTo cl k) ∧ wr = w1) (fun _ i _ => L - (intOf i).toNat)
  case atStart => exact ⟨0, Nat.zero_le _, rfl, rfl, rfl⟩
  case round =>
    obtain ⟨k, hk, rfl, rfl, rfl⟩ := hrel
    by_cases hlt : k < L
    · obtain ⟨bb, off, y, rfl, hbb, hks, hc⟩ := HI.out.at_ (k := k) (by rw [HL.out]; exact hlt)
      have hki : (k : Int) < (L : Int) := by omega
      have hk0 : (0 : Int) ≤ (k : Int) := by omega
      have hL37i : (L : Int) ≤ 37 := by omega
      have hyd : cl.getD k 0 = y := by rw [List.getD_eq_getElem?_getD, hks]; rfl
      have hs := HSU.out k
      have hwb := HWB.out k hk
      have hwb2 := HWB.out (k + 1) (by omega)
      have hyb := HBD.out k
      rw [hyd] at hs hyb
      obtain ⟨p, hp⟩ : ∃ p, (k : Int) * y = p := ⟨_, rfl⟩
      rw [hp] at hs
      obtain ⟨q, hq⟩ : ∃ q, weighTo cl k = q := ⟨_, rfl⟩
      rw [hq] at hs hwb ⊢
      rw [hs] at hwb2
      obtain ⟨hq0, hq1⟩ := hwb
      obtain ⟨hr0, hr1⟩ := hwb2
      obtain ⟨hy0, hy1⟩ := hyb
      have hp0 : 0 ≤ p := by rw [← hp]; exact Int.mul_nonneg hk0 hy0
      have hp1 : p ≤ 1000000 := by omega
      have HS := hid hs
      clear hs hks hyd hq
      go_wp2_with fail
      go_roundw
      case rel => exact ⟨k + 1, by omega, by go_num, by rw [HS.out], by first | rfl | trivial⟩
      case measure => simp [intOf]; omega
    · obtain rfl : k = L := by omega
      go_wp2_with fail
      refine bodyPost_ret (results_tmp2 rfl _ _ _) rfl ?_
      exact ⟨HB.out, _, ok, rfl, by rw [HWE.out]; exact HO.out⟩
end Go.Proofs.Ytminailbhgimkaa
