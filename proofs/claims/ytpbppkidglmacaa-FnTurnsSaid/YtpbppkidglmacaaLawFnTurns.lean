/- For every code, the drawn beam turns as often as that of its end, no more often than it is long, and an even number of times just if both ports are at ends of rows or both at ends of columns; the program's and the specification's answers are the same: the law FnTurns returns true, and its argument reads as it did. No condition. -/
import Derived.Test.YtpbppkidglmacaaPK
import Derived.Test.YtpbppkidglmacaaPKB
import Derived.Test.YtpbppkidglmacaaDrawPort
import Derived.Test.YtpbppkidglmacaaBeamP
import Derived.Test.YtpbppkidglmacaaSpecTurns
namespace Go.Proofs.Ytpbppkidglmacaa.lawFnTurns
open Go.ChangeShapes Go.WideShapes Go.ChangeAt Go.RowKit
open Go.ChangeMaps (open_string shut_string)

theorem port_back {n m q : Nat} {ts : List ByteArray} {x : Int} (h : PortIn ts x n m q) : ∃ e : Nat, bend_ n m (lett m (pad (flat ts))) q = e ∧ PortIn ts (e : Int) n m e ∧ bend_ n m (lett m (pad (flat ts))) e = q ∧ blen n m (lett m (pad (flat ts))) e = blen n m (lett m (pad (flat ts))) q ∧ e < 2 * (n + m) ∧ x = (q : Int) := by
  obtain ⟨hg, hx, hq⟩ := h
  have hn := hg.2.1
  have hm := hg.2.2.2.1
  have f1 := bend_facts (t := lett m (pad (flat ts))) hn hm hq
  have f2 := back_facts (t := lett m (pad (flat ts))) hn hm hq
  exact ⟨_, rfl, ⟨hg, rfl, f1.2.1⟩, f2.2, f2.1, f1.2.1, hx⟩

theorem lett_in {n m : Nat} {ts : List ByteArray} (hg : IsGrid n m ts) : ∀ x, inG n m x → isLet (lett m (pad (flat ts)) x.i x.k) = true := fun x hin => by
  have hlt := cellN_lt hin
  rw [← hg.flen] at hlt
  unfold lett
  rw [cellN_int hin, Int.toNat_natCast, pad_getD _ _ hlt, List.getD_eq_getElem?_getD, List.getElem?_eq_getElem hlt]
  exact hg.lets _ (List.getElem_mem hlt)
theorem facts {n m q : Nat} {ts : List ByteArray} {x : Int} (h : PortIn ts x n m q) : ∃ (k M e : Nat), turnsR n m (lett m (pad (flat ts))) q = ((k : Int), true) ∧ bend_ n m (lett m (pad (flat ts))) q = e ∧ PortIn ts (e : Int) n m e ∧ turnsR n m (lett m (pad (flat ts))) e = ((k : Int), true) ∧ lengthR n m (lett m (pad (flat ts))) q = ((M : Int), true) ∧ k ≤ M ∧
    (k % 2 = 0 ↔ rowP n m q = rowP n m e) ∧ x = (q : Int) ∧ q < 2 * (n + m) ∧ e < 2 * (n + m) := by
  obtain ⟨e, e1, p1, _, hb, he, hx⟩ := port_back h
  obtain ⟨hg, _, hq⟩ := h
  have hn := hg.2.1
  have hm := hg.2.2.2.1
  have hp := turns_par (t := lett m (pad (flat ts))) hn hm hq (lett_in hg)
  rw [e1] at hp
  refine ⟨_, _, e, rfl, e1, p1, ?_, rfl, ?_, hp, hx, hq, he⟩
  · rw [← e1]; exact turns_back hn hm hq
  · have := List.countP_le_length (p := mirrorAt (lett m (pad (flat ts))) (bway n m (lett m (pad (flat ts))) q)) (l := List.range (blen n m (lett m (pad (flat ts))) q))
    rwa [List.length_range] at this
/-- The four sides. -/
theorem four_sides (n m p : Nat) : (p < m ∧ rowP n m p = false) ∨ (m ≤ p ∧ p < m + n ∧ rowP n m p = true) ∨ (m + n ≤ p ∧ p < 2 * m + n ∧ rowP n m p = false) ∨ (2 * m + n ≤ p ∧ rowP n m p = true) := by
  unfold rowP
  by_cases h1 : p < m
  · exact .inl ⟨h1, by simp; omega⟩
  · by_cases h2 : p < m + n
    · exact .inr (.inl ⟨by omega, h2, by simp; omega⟩)
    · by_cases h3 : p < 2 * m + n
      · exact .inr (.inr (.inl ⟨by omega, h3, by simp; omega⟩))
      · exact .inr (.inr (.inr ⟨by omega, by simp; omega⟩))

set_option maxRecDepth 100000 in
set_option maxHeartbeats 1000000 in
theorem draw_any (A : Option Addr) (len cap : Nat) (w : World) (h : CodeAt w A len) (hl : len ≤ 1048576) (hc : len ≤ cap) (hc2 : cap ≤ 9223372036854775807) :
    Calls Try.prog 27 #[.slice A len cap] w fun e w' => Below w.heap.size w w' ∧ ∃ A c ts x, e = .returned (.tuple #[.slice A ts.length c, .int .i64 x]) ∧ LS w' A ts ∧ Drawn 4 4 ts ∧ -100 ≤ x ∧ x ≤ 100 := by
  have HC := hid (l91Port_any A len cap w h hl hc hc2)
  clear h
  go_enter Try.func27, Try.ntmps27
  go_wp2_with fail
  refine HC.out.mono ?_
  rintro e w1 ⟨hb, A1, c1, ts, x, rfl, hst, hd, hx⟩
  have HST := hid hst
  have HD := hid hd
  have HX := hid hx
  have HB := hid hb
  clear hst hd hx hb
  go_wp2_with fail
  refine bodyPost_ret (results_tmp2 rfl _ _ _) rfl ?_
  exact ⟨HB.out, A1, c1, ts, x, rfl, HST.out, HD.out, HX.out⟩

set_option maxRecDepth 100000 in
set_option maxHeartbeats 16000000 in
theorem walk (v : Value) (w : World) (hc : CameB w v) :
    Calls Try.prog 6 #[v] w fun e w' => e = .returned (.bool true) ∧ Below w.heap.size w w' := by
  obtain ⟨A, len, cap, rfl, hcode, hlc, hcap⟩ := hc
  have HCD := hid hcode
  clear hcode
  go_enter Try.func6, Try.ntmps6
  by_cases hbig : 1048576 < len
  · have hbi : (1048576 : Int) < (len : Int) := by omega
    go_wp2_with fail
    go_ret
    exact ⟨rfl, Below.refl _ _⟩
  have hbi : ¬ (1048576 : Int) < (len : Int) := by omega
  have HDR := hid (draw_any A len cap w HCD.out (by omega) hlc hcap)
  have HC1 := hid (HDR.out)
  go_wp2_with fail
  refine HC1.out.mono ?_
  rintro e w1 ⟨hb, A1, c1, ts, x, rfl, hl, hd, hx0, hx1⟩
  have HB1 := hid hb
  have Lts1 := hid hl
  clear hl
  clear hb HC1
  have HSM := hid (hd.small (by decide) (by decide))
  clear hd
  have HC2 := hid (implBeamTurns_any A1 c1 ts x w1 Lts1.out HSM.out.1 HSM.out.2)
  go_wp2_with fail
  refine HC2.out.mono ?_
  rintro e w2 ⟨hb, out, ok, rfl, hout⟩
  have HB2 := hid (HB1.out.trans (hb.mono HB1.out.size))
  clear HB1
  have Lts2 := hid (Lts1.out.step hb)
  clear Lts1
  clear hb HC2
  have HO := hid hout
  clear hout
  have HC3 := hid (specBeamTurns_any A1 c1 w2.heap.size ts x w2 Lts2.out (Nat.le_refl _) HSM.out.1 HSM.out.2)
  go_wp2_with fail
  refine HC3.out.mono ?_
  rintro e w3 ⟨hb, out2, ok2, rfl, hout2⟩
  have HB3 := hid (HB2.out.trans (hb.mono HB2.out.size))
  clear HB2
  have Lts3 := hid (Lts2.out.step hb)
  clear Lts2
  clear hb HC3
  obtain ⟨rfl, rfl⟩ := HO.out.uniq hout2
  clear hout2
  rcases HO.out with ⟨n, m, q, hp, hv⟩ | ⟨_, rfl, rfl⟩
  · obtain ⟨k, M, e, hR, e1, p1, e2, e3, hkM, hpar, rfl, hqb, heb⟩ := facts hp
    rw [hR] at hv
    obtain ⟨rfl, rfl⟩ := Prod.mk.inj hv
    clear hv hR
    obtain ⟨b0, o0, s0, rfl, hk0, hs0, hl0⟩ := Lts3.out.addr hp.1
    have hn : ((ts.length : Nat) : Int) = (n : Int) := by rw [hp.1.1]
    have hn0 : 0 < n := hp.1.2.1
    have hn5 := hp.1.2.2.1
    have hm5 := hp.1.2.2.2.2.1
    have hkMi : (k : Int) ≤ (M : Int) := by omega
    have hM9 : M ≤ 1000 ∨ True := .inr trivial
    clear hM9
    have HP := hid hp
    have E1 := hid e1
    have P1 := hid p1
    have E2 := hid e2
    have E3 := hid e3
    have HK0 := hid hk0
    have HPAR := hid hpar
    clear hp e1 p1 e2 e3 hk0 hpar
    have c0 := Lts3.out.cell0 HK0.out
    go_wp2_with fail
    refine (nBeamEnd (Lts3.out) HP.out E1.out).mono ?_
    rintro e w4 ⟨hb, rfl⟩
    have HB4 := hid (HB3.out.trans (hb.mono HB3.out.size))
    clear HB3
    have Lts4 := hid (Lts3.out.step hb)
    clear Lts3
    clear hb
    clear c0
    go_wp2_with fail
    refine (nBeamTurns (Lts4.out) P1.out E2.out).mono ?_
    rintro e w5 ⟨hb, rfl⟩
    have HB5 := hid (HB4.out.trans (hb.mono HB4.out.size))
    clear HB4
    have Lts5 := hid (Lts4.out.step hb)
    clear Lts4
    clear hb
    go_wp2_with fail
    refine (nBeamLength (Lts5.out) HP.out E3.out).mono ?_
    rintro e w6 ⟨hb, rfl⟩
    have HB6 := hid (HB5.out.trans (hb.mono HB5.out.size))
    clear HB5
    have Lts6 := hid (Lts5.out.step hb)
    clear Lts5
    clear hb
    have hk0 : (0 : Int) ≤ (k : Int) := by omega
    rcases four_sides n m q with ⟨hq1, hqr⟩ | ⟨hq1, hq2, hqr⟩ | ⟨hq1, hq2, hqr⟩ | ⟨hq1, hqr⟩
    · skip
      have aq1 : decide ((m : Int) ≤ (q : Int)) = false := by simp; omega
      have aq3 : decide (2 * (m : Int) + (n : Int) ≤ (q : Int)) = false := by simp; omega
      rcases four_sides n m e with ⟨he1, her⟩ | ⟨he1, he2, her⟩ | ⟨he1, he2, her⟩ | ⟨he1, her⟩
      · skip
        have ae1 : decide ((m : Int) ≤ (e : Int)) = false := by simp; omega
        have ae3 : decide (2 * (m : Int) + (n : Int) ≤ (e : Int)) = false := by simp; omega
        have hk2 : (k : Int) % 2 = 0 := by have := HPAR.out.2 (hqr.trans her.symm); omega
        have hk3 : (k : Int).tmod 2 = (k : Int) % 2 := Int.tmod_eq_emod_of_nonneg hk0
        rw [hk2] at hk3
        clear hqr her
        go_wp2_with fail
        go_ret
        exact ⟨rfl, HB6.out⟩
      · skip
        have ae1 : decide ((m : Int) ≤ (e : Int)) = true := by simp; omega
        have ae2 : decide ((e : Int) < (m : Int) + (n : Int)) = true := by simp; omega
        have hk2 : (k : Int) % 2 = 1 := by have h0 : ¬ (k % 2 = 0) := fun h => by { have := HPAR.out.1 h; rw [hqr, her] at this; cases this }; omega
        have hk3 : (k : Int).tmod 2 = (k : Int) % 2 := Int.tmod_eq_emod_of_nonneg hk0
        rw [hk2] at hk3
        clear hqr her
        go_wp2_with fail
        go_ret
        exact ⟨rfl, HB6.out⟩
      · skip
        have ae1 : decide ((m : Int) ≤ (e : Int)) = true := by simp; omega
        have ae2 : decide ((e : Int) < (m : Int) + (n : Int)) = false := by simp; omega
        have ae3 : decide (2 * (m : Int) + (n : Int) ≤ (e : Int)) = false := by simp; omega
        have hk2 : (k : Int) % 2 = 0 := by have := HPAR.out.2 (hqr.trans her.symm); omega
        have hk3 : (k : Int).tmod 2 = (k : Int) % 2 := Int.tmod_eq_emod_of_nonneg hk0
        rw [hk2] at hk3
        clear hqr her
        go_wp2_with fail
        go_ret
        exact ⟨rfl, HB6.out⟩
      · skip
        have ae1 : decide ((m : Int) ≤ (e : Int)) = true := by simp; omega
        have ae2 : decide ((e : Int) < (m : Int) + (n : Int)) = false := by simp; omega
        have ae3 : decide (2 * (m : Int) + (n : Int) ≤ (e : Int)) = true := by simp; omega
        have hk2 : (k : Int) % 2 = 1 := by have h0 : ¬ (k % 2 = 0) := fun h => by { have := HPAR.out.1 h; rw [hqr, her] at this; cases this }; omega
        have hk3 : (k : Int).tmod 2 = (k : Int) % 2 := Int.tmod_eq_emod_of_nonneg hk0
        rw [hk2] at hk3
        clear hqr her
        go_wp2_with fail
        go_ret
        exact ⟨rfl, HB6.out⟩
    · skip
      have aq1 : decide ((m : Int) ≤ (q : Int)) = true := by simp; omega
      have aq2 : decide ((q : Int) < (m : Int) + (n : Int)) = true := by simp; omega
      rcases four_sides n m e with ⟨he1, her⟩ | ⟨he1, he2, her⟩ | ⟨he1, he2, her⟩ | ⟨he1, her⟩
      · skip
        have ae1 : decide ((m : Int) ≤ (e : Int)) = false := by simp; omega
        have ae3 : decide (2 * (m : Int) + (n : Int) ≤ (e : Int)) = false := by simp; omega
        have hk2 : (k : Int) % 2 = 1 := by have h0 : ¬ (k % 2 = 0) := fun h => by { have := HPAR.out.1 h; rw [hqr, her] at this; cases this }; omega
        have hk3 : (k : Int).tmod 2 = (k : Int) % 2 := Int.tmod_eq_emod_of_nonneg hk0
        rw [hk2] at hk3
        clear hqr her
        go_wp2_with fail
        go_ret
        exact ⟨rfl, HB6.out⟩
      · skip
        have ae1 : decide ((m : Int) ≤ (e : Int)) = true := by simp; omega
        have ae2 : decide ((e : Int) < (m : Int) + (n : Int)) = true := by simp; omega
        have hk2 : (k : Int) % 2 = 0 := by have := HPAR.out.2 (hqr.trans her.symm); omega
        have hk3 : (k : Int).tmod 2 = (k : Int) % 2 := Int.tmod_eq_emod_of_nonneg hk0
        rw [hk2] at hk3
        clear hqr her
        go_wp2_with fail
        go_ret
        exact ⟨rfl, HB6.out⟩
      · skip
        have ae1 : decide ((m : Int) ≤ (e : Int)) = true := by simp; omega
        have ae2 : decide ((e : Int) < (m : Int) + (n : Int)) = false := by simp; omega
        have ae3 : decide (2 * (m : Int) + (n : Int) ≤ (e : Int)) = false := by simp; omega
        have hk2 : (k : Int) % 2 = 1 := by have h0 : ¬ (k % 2 = 0) := fun h => by { have := HPAR.out.1 h; rw [hqr, her] at this; cases this }; omega
        have hk3 : (k : Int).tmod 2 = (k : Int) % 2 := Int.tmod_eq_emod_of_nonneg hk0
        rw [hk2] at hk3
        clear hqr her
        go_wp2_with fail
        go_ret
        exact ⟨rfl, HB6.out⟩
      · skip
        have ae1 : decide ((m : Int) ≤ (e : Int)) = true := by simp; omega
        have ae2 : decide ((e : Int) < (m : Int) + (n : Int)) = false := by simp; omega
        have ae3 : decide (2 * (m : Int) + (n : Int) ≤ (e : Int)) = true := by simp; omega
        have hk2 : (k : Int) % 2 = 0 := by have := HPAR.out.2 (hqr.trans her.symm); omega
        have hk3 : (k : Int).tmod 2 = (k : Int) % 2 := Int.tmod_eq_emod_of_nonneg hk0
        rw [hk2] at hk3
        clear hqr her
        go_wp2_with fail
        go_ret
        exact ⟨rfl, HB6.out⟩
    · skip
      have aq1 : decide ((m : Int) ≤ (q : Int)) = true := by simp; omega
      have aq2 : decide ((q : Int) < (m : Int) + (n : Int)) = false := by simp; omega
      have aq3 : decide (2 * (m : Int) + (n : Int) ≤ (q : Int)) = false := by simp; omega
      rcases four_sides n m e with ⟨he1, her⟩ | ⟨he1, he2, her⟩ | ⟨he1, he2, her⟩ | ⟨he1, her⟩
      · skip
        have ae1 : decide ((m : Int) ≤ (e : Int)) = false := by simp; omega
        have ae3 : decide (2 * (m : Int) + (n : Int) ≤ (e : Int)) = false := by simp; omega
        have hk2 : (k : Int) % 2 = 0 := by have := HPAR.out.2 (hqr.trans her.symm); omega
        have hk3 : (k : Int).tmod 2 = (k : Int) % 2 := Int.tmod_eq_emod_of_nonneg hk0
        rw [hk2] at hk3
        clear hqr her
        go_wp2_with fail
        go_ret
        exact ⟨rfl, HB6.out⟩
      · skip
        have ae1 : decide ((m : Int) ≤ (e : Int)) = true := by simp; omega
        have ae2 : decide ((e : Int) < (m : Int) + (n : Int)) = true := by simp; omega
        have hk2 : (k : Int) % 2 = 1 := by have h0 : ¬ (k % 2 = 0) := fun h => by { have := HPAR.out.1 h; rw [hqr, her] at this; cases this }; omega
        have hk3 : (k : Int).tmod 2 = (k : Int) % 2 := Int.tmod_eq_emod_of_nonneg hk0
        rw [hk2] at hk3
        clear hqr her
        go_wp2_with fail
        go_ret
        exact ⟨rfl, HB6.out⟩
      · skip
        have ae1 : decide ((m : Int) ≤ (e : Int)) = true := by simp; omega
        have ae2 : decide ((e : Int) < (m : Int) + (n : Int)) = false := by simp; omega
        have ae3 : decide (2 * (m : Int) + (n : Int) ≤ (e : Int)) = false := by simp; omega
        have hk2 : (k : Int) % 2 = 0 := by have := HPAR.out.2 (hqr.trans her.symm); omega
        have hk3 : (k : Int).tmod 2 = (k : Int) % 2 := Int.tmod_eq_emod_of_nonneg hk0
        rw [hk2] at hk3
        clear hqr her
        go_wp2_with fail
        go_ret
        exact ⟨rfl, HB6.out⟩
      · skip
        have ae1 : decide ((m : Int) ≤ (e : Int)) = true := by simp; omega
        have ae2 : decide ((e : Int) < (m : Int) + (n : Int)) = false := by simp; omega
        have ae3 : decide (2 * (m : Int) + (n : Int) ≤ (e : Int)) = true := by simp; omega
        have hk2 : (k : Int) % 2 = 1 := by have h0 : ¬ (k % 2 = 0) := fun h => by { have := HPAR.out.1 h; rw [hqr, her] at this; cases this }; omega
        have hk3 : (k : Int).tmod 2 = (k : Int) % 2 := Int.tmod_eq_emod_of_nonneg hk0
        rw [hk2] at hk3
        clear hqr her
        go_wp2_with fail
        go_ret
        exact ⟨rfl, HB6.out⟩
    · skip
      have aq1 : decide ((m : Int) ≤ (q : Int)) = true := by simp; omega
      have aq2 : decide ((q : Int) < (m : Int) + (n : Int)) = false := by simp; omega
      have aq3 : decide (2 * (m : Int) + (n : Int) ≤ (q : Int)) = true := by simp; omega
      rcases four_sides n m e with ⟨he1, her⟩ | ⟨he1, he2, her⟩ | ⟨he1, he2, her⟩ | ⟨he1, her⟩
      · skip
        have ae1 : decide ((m : Int) ≤ (e : Int)) = false := by simp; omega
        have ae3 : decide (2 * (m : Int) + (n : Int) ≤ (e : Int)) = false := by simp; omega
        have hk2 : (k : Int) % 2 = 1 := by have h0 : ¬ (k % 2 = 0) := fun h => by { have := HPAR.out.1 h; rw [hqr, her] at this; cases this }; omega
        have hk3 : (k : Int).tmod 2 = (k : Int) % 2 := Int.tmod_eq_emod_of_nonneg hk0
        rw [hk2] at hk3
        clear hqr her
        go_wp2_with fail
        go_ret
        exact ⟨rfl, HB6.out⟩
      · skip
        have ae1 : decide ((m : Int) ≤ (e : Int)) = true := by simp; omega
        have ae2 : decide ((e : Int) < (m : Int) + (n : Int)) = true := by simp; omega
        have hk2 : (k : Int) % 2 = 0 := by have := HPAR.out.2 (hqr.trans her.symm); omega
        have hk3 : (k : Int).tmod 2 = (k : Int) % 2 := Int.tmod_eq_emod_of_nonneg hk0
        rw [hk2] at hk3
        clear hqr her
        go_wp2_with fail
        go_ret
        exact ⟨rfl, HB6.out⟩
      · skip
        have ae1 : decide ((m : Int) ≤ (e : Int)) = true := by simp; omega
        have ae2 : decide ((e : Int) < (m : Int) + (n : Int)) = false := by simp; omega
        have ae3 : decide (2 * (m : Int) + (n : Int) ≤ (e : Int)) = false := by simp; omega
        have hk2 : (k : Int) % 2 = 1 := by have h0 : ¬ (k % 2 = 0) := fun h => by { have := HPAR.out.1 h; rw [hqr, her] at this; cases this }; omega
        have hk3 : (k : Int).tmod 2 = (k : Int) % 2 := Int.tmod_eq_emod_of_nonneg hk0
        rw [hk2] at hk3
        clear hqr her
        go_wp2_with fail
        go_ret
        exact ⟨rfl, HB6.out⟩
      · skip
        have ae1 : decide ((m : Int) ≤ (e : Int)) = true := by simp; omega
        have ae2 : decide ((e : Int) < (m : Int) + (n : Int)) = false := by simp; omega
        have ae3 : decide (2 * (m : Int) + (n : Int) ≤ (e : Int)) = true := by simp; omega
        have hk2 : (k : Int) % 2 = 0 := by have := HPAR.out.2 (hqr.trans her.symm); omega
        have hk3 : (k : Int).tmod 2 = (k : Int) % 2 := Int.tmod_eq_emod_of_nonneg hk0
        rw [hk2] at hk3
        clear hqr her
        go_wp2_with fail
        go_ret
        exact ⟨rfl, HB6.out⟩
  · skip
    go_wp2_with fail
    go_ret
    exact ⟨rfl, HB3.out⟩

set_option maxRecDepth 100000 in
theorem lifted (os : Os) (started : os.Started) (H : Type) (enc : TypeId × Value → H) :
    ReturnsInHanded {} Try.checked os 6 .any (Rows.fnTurnsSpec.pre6 enc Try.prog Try.f6 Rows.fnTurnsRow.domain false) (Rows.fnTurnsSpec.post enc Try.prog Try.f6 false true false false) := by
  refine returnsInHanded_of_change (C := Try.checked) Try.own started (by kernel_rfl) Try.func6
    (ChangeSpec.witness6 (enc := enc) (C := Try.checked) false ⟨#[], #[.slice none 0 0], []⟩ 8 (by kernel_rfl) (by kernel_rfl) (by kernel_rfl) (by kernel_rfl)) ?_
  intro W base args ds gs before hval0 hW hcnd _
  have hval : ∀ (j : Nat) t v, Try.f6.params[j]? = some t → args[j]? = some v → Value.okWide Try.prog W .any base t v := hval0
  have hW' := hW
  obtain ⟨p, q, hA0, hV, rfl, hfz, hnd⟩ := hW
  have hA : DataW.TrodAll enc Try.prog W 0 (fun _ => true) true Try.f6.params.toList args.toList ds p := hA0
  rw [Try.params6] at hA hval
  obtain ⟨v0, vs0, d0, ds0, p0, q0, hargs, rfl, rfl, h0, r0⟩ := trodAll_cons hA
  obtain ⟨rfl, rfl, rfl⟩ := trodAll_nil r0
  obtain rfl : args = #[v0] := by cases args; simp_all
  obtain ⟨rfl, rfl⟩ := trodVars_none hV
  have k0 := h0
  have lt0 : ∀ x ∈ p0, x.block < W.heap.size := by obtain ⟨m, hm⟩ := k0; exact DataW.trod_lt m _ _ _ hm
  have c0 := cameB_of (hval 0 22 v0 rfl rfl) h0
  clear hA0 hval0
  refine (walk v0 W c0).mono fun e W' ⟨he, bel⟩ => ?_
  subst he
  exact ⟨_, rfl, _, _, _, [], _, [], hW', trodAll_mk1 (shut_bool Try.underlying4 _), (trodAll_cons_mk (Below.trod Try.laidOut (by kernel_rfl) (of_decide_eq_true (by kernel_rfl)) k0 bel lt0) trodAll_mk0), rfl, bel.frame _, fun h => by cases h⟩

theorem closed : joinedFacts Try.pinned.checked.prog 6 Try.f6 Rows.fnTurnsSpec Rows.fnTurnsRow = true := by
  unfold joinedFacts
  exact and8 (by as_aux_lemma => kernel_rfl) head_enter head_lifts head_make (by as_aux_lemma => kernel_rfl) (by as_aux_lemma => kernel_rfl) (by as_aux_lemma => kernel_rfl) (by as_aux_lemma => kernel_rfl)

theorem proved : Rows.FnTurnsSaid :=
  OpenClaim.holds_of_wide 6 Try.f6 rfl rfl rfl rfl rfl rfl rfl ⟨rfl, rfl, rfl, rfl, rfl⟩ rfl rfl rfl rfl rfl (by kernel_rfl) Try.func6 closed
    (of_decide_eq_true (by kernel_rfl)) (by unfold Func.isWrapper; first | (rw [if_pos (by decide +kernel)]; kernel_rfl) | (rw [if_neg (by decide +kernel)]; exact ⟨rfl, rfl⟩))
    (fun os started H enc _ => lifted os started H enc)
#print axioms proved

end Go.Proofs.Ytpbppkidglmacaa.lawFnTurns
