/- For every code, the drawn grid turned four times is the grid, turned once it has as many mirrors, and as many rows as the grid has columns; the program's and the specification's answers are the same: the law FnTurn returns true, and its argument reads as it did. No condition. -/
import Derived.Test.YtkgjhchgflichaaPK
import Derived.Test.YtkgjhchgflichaaGridP
namespace Go.Proofs.Ytkgjhchgflichaa.lawFnTurn
open Go.ChangeShapes Go.WideShapes Go.ChangeAt Go.RowKit
open Go.ChangeMaps (open_string shut_string)

theorem facts {n m : Nat} {ts : List ByteArray} (h : IsGrid n m ts) : ∃ fl x y k, turnG n m (pad (flat ts)) = fl ∧ IsGrid m n fl ∧ turnG m n (pad (flat fl)) = x ∧ IsGrid n m x ∧ turnG n m (pad (flat x)) = y ∧ IsGrid m n y ∧ turnG m n (pad (flat y)) = ts ∧
    cntOf 114 (flat ts) + cntOf 102 (flat ts) = k ∧ cntOf 114 (flat fl) + cntOf 102 (flat fl) = k := by
  have g1 := turn_grid h
  have g2 := turn_grid g1
  have g3 := turn_grid g2
  refine ⟨_, _, _, _, turn_same h, g1, turn_same g1, g2, turn_same g2, g3, (turn_same g3).trans (turn_four h), rfl, ?_⟩
  have e1 := mir_emp h
  have e2 := mir_emp g1
  rw [turn_emp h, Nat.mul_comm m n] at e2
  omega

set_option maxRecDepth 100000 in
set_option maxHeartbeats 1000000 in
theorem draw_any (A : Option Addr) (len cap : Nat) (w : World) (h : CodeAt w A len) (hl : len ≤ 1048576) (hc : len ≤ cap) (hc2 : cap ≤ 9223372036854775807) :
    Calls Try.prog 19 #[.slice A len cap] w fun e w' => Below w.heap.size w w' ∧ ∃ A c ts, e = .returned (.slice A ts.length c) ∧ LS w' A ts ∧ Drawn 4 4 ts := by
  have HC := hid (l91One_any A len cap w h hl hc hc2)
  clear h
  go_enter Try.func19, Try.ntmps19
  go_wp2_with fail
  refine HC.out.mono ?_
  rintro e w1 ⟨⟨A1, c1, ts, rfl, hst, hd⟩, hb⟩
  have HST := hid hst
  have HD := hid hd
  have HB := hid hb
  clear hst hd hb
  go_wp2_with fail
  go_ret
  exact ⟨HB.out, A1, c1, ts, rfl, HST.out, HD.out⟩

set_option maxRecDepth 100000 in
set_option maxHeartbeats 4000000 in
theorem walk (v : Value) (w : World) (hc : CameB w v) :
    Calls Try.prog 4 #[v] w fun e w' => e = .returned (.bool true) ∧ Below w.heap.size w w' := by
  obtain ⟨A, len, cap, rfl, hcode, hlc, hcap⟩ := hc
  have HCD := hid hcode
  clear hcode
  go_enter Try.func4, Try.ntmps4
  by_cases hbig : 1048576 < len
  · have hbi : (1048576 : Int) < (len : Int) := by omega
    go_wp2_with fail
    go_ret
    exact ⟨rfl, Below.refl _ _⟩
  have hbi : ¬ (1048576 : Int) < (len : Int) := by omega
  have HDR := hid (draw_any A len cap w HCD.out (by omega) hlc hcap)
  have HC1 := hid (HDR.out)
  go_wp2_with fail
  refine HC1.out.mono ?_
  rintro e w1 ⟨hb, A1, c1, ts, rfl, hl, hd⟩
  have HB1 := hid hb
  have Lts1 := hid hl
  clear hl
  clear hb HC1
  have HD := hid hd
  clear hd
  have HSM := hid (HD.out.small (by decide) (by decide))
  have HC2 := hid ((implGridTurn_any A1 c1 ts w1 Lts1.out HSM.out.1 HSM.out.2).mono fun _ _ h => h.tend)
  go_wp2_with fail
  refine HC2.out.mono ?_
  rintro e w2 ⟨hb, A2, c2, res, ok, rfl, hout, hl⟩
  have HB2 := hid (HB1.out.trans (hb.mono HB1.out.size))
  clear HB1
  have Lts2 := hid (Lts1.out.step hb)
  clear Lts1
  have Lout2 := hid hl
  clear hl
  clear hb HC2
  have HO := hid hout
  clear hout
  have HC3 := hid ((specGridTurn_any A1 c1 w2.heap.size ts w2 Lts2.out (Nat.le_refl _) HSM.out.1 HSM.out.2).mono fun _ _ h => h.tend)
  go_wp2_with fail
  refine HC3.out.mono ?_
  rintro e w3 ⟨hb, A3, c3, res2, ok2, rfl, hout2, hl⟩
  have HB3 := hid (HB2.out.trans (hb.mono HB2.out.size))
  clear HB2
  have Lts3 := hid (Lts2.out.step hb)
  clear Lts2
  have Lout3 := hid (Lout2.out.step hb)
  clear Lout2
  have Lwant3 := hid hl
  clear hl
  clear hb HC3
  obtain ⟨rfl, rfl⟩ := HO.out.uniq hout2
  clear hout2
  rcases HO.out with ⟨n, m, hg, rfl, rfl⟩ | ⟨_, rfl, rfl⟩
  · obtain ⟨fl, x, y, k, e1, g1, e2, g2, e3, g3, e4, k1, k2⟩ := facts hg
    rw [e1] at Lout3 Lwant3 ⊢
    obtain ⟨b0, o0, s0, rfl, hk0, hs0, hl0⟩ := Lts3.out.addr hg
    have hfl : ((fl.length : Nat) : Int) = (m : Int) := by rw [g1.1]
    have HK0 := hid hk0
    clear hk0 e1
    have HG := hid hg
    have G1 := hid g1
    have E2 := hid e2
    have G2 := hid g2
    have E3 := hid e3
    have G3 := hid g3
    have E4 := hid e4
    have K1 := hid k1
    have K2 := hid k2
    clear hg g1 e2 g2 e3 g3 e4 k1 k2
    go_wp2_with fail
    refine (nSameT (Lout3.out) (Lwant3.out) (gsmall G1.out).1).mono ?_
    rintro e w4 ⟨hb, rfl⟩
    have HB4 := hid (HB3.out.trans (hb.mono HB3.out.size))
    clear HB3
    have Lts4 := hid (Lts3.out.step hb)
    clear Lts3
    have Lout4 := hid (Lout3.out.step hb)
    clear Lout3
    have Lwant4 := hid (Lwant3.out.step hb)
    clear Lwant3
    clear hb
    clear Lwant4
    go_wp2_with fail
    refine (nGridTurn (Lout4.out) G1.out E2.out).mono ?_
    rintro e w5 ⟨hb, A5, c5, rfl, hl⟩
    have HB5 := hid (HB4.out.trans (hb.mono HB4.out.size))
    clear HB4
    have Lts5 := hid (Lts4.out.step hb)
    clear Lts4
    have Lout5 := hid (Lout4.out.step hb)
    clear Lout4
    have Lx5 := hid hl
    clear hl
    clear hb
    go_wp2_with fail
    refine (nGridTurn (Lx5.out) G2.out E3.out).mono ?_
    rintro e w6 ⟨hb, A6, c6, rfl, hl⟩
    have HB6 := hid (HB5.out.trans (hb.mono HB5.out.size))
    clear HB5
    have Lts6 := hid (Lts5.out.step hb)
    clear Lts5
    have Lout6 := hid (Lout5.out.step hb)
    clear Lout5
    have Lx6 := hid (Lx5.out.step hb)
    clear Lx5
    have Ly6 := hid hl
    clear hl
    clear hb
    clear Lx6
    go_wp2_with fail
    refine (nGridTurn (Ly6.out) G3.out E4.out).mono ?_
    rintro e w7 ⟨hb, A7, c7, rfl, hl⟩
    have HB7 := hid (HB6.out.trans (hb.mono HB6.out.size))
    clear HB6
    have Lts7 := hid (Lts6.out.step hb)
    clear Lts6
    have Lout7 := hid (Lout6.out.step hb)
    clear Lout6
    have Ly7 := hid (Ly6.out.step hb)
    clear Ly6
    have Lz7 := hid hl
    clear hl
    clear hb
    clear Ly7
    go_wp2_with fail
    refine (nGridCount (Lts7.out) HG.out K1.out).mono ?_
    rintro e w8 ⟨hb, rfl⟩
    have HB8 := hid (HB7.out.trans (hb.mono HB7.out.size))
    clear HB7
    have Lts8 := hid (Lts7.out.step hb)
    clear Lts7
    have Lout8 := hid (Lout7.out.step hb)
    clear Lout7
    have Lz8 := hid (Lz7.out.step hb)
    clear Lz7
    clear hb
    go_wp2_with fail
    refine (nGridCount (Lout8.out) G1.out K2.out).mono ?_
    rintro e w9 ⟨hb, rfl⟩
    have HB9 := hid (HB8.out.trans (hb.mono HB8.out.size))
    clear HB8
    have Lts9 := hid (Lts8.out.step hb)
    clear Lts8
    have Lout9 := hid (Lout8.out.step hb)
    clear Lout8
    have Lz9 := hid (Lz8.out.step hb)
    clear Lz8
    clear hb
    go_wp2_with fail
    refine (nSameT (Lz9.out) (Lts9.out) (gsmall HG.out).1).mono ?_
    rintro e w10 ⟨hb, rfl⟩
    have HB10 := hid (HB9.out.trans (hb.mono HB9.out.size))
    clear HB9
    have Lts10 := hid (Lts9.out.step hb)
    clear Lts9
    have Lout10 := hid (Lout9.out.step hb)
    clear Lout9
    have Lz10 := hid (Lz9.out.step hb)
    clear Lz9
    clear hb
    have c0 := Lts10.out.cell0 HK0.out
    go_wp2_with fail
    go_ret
    exact ⟨rfl, HB10.out⟩
  · skip
    go_wp2_with fail
    refine (nSameT (Lout3.out) (Lwant3.out) (by simp)).mono ?_
    rintro e w4 ⟨hb, rfl⟩
    have HB4 := hid (HB3.out.trans (hb.mono HB3.out.size))
    clear HB3
    have Lts4 := hid (Lts3.out.step hb)
    clear Lts3
    have Lout4 := hid (Lout3.out.step hb)
    clear Lout3
    have Lwant4 := hid (Lwant3.out.step hb)
    clear Lwant3
    clear hb
    go_wp2_with fail
    refine (nSameT (Lout4.out) (Lwant4.out) (by simp)).mono ?_
    rintro e w5 ⟨hb, rfl⟩
    have HB5 := hid (HB4.out.trans (hb.mono HB4.out.size))
    clear HB4
    have Lts5 := hid (Lts4.out.step hb)
    clear Lts4
    have Lout5 := hid (Lout4.out.step hb)
    clear Lout4
    have Lwant5 := hid (Lwant4.out.step hb)
    clear Lwant4
    clear hb
    go_wp2_with fail
    go_ret
    exact ⟨rfl, HB5.out⟩

set_option maxRecDepth 100000 in
theorem lifted (os : Os) (started : os.Started) (H : Type) (enc : TypeId × Value → H) :
    ReturnsInHanded {} Try.checked os 4 .any (Rows.fnTurnSpec.pre6 enc Try.prog Try.f4 Rows.fnTurnRow.domain false) (Rows.fnTurnSpec.post enc Try.prog Try.f4 false true false false) := by
  refine returnsInHanded_of_change (C := Try.checked) Try.own started (by kernel_rfl) Try.func4
    (ChangeSpec.witness6 (enc := enc) (C := Try.checked) false ⟨#[], #[.slice none 0 0], []⟩ 8 (by kernel_rfl) (by kernel_rfl) (by kernel_rfl) (by kernel_rfl)) ?_
  intro W base args ds gs before hval0 hW hcnd _
  have hval : ∀ (j : Nat) t v, Try.f4.params[j]? = some t → args[j]? = some v → Value.okWide Try.prog W .any base t v := hval0
  have hW' := hW
  obtain ⟨p, q, hA0, hV, rfl, hfz, hnd⟩ := hW
  have hA : DataW.TrodAll enc Try.prog W 0 (fun _ => true) true Try.f4.params.toList args.toList ds p := hA0
  rw [Try.params4] at hA hval
  obtain ⟨v0, vs0, d0, ds0, p0, q0, hargs, rfl, rfl, h0, r0⟩ := trodAll_cons hA
  obtain ⟨rfl, rfl, rfl⟩ := trodAll_nil r0
  obtain rfl : args = #[v0] := by cases args; simp_all
  obtain ⟨rfl, rfl⟩ := trodVars_none hV
  have k0 := h0
  have lt0 : ∀ x ∈ p0, x.block < W.heap.size := by obtain ⟨m, hm⟩ := k0; exact DataW.trod_lt m _ _ _ hm
  have c0 := cameB_of (hval 0 22 v0 rfl rfl) h0
  clear hA0 hval0
  refine (walk v0 W c0).mono fun e W' ⟨he, bel⟩ => ?_
  subst he
  exact ⟨_, rfl, _, _, _, [], _, [], hW', trodAll_mk1 (shut_bool Try.underlying4 _), (trodAll_cons_mk (Below.trod Try.laidOut (by kernel_rfl) (of_decide_eq_true (by kernel_rfl)) k0 bel lt0) trodAll_mk0), rfl, bel.frame _, fun h => by cases h⟩

theorem closed : joinedFacts Try.pinned.checked.prog 4 Try.f4 Rows.fnTurnSpec Rows.fnTurnRow = true := by
  unfold joinedFacts
  exact and8 (by as_aux_lemma => kernel_rfl) head_enter head_lifts head_make (by as_aux_lemma => kernel_rfl) (by as_aux_lemma => kernel_rfl) (by as_aux_lemma => kernel_rfl) (by as_aux_lemma => kernel_rfl)

theorem proved : Rows.FnTurnSaid :=
  OpenClaim.holds_of_wide 4 Try.f4 rfl rfl rfl rfl rfl rfl rfl ⟨rfl, rfl, rfl, rfl, rfl⟩ rfl rfl rfl rfl rfl (by kernel_rfl) Try.func4 closed
    (of_decide_eq_true (by kernel_rfl)) (by unfold Func.isWrapper; first | (rw [if_pos (by decide +kernel)]; kernel_rfl) | (rw [if_neg (by decide +kernel)]; exact ⟨rfl, rfl⟩))
    (fun os started H enc _ => lifted os started H enc)
#print axioms proved

end Go.Proofs.Ytkgjhchgflichaa.lawFnTurn
