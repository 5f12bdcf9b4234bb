/- For every code, the two drawn grids beside each other have the first one and the second one as parts; the program's and the specification's answers are the same: the law FnBeside returns true, and its argument reads as it did. No condition. -/
import Derived.Test.YtkgjhchgflichaaPK
import Derived.Test.YtkgjhchgflichaaPKG
import Derived.Test.YtkgjhchgflichaaPKD
import Derived.Test.YtkgjhchgflichaaGridP
import Derived.Test.YtkgjhchgflichaaJoinB
namespace Go.Proofs.Ytkgjhchgflichaa.lawFnBeside
open Go.ChangeShapes Go.WideShapes Go.ChangeAt Go.RowKit
open Go.ChangeMaps (open_string shut_string)

theorem facts {n m n' m' : Nat} {ts tt : List ByteArray} (h : BesideIn ts tt n m n' m') : ∃ fl, besideG ts tt n m n' m' = fl ∧ IsGrid n (m + m') fl ∧ PartIn fl 0 ((n : Int) - 1) 0 ((m : Int) - 1) n (m + m') 0 n 0 m ∧ ruleG n m (partF (m + m') 0 0 (flat fl)) = ts ∧
    PartIn fl 0 ((n : Int) - 1) (m : Int) ((m : Int) + (m' : Int) - 1) n (m + m') 0 n m m' ∧ ruleG n m' (partF (m + m') 0 m (flat fl)) = tt := by
  obtain ⟨h1, h2, rfl, h5⟩ := h
  have g := beside_grid5 h1 h2 h5
  have a1 := h1.2.1
  have a2 := h1.2.2.2.1
  have a3 := h2.2.2.2.1
  exact ⟨_, beside_same h1 h2 h5, g, ⟨g, rfl, by simp, rfl, by simp, a1, by omega, a2, by omega⟩, beside_left h1, ⟨g, rfl, by simp, rfl, by omega, a1, by omega, a3, by omega⟩, beside_right h2⟩

set_option maxRecDepth 100000 in
set_option maxHeartbeats 2000000 in
theorem draw_any (A : Option Addr) (len cap : Nat) (w : World) (h : CodeAt w A len) (hl : len ≤ 1048576) (hc : len ≤ cap) (hc2 : cap ≤ 9223372036854775807) :
    Calls Try.prog 26 #[.slice A len cap] w fun e w' => Below w.heap.size w w' ∧ ∃ A c ts A2 c2 tt, e = .returned (.tuple #[.slice A ts.length c, .slice A2 tt.length c2]) ∧ LS w' A ts ∧ LS w' A2 tt ∧ Drawn 10 10 ts ∧ tt.length ≤ 10 ∧ ∀ s ∈ tt, s.size ≤ 10 := by
  have HOP := hid (dOpen A len cap w h hl hc hc2)
  clear h
  go_enter Try.func26, Try.ntmps26
  go_wp2_with fail
  refine HOP.out.mono ?_
  rintro e w1 ⟨rfl, hd⟩
  have HD1 := hid hd
  clear hd HOP
  have HC1 := hid (dPick 4 HD1.out (by omega) (by omega) (by omega))
  go_wp2_with fail
  refine HC1.out.mono ?_
  rintro e w2 ⟨hg, hd, v, hv, rfl⟩
  have HD2 := hid hd
  clear hg hd HC1 HD1
  obtain ⟨n, en⟩ : ∃ n, 1 + v = n := ⟨_, rfl⟩
  have zin : (1 : Int) + (v : Int) = (n : Int) := by omega
  have ln : 1 ≤ n := by omega
  have un : n ≤ 4 := by omega
  clear en
  have HC2 := hid (dPick 3 HD2.out (by omega) (by omega) (by omega))
  go_wp2_with fail
  refine HC2.out.mono ?_
  rintro e w3 ⟨hg, hd, v2, hv2, rfl⟩
  have HD3 := hid hd
  clear hg hd HC2 HD2
  obtain ⟨m, em⟩ : ∃ m, 1 + v2 = m := ⟨_, rfl⟩
  have zim : (1 : Int) + (v2 : Int) = (m : Int) := by omega
  have lm : 1 ≤ m := by omega
  have um : m ≤ 3 := by omega
  clear em
  have HC3 := hid (dOf n m HD3.out (by omega) (by omega) (by omega) (by omega))
  go_wp2_with fail
  refine HC3.out.mono ?_
  rintro e w4 ⟨hg, hd, A1, c1, ts, hl, ht, hx, rfl⟩
  have Xts4 := hid hx
  clear hx
  have HD4 := hid hd
  clear hg hd HC3 HD3
  have HT := hid ht
  have HL := hid hl
  clear hl ht
  have HC4 := hid (dPick 24 HD4.out (by omega) (by omega) (by omega))
  go_wp2_with fail
  refine HC4.out.mono ?_
  rintro e w5 ⟨hg, hd, v3, hv3, rfl⟩
  have Xts5 := hid (Xts4.out.step hg)
  clear Xts4
  have HD5 := hid hd
  clear hg hd HC4 HD4
  obtain ⟨q, hq, hq23⟩ := q23 v3 hv3
  obtain ⟨n2, en2⟩ : ∃ n2, n + q = n2 := ⟨_, rfl⟩
  have in2 : (n : Int) + (q : Int) = (n2 : Int) := by omega
  have un2 : n2 ≤ 5 := by omega
  clear en2
  have HC5 := hid (dPick 3 HD5.out (by omega) (by omega) (by omega))
  go_wp2_with fail
  refine HC5.out.mono ?_
  rintro e w6 ⟨hg, hd, v4, hv4, rfl⟩
  have Xts6 := hid (Xts5.out.step hg)
  clear Xts5
  have HD6 := hid hd
  clear hg hd HC5 HD5
  obtain ⟨m2, em2⟩ : ∃ m2, 1 + v4 = m2 := ⟨_, rfl⟩
  have zim2 : (1 : Int) + (v4 : Int) = (m2 : Int) := by omega
  have lm2 : 1 ≤ m2 := by omega
  have um2 : m2 ≤ 3 := by omega
  clear em2
  have HC6 := hid (dOf n2 m2 HD6.out (by omega) (by omega) (by omega) (by omega))
  go_wp2_with fail
  refine HC6.out.mono ?_
  rintro e w7 ⟨hg, hd, A2, c2, tt, hl, ht, hx, rfl⟩
  have Xts7 := hid (Xts6.out.step hg)
  clear Xts6
  have Xtt7 := hid hx
  clear hx
  have HD7 := hid hd
  clear hg hd HC6 HD6
  have HT2 := hid ht
  have HL2 := hid hl
  clear hl ht
  go_wp2_with fail
  refine bodyPost_ret (results_tmp2 rfl _ _ _) rfl ?_
  refine ⟨HD7.out.below, A1, c1, ts, A2, c2, tt, by rw [HL.out, HL2.out]; rfl, Xts7.out.1, Xtt7.out.1, ⟨by rw [HL.out]; omega, by rw [HL.out]; omega, fun s hs => by have := (HT.out s hs).1; omega⟩, by rw [HL2.out]; omega, fun s hs => by have := (HT2.out s hs).1; omega⟩

set_option maxRecDepth 100000 in
set_option maxHeartbeats 4000000 in
theorem walk (v : Value) (w : World) (hc : CameB w v) :
    Calls Try.prog 6 #[v] w fun e w' => e = .returned (.bool true) ∧ Below w.heap.size w w' := by
  obtain ⟨A, len, cap, rfl, hcode, hlc, hcap⟩ := hc
  have HCD := hid hcode
  clear hcode
  go_enter Try.func6, Try.ntmps6
  by_cases hbig : 1048576 < len
  · have hbi : (1048576 : Int) < (len : Int) := by omega
    go_wp2_with fail
    go_ret
    exact ⟨rfl, Below.refl _ _⟩
  have hbi : ¬ (1048576 : Int) < (len : Int) := by omega
  have HDR := hid (draw_any A len cap w HCD.out (by omega) hlc hcap)
  have HC1 := hid (HDR.out)
  go_wp2_with fail
  refine HC1.out.mono ?_
  rintro e w1 ⟨hb, A1, c1, ts, A1t, c1t, tt, rfl, hl, hl2, hd, hn2, hs2⟩
  have HB1 := hid hb
  have Lts1 := hid hl
  clear hl
  have Ltt1 := hid hl2
  clear hl2
  clear hb HC1
  have HSM := hid (hd.small (by decide) (by decide))
  have HSMt := hid (show tt.length ≤ 1048576 ∧ ∀ s ∈ tt, s.size ≤ 1048576 from ⟨by omega, fun s hs => by have := hs2 s hs; omega⟩)
  clear hd hn2 hs2
  have HC2 := hid ((implGridBeside_any A1 A1t c1 c1t ts tt w1 Lts1.out Ltt1.out HSM.out.1 HSM.out.2 HSMt.out.1 HSMt.out.2).mono fun _ _ h => JoinEnd.tend h)
  go_wp2_with fail
  refine HC2.out.mono ?_
  rintro e w2 ⟨hb, A2, c2, res, ok, rfl, hout, hl⟩
  have HB2 := hid (HB1.out.trans (hb.mono HB1.out.size))
  clear HB1
  have Lts2 := hid (Lts1.out.step hb)
  clear Lts1
  have Ltt2 := hid (Ltt1.out.step hb)
  clear Ltt1
  have Lout2 := hid hl
  clear hl
  clear hb HC2
  have HO := hid hout
  clear hout
  have HC3 := hid ((specGridBeside_any A1 A1t c1 c1t w2.heap.size ts tt w2 Lts2.out Ltt2.out (Nat.le_refl _) HSM.out.1 HSM.out.2 HSMt.out.1 HSMt.out.2).mono fun _ _ h => tend_spec h)
  go_wp2_with fail
  refine HC3.out.mono ?_
  rintro e w3 ⟨hb, A3, c3, res2, ok2, rfl, hout2, hl⟩
  have HB3 := hid (HB2.out.trans (hb.mono HB2.out.size))
  clear HB2
  have Lts3 := hid (Lts2.out.step hb)
  clear Lts2
  have Ltt3 := hid (Ltt2.out.step hb)
  clear Ltt2
  have Lout3 := hid (Lout2.out.step hb)
  clear Lout2
  have Lwant3 := hid hl
  clear hl
  clear hb HC3
  obtain ⟨rfl, rfl⟩ := BesideOut.uniq HO.out hout2
  clear hout2
  rcases HO.out with ⟨n, m, n', m', hg, rfl, rfl⟩ | ⟨_, rfl, rfl⟩
  · obtain ⟨fl, e1, g1, p1, e2, p2, e3⟩ := facts hg
    rw [e1] at Lout3 Lwant3 ⊢
    obtain ⟨b0, o0, s0, rfl, hk0, hs0, hl0⟩ := Lts3.out.addr hg.1
    obtain ⟨b1, o1, s1, rfl, hk1, hs1, hl1⟩ := Ltt3.out.addr hg.2.1
    have hn : ((ts.length : Nat) : Int) = (n : Int) := by rw [hg.1.1]
    have hn5 := hg.1.2.2.1
    have hm5 := hg.2.2.2
    have HGa := hid hg.1
    have HGb := hid hg.2.1
    clear e1 hg
    have G1 := hid g1
    have P1 := hid p1
    have E2 := hid e2
    have P2 := hid p2
    have E3 := hid e3
    have HK0 := hid hk0
    have HK1 := hid hk1
    clear g1 p1 e2 p2 e3 hk0 hk1
    go_wp2_with fail
    refine (nSameT (Lout3.out) (Lwant3.out) (gsmall G1.out).1).mono ?_
    rintro e w4 ⟨hb, rfl⟩
    have HB4 := hid (HB3.out.trans (hb.mono HB3.out.size))
    clear HB3
    have Lts4 := hid (Lts3.out.step hb)
    clear Lts3
    have Ltt4 := hid (Ltt3.out.step hb)
    clear Ltt3
    have Lout4 := hid (Lout3.out.step hb)
    clear Lout3
    have Lwant4 := hid (Lwant3.out.step hb)
    clear Lwant3
    clear hb
    clear Lwant4
    have c0 := Lts4.out.cell0 HK0.out
    go_wp2_with fail
    refine (nGridPart (Lout4.out) P1.out E2.out).mono ?_
    rintro e w5 ⟨hb, A5, c5, rfl, hl⟩
    have HB5 := hid (HB4.out.trans (hb.mono HB4.out.size))
    clear HB4
    have Lts5 := hid (Lts4.out.step hb)
    clear Lts4
    have Ltt5 := hid (Ltt4.out.step hb)
    clear Ltt4
    have Lout5 := hid (Lout4.out.step hb)
    clear Lout4
    have Lx5 := hid hl
    clear hl
    clear hb
    clear c0
    have c1 := Ltt5.out.cell0 HK1.out
    go_wp2_with fail
    refine (nGridPart (Lout5.out) P2.out E3.out).mono ?_
    rintro e w6 ⟨hb, A6, c6, rfl, hl⟩
    have HB6 := hid (HB5.out.trans (hb.mono HB5.out.size))
    clear HB5
    have Lts6 := hid (Lts5.out.step hb)
    clear Lts5
    have Ltt6 := hid (Ltt5.out.step hb)
    clear Ltt5
    have Lout6 := hid (Lout5.out.step hb)
    clear Lout5
    have Lx6 := hid (Lx5.out.step hb)
    clear Lx5
    have Ly6 := hid hl
    clear hl
    clear hb
    clear c1
    go_wp2_with fail
    refine (nSameT (Lx6.out) (Lts6.out) (gsmall HGa.out).1).mono ?_
    rintro e w7 ⟨hb, rfl⟩
    have HB7 := hid (HB6.out.trans (hb.mono HB6.out.size))
    clear HB6
    have Lts7 := hid (Lts6.out.step hb)
    clear Lts6
    have Ltt7 := hid (Ltt6.out.step hb)
    clear Ltt6
    have Lout7 := hid (Lout6.out.step hb)
    clear Lout6
    have Lx7 := hid (Lx6.out.step hb)
    clear Lx6
    have Ly7 := hid (Ly6.out.step hb)
    clear Ly6
    clear hb
    go_wp2_with fail
    refine (nSameT (Ly7.out) (Ltt7.out) (gsmall HGb.out).1).mono ?_
    rintro e w8 ⟨hb, rfl⟩
    have HB8 := hid (HB7.out.trans (hb.mono HB7.out.size))
    clear HB7
    have Lts8 := hid (Lts7.out.step hb)
    clear Lts7
    have Ltt8 := hid (Ltt7.out.step hb)
    clear Ltt7
    have Lout8 := hid (Lout7.out.step hb)
    clear Lout7
    have Lx8 := hid (Lx7.out.step hb)
    clear Lx7
    have Ly8 := hid (Ly7.out.step hb)
    clear Ly7
    clear hb
    go_wp2_with fail
    go_ret
    exact ⟨rfl, HB8.out⟩
  · skip
    go_wp2_with fail
    refine (nSameT (Lout3.out) (Lwant3.out) (by simp)).mono ?_
    rintro e w4 ⟨hb, rfl⟩
    have HB4 := hid (HB3.out.trans (hb.mono HB3.out.size))
    clear HB3
    have Lts4 := hid (Lts3.out.step hb)
    clear Lts3
    have Ltt4 := hid (Ltt3.out.step hb)
    clear Ltt3
    have Lout4 := hid (Lout3.out.step hb)
    clear Lout3
    have Lwant4 := hid (Lwant3.out.step hb)
    clear Lwant3
    clear hb
    go_wp2_with fail
    refine (nSameT (Lout4.out) (Lwant4.out) (by simp)).mono ?_
    rintro e w5 ⟨hb, rfl⟩
    have HB5 := hid (HB4.out.trans (hb.mono HB4.out.size))
    clear HB4
    have Lts5 := hid (Lts4.out.step hb)
    clear Lts4
    have Ltt5 := hid (Ltt4.out.step hb)
    clear Ltt4
    have Lout5 := hid (Lout4.out.step hb)
    clear Lout4
    have Lwant5 := hid (Lwant4.out.step hb)
    clear Lwant4
    clear hb
    go_wp2_with fail
    go_ret
    exact ⟨rfl, HB5.out⟩

set_option maxRecDepth 100000 in
theorem lifted (os : Os) (started : os.Started) (H : Type) (enc : TypeId × Value → H) :
    ReturnsInHanded {} Try.checked os 6 .any (Rows.fnBesideSpec.pre6 enc Try.prog Try.f6 Rows.fnBesideRow.domain false) (Rows.fnBesideSpec.post enc Try.prog Try.f6 false true false false) := by
  refine returnsInHanded_of_change (C := Try.checked) Try.own started (by kernel_rfl) Try.func6
    (ChangeSpec.witness6 (enc := enc) (C := Try.checked) false ⟨#[], #[.slice none 0 0], []⟩ 8 (by kernel_rfl) (by kernel_rfl) (by kernel_rfl) (by kernel_rfl)) ?_
  intro W base args ds gs before hval0 hW hcnd _
  have hval : ∀ (j : Nat) t v, Try.f6.params[j]? = some t → args[j]? = some v → Value.okWide Try.prog W .any base t v := hval0
  have hW' := hW
  obtain ⟨p, q, hA0, hV, rfl, hfz, hnd⟩ := hW
  have hA : DataW.TrodAll enc Try.prog W 0 (fun _ => true) true Try.f6.params.toList args.toList ds p := hA0
  rw [Try.params6] at hA hval
  obtain ⟨v0, vs0, d0, ds0, p0, q0, hargs, rfl, rfl, h0, r0⟩ := trodAll_cons hA
  obtain ⟨rfl, rfl, rfl⟩ := trodAll_nil r0
  obtain rfl : args = #[v0] := by cases args; simp_all
  obtain ⟨rfl, rfl⟩ := trodVars_none hV
  have k0 := h0
  have lt0 : ∀ x ∈ p0, x.block < W.heap.size := by obtain ⟨m, hm⟩ := k0; exact DataW.trod_lt m _ _ _ hm
  have c0 := cameB_of (hval 0 22 v0 rfl rfl) h0
  clear hA0 hval0
  refine (walk v0 W c0).mono fun e W' ⟨he, bel⟩ => ?_
  subst he
  exact ⟨_, rfl, _, _, _, [], _, [], hW', trodAll_mk1 (shut_bool Try.underlying4 _), (trodAll_cons_mk (Below.trod Try.laidOut (by kernel_rfl) (of_decide_eq_true (by kernel_rfl)) k0 bel lt0) trodAll_mk0), rfl, bel.frame _, fun h => by cases h⟩

theorem closed : joinedFacts Try.pinned.checked.prog 6 Try.f6 Rows.fnBesideSpec Rows.fnBesideRow = true := by
  unfold joinedFacts
  exact and8 (by as_aux_lemma => kernel_rfl) head_enter head_lifts head_make (by as_aux_lemma => kernel_rfl) (by as_aux_lemma => kernel_rfl) (by as_aux_lemma => kernel_rfl) (by as_aux_lemma => kernel_rfl)

theorem proved : Rows.FnBesideSaid :=
  OpenClaim.holds_of_wide 6 Try.f6 rfl rfl rfl rfl rfl rfl rfl ⟨rfl, rfl, rfl, rfl, rfl⟩ rfl rfl rfl rfl rfl (by kernel_rfl) Try.func6 closed
    (of_decide_eq_true (by kernel_rfl)) (by unfold Func.isWrapper; first | (rw [if_pos (by decide +kernel)]; kernel_rfl) | (rw [if_neg (by decide +kernel)]; exact ⟨rfl, rfl⟩))
    (fun os started H enc _ => lifted os started H enc)
#print axioms proved

end Go.Proofs.Ytkgjhchgflichaa.lawFnBeside
