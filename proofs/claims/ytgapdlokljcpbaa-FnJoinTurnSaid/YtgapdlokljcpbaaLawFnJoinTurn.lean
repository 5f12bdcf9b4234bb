/- For every code, the drawn pairing turned is the pairing with its numbers moved on by its columns, and turned four times it is itself; the program's and the specification's answers are the same: the law FnJoinTurn returns true, and its argument reads as it did. No condition. -/
import Derived.Test.YtgapdlokljcpbaaPKR
import Derived.Test.YtgapdlokljcpbaaPKP
import Derived.Test.YtgapdlokljcpbaaBunV
import Derived.Test.YtgapdlokljcpbaaPairQ
namespace Go.Proofs.Ytgapdlokljcpbaa.lawFnJoinTurn
open Go.ChangeShapes Go.WideShapes Go.ChangeAt Go.RowKit
open Go.ChangeMaps (open_string shut_string)

theorem nJoinTurn {n m c : Nat} {A : Option Addr} {l r : List Int} {w : World} (h : LI w A l) (hp : PairOf n m l) (hr : turnL l n = r) :
    Calls Try.prog 52 #[.int .i64 (n : Int), .int .i64 (m : Int), .slice A l.length c] w fun e w' => Below w.heap.size w w' ∧ ∃ A c, e = .returned (.tuple #[.slice A r.length c, .bool true]) ∧ LI w' A r :=
  (implJoinTurn_any n m A c l w h (by have := hp.2.2.1.2.1; omega)).mono fun _ _ h => (lend_own h).yes fun r' ok ho => by
    subst hr
    rcases ho with ⟨_, h1, h2⟩ | ⟨h1, _, _⟩
    · exact ⟨h1, h2⟩
    · exact absurd hp h1

theorem factsT {n m : Nat} {l : List Int} (h : PairOf n m l) : ∃ (r x y : List Int), turnL l n = r ∧ turnL r m = x ∧ turnL x n = y ∧ turnL y m = l ∧ PairOf m n r ∧ PairOf n m x ∧ PairOf m n y ∧ IsPair l ∧ r.length ≤ 20 := by
  obtain ⟨hn, hm, hp, hl⟩ := h
  have p1 := turnL_pair n hp
  have p2 := turnL_pair m p1
  have p3 := turnL_pair n p2
  have k1 := turnL_length l n
  have k2 := turnL_length (turnL l n) m
  have k3 := turnL_length (turnL (turnL l n) m) n
  refine ⟨_, _, _, rfl, rfl, rfl, ?_, ⟨hm, hn, p1, by omega⟩, ⟨hn, hm, p2, by omega⟩, ⟨hm, hn, p3, by omega⟩, hp, p1.2.1⟩
  rw [turnL_add p2, turnL_add p1, turnL_add hp]
  rw [show n + (m + (n + m)) = 1 * l.length by omega]
  exact turnL_round hp

set_option maxRecDepth 100000 in
set_option maxHeartbeats 2000000 in
theorem l92Pairing_any (A : Option Addr) (len cap : Nat) (w : World) (h : CodeAt w A len) (hl : len ≤ 1048576) (hc : len ≤ cap) (hc2 : cap ≤ 9223372036854775807) :
    Calls Try.prog 104 #[.slice A len cap] w fun e w' => Below w.heap.size w w' ∧ ∃ (n m : Nat) (A : Option Addr) (c : Nat) (l : List Int), e = .returned (.tuple #[.int .i64 (n : Int), .int .i64 (m : Int), .slice A l.length c]) ∧ LI w' A l ∧ l.length ≤ 20 ∧ n ≤ 10 ∧ m ≤ 10 := by
  have HOP := hid (dOpen A len cap w h hl hc hc2)
  clear h
  go_enter Try.func104, Try.ntmps104
  go_wp2_with fail
  refine HOP.out.mono ?_
  rintro e w1 ⟨rfl, hd⟩
  have HD1 := hid hd
  clear hd HOP
  have HC1 := hid (dPick 4 HD1.out (by omega) (by omega) (by omega))
  go_wp2_with fail
  refine HC1.out.mono ?_
  rintro e w2 ⟨hg, hd, v1, hv1, rfl⟩
  have HD2 := hid hd
  clear hg hd HC1 HD1
  obtain ⟨n, en⟩ : ∃ n, 1 + v1 = n := ⟨_, rfl⟩
  have zin : (1 : Int) + (v1 : Int) = (n : Int) := by omega
  have ln : 1 ≤ n := by omega
  have un : n ≤ 4 := by omega
  clear en
  have HC2 := hid (dPick 4 HD2.out (by omega) (by omega) (by omega))
  go_wp2_with fail
  refine HC2.out.mono ?_
  rintro e w3 ⟨hg, hd, v2, hv2, rfl⟩
  have HD3 := hid hd
  clear hg hd HC2 HD2
  obtain ⟨m, em⟩ : ∃ m, 1 + v2 = m := ⟨_, rfl⟩
  have zim : (1 : Int) + (v2 : Int) = (m : Int) := by omega
  have lm : 1 ≤ m := by omega
  have um : m ≤ 4 := by omega
  clear em
  have HC3 := hid (dPick 40 HD3.out (by omega) (by omega) (by omega))
  go_wp2_with fail
  refine HC3.out.mono ?_
  rintro e w4 ⟨hg, hd, v3, hv3, rfl⟩
  have HD4 := hid hd
  clear hg hd HC3 HD3
  obtain ⟨q, hq, hq39⟩ : ∃ q : Nat, q ≤ 1 ∧ (v3 : Int) / 39 = (q : Int) := ⟨v3 / 39, by omega, by omega⟩
  obtain ⟨m2, em2⟩ : ∃ m2, m + q = m2 := ⟨_, rfl⟩
  have zim2 : (m : Int) + (q : Int) = (m2 : Int) := by omega
  have um2 : m2 ≤ 5 := by omega
  clear em2
  obtain ⟨N, hN⟩ : ∃ N, 2 * (n + m) = N := ⟨_, rfl⟩
  have hNi : 2 * ((n : Int) + (m : Int)) = (N : Int) := by omega
  have hN4 : 4 ≤ N := by omega
  have hN20 : N ≤ 20 := by omega
  clear hN
  have HC4 := hid (dPairs N HD4.out (by omega) (by omega) hN20)
  go_wp2_with fail
  refine HC4.out.mono ?_
  rintro e w5 ⟨hg, hd, A1, c1, l, hl, hx, rfl⟩
  have Xl5 := hid hx
  clear hx
  have HD5 := hid hd
  clear hg hd HC4 HD4
  have HL := hid hl
  clear hl
  go_wp2_with fail
  refine bodyPost_ret (results_tmp3 rfl _ _ _) rfl ?_
  exact ⟨HD5.out.below, n, m2, A1, c1, l, by rw [HL.out]; rfl, Xl5.out.1, by rw [HL.out]; exact hN20, by omega, by omega⟩

set_option maxRecDepth 100000 in
set_option maxHeartbeats 2000000 in
theorem draw_any (A : Option Addr) (len cap : Nat) (w : World) (h : CodeAt w A len) (hl : len ≤ 1048576) (hc : len ≤ cap) (hc2 : cap ≤ 9223372036854775807) :
    Calls Try.prog 51 #[.slice A len cap] w fun e w' => Below w.heap.size w w' ∧ ∃ (n m : Nat) (A : Option Addr) (c : Nat) (l : List Int), e = .returned (.tuple #[.int .i64 (n : Int), .int .i64 (m : Int), .slice A l.length c]) ∧ LI w' A l ∧ l.length ≤ 20 ∧ n ≤ 10 ∧ m ≤ 10 := by
  have HP := hid (l92Pairing_any A len cap w h hl hc hc2)
  clear h
  go_enter Try.func51, Try.ntmps51
  go_wp2_with fail
  refine HP.out.mono ?_
  rintro e w1 ⟨hb, n, m, A1, c1, l, rfl, hli, h20, hn, hm⟩
  have HB := hid hb
  have HL := hid hli
  clear hb hli
  go_wp2_with fail
  refine bodyPost_ret (results_tmp3 rfl _ _ _) rfl ?_
  exact ⟨HB.out, n, m, A1, c1, l, rfl, HL.out, h20, hn, hm⟩

set_option maxRecDepth 100000 in
set_option maxHeartbeats 4000000 in
theorem walk (v : Value) (w : World) (hc : CameB w v) :
    Calls Try.prog 13 #[v] w fun e w' => e = .returned (.bool true) ∧ Below w.heap.size w w' := by
  obtain ⟨A, len, cap, rfl, hcode, hlc, hcap⟩ := hc
  have HCD := hid hcode
  clear hcode
  go_enter Try.func13, Try.ntmps13
  by_cases hbig : 1048576 < len
  · have hbi : (1048576 : Int) < (len : Int) := by omega
    go_wp2_with fail
    go_ret
    exact ⟨rfl, Below.refl _ _⟩
  have hbi : ¬ (1048576 : Int) < (len : Int) := by omega
  have HDR := hid (draw_any A len cap w HCD.out (by omega) hlc hcap)
  have HC1 := hid (HDR.out)
  go_wp2_with fail
  refine HC1.out.mono ?_
  rintro e w1 ⟨hb, n, m, A1, c1, l, rfl, hl, hl20, hn10, hm10⟩
  have HB1 := hid hb
  have Ll1 := hid hl
  clear hl
  clear hb HC1
  have HC2 := hid ((implJoinTurn_any n m A1 c1 l w1 Ll1.out (by omega)).mono fun _ _ h => lend_own h)
  go_wp2_with fail
  refine HC2.out.mono ?_
  rintro e w2 ⟨hb, A2, c2, out, ok, rfl, hout, hl⟩
  have HB2 := hid (HB1.out.trans (hb.mono HB1.out.size))
  clear HB1
  have Ll2 := hid (Ll1.out.step hb)
  clear Ll1
  have Lout2 := hid hl
  clear hl
  clear hb HC2
  have HO := hid hout
  clear hout
  have HC3 := hid ((specJoinTurn_any n m A1 c1 w2.heap.size l w2 Ll2.out (Nat.le_refl _) (by omega)).mono fun _ _ h => lend_spec h)
  go_wp2_with fail
  refine HC3.out.mono ?_
  rintro e w3 ⟨hb, A3, c3, out2, ok2, rfl, hout2, hl⟩
  have HB3 := hid (HB2.out.trans (hb.mono HB2.out.size))
  clear HB2
  have Ll3 := hid (Ll2.out.step hb)
  clear Ll2
  have Lout3 := hid (Lout2.out.step hb)
  clear Lout2
  have Lwant3 := hid hl
  clear hl
  clear hb HC3
  obtain ⟨rfl, rfl⟩ := HO.out.uniq hout2
  clear hout2
  rcases HO.out with ⟨hp, rfl, rfl⟩ | ⟨_, rfl, rfl⟩
  · obtain ⟨r, x, y, e1, e2, e3, e4, p2, p3, p4, p1, hr20⟩ := factsT hp
    have e1' : turnL l (n : Int).toNat = r := e1
    rw [e1'] at Lout3 Lwant3 ⊢
    clear e1'
    have HP := hid hp
    have P1 := hid p1
    have P2 := hid p2
    have P3 := hid p3
    have P4 := hid p4
    have E1 := hid e1
    have E2 := hid e2
    have E3 := hid e3
    have E4 := hid e4
    clear hp p1 p2 p3 p4 e1 e2 e3 e4
    go_wp2_with fail
    refine (nSameI (Lout3.out) (Lwant3.out) (by omega)).mono ?_
    rintro e w4 ⟨hb, rfl⟩
    have HB4 := hid (HB3.out.trans (hb.mono HB3.out.size))
    clear HB3
    have Ll4 := hid (Ll3.out.step hb)
    clear Ll3
    have Lout4 := hid (Lout3.out.step hb)
    clear Lout3
    have Lwant4 := hid (Lwant3.out.step hb)
    clear Lwant3
    clear hb
    clear Lwant4
    go_wp2_with fail
    refine (nCrossTurn (k := n) (kk := (n : Int)) (Ll4.out) P1.out (by omega) rfl E1.out).mono ?_
    rintro e w5 ⟨hb, A4, c4, rfl, hl⟩
    have HB5 := hid (HB4.out.trans (hb.mono HB4.out.size))
    clear HB4
    have Ll5 := hid (Ll4.out.step hb)
    clear Ll4
    have Lout5 := hid (Lout4.out.step hb)
    clear Lout4
    have Lc5 := hid hl
    clear hl
    clear hb
    go_wp2_with fail
    refine (nJoinTurn (Lout5.out) P2.out E2.out).mono ?_
    rintro e w6 ⟨hb, A5, c5, rfl, hl⟩
    have HB6 := hid (HB5.out.trans (hb.mono HB5.out.size))
    clear HB5
    have Ll6 := hid (Ll5.out.step hb)
    clear Ll5
    have Lout6 := hid (Lout5.out.step hb)
    clear Lout5
    have Lc6 := hid (Lc5.out.step hb)
    clear Lc5
    have Lx6 := hid hl
    clear hl
    clear hb
    go_wp2_with fail
    refine (nJoinTurn (Lx6.out) P3.out E3.out).mono ?_
    rintro e w7 ⟨hb, A6, c6, rfl, hl⟩
    have HB7 := hid (HB6.out.trans (hb.mono HB6.out.size))
    clear HB6
    have Ll7 := hid (Ll6.out.step hb)
    clear Ll6
    have Lout7 := hid (Lout6.out.step hb)
    clear Lout6
    have Lc7 := hid (Lc6.out.step hb)
    clear Lc6
    have Lx7 := hid (Lx6.out.step hb)
    clear Lx6
    have Ly7 := hid hl
    clear hl
    clear hb
    go_wp2_with fail
    refine (nJoinTurn (Ly7.out) P4.out E4.out).mono ?_
    rintro e w8 ⟨hb, A7, c7, rfl, hl⟩
    have HB8 := hid (HB7.out.trans (hb.mono HB7.out.size))
    clear HB7
    have Ll8 := hid (Ll7.out.step hb)
    clear Ll7
    have Lout8 := hid (Lout7.out.step hb)
    clear Lout7
    have Lc8 := hid (Lc7.out.step hb)
    clear Lc7
    have Lx8 := hid (Lx7.out.step hb)
    clear Lx7
    have Ly8 := hid (Ly7.out.step hb)
    clear Ly7
    have Lz8 := hid hl
    clear hl
    clear hb
    go_wp2_with fail
    refine (nSameI (Lc8.out) (Lout8.out) (by omega)).mono ?_
    rintro e w9 ⟨hb, rfl⟩
    have HB9 := hid (HB8.out.trans (hb.mono HB8.out.size))
    clear HB8
    have Ll9 := hid (Ll8.out.step hb)
    clear Ll8
    have Lout9 := hid (Lout8.out.step hb)
    clear Lout8
    have Lc9 := hid (Lc8.out.step hb)
    clear Lc8
    have Lx9 := hid (Lx8.out.step hb)
    clear Lx8
    have Ly9 := hid (Ly8.out.step hb)
    clear Ly8
    have Lz9 := hid (Lz8.out.step hb)
    clear Lz8
    clear hb
    go_wp2_with fail
    refine (nSameI (Lz9.out) (Ll9.out) (by omega)).mono ?_
    rintro e w10 ⟨hb, rfl⟩
    have HB10 := hid (HB9.out.trans (hb.mono HB9.out.size))
    clear HB9
    have Ll10 := hid (Ll9.out.step hb)
    clear Ll9
    have Lout10 := hid (Lout9.out.step hb)
    clear Lout9
    have Lc10 := hid (Lc9.out.step hb)
    clear Lc9
    have Lx10 := hid (Lx9.out.step hb)
    clear Lx9
    have Ly10 := hid (Ly9.out.step hb)
    clear Ly9
    have Lz10 := hid (Lz9.out.step hb)
    clear Lz9
    clear hb
    go_wp2_with fail
    go_ret
    exact ⟨rfl, HB10.out⟩
  · skip
    go_wp2_with fail
    refine (nSameI (Lout3.out) (Lwant3.out) (by simp)).mono ?_
    rintro e w4 ⟨hb, rfl⟩
    have HB4 := hid (HB3.out.trans (hb.mono HB3.out.size))
    clear HB3
    have Ll4 := hid (Ll3.out.step hb)
    clear Ll3
    have Lout4 := hid (Lout3.out.step hb)
    clear Lout3
    have Lwant4 := hid (Lwant3.out.step hb)
    clear Lwant3
    clear hb
    go_wp2_with fail
    refine (nSameI (Lout4.out) (Lwant4.out) (by simp)).mono ?_
    rintro e w5 ⟨hb, rfl⟩
    have HB5 := hid (HB4.out.trans (hb.mono HB4.out.size))
    clear HB4
    have Ll5 := hid (Ll4.out.step hb)
    clear Ll4
    have Lout5 := hid (Lout4.out.step hb)
    clear Lout4
    have Lwant5 := hid (Lwant4.out.step hb)
    clear Lwant4
    clear hb
    go_wp2_with fail
    go_ret
    exact ⟨rfl, HB5.out⟩

set_option maxRecDepth 100000 in
theorem lifted (os : Os) (started : os.Started) (H : Type) (enc : TypeId × Value → H) :
    ReturnsInHanded {} Try.checked os 13 .any (Rows.fnJoinTurnSpec.pre6 enc Try.prog Try.f13 Rows.fnJoinTurnRow.domain false) (Rows.fnJoinTurnSpec.post enc Try.prog Try.f13 false true false false) := by
  refine returnsInHanded_of_change (C := Try.checked) Try.own started (by kernel_rfl) Try.func13
    (ChangeSpec.witness6 (enc := enc) (C := Try.checked) false ⟨#[], #[.slice none 0 0], []⟩ 8 (by kernel_rfl) (by kernel_rfl) (by kernel_rfl) (by kernel_rfl)) ?_
  intro W base args ds gs before hval0 hW hcnd _
  have hval : ∀ (j : Nat) t v, Try.f13.params[j]? = some t → args[j]? = some v → Value.okWide Try.prog W .any base t v := hval0
  have hW' := hW
  obtain ⟨p, q, hA0, hV, rfl, hfz, hnd⟩ := hW
  have hA : DataW.TrodAll enc Try.prog W 0 (fun _ => true) true Try.f13.params.toList args.toList ds p := hA0
  rw [Try.params13] at hA hval
  obtain ⟨v0, vs0, d0, ds0, p0, q0, hargs, rfl, rfl, h0, r0⟩ := trodAll_cons hA
  obtain ⟨rfl, rfl, rfl⟩ := trodAll_nil r0
  obtain rfl : args = #[v0] := by cases args; simp_all
  obtain ⟨rfl, rfl⟩ := trodVars_none hV
  have k0 := h0
  have lt0 : ∀ x ∈ p0, x.block < W.heap.size := by obtain ⟨m, hm⟩ := k0; exact DataW.trod_lt m _ _ _ hm
  have c0 := cameB_of (hval 0 22 v0 rfl rfl) h0
  clear hA0 hval0
  refine (walk v0 W c0).mono fun e W' ⟨he, bel⟩ => ?_
  subst he
  exact ⟨_, rfl, _, _, _, [], _, [], hW', trodAll_mk1 (shut_bool Try.underlying4 _), (trodAll_cons_mk (Below.trod Try.laidOut (by kernel_rfl) (of_decide_eq_true (by kernel_rfl)) k0 bel lt0) trodAll_mk0), rfl, bel.frame _, fun h => by cases h⟩

theorem closed : joinedFacts Try.pinned.checked.prog 13 Try.f13 Rows.fnJoinTurnSpec Rows.fnJoinTurnRow = true := by
  unfold joinedFacts
  exact and8 (by as_aux_lemma => kernel_rfl) head_enter head_lifts head_make (by as_aux_lemma => kernel_rfl) (by as_aux_lemma => kernel_rfl) (by as_aux_lemma => kernel_rfl) (by as_aux_lemma => kernel_rfl)

theorem proved : Rows.FnJoinTurnSaid :=
  OpenClaim.holds_of_wide 13 Try.f13 rfl rfl rfl rfl rfl rfl rfl ⟨rfl, rfl, rfl, rfl, rfl⟩ rfl rfl rfl rfl rfl (by kernel_rfl) Try.func13 closed
    (of_decide_eq_true (by kernel_rfl)) (by unfold Func.isWrapper; first | (rw [if_pos (by decide +kernel)]; kernel_rfl) | (rw [if_neg (by decide +kernel)]; exact ⟨rfl, rfl⟩))
    (fun os started H enc _ => lifted os started H enc)
#print axioms proved

end Go.Proofs.Ytgapdlokljcpbaa.lawFnJoinTurn
