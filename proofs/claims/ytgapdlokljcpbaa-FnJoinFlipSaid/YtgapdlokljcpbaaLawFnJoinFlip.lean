/- For every code, the drawn pairing flipped twice is itself; the program's and the specification's answers are the same: the law FnJoinFlip returns true, and its argument reads as it did. No condition. -/
import Derived.Test.YtgapdlokljcpbaaPKR
import Derived.Test.YtgapdlokljcpbaaPKP
import Derived.Test.YtgapdlokljcpbaaBunV
namespace Go.Proofs.Ytgapdlokljcpbaa.lawFnJoinFlip
open Go.ChangeShapes Go.WideShapes Go.ChangeAt Go.RowKit
open Go.ChangeMaps (open_string shut_string)

theorem nJoinFlip {n m c : Nat} {A : Option Addr} {l r : List Int} {w : World} (h : LI w A l) (hp : PairOf n m l) (hr : flipL l m = r) :
    Calls Try.prog 49 #[.int .i64 (n : Int), .int .i64 (m : Int), .slice A l.length c] w fun e w' => Below w.heap.size w w' ∧ ∃ A c, e = .returned (.tuple #[.slice A r.length c, .bool true]) ∧ LI w' A r :=
  (implJoinFlip_any n m A c l w h (by have := hp.2.2.1.2.1; omega)).mono fun _ _ h => (lend_own h).yes fun r' ok ho => by
    subst hr
    rcases ho with ⟨_, h1, h2⟩ | ⟨h1, _, _⟩
    · exact ⟨h1, h2⟩
    · exact absurd hp h1

theorem facts {n m : Nat} {l : List Int} (h : PairOf n m l) : ∃ r, flipL l m = r ∧ r.length ≤ 20 ∧ PairOf n m r ∧ flipL r m = l := by
  obtain ⟨hn, hm, hp, hl⟩ := h
  have h1 : 1 ≤ m := by omega
  have hml : m ≤ l.length := by omega
  have hN := flipN_names hml h1
  have hl2 := flipL_length l m
  refine ⟨_, rfl, by rw [hl2]; exact hp.2.1, ⟨hn, hm, flipL_pair hp hml h1, by rw [hl2]; exact hl⟩, ?_⟩
  unfold flipL
  rw [listS_length]
  conv => rhs; rw [← pair_list hp]
  refine (listS_all (listS_length _ _) fun q hq => ?_).trans rfl
  rw [listS_at hq]
  have hfq := hN.flt q hq
  have hsq := (hp.mates hfq).1
  show some (((flipN l.length m (mateN (listS l.length (renS (flipN l.length m) (flipN l.length m) (mateN l))) (flipN l.length m q)) : Nat) : Int)) = _
  rw [listS_mate hfq]
  show some (((flipN l.length m (flipN l.length m (mateN l (flipN l.length m (flipN l.length m q)))) : Nat) : Int)) = _
  have h3 : ∀ x, x < l.length → flipN l.length m (flipN l.length m x) = x := fun x hx => hN.fg x hx
  rw [h3 q hq, h3 _ (hp.mates hq).1]

set_option maxRecDepth 100000 in
set_option maxHeartbeats 2000000 in
theorem l92Pairing_any (A : Option Addr) (len cap : Nat) (w : World) (h : CodeAt w A len) (hl : len ≤ 1048576) (hc : len ≤ cap) (hc2 : cap ≤ 9223372036854775807) :
    Calls Try.prog 104 #[.slice A len cap] w fun e w' => Below w.heap.size w w' ∧ ∃ (n m : Nat) (A : Option Addr) (c : Nat) (l : List Int), e = .returned (.tuple #[.int .i64 (n : Int), .int .i64 (m : Int), .slice A l.length c]) ∧ LI w' A l ∧ l.length ≤ 20 ∧ n ≤ 10 ∧ m ≤ 10 := by
  have HOP := hid (dOpen A len cap w h hl hc hc2)
  clear h
  go_enter Try.func104, Try.ntmps104
  go_wp2_with fail
  refine HOP.out.mono ?_
  rintro e w1 ⟨rfl, hd⟩
  have HD1 := hid hd
  clear hd HOP
  have HC1 := hid (dPick 4 HD1.out (by omega) (by omega) (by omega))
  go_wp2_with fail
  refine HC1.out.mono ?_
  rintro e w2 ⟨hg, hd, v1, hv1, rfl⟩
  have HD2 := hid hd
  clear hg hd HC1 HD1
  obtain ⟨n, en⟩ : ∃ n, 1 + v1 = n := ⟨_, rfl⟩
  have zin : (1 : Int) + (v1 : Int) = (n : Int) := by omega
  have ln : 1 ≤ n := by omega
  have un : n ≤ 4 := by omega
  clear en
  have HC2 := hid (dPick 4 HD2.out (by omega) (by omega) (by omega))
  go_wp2_with fail
  refine HC2.out.mono ?_
  rintro e w3 ⟨hg, hd, v2, hv2, rfl⟩
  have HD3 := hid hd
  clear hg hd HC2 HD2
  obtain ⟨m, em⟩ : ∃ m, 1 + v2 = m := ⟨_, rfl⟩
  have zim : (1 : Int) + (v2 : Int) = (m : Int) := by omega
  have lm : 1 ≤ m := by omega
  have um : m ≤ 4 := by omega
  clear em
  have HC3 := hid (dPick 40 HD3.out (by omega) (by omega) (by omega))
  go_wp2_with fail
  refine HC3.out.mono ?_
  rintro e w4 ⟨hg, hd, v3, hv3, rfl⟩
  have HD4 := hid hd
  clear hg hd HC3 HD3
  obtain ⟨q, hq, hq39⟩ : ∃ q : Nat, q ≤ 1 ∧ (v3 : Int) / 39 = (q : Int) := ⟨v3 / 39, by omega, by omega⟩
  obtain ⟨m2, em2⟩ : ∃ m2, m + q = m2 := ⟨_, rfl⟩
  have zim2 : (m : Int) + (q : Int) = (m2 : Int) := by omega
  have um2 : m2 ≤ 5 := by omega
  clear em2
  obtain ⟨N, hN⟩ : ∃ N, 2 * (n + m) = N := ⟨_, rfl⟩
  have hNi : 2 * ((n : Int) + (m : Int)) = (N : Int) := by omega
  have hN4 : 4 ≤ N := by omega
  have hN20 : N ≤ 20 := by omega
  clear hN
  have HC4 := hid (dPairs N HD4.out (by omega) (by omega) hN20)
  go_wp2_with fail
  refine HC4.out.mono ?_
  rintro e w5 ⟨hg, hd, A1, c1, l, hl, hx, rfl⟩
  have Xl5 := hid hx
  clear hx
  have HD5 := hid hd
  clear hg hd HC4 HD4
  have HL := hid hl
  clear hl
  go_wp2_with fail
  refine bodyPost_ret (results_tmp3 rfl _ _ _) rfl ?_
  exact ⟨HD5.out.below, n, m2, A1, c1, l, by rw [HL.out]; rfl, Xl5.out.1, by rw [HL.out]; exact hN20, by omega, by omega⟩

set_option maxRecDepth 100000 in
set_option maxHeartbeats 2000000 in
theorem draw_any (A : Option Addr) (len cap : Nat) (w : World) (h : CodeAt w A len) (hl : len ≤ 1048576) (hc : len ≤ cap) (hc2 : cap ≤ 9223372036854775807) :
    Calls Try.prog 48 #[.slice A len cap] w fun e w' => Below w.heap.size w w' ∧ ∃ (n m : Nat) (A : Option Addr) (c : Nat) (l : List Int), e = .returned (.tuple #[.int .i64 (n : Int), .int .i64 (m : Int), .slice A l.length c]) ∧ LI w' A l ∧ l.length ≤ 20 ∧ n ≤ 10 ∧ m ≤ 10 := by
  have HP := hid (l92Pairing_any A len cap w h hl hc hc2)
  clear h
  go_enter Try.func48, Try.ntmps48
  go_wp2_with fail
  refine HP.out.mono ?_
  rintro e w1 ⟨hb, n, m, A1, c1, l, rfl, hli, h20, hn, hm⟩
  have HB := hid hb
  have HL := hid hli
  clear hb hli
  go_wp2_with fail
  refine bodyPost_ret (results_tmp3 rfl _ _ _) rfl ?_
  exact ⟨HB.out, n, m, A1, c1, l, rfl, HL.out, h20, hn, hm⟩

set_option maxRecDepth 100000 in
set_option maxHeartbeats 4000000 in
theorem walk (v : Value) (w : World) (hc : CameB w v) :
    Calls Try.prog 12 #[v] w fun e w' => e = .returned (.bool true) ∧ Below w.heap.size w w' := by
  obtain ⟨A, len, cap, rfl, hcode, hlc, hcap⟩ := hc
  have HCD := hid hcode
  clear hcode
  go_enter Try.func12, Try.ntmps12
  by_cases hbig : 1048576 < len
  · have hbi : (1048576 : Int) < (len : Int) := by omega
    go_wp2_with fail
    go_ret
    exact ⟨rfl, Below.refl _ _⟩
  have hbi : ¬ (1048576 : Int) < (len : Int) := by omega
  have HDR := hid (draw_any A len cap w HCD.out (by omega) hlc hcap)
  have HC1 := hid (HDR.out)
  go_wp2_with fail
  refine HC1.out.mono ?_
  rintro e w1 ⟨hb, n, m, A1, c1, l, rfl, hl, hl20, hn10, hm10⟩
  have HB1 := hid hb
  have Ll1 := hid hl
  clear hl
  clear hb HC1
  have HC2 := hid ((implJoinFlip_any n m A1 c1 l w1 Ll1.out (by omega)).mono fun _ _ h => lend_own h)
  go_wp2_with fail
  refine HC2.out.mono ?_
  rintro e w2 ⟨hb, A2, c2, out, ok, rfl, hout, hl⟩
  have HB2 := hid (HB1.out.trans (hb.mono HB1.out.size))
  clear HB1
  have Ll2 := hid (Ll1.out.step hb)
  clear Ll1
  have Lout2 := hid hl
  clear hl
  clear hb HC2
  have HO := hid hout
  clear hout
  have HC3 := hid ((specJoinFlip_any n m A1 c1 w2.heap.size l w2 Ll2.out (Nat.le_refl _) (by omega)).mono fun _ _ h => lend_spec h)
  go_wp2_with fail
  refine HC3.out.mono ?_
  rintro e w3 ⟨hb, A3, c3, out2, ok2, rfl, hout2, hl⟩
  have HB3 := hid (HB2.out.trans (hb.mono HB2.out.size))
  clear HB2
  have Ll3 := hid (Ll2.out.step hb)
  clear Ll2
  have Lout3 := hid (Lout2.out.step hb)
  clear Lout2
  have Lwant3 := hid hl
  clear hl
  clear hb HC3
  obtain ⟨rfl, rfl⟩ := HO.out.uniq hout2
  clear hout2
  rcases HO.out with ⟨hp, rfl, rfl⟩ | ⟨_, rfl, rfl⟩
  · obtain ⟨r, e1, hr20, p1, e2⟩ := facts hp
    have e1' : flipL l (m : Int).toNat = r := e1
    rw [e1'] at Lout3 Lwant3 ⊢
    clear e1 e1'
    have HP := hid hp
    have P1 := hid p1
    have E2 := hid e2
    clear hp p1 e2
    go_wp2_with fail
    refine (nSameI (Lout3.out) (Lwant3.out) (by omega)).mono ?_
    rintro e w4 ⟨hb, rfl⟩
    have HB4 := hid (HB3.out.trans (hb.mono HB3.out.size))
    clear HB3
    have Ll4 := hid (Ll3.out.step hb)
    clear Ll3
    have Lout4 := hid (Lout3.out.step hb)
    clear Lout3
    have Lwant4 := hid (Lwant3.out.step hb)
    clear Lwant3
    clear hb
    clear Lwant4
    go_wp2_with fail
    refine (nJoinFlip (Lout4.out) P1.out E2.out).mono ?_
    rintro e w5 ⟨hb, A5, c5, rfl, hl⟩
    have HB5 := hid (HB4.out.trans (hb.mono HB4.out.size))
    clear HB4
    have Ll5 := hid (Ll4.out.step hb)
    clear Ll4
    have Lout5 := hid (Lout4.out.step hb)
    clear Lout4
    have Lx5 := hid hl
    clear hl
    clear hb
    go_wp2_with fail
    refine (nSameI (Lx5.out) (Ll5.out) (by omega)).mono ?_
    rintro e w6 ⟨hb, rfl⟩
    have HB6 := hid (HB5.out.trans (hb.mono HB5.out.size))
    clear HB5
    have Ll6 := hid (Ll5.out.step hb)
    clear Ll5
    have Lout6 := hid (Lout5.out.step hb)
    clear Lout5
    have Lx6 := hid (Lx5.out.step hb)
    clear Lx5
    clear hb
    go_wp2_with fail
    go_ret
    exact ⟨rfl, HB6.out⟩
  · skip
    go_wp2_with fail
    refine (nSameI (Lout3.out) (Lwant3.out) (by simp)).mono ?_
    rintro e w4 ⟨hb, rfl⟩
    have HB4 := hid (HB3.out.trans (hb.mono HB3.out.size))
    clear HB3
    have Ll4 := hid (Ll3.out.step hb)
    clear Ll3
    have Lout4 := hid (Lout3.out.step hb)
    clear Lout3
    have Lwant4 := hid (Lwant3.out.step hb)
    clear Lwant3
    clear hb
    go_wp2_with fail
    refine (nSameI (Lout4.out) (Lwant4.out) (by simp)).mono ?_
    rintro e w5 ⟨hb, rfl⟩
    have HB5 := hid (HB4.out.trans (hb.mono HB4.out.size))
    clear HB4
    have Ll5 := hid (Ll4.out.step hb)
    clear Ll4
    have Lout5 := hid (Lout4.out.step hb)
    clear Lout4
    have Lwant5 := hid (Lwant4.out.step hb)
    clear Lwant4
    clear hb
    go_wp2_with fail
    go_ret
    exact ⟨rfl, HB5.out⟩

set_option maxRecDepth 100000 in
theorem lifted (os : Os) (started : os.Started) (H : Type) (enc : TypeId × Value → H) :
    ReturnsInHanded {} Try.checked os 12 .any (Rows.fnJoinFlipSpec.pre6 enc Try.prog Try.f12 Rows.fnJoinFlipRow.domain false) (Rows.fnJoinFlipSpec.post enc Try.prog Try.f12 false true false false) := by
  refine returnsInHanded_of_change (C := Try.checked) Try.own started (by kernel_rfl) Try.func12
    (ChangeSpec.witness6 (enc := enc) (C := Try.checked) false ⟨#[], #[.slice none 0 0], []⟩ 8 (by kernel_rfl) (by kernel_rfl) (by kernel_rfl) (by kernel_rfl)) ?_
  intro W base args ds gs before hval0 hW hcnd _
  have hval : ∀ (j : Nat) t v, Try.f12.params[j]? = some t → args[j]? = some v → Value.okWide Try.prog W .any base t v := hval0
  have hW' := hW
  obtain ⟨p, q, hA0, hV, rfl, hfz, hnd⟩ := hW
  have hA : DataW.TrodAll enc Try.prog W 0 (fun _ => true) true Try.f12.params.toList args.toList ds p := hA0
  rw [Try.params12] at hA hval
  obtain ⟨v0, vs0, d0, ds0, p0, q0, hargs, rfl, rfl, h0, r0⟩ := trodAll_cons hA
  obtain ⟨rfl, rfl, rfl⟩ := trodAll_nil r0
  obtain rfl : args = #[v0] := by cases args; simp_all
  obtain ⟨rfl, rfl⟩ := trodVars_none hV
  have k0 := h0
  have lt0 : ∀ x ∈ p0, x.block < W.heap.size := by obtain ⟨m, hm⟩ := k0; exact DataW.trod_lt m _ _ _ hm
  have c0 := cameB_of (hval 0 22 v0 rfl rfl) h0
  clear hA0 hval0
  refine (walk v0 W c0).mono fun e W' ⟨he, bel⟩ => ?_
  subst he
  exact ⟨_, rfl, _, _, _, [], _, [], hW', trodAll_mk1 (shut_bool Try.underlying4 _), (trodAll_cons_mk (Below.trod Try.laidOut (by kernel_rfl) (of_decide_eq_true (by kernel_rfl)) k0 bel lt0) trodAll_mk0), rfl, bel.frame _, fun h => by cases h⟩

theorem closed : joinedFacts Try.pinned.checked.prog 12 Try.f12 Rows.fnJoinFlipSpec Rows.fnJoinFlipRow = true := by
  unfold joinedFacts
  exact and8 (by as_aux_lemma => kernel_rfl) head_enter head_lifts head_make (by as_aux_lemma => kernel_rfl) (by as_aux_lemma => kernel_rfl) (by as_aux_lemma => kernel_rfl) (by as_aux_lemma => kernel_rfl)

theorem proved : Rows.FnJoinFlipSaid :=
  OpenClaim.holds_of_wide 12 Try.f12 rfl rfl rfl rfl rfl rfl rfl ⟨rfl, rfl, rfl, rfl, rfl⟩ rfl rfl rfl rfl rfl (by kernel_rfl) Try.func12 closed
    (of_decide_eq_true (by kernel_rfl)) (by unfold Func.isWrapper; first | (rw [if_pos (by decide +kernel)]; kernel_rfl) | (rw [if_neg (by decide +kernel)]; exact ⟨rfl, rfl⟩))
    (fun os started H enc _ => lifted os started H enc)
#print axioms proved

end Go.Proofs.Ytgapdlokljcpbaa.lawFnJoinFlip
