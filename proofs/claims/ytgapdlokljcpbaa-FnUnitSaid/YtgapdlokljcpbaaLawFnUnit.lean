/- For every code, the empty grid of the drawn size has the pairing told, which has as many crossings as cells; the program's and the specification's answers are the same: the law FnUnit returns true, and its argument reads as it did. No condition. -/
import Derived.Test.YtgapdlokljcpbaaPKR
import Derived.Test.YtgapdlokljcpbaaPKG
import Derived.Test.YtgapdlokljcpbaaPKD
import Derived.Test.YtgapdlokljcpbaaGridP
import Derived.Test.YtgapdlokljcpbaaBunV
import Derived.Test.YtgapdlokljcpbaaBunS
namespace Go.Proofs.Ytgapdlokljcpbaa.lawFnUnit
open Go.ChangeShapes Go.WideShapes Go.ChangeAt Go.RowKit
open Go.ChangeMaps (open_string shut_string)

set_option maxRecDepth 100000 in
theorem unit_all : ∀ n, n < 6 → ∀ m, m < 6 → 1 ≤ n → 1 ≤ m → pairsR n m (lett m (pad (ofL 0 (n * m)))) = unitL n m := by decide +kernel
set_option maxRecDepth 100000 in
theorem unit_chords : ∀ n, n < 6 → ∀ m, m < 6 → 1 ≤ n → 1 ≤ m → chordsC (intAt (unitL n m)) (2 * (n + m)) (2 * (n + m)) = n * m := by decide +kernel
theorem facts {n m : Nat} (h : (1 ≤ (n : Int) ∧ (n : Int) ≤ 5) ∧ 1 ≤ (m : Int) ∧ (m : Int) ≤ 5) : ∃ (u : List Int) (fl : List ByteArray) (k : Nat), unitL n m = u ∧ OfIn (n : Int) (m : Int) 0 n m 0 ∧ ruleG n m (ofF m 0) = fl ∧ IsGrid n m fl ∧ pairsR n m (lett m (pad (flat fl))) = u ∧ IsPair u ∧ chordsC (intAt u) u.length u.length = k ∧ u.length ≤ 20 ∧ (n : Int) * (m : Int) = (k : Int) ∧ k ≤ 25 := by
  have h1 : 1 ≤ n := by omega
  have h2 : n ≤ 5 := by omega
  have h3 : 1 ≤ m := by omega
  have h4 : m ≤ 5 := by omega
  have hp := unitL_pair (n := n) (m := m) h1 h3 h2 h4
  refine ⟨_, _, n * m, rfl, ⟨rfl, rfl, rfl, h1, h2, h3, h4, Nat.pow_pos (by omega)⟩, rfl, of_grid2 h1 h2 h3 h4, ?_, hp, ?_, hp.2.1, by rw [Int.natCast_mul], Nat.mul_le_mul h2 h4⟩
  · rw [of_flat (by omega)]; exact unit_all n (by omega) m (by omega) h1 h3
  · rw [unitL_length]; exact unit_chords n (by omega) m (by omega) h1 h3

set_option maxRecDepth 100000 in
set_option maxHeartbeats 2000000 in
theorem l91Size_any (A : Option Addr) (len cap : Nat) (w : World) (h : CodeAt w A len) (hl : len ≤ 1048576) (hc : len ≤ cap) (hc2 : cap ≤ 9223372036854775807) :
    Calls Try.prog 109 #[.slice A len cap, .int .i64 5] w fun e w' => Below w.heap.size w w' ∧ ∃ (n m : Nat), e = .returned (.tuple #[.int .i64 (n : Int), .int .i64 (m : Int)]) ∧ n ≤ 10 ∧ m ≤ 5 := by
  have HOP := hid (dOpen A len cap w h hl hc hc2)
  clear h
  go_enter Try.func109, Try.ntmps109
  go_wp2_with fail
  refine HOP.out.mono ?_
  rintro e w1 ⟨rfl, hd⟩
  have HD1 := hid hd
  clear hd HOP
  have HC1 := hid (dPick 5 HD1.out (by omega) (by omega) (by omega))
  go_wp2_with fail
  refine HC1.out.mono ?_
  rintro e w2 ⟨hg, hd, v1, hv1, rfl⟩
  have HD2 := hid hd
  clear hg hd HC1 HD1
  have HC2 := hid (dPick 24 HD2.out (by omega) (by omega) (by omega))
  go_wp2_with fail
  refine HC2.out.mono ?_
  rintro e w3 ⟨hg, hd, v2, hv2, rfl⟩
  have HD3 := hid hd
  clear hg hd HC2 HD2
  obtain ⟨q, hq, hq23⟩ := q23 v2 (by omega)
  have HC3 := hid (dPick 24 HD3.out (by omega) (by omega) (by omega))
  go_wp2_with fail
  refine HC3.out.mono ?_
  rintro e w4 ⟨hg, hd, v3, hv3, rfl⟩
  have HD4 := hid hd
  clear hg hd HC3 HD3
  obtain ⟨r, hr, hr23⟩ := q23 v3 (by omega)
  obtain ⟨n, hn⟩ : ∃ n : Nat, 1 + v1 + q * 4 - r = n := ⟨_, rfl⟩
  have hni : (1 : Int) + (v1 : Int) + (q : Int) * 4 - (r : Int) = (n : Int) := by omega
  have hn9 : n ≤ 10 := by omega
  clear hn
  have HC4 := hid (dPick 5 HD4.out (by omega) (by omega) (by omega))
  go_wp2_with fail
  refine HC4.out.mono ?_
  rintro e w5 ⟨hg, hd, v4, hv4, rfl⟩
  have HD5 := hid hd
  clear hg hd HC4 HD4
  obtain ⟨m, em⟩ : ∃ m, 1 + v4 = m := ⟨_, rfl⟩
  have zim : (1 : Int) + (v4 : Int) = (m : Int) := by omega
  have lm : 1 ≤ m := by omega
  have um : m ≤ 5 := by omega
  clear em
  go_wp2_with fail
  refine bodyPost_ret (results_tmp2 rfl _ _ _) rfl ?_
  exact ⟨HD5.out.below, n, m, rfl, hn9, um⟩

set_option maxRecDepth 100000 in
set_option maxHeartbeats 2000000 in
theorem draw_any (A : Option Addr) (len cap : Nat) (w : World) (h : CodeAt w A len) (hl : len ≤ 1048576) (hc : len ≤ cap) (hc2 : cap ≤ 9223372036854775807) :
    Calls Try.prog 54 #[.slice A len cap] w fun e w' => Below w.heap.size w w' ∧ ∃ (n m : Nat), e = .returned (.tuple #[.int .i64 (n : Int), .int .i64 (m : Int)]) ∧ n ≤ 10 ∧ m ≤ 5 := by
  have HP := hid (l91Size_any A len cap w h hl hc hc2)
  clear h
  go_enter Try.func54, Try.ntmps54
  go_wp2_with fail
  refine HP.out.mono ?_
  rintro e w1 ⟨hb, n, m, rfl, hn, hm⟩
  have HB := hid hb
  clear hb
  go_wp2_with fail
  refine bodyPost_ret (results_tmp2 rfl _ _ _) rfl ?_
  exact ⟨HB.out, n, m, rfl, hn, hm⟩

set_option maxRecDepth 100000 in
set_option maxHeartbeats 4000000 in
theorem walk (v : Value) (w : World) (hc : CameB w v) :
    Calls Try.prog 14 #[v] w fun e w' => e = .returned (.bool true) ∧ Below w.heap.size w w' := by
  obtain ⟨A, len, cap, rfl, hcode, hlc, hcap⟩ := hc
  have HCD := hid hcode
  clear hcode
  go_enter Try.func14, Try.ntmps14
  by_cases hbig : 1048576 < len
  · have hbi : (1048576 : Int) < (len : Int) := by omega
    go_wp2_with fail
    go_ret
    exact ⟨rfl, Below.refl _ _⟩
  have hbi : ¬ (1048576 : Int) < (len : Int) := by omega
  have HDR := hid (draw_any A len cap w HCD.out (by omega) hlc hcap)
  have HC1 := hid (HDR.out)
  go_wp2_with fail
  refine HC1.out.mono ?_
  rintro e w1 ⟨hb, n, m, rfl, hn9, hm5⟩
  have HB1 := hid hb
  clear hb HC1
  have HC2 := hid ((implJoinUnit_any n m w1).mono fun _ _ h => lend_own h)
  go_wp2_with fail
  refine HC2.out.mono ?_
  rintro e w2 ⟨hb, A2, c2, out, ok, rfl, hout, hl⟩
  have HB2 := hid (HB1.out.trans (hb.mono HB1.out.size))
  clear HB1
  have Lout2 := hid hl
  clear hl
  clear hb HC2
  have HO := hid hout
  clear hout
  have HC3 := hid ((specJoinUnit_any n m w2).mono fun _ _ h => lend_spec h)
  go_wp2_with fail
  refine HC3.out.mono ?_
  rintro e w3 ⟨hb, A3, c3, out2, ok2, rfl, hout2, hl⟩
  have HB3 := hid (HB2.out.trans (hb.mono HB2.out.size))
  clear HB2
  have Lout3 := hid (Lout2.out.step hb)
  clear Lout2
  have Lwant3 := hid hl
  clear hl
  clear hb HC3
  obtain ⟨rfl, rfl⟩ := HO.out.uniq hout2
  clear hout2
  rcases HO.out with ⟨hp, rfl, rfl⟩ | ⟨_, rfl, rfl⟩
  · obtain ⟨u, fl, k, e1, po, e2, g2, e3, pu, e4, hu20, hk, hk25⟩ := facts hp
    have e1' : unitL (n : Int).toNat (m : Int).toNat = u := e1
    rw [e1'] at Lout3 Lwant3 ⊢
    clear e1' e1 hp
    have PO := hid po
    have E2 := hid e2
    have G2 := hid g2
    have E3 := hid e3
    have PU := hid pu
    have E4 := hid e4
    clear po e2 g2 e3 pu e4
    go_wp2_with fail
    refine (nSameI (Lout3.out) (Lwant3.out) (by omega)).mono ?_
    rintro e w4 ⟨hb, rfl⟩
    have HB4 := hid (HB3.out.trans (hb.mono HB3.out.size))
    clear HB3
    have Lout4 := hid (Lout3.out.step hb)
    clear Lout3
    have Lwant4 := hid (Lwant3.out.step hb)
    clear Lwant3
    clear hb
    clear Lwant4
    go_wp2_with fail
    refine (nGridOf PO.out (by omega) E2.out).mono ?_
    rintro e w5 ⟨hb, A5, c5, rfl, hl⟩
    have HB5 := hid (HB4.out.trans (hb.mono HB4.out.size))
    clear HB4
    have Lout5 := hid (Lout4.out.step hb)
    clear Lout4
    have Lg5 := hid hl
    clear hl
    clear hb
    go_wp2_with fail
    refine (nBeamPairs (Lg5.out) G2.out E3.out).mono ?_
    rintro e w6 ⟨hb, A6, c6, rfl, hl⟩
    have HB6 := hid (HB5.out.trans (hb.mono HB5.out.size))
    clear HB5
    have Lout6 := hid (Lout5.out.step hb)
    clear Lout5
    have Lg6 := hid (Lg5.out.step hb)
    clear Lg5
    have Lx6 := hid hl
    clear hl
    clear hb
    go_wp2_with fail
    refine (nCrossChords (Lout6.out) PU.out E4.out).mono ?_
    rintro e w7 ⟨hb, rfl⟩
    have HB7 := hid (HB6.out.trans (hb.mono HB6.out.size))
    clear HB6
    have Lout7 := hid (Lout6.out.step hb)
    clear Lout6
    have Lg7 := hid (Lg6.out.step hb)
    clear Lg6
    have Lx7 := hid (Lx6.out.step hb)
    clear Lx6
    clear hb
    go_wp2_with fail
    refine (nSameI (Lx7.out) (Lout7.out) (by omega)).mono ?_
    rintro e w8 ⟨hb, rfl⟩
    have HB8 := hid (HB7.out.trans (hb.mono HB7.out.size))
    clear HB7
    have Lout8 := hid (Lout7.out.step hb)
    clear Lout7
    have Lg8 := hid (Lg7.out.step hb)
    clear Lg7
    have Lx8 := hid (Lx7.out.step hb)
    clear Lx7
    clear hb
    go_wp2_with fail
    go_ret
    exact ⟨rfl, HB8.out⟩
  · skip
    go_wp2_with fail
    refine (nSameI (Lout3.out) (Lwant3.out) (by simp)).mono ?_
    rintro e w4 ⟨hb, rfl⟩
    have HB4 := hid (HB3.out.trans (hb.mono HB3.out.size))
    clear HB3
    have Lout4 := hid (Lout3.out.step hb)
    clear Lout3
    have Lwant4 := hid (Lwant3.out.step hb)
    clear Lwant3
    clear hb
    go_wp2_with fail
    refine (nSameI (Lout4.out) (Lwant4.out) (by simp)).mono ?_
    rintro e w5 ⟨hb, rfl⟩
    have HB5 := hid (HB4.out.trans (hb.mono HB4.out.size))
    clear HB4
    have Lout5 := hid (Lout4.out.step hb)
    clear Lout4
    have Lwant5 := hid (Lwant4.out.step hb)
    clear Lwant4
    clear hb
    go_wp2_with fail
    go_ret
    exact ⟨rfl, HB5.out⟩

set_option maxRecDepth 100000 in
theorem lifted (os : Os) (started : os.Started) (H : Type) (enc : TypeId × Value → H) :
    ReturnsInHanded {} Try.checked os 14 .any (Rows.fnUnitSpec.pre6 enc Try.prog Try.f14 Rows.fnUnitRow.domain false) (Rows.fnUnitSpec.post enc Try.prog Try.f14 false true false false) := by
  refine returnsInHanded_of_change (C := Try.checked) Try.own started (by kernel_rfl) Try.func14
    (ChangeSpec.witness6 (enc := enc) (C := Try.checked) false ⟨#[], #[.slice none 0 0], []⟩ 8 (by kernel_rfl) (by kernel_rfl) (by kernel_rfl) (by kernel_rfl)) ?_
  intro W base args ds gs before hval0 hW hcnd _
  have hval : ∀ (j : Nat) t v, Try.f14.params[j]? = some t → args[j]? = some v → Value.okWide Try.prog W .any base t v := hval0
  have hW' := hW
  obtain ⟨p, q, hA0, hV, rfl, hfz, hnd⟩ := hW
  have hA : DataW.TrodAll enc Try.prog W 0 (fun _ => true) true Try.f14.params.toList args.toList ds p := hA0
  rw [Try.params14] at hA hval
  obtain ⟨v0, vs0, d0, ds0, p0, q0, hargs, rfl, rfl, h0, r0⟩ := trodAll_cons hA
  obtain ⟨rfl, rfl, rfl⟩ := trodAll_nil r0
  obtain rfl : args = #[v0] := by cases args; simp_all
  obtain ⟨rfl, rfl⟩ := trodVars_none hV
  have k0 := h0
  have lt0 : ∀ x ∈ p0, x.block < W.heap.size := by obtain ⟨m, hm⟩ := k0; exact DataW.trod_lt m _ _ _ hm
  have c0 := cameB_of (hval 0 22 v0 rfl rfl) h0
  clear hA0 hval0
  refine (walk v0 W c0).mono fun e W' ⟨he, bel⟩ => ?_
  subst he
  exact ⟨_, rfl, _, _, _, [], _, [], hW', trodAll_mk1 (shut_bool Try.underlying4 _), (trodAll_cons_mk (Below.trod Try.laidOut (by kernel_rfl) (of_decide_eq_true (by kernel_rfl)) k0 bel lt0) trodAll_mk0), rfl, bel.frame _, fun h => by cases h⟩

theorem closed : joinedFacts Try.pinned.checked.prog 14 Try.f14 Rows.fnUnitSpec Rows.fnUnitRow = true := by
  unfold joinedFacts
  exact and8 (by as_aux_lemma => kernel_rfl) head_enter head_lifts head_make (by as_aux_lemma => kernel_rfl) (by as_aux_lemma => kernel_rfl) (by as_aux_lemma => kernel_rfl) (by as_aux_lemma => kernel_rfl)

theorem proved : Rows.FnUnitSaid :=
  OpenClaim.holds_of_wide 14 Try.f14 rfl rfl rfl rfl rfl rfl rfl ⟨rfl, rfl, rfl, rfl, rfl⟩ rfl rfl rfl rfl rfl (by kernel_rfl) Try.func14 closed
    (of_decide_eq_true (by kernel_rfl)) (by unfold Func.isWrapper; first | (rw [if_pos (by decide +kernel)]; kernel_rfl) | (rw [if_neg (by decide +kernel)]; exact ⟨rfl, rfl⟩))
    (fun os started H enc _ => lifted os started H enc)
#print axioms proved

end Go.Proofs.Ytgapdlokljcpbaa.lawFnUnit
