/- For every code, the drawn pairing moved on and on, all round, is itself; the program's and the specification's answers are the same: the law FnCrossTurn returns true, and its argument reads as it did. No condition. -/
import Derived.Test.YtgapdlokljcpbaaPKR
import Derived.Test.YtgapdlokljcpbaaPKP
import Derived.Test.YtgapdlokljcpbaaPairQ
import Derived.Test.YtgapdlokljcpbaaBunS
import Derived.Test.YtgapdlokljcpbaaTurnS
namespace Go.Proofs.Ytgapdlokljcpbaa.lawFnCrossTurn
open Go.ChangeShapes Go.WideShapes Go.ChangeAt Go.RowKit
open Go.ChangeMaps (open_string shut_string)

theorem facts {l : List Int} {k : Nat} (h : IsPair l) (hk : k ≤ 20) : ∃ (M j t : Nat) (r : List Int), turnL l k = r ∧ IsPair r ∧ turnL r j = l ∧ l.length = M ∧ 4 ≤ M ∧ M ≤ 20 ∧ r.length ≤ 20 ∧ k % M = t ∧ t < M ∧ (M - t) % M = j ∧ j ≤ 20 := by
  have h2 := turnL_pair k h
  have hpos : 0 < l.length := by have := h.1; omega
  have hj : ∃ c, k + (l.length - k % l.length) % l.length = c * l.length := by
    have h3 := Nat.div_add_mod k l.length
    have h4 := Nat.mod_lt k hpos
    by_cases h0 : k % l.length = 0
    · refine ⟨k / l.length, ?_⟩
      rw [h0, Nat.sub_zero, Nat.mod_self, Nat.mul_comm]; omega
    · refine ⟨k / l.length + 1, ?_⟩
      rw [Nat.mod_eq_of_lt (by omega), Nat.succ_mul, Nat.mul_comm]; omega
  exact ⟨_, _, _, _, rfl, h2, turnL_undo h hj, rfl, h.1, h.2.1, h2.2.1, rfl, Nat.mod_lt _ hpos, rfl, by have := Nat.mod_lt (l.length - k % l.length) hpos; have := h.2.1; omega⟩

set_option maxRecDepth 100000 in
set_option maxHeartbeats 2000000 in
theorem draw_any (A : Option Addr) (len cap : Nat) (w : World) (h : CodeAt w A len) (hl : len ≤ 1048576) (hc : len ≤ cap) (hc2 : cap ≤ 9223372036854775807) :
    Calls Try.prog 35 #[.slice A len cap] w fun e w' => Below w.heap.size w w' ∧ ∃ A c l k, e = .returned (.tuple #[.slice A l.length c, .int .i64 k]) ∧ LI w' A l ∧ l.length ≤ 20 := by
  have HOP := hid (dOpen A len cap w h hl hc hc2)
  clear h
  go_enter Try.func35, Try.ntmps35
  go_wp2_with fail
  refine HOP.out.mono ?_
  rintro e w1 ⟨rfl, hd⟩
  have HD1 := hid hd
  clear hd HOP
  have HC1 := hid (dPick 21 HD1.out (by omega) (by omega) (by omega))
  go_wp2_with fail
  refine HC1.out.mono ?_
  rintro e w2 ⟨hg, hd, v1, hv1, rfl⟩
  have HD2 := hid hd
  clear hg hd HC1 HD1
  have HC2 := hid (dPick 24 HD2.out (by omega) (by omega) (by omega))
  go_wp2_with fail
  refine HC2.out.mono ?_
  rintro e w3 ⟨hg, hd, v2, hv2, rfl⟩
  have HD3 := hid hd
  clear hg hd HC2 HD2
  obtain ⟨q, hq, hq23⟩ := q23 v2 (by omega)
  obtain ⟨k, hk⟩ : ∃ k : Nat, v1 + q = k := ⟨_, rfl⟩
  have hki : (v1 : Int) + (q : Int) = (k : Int) := by omega
  have hk99 : k ≤ 100 := by omega
  clear hk
  have HC3 := hid (dPick 6 HD3.out (by omega) (by omega) (by omega))
  go_wp2_with fail
  refine HC3.out.mono ?_
  rintro e w4 ⟨hg, hd, v3, hv3, rfl⟩
  have HD4 := hid hd
  clear hg hd HC3 HD3
  obtain ⟨N, hN⟩ : ∃ N : Nat, 4 + 2 * v3 = N := ⟨_, rfl⟩
  have hNi : (4 : Int) + 2 * (v3 : Int) = (N : Int) := by omega
  have hN3 : 3 ≤ N := by omega
  have hN20 : N ≤ 20 := by omega
  clear hN
  have HC4 := hid (dPairs N HD4.out (by omega) hN3 hN20)
  go_wp2_with fail
  refine HC4.out.mono ?_
  rintro e w5 ⟨hg, hd, A3, c3, l, hl, hx, rfl⟩
  have Xl5 := hid hx
  clear hx
  have HD5 := hid hd
  clear hg hd HC4 HD4
  have HL := hid hl
  clear hl
  go_wp2_with fail
  refine bodyPost_ret (results_tmp2 rfl _ _ _) rfl ?_
  exact ⟨HD5.out.below, A3, c3, l, (k : Int), by rw [HL.out]; rfl, Xl5.out.1, by rw [HL.out]; exact hN20⟩

set_option maxRecDepth 100000 in
set_option maxHeartbeats 4000000 in
theorem walk (v : Value) (w : World) (hc : CameB w v) :
    Calls Try.prog 8 #[v] w fun e w' => e = .returned (.bool true) ∧ Below w.heap.size w w' := by
  obtain ⟨A, len, cap, rfl, hcode, hlc, hcap⟩ := hc
  have HCD := hid hcode
  clear hcode
  go_enter Try.func8, Try.ntmps8
  by_cases hbig : 1048576 < len
  · have hbi : (1048576 : Int) < (len : Int) := by omega
    go_wp2_with fail
    go_ret
    exact ⟨rfl, Below.refl _ _⟩
  have hbi : ¬ (1048576 : Int) < (len : Int) := by omega
  have HDR := hid (draw_any A len cap w HCD.out (by omega) hlc hcap)
  have HC1 := hid (HDR.out)
  go_wp2_with fail
  refine HC1.out.mono ?_
  rintro e w1 ⟨hb, A1, c1, l, k, rfl, hl, hl20⟩
  have HB1 := hid hb
  have Ll1 := hid hl
  clear hl
  clear hb HC1
  have HC2 := hid ((implCrossTurn_any A1 c1 l k w1 Ll1.out (by omega)).mono fun _ _ h => lend_own h)
  go_wp2_with fail
  refine HC2.out.mono ?_
  rintro e w2 ⟨hb, A2, c2, out, ok, rfl, hout, hl⟩
  have HB2 := hid (HB1.out.trans (hb.mono HB1.out.size))
  clear HB1
  have Ll2 := hid (Ll1.out.step hb)
  clear Ll1
  have Lout2 := hid hl
  clear hl
  clear hb HC2
  have HO := hid hout
  clear hout
  have HC3 := hid ((specCrossTurn_any A1 c1 w2.heap.size l k w2 Ll2.out (Nat.le_refl _) (by omega)).mono fun _ _ h => lend_spec h)
  go_wp2_with fail
  refine HC3.out.mono ?_
  rintro e w3 ⟨hb, A3, c3, out2, ok2, rfl, hout2, hl⟩
  have HB3 := hid (HB2.out.trans (hb.mono HB2.out.size))
  clear HB2
  have Ll3 := hid (Ll2.out.step hb)
  clear Ll2
  have Lout3 := hid (Lout2.out.step hb)
  clear Lout2
  have Lwant3 := hid hl
  clear hl
  clear hb HC3
  obtain ⟨rfl, rfl⟩ := HO.out.uniq hout2
  clear hout2
  rcases HO.out with ⟨kn, hp, hk20, rfl, rfl, rfl⟩ | ⟨_, rfl, rfl⟩
  · obtain ⟨M, j, t, r, e1, p2, e2, hlM, hM4, hM20, hr20, htm, htM, hj, hj20⟩ := facts hp hk20
    rw [e1] at Lout3 Lwant3 ⊢
    have hlMi : ((l.length : Nat) : Int) = (M : Int) := by rw [hlM]
    have hti : (kn : Int) % (M : Int) = (t : Int) := by rw [← htm]; exact (Int.natCast_emod kn M).symm ▸ rfl
    have hti2 : (kn : Int).tmod (M : Int) = (t : Int) := by rw [Int.tmod_eq_emod_of_nonneg (by omega)]; exact hti
    have hji : ((M : Int) - (t : Int)) % (M : Int) = (j : Int) := by rw [← hj, Int.natCast_emod, Int.natCast_sub (by omega)]
    have hji2 : ((M : Int) - (t : Int)).tmod (M : Int) = (j : Int) := by rw [Int.tmod_eq_emod_of_nonneg (by omega)]; exact hji
    have htMi : (t : Int) < (M : Int) := by omega
    have hMz : ((M : Int) == 0) = false := by simp; omega
    have hM0i : (1 : Int) ≤ (M : Int) := by omega
    have hMz2 : ¬ M = 0 := by omega
    clear hlM htm hj e1
    have HP := hid hp
    have P2 := hid p2
    have E2 := hid e2
    clear hp p2 e2
    go_wp2_with fail
    refine (nSameI (Lout3.out) (Lwant3.out) (by omega)).mono ?_
    rintro e w4 ⟨hb, rfl⟩
    have HB4 := hid (HB3.out.trans (hb.mono HB3.out.size))
    clear HB3
    have Ll4 := hid (Ll3.out.step hb)
    clear Ll3
    have Lout4 := hid (Lout3.out.step hb)
    clear Lout3
    have Lwant4 := hid (Lwant3.out.step hb)
    clear Lwant3
    clear hb
    clear Lwant4
    go_wp2_with fail
    refine (nCrossTurn (k := j) (kk := (j : Int)) (Lout4.out) P2.out (by omega) rfl E2.out).mono ?_
    rintro e w5 ⟨hb, A4, c4, rfl, hl⟩
    have HB5 := hid (HB4.out.trans (hb.mono HB4.out.size))
    clear HB4
    have Ll5 := hid (Ll4.out.step hb)
    clear Ll4
    have Lout5 := hid (Lout4.out.step hb)
    clear Lout4
    have Lx5 := hid hl
    clear hl
    clear hb
    go_wp2_with fail
    refine (nSameI (Lx5.out) (Ll5.out) (by omega)).mono ?_
    rintro e w6 ⟨hb, rfl⟩
    have HB6 := hid (HB5.out.trans (hb.mono HB5.out.size))
    clear HB5
    have Ll6 := hid (Ll5.out.step hb)
    clear Ll5
    have Lout6 := hid (Lout5.out.step hb)
    clear Lout5
    have Lx6 := hid (Lx5.out.step hb)
    clear Lx5
    clear hb
    go_wp2_with fail
    go_ret
    exact ⟨rfl, HB6.out⟩
  · skip
    go_wp2_with fail
    refine (nSameI (Lout3.out) (Lwant3.out) (by simp)).mono ?_
    rintro e w4 ⟨hb, rfl⟩
    have HB4 := hid (HB3.out.trans (hb.mono HB3.out.size))
    clear HB3
    have Ll4 := hid (Ll3.out.step hb)
    clear Ll3
    have Lout4 := hid (Lout3.out.step hb)
    clear Lout3
    have Lwant4 := hid (Lwant3.out.step hb)
    clear Lwant3
    clear hb
    go_wp2_with fail
    refine (nSameI (Lout4.out) (Lwant4.out) (by simp)).mono ?_
    rintro e w5 ⟨hb, rfl⟩
    have HB5 := hid (HB4.out.trans (hb.mono HB4.out.size))
    clear HB4
    have Ll5 := hid (Ll4.out.step hb)
    clear Ll4
    have Lout5 := hid (Lout4.out.step hb)
    clear Lout4
    have Lwant5 := hid (Lwant4.out.step hb)
    clear Lwant4
    clear hb
    go_wp2_with fail
    go_ret
    exact ⟨rfl, HB5.out⟩

set_option maxRecDepth 100000 in
theorem lifted (os : Os) (started : os.Started) (H : Type) (enc : TypeId × Value → H) :
    ReturnsInHanded {} Try.checked os 8 .any (Rows.fnCrossTurnSpec.pre6 enc Try.prog Try.f8 Rows.fnCrossTurnRow.domain false) (Rows.fnCrossTurnSpec.post enc Try.prog Try.f8 false true false false) := by
  refine returnsInHanded_of_change (C := Try.checked) Try.own started (by kernel_rfl) Try.func8
    (ChangeSpec.witness6 (enc := enc) (C := Try.checked) false ⟨#[], #[.slice none 0 0], []⟩ 8 (by kernel_rfl) (by kernel_rfl) (by kernel_rfl) (by kernel_rfl)) ?_
  intro W base args ds gs before hval0 hW hcnd _
  have hval : ∀ (j : Nat) t v, Try.f8.params[j]? = some t → args[j]? = some v → Value.okWide Try.prog W .any base t v := hval0
  have hW' := hW
  obtain ⟨p, q, hA0, hV, rfl, hfz, hnd⟩ := hW
  have hA : DataW.TrodAll enc Try.prog W 0 (fun _ => true) true Try.f8.params.toList args.toList ds p := hA0
  rw [Try.params8] at hA hval
  obtain ⟨v0, vs0, d0, ds0, p0, q0, hargs, rfl, rfl, h0, r0⟩ := trodAll_cons hA
  obtain ⟨rfl, rfl, rfl⟩ := trodAll_nil r0
  obtain rfl : args = #[v0] := by cases args; simp_all
  obtain ⟨rfl, rfl⟩ := trodVars_none hV
  have k0 := h0
  have lt0 : ∀ x ∈ p0, x.block < W.heap.size := by obtain ⟨m, hm⟩ := k0; exact DataW.trod_lt m _ _ _ hm
  have c0 := cameB_of (hval 0 22 v0 rfl rfl) h0
  clear hA0 hval0
  refine (walk v0 W c0).mono fun e W' ⟨he, bel⟩ => ?_
  subst he
  exact ⟨_, rfl, _, _, _, [], _, [], hW', trodAll_mk1 (shut_bool Try.underlying4 _), (trodAll_cons_mk (Below.trod Try.laidOut (by kernel_rfl) (of_decide_eq_true (by kernel_rfl)) k0 bel lt0) trodAll_mk0), rfl, bel.frame _, fun h => by cases h⟩

theorem closed : joinedFacts Try.pinned.checked.prog 8 Try.f8 Rows.fnCrossTurnSpec Rows.fnCrossTurnRow = true := by
  unfold joinedFacts
  exact and8 (by as_aux_lemma => kernel_rfl) head_enter head_lifts head_make (by as_aux_lemma => kernel_rfl) (by as_aux_lemma => kernel_rfl) (by as_aux_lemma => kernel_rfl) (by as_aux_lemma => kernel_rfl)

theorem proved : Rows.FnCrossTurnSaid :=
  OpenClaim.holds_of_wide 8 Try.f8 rfl rfl rfl rfl rfl rfl rfl ⟨rfl, rfl, rfl, rfl, rfl⟩ rfl rfl rfl rfl rfl (by kernel_rfl) Try.func8 closed
    (of_decide_eq_true (by kernel_rfl)) (by unfold Func.isWrapper; first | (rw [if_pos (by decide +kernel)]; kernel_rfl) | (rw [if_neg (by decide +kernel)]; exact ⟨rfl, rfl⟩))
    (fun os started H enc _ => lifted os started H enc)
#print axioms proved

end Go.Proofs.Ytgapdlokljcpbaa.lawFnCrossTurn
