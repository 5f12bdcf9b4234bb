/- For every code, the two drawn beams meet the same number of cells both ways and from their ends, no more than either goes through; the program's and the specification's answers are the same: the law FnMeets returns true, and its argument reads as it did. No condition. -/
import Derived.Test.YtpbppkidglmacaaPK
import Derived.Test.YtpbppkidglmacaaPKB
import Derived.Test.YtpbppkidglmacaaDrawTwo
import Derived.Test.YtpbppkidglmacaaBeamP
import Derived.Test.YtpbppkidglmacaaMeetsS
namespace Go.Proofs.Ytpbppkidglmacaa.lawFnMeets
open Go.ChangeShapes Go.WideShapes Go.ChangeAt Go.RowKit
open Go.ChangeMaps (open_string shut_string)

theorem facts {n m a b : Nat} {ts : List ByteArray} {x y : Int} (h : MeetIn ts x y n m a b) : ∃ k c d L M : Nat, meetN n m (lett m (pad (flat ts))) a b = k ∧ MeetIn ts y x n m b a ∧ meetN n m (lett m (pad (flat ts))) b a = k ∧ bend_ n m (lett m (pad (flat ts))) a = c ∧ bend_ n m (lett m (pad (flat ts))) b = d ∧ MeetIn ts (c : Int) (d : Int) n m c d ∧ meetN n m (lett m (pad (flat ts))) c d = k ∧
    lengthR n m (lett m (pad (flat ts))) a = ((L : Int), true) ∧ lengthR n m (lett m (pad (flat ts))) b = ((M : Int), true) ∧ k ≤ L ∧ k ≤ M := by
  obtain ⟨⟨hg, hx, ha⟩, ⟨_, hy, hb⟩, h1, h2⟩ := h
  have hn := hg.2.1
  have hm := hg.2.2.2.1
  have fa := bend_facts (t := lett m (pad (flat ts))) hn hm ha
  have fb := bend_facts (t := lett m (pad (flat ts))) hn hm hb
  have ba := (back_facts (t := lett m (pad (flat ts))) hn hm ha).2
  have bb := (back_facts (t := lett m (pad (flat ts))) hn hm hb).2
  have hle := meet_le (n := n) (m := m) (t := lett m (pad (flat ts))) (p := a) (q := b)
  refine ⟨_, _, _, _, _, rfl, ⟨⟨hg, hy, hb⟩, ⟨hg, hx, ha⟩, fun e => h1 e.symm, fun e => h2 (by rw [← e, bb])⟩, meet_swap, rfl, rfl, ⟨⟨hg, rfl, fa.2.1⟩, ⟨hg, rfl, fb.2.1⟩, fun e => h1 ?_, fun e => h2 ?_⟩, meet_ends hn hm ha hb, rfl, rfl, hle.1, hle.2⟩
  · have := congrArg (bend_ n m (lett m (pad (flat ts)))) e
    rwa [ba, bb] at this
  · rw [ba] at e
    rw [e, bb]

set_option maxRecDepth 100000 in
set_option maxHeartbeats 1000000 in
theorem draw_any (A : Option Addr) (len cap : Nat) (w : World) (h : CodeAt w A len) (hl : len ≤ 1048576) (hc : len ≤ cap) (hc2 : cap ≤ 9223372036854775807) :
    Calls Try.prog 40 #[.slice A len cap] w fun e w' => Below w.heap.size w w' ∧ ∃ A c ts x y, e = .returned (.tuple #[.slice A ts.length c, .int .i64 x, .int .i64 y]) ∧ LS w' A ts ∧ Drawn 4 4 ts ∧ -100 ≤ x ∧ x ≤ 100 ∧ -100 ≤ y ∧ y ≤ 100 := by
  have HC := hid (DrawCrossBetween_any A len cap w h hl hc hc2)
  clear h
  go_enter Try.func40, Try.ntmps40
  go_wp2_with fail
  refine HC.out.mono ?_
  rintro e w1 ⟨hb, A1, c1, ts, x, y, rfl, hst, hd, hx⟩
  have HST := hid hst
  have HD := hid hd
  have HX := hid hx
  have HB := hid hb
  clear hst hd hx hb
  go_wp2_with fail
  refine bodyPost_ret (results_tmp3 rfl _ _ _) rfl ?_
  exact ⟨HB.out, A1, c1, ts, x, y, rfl, HST.out, HD.out, HX.out⟩

set_option maxRecDepth 100000 in
set_option maxHeartbeats 4000000 in
theorem walk (v : Value) (w : World) (hc : CameB w v) :
    Calls Try.prog 11 #[v] w fun e w' => e = .returned (.bool true) ∧ Below w.heap.size w w' := by
  obtain ⟨A, len, cap, rfl, hcode, hlc, hcap⟩ := hc
  have HCD := hid hcode
  clear hcode
  go_enter Try.func11, Try.ntmps11
  by_cases hbig : 1048576 < len
  · have hbi : (1048576 : Int) < (len : Int) := by omega
    go_wp2_with fail
    go_ret
    exact ⟨rfl, Below.refl _ _⟩
  have hbi : ¬ (1048576 : Int) < (len : Int) := by omega
  have HDR := hid (draw_any A len cap w HCD.out (by omega) hlc hcap)
  have HC1 := hid (HDR.out)
  go_wp2_with fail
  refine HC1.out.mono ?_
  rintro e w1 ⟨hb, A1, c1, ts, x, y, rfl, hl, hd, hx0, hx1, hy0, hy1⟩
  have HB1 := hid hb
  have Lts1 := hid hl
  clear hl
  clear hb HC1
  have HSM := hid (hd.small (by decide) (by decide))
  clear hd
  have HC2 := hid (implBeamMeets_any A1 c1 ts x y w1 Lts1.out HSM.out.1 HSM.out.2)
  go_wp2_with fail
  refine HC2.out.mono ?_
  rintro e w2 ⟨hb, out, ok, rfl, hout⟩
  have HB2 := hid (HB1.out.trans (hb.mono HB1.out.size))
  clear HB1
  have Lts2 := hid (Lts1.out.step hb)
  clear Lts1
  clear hb HC2
  have HO := hid hout
  clear hout
  have HC3 := hid (specBeamMeets_any A1 c1 w2.heap.size ts x y w2 Lts2.out (Nat.le_refl _) HSM.out.1 HSM.out.2)
  go_wp2_with fail
  refine HC3.out.mono ?_
  rintro e w3 ⟨hb, out2, ok2, rfl, hout2⟩
  have HB3 := hid (HB2.out.trans (hb.mono HB2.out.size))
  clear HB2
  have Lts3 := hid (Lts2.out.step hb)
  clear Lts2
  clear hb HC3
  obtain ⟨rfl, rfl⟩ := HO.out.uniq hout2
  clear hout2
  rcases HO.out with ⟨n, m, a, b, hp, rfl, rfl⟩ | ⟨_, rfl, rfl⟩
  · obtain ⟨k, c, d, M, N, e1, p2, e2, e3, e4, p3, e5, e6, e7, hk1, hk2⟩ := facts hp
    rw [e1]
    clear e1
    have HP := hid hp
    have P2 := hid p2
    have E2 := hid e2
    have E3 := hid e3
    have E4 := hid e4
    have P3 := hid p3
    have E5 := hid e5
    have E6 := hid e6
    have E7 := hid e7
    clear hp p2 e2 e3 e4 p3 e5 e6 e7
    go_wp2_with fail
    refine (nBeamMeets (Lts3.out) P2.out E2.out).mono ?_
    rintro e w4 ⟨hb, rfl⟩
    have HB4 := hid (HB3.out.trans (hb.mono HB3.out.size))
    clear HB3
    have Lts4 := hid (Lts3.out.step hb)
    clear Lts3
    clear hb
    go_wp2_with fail
    refine (nBeamEnd (Lts4.out) HP.out.1 E3.out).mono ?_
    rintro e w5 ⟨hb, rfl⟩
    have HB5 := hid (HB4.out.trans (hb.mono HB4.out.size))
    clear HB4
    have Lts5 := hid (Lts4.out.step hb)
    clear Lts4
    clear hb
    go_wp2_with fail
    refine (nBeamEnd (Lts5.out) HP.out.2.1 E4.out).mono ?_
    rintro e w6 ⟨hb, rfl⟩
    have HB6 := hid (HB5.out.trans (hb.mono HB5.out.size))
    clear HB5
    have Lts6 := hid (Lts5.out.step hb)
    clear Lts5
    clear hb
    go_wp2_with fail
    refine (nBeamMeets (Lts6.out) P3.out E5.out).mono ?_
    rintro e w7 ⟨hb, rfl⟩
    have HB7 := hid (HB6.out.trans (hb.mono HB6.out.size))
    clear HB6
    have Lts7 := hid (Lts6.out.step hb)
    clear Lts6
    clear hb
    go_wp2_with fail
    refine (nBeamLength (Lts7.out) HP.out.1 E6.out).mono ?_
    rintro e w8 ⟨hb, rfl⟩
    have HB8 := hid (HB7.out.trans (hb.mono HB7.out.size))
    clear HB7
    have Lts8 := hid (Lts7.out.step hb)
    clear Lts7
    clear hb
    go_wp2_with fail
    refine (nBeamLength (Lts8.out) HP.out.2.1 E7.out).mono ?_
    rintro e w9 ⟨hb, rfl⟩
    have HB9 := hid (HB8.out.trans (hb.mono HB8.out.size))
    clear HB8
    have Lts9 := hid (Lts8.out.step hb)
    clear Lts8
    clear hb
    by_cases hMN : M ≤ N
    · have h1 : (M : Int) ≤ (N : Int) := by omega
      have h2 : (k : Int) ≤ (M : Int) := by omega
      go_wp2_with fail
      go_ret
      exact ⟨rfl, HB9.out⟩
    · have h1 : ¬ (M : Int) ≤ (N : Int) := by omega
      have h2 : (k : Int) ≤ (N : Int) := by omega
      go_wp2_with fail
      go_ret
      exact ⟨rfl, HB9.out⟩
  · skip
    go_wp2_with fail
    go_ret
    exact ⟨rfl, HB3.out⟩

set_option maxRecDepth 100000 in
theorem lifted (os : Os) (started : os.Started) (H : Type) (enc : TypeId × Value → H) :
    ReturnsInHanded {} Try.checked os 11 .any (Rows.fnMeetsSpec.pre6 enc Try.prog Try.f11 Rows.fnMeetsRow.domain false) (Rows.fnMeetsSpec.post enc Try.prog Try.f11 false true false false) := by
  refine returnsInHanded_of_change (C := Try.checked) Try.own started (by kernel_rfl) Try.func11
    (ChangeSpec.witness6 (enc := enc) (C := Try.checked) false ⟨#[], #[.slice none 0 0], []⟩ 8 (by kernel_rfl) (by kernel_rfl) (by kernel_rfl) (by kernel_rfl)) ?_
  intro W base args ds gs before hval0 hW hcnd _
  have hval : ∀ (j : Nat) t v, Try.f11.params[j]? = some t → args[j]? = some v → Value.okWide Try.prog W .any base t v := hval0
  have hW' := hW
  obtain ⟨p, q, hA0, hV, rfl, hfz, hnd⟩ := hW
  have hA : DataW.TrodAll enc Try.prog W 0 (fun _ => true) true Try.f11.params.toList args.toList ds p := hA0
  rw [Try.params11] at hA hval
  obtain ⟨v0, vs0, d0, ds0, p0, q0, hargs, rfl, rfl, h0, r0⟩ := trodAll_cons hA
  obtain ⟨rfl, rfl, rfl⟩ := trodAll_nil r0
  obtain rfl : args = #[v0] := by cases args; simp_all
  obtain ⟨rfl, rfl⟩ := trodVars_none hV
  have k0 := h0
  have lt0 : ∀ x ∈ p0, x.block < W.heap.size := by obtain ⟨m, hm⟩ := k0; exact DataW.trod_lt m _ _ _ hm
  have c0 := cameB_of (hval 0 22 v0 rfl rfl) h0
  clear hA0 hval0
  refine (walk v0 W c0).mono fun e W' ⟨he, bel⟩ => ?_
  subst he
  exact ⟨_, rfl, _, _, _, [], _, [], hW', trodAll_mk1 (shut_bool Try.underlying4 _), (trodAll_cons_mk (Below.trod Try.laidOut (by kernel_rfl) (of_decide_eq_true (by kernel_rfl)) k0 bel lt0) trodAll_mk0), rfl, bel.frame _, fun h => by cases h⟩

theorem closed : joinedFacts Try.pinned.checked.prog 11 Try.f11 Rows.fnMeetsSpec Rows.fnMeetsRow = true := by
  unfold joinedFacts
  exact and8 (by as_aux_lemma => kernel_rfl) head_enter head_lifts head_make (by as_aux_lemma => kernel_rfl) (by as_aux_lemma => kernel_rfl) (by as_aux_lemma => kernel_rfl) (by as_aux_lemma => kernel_rfl)

theorem proved : Rows.FnMeetsSaid :=
  OpenClaim.holds_of_wide 11 Try.f11 rfl rfl rfl rfl rfl rfl rfl ⟨rfl, rfl, rfl, rfl, rfl⟩ rfl rfl rfl rfl rfl (by kernel_rfl) Try.func11 closed
    (of_decide_eq_true (by kernel_rfl)) (by unfold Func.isWrapper; first | (rw [if_pos (by decide +kernel)]; kernel_rfl) | (rw [if_neg (by decide +kernel)]; exact ⟨rfl, rfl⟩))
    (fun os started H enc _ => lifted os started H enc)
#print axioms proved

end Go.Proofs.Ytpbppkidglmacaa.lawFnMeets
