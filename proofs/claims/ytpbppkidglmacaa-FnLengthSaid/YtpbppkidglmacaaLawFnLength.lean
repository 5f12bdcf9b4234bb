/- For every code, the length of the drawn beam is that of its way and the sum of its sides, and at most twice the number of cells; the program's and the specification's answers are the same: the law FnLength returns true, and its argument reads as it did. No condition. -/
import Derived.Test.YtpbppkidglmacaaPK
import Derived.Test.YtpbppkidglmacaaPKB
import Derived.Test.YtpbppkidglmacaaDrawPort
import Derived.Test.YtpbppkidglmacaaBeamP
namespace Go.Proofs.Ytpbppkidglmacaa.lawFnLength
open Go.ChangeShapes Go.WideShapes Go.ChangeAt Go.RowKit
open Go.ChangeMaps (open_string shut_string)

theorem facts {n m q : Nat} {ts : List ByteArray} {x : Int} (h : PortIn ts x n m q) : ∃ (M N : Nat) (l s : List Int), lengthR n m (lett m (pad (flat ts))) q = ((M : Int), true) ∧ wayR n m (lett m (pad (flat ts))) q = l ∧ ((l.length : Nat) : Int) = (M : Int) ∧ sidesR n m (lett m (pad (flat ts))) q = s ∧ s.sum = (M : Int) ∧ s.length ≤ 1000 ∧ (∀ y ∈ s, -1000 ≤ y ∧ y ≤ 1000) ∧
    2 * (n : Int) * (m : Int) = (N : Int) ∧ M ≤ N ∧ N ≤ 50 := by
  obtain ⟨hg, hx, hq⟩ := h
  have hm := hg.2.2.2.1
  have h25 := hg.le25
  have h2 := blen_two (n := n) (t := lett m (pad (flat ts))) hm hq
  refine ⟨_, 2 * (n * m), _, _, rfl, rfl, by unfold wayR; rw [cellsI_length], rfl, sides_sum q, by rw [sides_four]; omega, fun y hy => by have := sides_mem hy; omega, by rw [Int.mul_assoc, ← Int.natCast_mul]; rfl, h2, by omega⟩

set_option maxRecDepth 100000 in
set_option maxHeartbeats 1000000 in
theorem draw_any (A : Option Addr) (len cap : Nat) (w : World) (h : CodeAt w A len) (hl : len ≤ 1048576) (hc : len ≤ cap) (hc2 : cap ≤ 9223372036854775807) :
    Calls Try.prog 22 #[.slice A len cap] w fun e w' => Below w.heap.size w w' ∧ ∃ A c ts x, e = .returned (.tuple #[.slice A ts.length c, .int .i64 x]) ∧ LS w' A ts ∧ Drawn 4 4 ts ∧ -100 ≤ x ∧ x ≤ 100 := by
  have HC := hid (l91Port_any A len cap w h hl hc hc2)
  clear h
  go_enter Try.func22, Try.ntmps22
  go_wp2_with fail
  refine HC.out.mono ?_
  rintro e w1 ⟨hb, A1, c1, ts, x, rfl, hst, hd, hx⟩
  have HST := hid hst
  have HD := hid hd
  have HX := hid hx
  have HB := hid hb
  clear hst hd hx hb
  go_wp2_with fail
  refine bodyPost_ret (results_tmp2 rfl _ _ _) rfl ?_
  exact ⟨HB.out, A1, c1, ts, x, rfl, HST.out, HD.out, HX.out⟩

set_option maxRecDepth 100000 in
set_option maxHeartbeats 4000000 in
theorem walk (v : Value) (w : World) (hc : CameB w v) :
    Calls Try.prog 5 #[v] w fun e w' => e = .returned (.bool true) ∧ Below w.heap.size w w' := by
  obtain ⟨A, len, cap, rfl, hcode, hlc, hcap⟩ := hc
  have HCD := hid hcode
  clear hcode
  go_enter Try.func5, Try.ntmps5
  by_cases hbig : 1048576 < len
  · have hbi : (1048576 : Int) < (len : Int) := by omega
    go_wp2_with fail
    go_ret
    exact ⟨rfl, Below.refl _ _⟩
  have hbi : ¬ (1048576 : Int) < (len : Int) := by omega
  have HDR := hid (draw_any A len cap w HCD.out (by omega) hlc hcap)
  have HC1 := hid (HDR.out)
  go_wp2_with fail
  refine HC1.out.mono ?_
  rintro e w1 ⟨hb, A1, c1, ts, x, rfl, hl, hd, hx0, hx1⟩
  have HB1 := hid hb
  have Lts1 := hid hl
  clear hl
  clear hb HC1
  have HSM := hid (hd.small (by decide) (by decide))
  clear hd
  have HC2 := hid (implBeamLength_any A1 c1 ts x w1 Lts1.out HSM.out.1 HSM.out.2)
  go_wp2_with fail
  refine HC2.out.mono ?_
  rintro e w2 ⟨hb, out, ok, rfl, hout⟩
  have HB2 := hid (HB1.out.trans (hb.mono HB1.out.size))
  clear HB1
  have Lts2 := hid (Lts1.out.step hb)
  clear Lts1
  clear hb HC2
  have HO := hid hout
  clear hout
  have HC3 := hid (specBeamLength_any A1 c1 w2.heap.size ts x w2 Lts2.out (Nat.le_refl _) HSM.out.1 HSM.out.2)
  go_wp2_with fail
  refine HC3.out.mono ?_
  rintro e w3 ⟨hb, out2, ok2, rfl, hout2⟩
  have HB3 := hid (HB2.out.trans (hb.mono HB2.out.size))
  clear HB2
  have Lts3 := hid (Lts2.out.step hb)
  clear Lts2
  clear hb HC3
  obtain ⟨rfl, rfl⟩ := HO.out.uniq hout2
  clear hout2
  rcases HO.out with ⟨n, m, q, hp, hv⟩ | ⟨_, rfl, rfl⟩
  · obtain ⟨M, N, l, s, hR, e1, hl, e2, e3, h4, h5, hnm, hMN, hN⟩ := facts hp
    rw [hR] at hv
    obtain ⟨rfl, rfl⟩ := Prod.mk.inj hv
    clear hv hR
    obtain ⟨b0, o0, s0, rfl, hk0, hs0, hl0⟩ := Lts3.out.addr hp.1
    have hn : ((ts.length : Nat) : Int) = (n : Int) := by rw [hp.1.1]
    have hn0 : 0 < n := hp.1.2.1
    have hn5 := hp.1.2.2.1
    have hm5 := hp.1.2.2.2.2.1
    have hMNi : (M : Int) ≤ (N : Int) := by omega
    have HP := hid hp
    have E1 := hid e1
    have E2 := hid e2
    have E3 := hid e3
    have H4 := hid h4
    have H5 := hid h5
    have HK0 := hid hk0
    clear hp e1 e2 e3 h4 h5 hk0
    go_wp2_with fail
    refine (nBeamWay (Lts3.out) HP.out E1.out).mono ?_
    rintro e w4 ⟨hb, A5, c5, rfl, hlw⟩
    have HB4 := hid (HB3.out.trans (hb.mono HB3.out.size))
    clear HB3
    have Lts4 := hid (Lts3.out.step hb)
    clear Lts3
    have Lway4 := hid hlw
    clear hlw
    clear hb
    go_wp2_with fail
    refine (nBeamSides (Lts4.out) HP.out E2.out).mono ?_
    rintro e w5 ⟨hb, A6, c6, rfl, hls⟩
    have HB5 := hid (HB4.out.trans (hb.mono HB4.out.size))
    clear HB4
    have Lts5 := hid (Lts4.out.step hb)
    clear Lts4
    have Lway5 := hid (Lway4.out.step hb)
    clear Lway4
    have Lsides5 := hid hls
    clear hls
    clear hb
    go_wp2_with fail
    refine (nTotal (Lsides5.out) H4.out H5.out E3.out).mono ?_
    rintro e w6 ⟨hb, rfl⟩
    have HB6 := hid (HB5.out.trans (hb.mono HB5.out.size))
    clear HB5
    have Lts6 := hid (Lts5.out.step hb)
    clear Lts5
    have Lway6 := hid (Lway5.out.step hb)
    clear Lway5
    have Lsides6 := hid (Lsides5.out.step hb)
    clear Lsides5
    clear hb
    have c0 := Lts6.out.cell0 HK0.out
    go_wp2_with fail
    go_ret
    exact ⟨rfl, HB6.out⟩
  · skip
    go_wp2_with fail
    go_ret
    exact ⟨rfl, HB3.out⟩

set_option maxRecDepth 100000 in
theorem lifted (os : Os) (started : os.Started) (H : Type) (enc : TypeId × Value → H) :
    ReturnsInHanded {} Try.checked os 5 .any (Rows.fnLengthSpec.pre6 enc Try.prog Try.f5 Rows.fnLengthRow.domain false) (Rows.fnLengthSpec.post enc Try.prog Try.f5 false true false false) := by
  refine returnsInHanded_of_change (C := Try.checked) Try.own started (by kernel_rfl) Try.func5
    (ChangeSpec.witness6 (enc := enc) (C := Try.checked) false ⟨#[], #[.slice none 0 0], []⟩ 8 (by kernel_rfl) (by kernel_rfl) (by kernel_rfl) (by kernel_rfl)) ?_
  intro W base args ds gs before hval0 hW hcnd _
  have hval : ∀ (j : Nat) t v, Try.f5.params[j]? = some t → args[j]? = some v → Value.okWide Try.prog W .any base t v := hval0
  have hW' := hW
  obtain ⟨p, q, hA0, hV, rfl, hfz, hnd⟩ := hW
  have hA : DataW.TrodAll enc Try.prog W 0 (fun _ => true) true Try.f5.params.toList args.toList ds p := hA0
  rw [Try.params5] at hA hval
  obtain ⟨v0, vs0, d0, ds0, p0, q0, hargs, rfl, rfl, h0, r0⟩ := trodAll_cons hA
  obtain ⟨rfl, rfl, rfl⟩ := trodAll_nil r0
  obtain rfl : args = #[v0] := by cases args; simp_all
  obtain ⟨rfl, rfl⟩ := trodVars_none hV
  have k0 := h0
  have lt0 : ∀ x ∈ p0, x.block < W.heap.size := by obtain ⟨m, hm⟩ := k0; exact DataW.trod_lt m _ _ _ hm
  have c0 := cameB_of (hval 0 22 v0 rfl rfl) h0
  clear hA0 hval0
  refine (walk v0 W c0).mono fun e W' ⟨he, bel⟩ => ?_
  subst he
  exact ⟨_, rfl, _, _, _, [], _, [], hW', trodAll_mk1 (shut_bool Try.underlying4 _), (trodAll_cons_mk (Below.trod Try.laidOut (by kernel_rfl) (of_decide_eq_true (by kernel_rfl)) k0 bel lt0) trodAll_mk0), rfl, bel.frame _, fun h => by cases h⟩

theorem closed : joinedFacts Try.pinned.checked.prog 5 Try.f5 Rows.fnLengthSpec Rows.fnLengthRow = true := by
  unfold joinedFacts
  exact and8 (by as_aux_lemma => kernel_rfl) head_enter head_lifts head_make (by as_aux_lemma => kernel_rfl) (by as_aux_lemma => kernel_rfl) (by as_aux_lemma => kernel_rfl) (by as_aux_lemma => kernel_rfl)

theorem proved : Rows.FnLengthSaid :=
  OpenClaim.holds_of_wide 5 Try.f5 rfl rfl rfl rfl rfl rfl rfl ⟨rfl, rfl, rfl, rfl, rfl⟩ rfl rfl rfl rfl rfl (by kernel_rfl) Try.func5 closed
    (of_decide_eq_true (by kernel_rfl)) (by unfold Func.isWrapper; first | (rw [if_pos (by decide +kernel)]; kernel_rfl) | (rw [if_neg (by decide +kernel)]; exact ⟨rfl, rfl⟩))
    (fun os started H enc _ => lifted os started H enc)
#print axioms proved

end Go.Proofs.Ytpbppkidglmacaa.lawFnLength
