/- For every code, the drawn beam crosses itself as often as that of its end, no more often than it goes through cells twice, and nowhere without mirrors; the program's and the specification's answers are the same: the law FnCrossSelf returns true, and its argument reads as it did. No condition. -/
import Derived.Test.YtgapdlokljcpbaaPKR
import Derived.Test.YtgapdlokljcpbaaDrawPort
import Derived.Test.YtgapdlokljcpbaaBeamP
import Derived.Test.YtgapdlokljcpbaaBunJ
namespace Go.Proofs.Ytgapdlokljcpbaa.lawFnCrossSelf
open Go.ChangeShapes Go.WideShapes Go.ChangeAt Go.RowKit
open Go.ChangeMaps (open_string shut_string)

theorem facts {n m q : Nat} {ts : List ByteArray} {x : Int} (h : PortIn ts x n m q) : ∃ (k z c e : Nat), selfR n m (lett m (pad (flat ts))) q = ((k : Int), true) ∧ twiceR n m (lett m (pad (flat ts))) q = ((z : Int), true) ∧ bend_ n m (lett m (pad (flat ts))) q = e ∧ PortIn ts (e : Int) n m e ∧ selfR n m (lett m (pad (flat ts))) e = ((k : Int), true) ∧ cntOf 114 (flat ts) + cntOf 102 (flat ts) = c ∧
    k ≤ z ∧ (0 < c ∨ k = 0) := by
  obtain ⟨hg, hx, hq⟩ := h
  have hn := hg.2.1
  have hm := hg.2.2.2.1
  have f1 := bend_facts (t := lett m (pad (flat ts))) hn hm hq
  have hkz : selfN n m (lett m (pad (flat ts))) q ≤ (List.range (n * m)).countP fun c => (bcells n m (lett m (pad (flat ts))) q).count c == 2 := by
    unfold selfN
    refine List.countP_mono_left fun c _ h => ?_
    rw [Bool.and_eq_true] at h
    exact h.1
  refine ⟨_, _, _, _, rfl, rfl, rfl, ⟨hg, rfl, f1.2.1⟩, ?_, rfl, hkz, ?_⟩
  · unfold selfR
    congr 2
    unfold selfN
    refine List.countP_congr fun c _ => ?_
    rw [count_back hn hm hq]
  · by_cases hc : 0 < cntOf 114 (flat ts) + cntOf 102 (flat ts)
    · exact .inl hc
    · right
      have h0 : (List.range (blen n m (lett m (pad (flat ts))) q)).countP (mirrorAt (lett m (pad (flat ts))) (bway n m (lett m (pad (flat ts))) q)) = 0 := List.countP_eq_zero.2 fun j hj => by
        obtain ⟨b, hbm, he⟩ := lett_mem hg _ (blen_in (t := lett m (pad (flat ts))) (List.mem_range.1 hj))
        unfold mirrorAt
        rw [he]
        have h1 := mirr_two (flat ts) hg.lets
        have h2 : (flat ts).countP (fun b => b != 46) = 0 := by omega
        exact List.countP_eq_zero.1 h2 b hbm
      have := twice_none h0
      omega

set_option maxRecDepth 100000 in
set_option maxHeartbeats 1000000 in
theorem draw_any (A : Option Addr) (len cap : Nat) (w : World) (h : CodeAt w A len) (hl : len ≤ 1048576) (hc : len ≤ cap) (hc2 : cap ≤ 9223372036854775807) :
    Calls Try.prog 40 #[.slice A len cap] w fun e w' => Below w.heap.size w w' ∧ ∃ A c ts x, e = .returned (.tuple #[.slice A ts.length c, .int .i64 x]) ∧ LS w' A ts ∧ Drawn 4 4 ts ∧ -100 ≤ x ∧ x ≤ 100 := by
  have HC := hid (l91Port_any A len cap w h hl hc hc2)
  clear h
  go_enter Try.func40, Try.ntmps40
  go_wp2_with fail
  refine HC.out.mono ?_
  rintro e w1 ⟨hb, A1, c1, ts, x, rfl, hst, hd, hx⟩
  have HST := hid hst
  have HD := hid hd
  have HX := hid hx
  have HB := hid hb
  clear hst hd hx hb
  go_wp2_with fail
  refine bodyPost_ret (results_tmp2 rfl _ _ _) rfl ?_
  exact ⟨HB.out, A1, c1, ts, x, rfl, HST.out, HD.out, HX.out⟩

set_option maxRecDepth 100000 in
set_option maxHeartbeats 4000000 in
theorem walk (v : Value) (w : World) (hc : CameB w v) :
    Calls Try.prog 10 #[v] w fun e w' => e = .returned (.bool true) ∧ Below w.heap.size w w' := by
  obtain ⟨A, len, cap, rfl, hcode, hlc, hcap⟩ := hc
  have HCD := hid hcode
  clear hcode
  go_enter Try.func10, Try.ntmps10
  by_cases hbig : 1048576 < len
  · have hbi : (1048576 : Int) < (len : Int) := by omega
    go_wp2_with fail
    go_ret
    exact ⟨rfl, Below.refl _ _⟩
  have hbi : ¬ (1048576 : Int) < (len : Int) := by omega
  have HDR := hid (draw_any A len cap w HCD.out (by omega) hlc hcap)
  have HC1 := hid (HDR.out)
  go_wp2_with fail
  refine HC1.out.mono ?_
  rintro e w1 ⟨hb, A1, c1, ts, x, rfl, hl, hd, hx0, hx1⟩
  have HB1 := hid hb
  have Lts1 := hid hl
  clear hl
  clear hb HC1
  have HSM := hid (hd.small (by decide) (by decide))
  clear hd
  have HC2 := hid (implCrossSelf_any A1 c1 ts x w1 Lts1.out HSM.out.1 HSM.out.2)
  go_wp2_with fail
  refine HC2.out.mono ?_
  rintro e w2 ⟨hb, out, ok, rfl, hout⟩
  have HB2 := hid (HB1.out.trans (hb.mono HB1.out.size))
  clear HB1
  have Lts2 := hid (Lts1.out.step hb)
  clear Lts1
  clear hb HC2
  have HO := hid hout
  clear hout
  have HC3 := hid (specCrossSelf_any A1 c1 w2.heap.size ts x w2 Lts2.out (Nat.le_refl _) HSM.out.1 HSM.out.2)
  go_wp2_with fail
  refine HC3.out.mono ?_
  rintro e w3 ⟨hb, out2, ok2, rfl, hout2⟩
  have HB3 := hid (HB2.out.trans (hb.mono HB2.out.size))
  clear HB2
  have Lts3 := hid (Lts2.out.step hb)
  clear Lts2
  clear hb HC3
  obtain ⟨rfl, rfl⟩ := HO.out.uniq hout2
  clear hout2
  rcases HO.out with ⟨n, m, q, hp, hv⟩ | ⟨_, rfl, rfl⟩
  · obtain ⟨k, z, c, e, hR, e1, e2, p1, e3, e4, hkz, hc⟩ := facts hp
    rw [hR] at hv
    obtain ⟨rfl, rfl⟩ := Prod.mk.inj hv
    clear hv hR
    have HG := hid hp.1
    have hkzi : (k : Int) ≤ (z : Int) := by omega
    have HP := hid hp
    have E1 := hid e1
    have E2 := hid e2
    have P1 := hid p1
    have E3 := hid e3
    have E4 := hid e4
    clear hp e1 e2 p1 e3 e4
    go_wp2_with fail
    refine (nBeamTwice (Lts3.out) HP.out E1.out).mono ?_
    rintro e w4 ⟨hb, rfl⟩
    have HB4 := hid (HB3.out.trans (hb.mono HB3.out.size))
    clear HB3
    have Lts4 := hid (Lts3.out.step hb)
    clear Lts3
    clear hb
    go_wp2_with fail
    refine (nBeamEnd (Lts4.out) HP.out E2.out).mono ?_
    rintro e w5 ⟨hb, rfl⟩
    have HB5 := hid (HB4.out.trans (hb.mono HB4.out.size))
    clear HB4
    have Lts5 := hid (Lts4.out.step hb)
    clear Lts4
    clear hb
    go_wp2_with fail
    refine (nCrossSelf (Lts5.out) P1.out E3.out).mono ?_
    rintro e w6 ⟨hb, rfl⟩
    have HB6 := hid (HB5.out.trans (hb.mono HB5.out.size))
    clear HB5
    have Lts6 := hid (Lts5.out.step hb)
    clear Lts5
    clear hb
    go_wp2_with fail
    refine (nGridCount (Lts6.out) HG.out E4.out).mono ?_
    rintro e w7 ⟨hb, rfl⟩
    have HB7 := hid (HB6.out.trans (hb.mono HB6.out.size))
    clear HB6
    have Lts7 := hid (Lts6.out.step hb)
    clear Lts6
    clear hb
    rcases hc with hc | rfl
    · have hci : (0 : Int) < (c : Int) := by omega
      go_wp2_with fail
      go_ret
      exact ⟨rfl, HB7.out⟩
    · by_cases hc : 0 < c
      · have hci : (0 : Int) < (c : Int) := by omega
        go_wp2_with fail
        go_ret
        exact ⟨rfl, HB7.out⟩
      · have hci : ¬ (0 : Int) < (c : Int) := by omega
        go_wp2_with fail
        go_ret
        exact ⟨rfl, HB7.out⟩
  · skip
    go_wp2_with fail
    go_ret
    exact ⟨rfl, HB3.out⟩

set_option maxRecDepth 100000 in
theorem lifted (os : Os) (started : os.Started) (H : Type) (enc : TypeId × Value → H) :
    ReturnsInHanded {} Try.checked os 10 .any (Rows.fnCrossSelfSpec.pre6 enc Try.prog Try.f10 Rows.fnCrossSelfRow.domain false) (Rows.fnCrossSelfSpec.post enc Try.prog Try.f10 false true false false) := by
  refine returnsInHanded_of_change (C := Try.checked) Try.own started (by kernel_rfl) Try.func10
    (ChangeSpec.witness6 (enc := enc) (C := Try.checked) false ⟨#[], #[.slice none 0 0], []⟩ 8 (by kernel_rfl) (by kernel_rfl) (by kernel_rfl) (by kernel_rfl)) ?_
  intro W base args ds gs before hval0 hW hcnd _
  have hval : ∀ (j : Nat) t v, Try.f10.params[j]? = some t → args[j]? = some v → Value.okWide Try.prog W .any base t v := hval0
  have hW' := hW
  obtain ⟨p, q, hA0, hV, rfl, hfz, hnd⟩ := hW
  have hA : DataW.TrodAll enc Try.prog W 0 (fun _ => true) true Try.f10.params.toList args.toList ds p := hA0
  rw [Try.params10] at hA hval
  obtain ⟨v0, vs0, d0, ds0, p0, q0, hargs, rfl, rfl, h0, r0⟩ := trodAll_cons hA
  obtain ⟨rfl, rfl, rfl⟩ := trodAll_nil r0
  obtain rfl : args = #[v0] := by cases args; simp_all
  obtain ⟨rfl, rfl⟩ := trodVars_none hV
  have k0 := h0
  have lt0 : ∀ x ∈ p0, x.block < W.heap.size := by obtain ⟨m, hm⟩ := k0; exact DataW.trod_lt m _ _ _ hm
  have c0 := cameB_of (hval 0 22 v0 rfl rfl) h0
  clear hA0 hval0
  refine (walk v0 W c0).mono fun e W' ⟨he, bel⟩ => ?_
  subst he
  exact ⟨_, rfl, _, _, _, [], _, [], hW', trodAll_mk1 (shut_bool Try.underlying4 _), (trodAll_cons_mk (Below.trod Try.laidOut (by kernel_rfl) (of_decide_eq_true (by kernel_rfl)) k0 bel lt0) trodAll_mk0), rfl, bel.frame _, fun h => by cases h⟩

theorem closed : joinedFacts Try.pinned.checked.prog 10 Try.f10 Rows.fnCrossSelfSpec Rows.fnCrossSelfRow = true := by
  unfold joinedFacts
  exact and8 (by as_aux_lemma => kernel_rfl) head_enter head_lifts head_make (by as_aux_lemma => kernel_rfl) (by as_aux_lemma => kernel_rfl) (by as_aux_lemma => kernel_rfl) (by as_aux_lemma => kernel_rfl)

theorem proved : Rows.FnCrossSelfSaid :=
  OpenClaim.holds_of_wide 10 Try.f10 rfl rfl rfl rfl rfl rfl rfl ⟨rfl, rfl, rfl, rfl, rfl⟩ rfl rfl rfl rfl rfl (by kernel_rfl) Try.func10 closed
    (of_decide_eq_true (by kernel_rfl)) (by unfold Func.isWrapper; first | (rw [if_pos (by decide +kernel)]; kernel_rfl) | (rw [if_neg (by decide +kernel)]; exact ⟨rfl, rfl⟩))
    (fun os started H enc _ => lifted os started H enc)
#print axioms proved

end Go.Proofs.Ytgapdlokljcpbaa.lawFnCrossSelf
