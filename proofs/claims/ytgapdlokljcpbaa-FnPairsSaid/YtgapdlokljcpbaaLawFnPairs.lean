/- For every code, the pairs of the drawn grid are a pairing, of each port with its beam's end; the program's and the specification's answers are the same: the law FnPairs returns true, and its argument reads as it did. No condition. -/
import Derived.Test.YtgapdlokljcpbaaPKR
import Derived.Test.YtgapdlokljcpbaaBunI
import Derived.Test.YtgapdlokljcpbaaBunV
import Derived.Test.YtgapdlokljcpbaaBunP
import Derived.Test.YtgapdlokljcpbaaBunB
import Derived.Test.YtgapdlokljcpbaaBunO
namespace Go.Proofs.Ytgapdlokljcpbaa.lawFnPairs
open Go.ChangeShapes Go.WideShapes Go.ChangeAt Go.RowKit
open Go.ChangeMaps (open_string shut_string)

theorem facts {n m : Nat} {ts : List ByteArray} (hg : IsGrid n m ts) : ∃ (N : Nat) (l : List Int), pairsR n m (lett m (pad (flat ts))) = l ∧ l.length = N ∧ (2 : Int) * ((n : Int) + (m : Int)) = (N : Int) ∧ N ≤ 20 ∧ 4 ≤ N ∧ isPairB l = true ∧
    ∀ i, i < N → ∃ e : Nat, PortIn ts (i : Int) n m i ∧ bend_ n m (lett m (pad (flat ts))) i = e ∧ l[i]? = some (e : Int) := by
  have hn := hg.2.1
  have hm := hg.2.2.2.1
  have hn5 := hg.2.2.1
  have hm5 := hg.2.2.2.2.1
  have hp : IsPair (pairsR n m (lett m (pad (flat ts)))) := by
    have hl := pairsR_length n m (lett m (pad (flat ts)))
    refine ⟨by omega, by omega, fun p hpl => ?_⟩
    rw [hl] at hpl
    have f1 := bend_facts (t := lett m (pad (flat ts))) hn hm hpl
    have f2 := back_facts (t := lett m (pad (flat ts))) hn hm hpl
    refine ⟨bend_ n m (lett m (pad (flat ts))) p, by rw [hl]; exact f1.2.1, fun e => ?_, pairsR_at hpl, ?_⟩
    · have h0 := blen_pos (t := lett m (pad (flat ts))) hn hm hpl
      have f3 := f1.2.2
      rw [e] at f3
      exact bway_ne_rev (n := n) (m := m) (t := lett m (pad (flat ts))) (p := p) 0 (blen n m (lett m (pad (flat ts))) p - 1) (by omega) (by omega) f3
    · rw [pairsR_at f1.2.1, f2.2]
  exact ⟨2 * (n + m), _, rfl, pairsR_length _ _ _, by omega, by omega, by omega, isPairB_true hp, fun i hi => ⟨_, ⟨hg, rfl, hi⟩, rfl, pairsR_at hi⟩⟩

set_option maxRecDepth 100000 in
set_option maxHeartbeats 1000000 in
theorem draw_any (A : Option Addr) (len cap : Nat) (w : World) (h : CodeAt w A len) (hl : len ≤ 1048576) (hc : len ≤ cap) (hc2 : cap ≤ 9223372036854775807) :
    Calls Try.prog 26 #[.slice A len cap] w fun e w' => Below w.heap.size w w' ∧ ∃ A c ts, e = .returned (.slice A ts.length c) ∧ LS w' A ts ∧ Drawn 4 4 ts := by
  have HC := hid (l91One_any A len cap w h hl hc hc2)
  clear h
  go_enter Try.func26, Try.ntmps26
  go_wp2_with fail
  refine HC.out.mono ?_
  rintro e w1 ⟨⟨A1, c1, ts, rfl, hst, hd⟩, hb⟩
  have HST := hid hst
  have HD := hid hd
  have HB := hid hb
  clear hst hd hb
  go_wp2_with fail
  go_ret
  exact ⟨HB.out, A1, c1, ts, rfl, HST.out, HD.out⟩

set_option maxRecDepth 100000 in
set_option maxHeartbeats 4000000 in
theorem walk (v : Value) (w : World) (hc : CameB w v) :
    Calls Try.prog 6 #[v] w fun e w' => e = .returned (.bool true) ∧ Below w.heap.size w w' := by
  obtain ⟨A, len, cap, rfl, hcode, hlc, hcap⟩ := hc
  have HCD := hid hcode
  clear hcode
  go_enter Try.func6, Try.ntmps6
  by_cases hbig : 1048576 < len
  · have hbi : (1048576 : Int) < (len : Int) := by omega
    go_wp2_with fail
    go_ret
    exact ⟨rfl, Below.refl _ _⟩
  have hbi : ¬ (1048576 : Int) < (len : Int) := by omega
  have HDR := hid (draw_any A len cap w HCD.out (by omega) hlc hcap)
  have HC1 := hid (HDR.out)
  go_wp2_with fail
  refine HC1.out.mono ?_
  rintro e w1 ⟨hb, A1, c1, ts, rfl, hl, hd⟩
  have HB1 := hid hb
  have Lts1 := hid hl
  clear hl
  clear hb HC1
  have HSM := hid (hd.small (by decide) (by decide))
  clear hd
  have HC2 := hid ((implBeamPairs_any A1 c1 ts w1 Lts1.out HSM.out.1 HSM.out.2).mono fun _ _ h => lend_own h)
  go_wp2_with fail
  refine HC2.out.mono ?_
  rintro e w2 ⟨hb, A2, c2, out, ok, rfl, hout, hl⟩
  have HB2 := hid (HB1.out.trans (hb.mono HB1.out.size))
  clear HB1
  have Lts2 := hid (Lts1.out.step hb)
  clear Lts1
  have Lout2 := hid hl
  clear hl
  clear hb HC2
  have HO := hid hout
  clear hout
  have HC3 := hid ((specBeamPairs_any A1 c1 w2.heap.size ts w2 Lts2.out (Nat.le_refl _) HSM.out.1 HSM.out.2).mono fun _ _ h => lend_spec h)
  go_wp2_with fail
  refine HC3.out.mono ?_
  rintro e w3 ⟨hb, A3, c3, out2, ok2, rfl, hout2, hl⟩
  have HB3 := hid (HB2.out.trans (hb.mono HB2.out.size))
  clear HB2
  have Lts3 := hid (Lts2.out.step hb)
  clear Lts2
  have Lout3 := hid (Lout2.out.step hb)
  clear Lout2
  have Lwant3 := hid hl
  clear hl
  clear hb HC3
  obtain ⟨rfl, rfl⟩ := HO.out.uniq hout2
  clear hout2
  rcases HO.out with ⟨n, m, hg, rfl, rfl⟩ | ⟨_, rfl, rfl⟩
  · obtain ⟨N, l, e0, hlN, hN, hN20, hN4, hb, hF⟩ := facts hg
    rw [e0] at Lout3 Lwant3 ⊢
    obtain ⟨gb, oo, rfl⟩ := Lout3.out.addr (by omega)
    have hli : ((l.length : Nat) : Int) = (N : Int) := by omega
    have HLN := hid hlN
    clear e0 hlN
    obtain ⟨b0, o0, s0, rfl, hk0, hs0, hl0⟩ := Lts3.out.addr hg
    have hn : ((ts.length : Nat) : Int) = (n : Int) := by rw [(hg).1]
    have hn0 : 0 < n := (hg).2.1
    have hn5 := (hg).2.2.1
    have hm1 := (hg).2.2.2.1
    have hm5 := (hg).2.2.2.2.1
    have HK0 := hid hk0
    clear hk0
    have HG := hid hg
    have HB := hid hb
    have HF := hid hF
    clear hg hb hF
    go_wp2_with fail
    refine (nSameI (Lout3.out) (Lwant3.out) (by have := HLN.out; omega)).mono ?_
    rintro e w4 ⟨hb, rfl⟩
    have HB4 := hid (HB3.out.trans (hb.mono HB3.out.size))
    clear HB3
    have Lts4 := hid (Lts3.out.step hb)
    clear Lts3
    have Lout4 := hid (Lout3.out.step hb)
    clear Lout3
    have Lwant4 := hid (Lwant3.out.step hb)
    clear Lwant3
    clear hb
    clear Lwant4
    go_wp2_with fail
    go_loopw [8] (fun (iv : Value) (wr : World) => ∃ k : Nat, k ≤ N ∧ iv = .int .i64 k ∧ Below w.heap.size w wr ∧ LS wr (some ⟨b0, o0, none⟩) ts ∧ LI wr (some ⟨gb, oo, none⟩) l) (fun iv _ => N - (intOf iv).toNat)
    case atStart => exact ⟨0, by omega, rfl, HB4.out, Lts4.out, Lout4.out⟩
    case round =>
      obtain ⟨k, hk, rfl, hbr, hlr, hir⟩ := hrel
      have HBR := hid hbr
      have HLR := hid hlr
      have HIR := hid hir
      clear hbr hlr hir
      by_cases hlt : k < N
      · obtain ⟨e, f1, f2, f3⟩ := HF.out k hlt
        have F1 := hid f1
        have F2 := hid f2
        have hki : (k : Int) < (N : Int) := by omega
        have hkl : k < l.length := by rw [HLN.out]; exact hlt
        have F3 := hid f3
        clear f1 f2 f3
        go_wp2_with fail
        refine (nBeamEnd HLR.out F1.out F2.out).mono ?_
        rintro e2 w9 ⟨hb, rfl⟩
        have HB9 := hid (HBR.out.trans (hb.mono HBR.out.size))
        have HL9 := hid (HLR.out.step hb)
        have HI9 := hid (HIR.out.step hb)
        have hce := HI9.out.cellk F3.out
        clear hb
        go_wp2_with fail
        go_roundw
        case rel => exact ⟨k + 1, by omega, by go_num, HB9.out, HL9.out, HI9.out⟩
        case measure => simp [intOf]; omega
      · obtain rfl : k = N := by omega
        go_wp2_with fail
        refine (nCrossIn (HIR.out) (by have := HLN.out; omega) HB.out).mono ?_
        rintro e w5 ⟨hb, rfl⟩
        have HB5 := hid (HBR.out.trans (hb.mono HBR.out.size))
        clear HBR
        have Lts5 := hid (HLR.out.step hb)
        clear HLR
        have Lout5 := hid (HIR.out.step hb)
        clear HIR
        clear hb
        have c0 := Lts5.out.cell0 HK0.out
        go_wp2_with fail
        go_ret
        exact ⟨rfl, HB5.out⟩
  · skip
    go_wp2_with fail
    refine (nSameI (Lout3.out) (Lwant3.out) (by simp)).mono ?_
    rintro e w4 ⟨hb, rfl⟩
    have HB4 := hid (HB3.out.trans (hb.mono HB3.out.size))
    clear HB3
    have Lts4 := hid (Lts3.out.step hb)
    clear Lts3
    have Lout4 := hid (Lout3.out.step hb)
    clear Lout3
    have Lwant4 := hid (Lwant3.out.step hb)
    clear Lwant3
    clear hb
    go_wp2_with fail
    refine (nSameI (Lout4.out) (Lwant4.out) (by simp)).mono ?_
    rintro e w5 ⟨hb, rfl⟩
    have HB5 := hid (HB4.out.trans (hb.mono HB4.out.size))
    clear HB4
    have Lts5 := hid (Lts4.out.step hb)
    clear Lts4
    have Lout5 := hid (Lout4.out.step hb)
    clear Lout4
    have Lwant5 := hid (Lwant4.out.step hb)
    clear Lwant4
    clear hb
    go_wp2_with fail
    go_ret
    exact ⟨rfl, HB5.out⟩

set_option maxRecDepth 100000 in
theorem lifted (os : Os) (started : os.Started) (H : Type) (enc : TypeId × Value → H) :
    ReturnsInHanded {} Try.checked os 6 .any (Rows.fnPairsSpec.pre6 enc Try.prog Try.f6 Rows.fnPairsRow.domain false) (Rows.fnPairsSpec.post enc Try.prog Try.f6 false true false false) := by
  refine returnsInHanded_of_change (C := Try.checked) Try.own started (by kernel_rfl) Try.func6
    (ChangeSpec.witness6 (enc := enc) (C := Try.checked) false ⟨#[], #[.slice none 0 0], []⟩ 8 (by kernel_rfl) (by kernel_rfl) (by kernel_rfl) (by kernel_rfl)) ?_
  intro W base args ds gs before hval0 hW hcnd _
  have hval : ∀ (j : Nat) t v, Try.f6.params[j]? = some t → args[j]? = some v → Value.okWide Try.prog W .any base t v := hval0
  have hW' := hW
  obtain ⟨p, q, hA0, hV, rfl, hfz, hnd⟩ := hW
  have hA : DataW.TrodAll enc Try.prog W 0 (fun _ => true) true Try.f6.params.toList args.toList ds p := hA0
  rw [Try.params6] at hA hval
  obtain ⟨v0, vs0, d0, ds0, p0, q0, hargs, rfl, rfl, h0, r0⟩ := trodAll_cons hA
  obtain ⟨rfl, rfl, rfl⟩ := trodAll_nil r0
  obtain rfl : args = #[v0] := by cases args; simp_all
  obtain ⟨rfl, rfl⟩ := trodVars_none hV
  have k0 := h0
  have lt0 : ∀ x ∈ p0, x.block < W.heap.size := by obtain ⟨m, hm⟩ := k0; exact DataW.trod_lt m _ _ _ hm
  have c0 := cameB_of (hval 0 22 v0 rfl rfl) h0
  clear hA0 hval0
  refine (walk v0 W c0).mono fun e W' ⟨he, bel⟩ => ?_
  subst he
  exact ⟨_, rfl, _, _, _, [], _, [], hW', trodAll_mk1 (shut_bool Try.underlying4 _), (trodAll_cons_mk (Below.trod Try.laidOut (by kernel_rfl) (of_decide_eq_true (by kernel_rfl)) k0 bel lt0) trodAll_mk0), rfl, bel.frame _, fun h => by cases h⟩

theorem closed : joinedFacts Try.pinned.checked.prog 6 Try.f6 Rows.fnPairsSpec Rows.fnPairsRow = true := by
  unfold joinedFacts
  exact and8 (by as_aux_lemma => kernel_rfl) head_enter head_lifts head_make (by as_aux_lemma => kernel_rfl) (by as_aux_lemma => kernel_rfl) (by as_aux_lemma => kernel_rfl) (by as_aux_lemma => kernel_rfl)

theorem proved : Rows.FnPairsSaid :=
  OpenClaim.holds_of_wide 6 Try.f6 rfl rfl rfl rfl rfl rfl rfl ⟨rfl, rfl, rfl, rfl, rfl⟩ rfl rfl rfl rfl rfl (by kernel_rfl) Try.func6 closed
    (of_decide_eq_true (by kernel_rfl)) (by unfold Func.isWrapper; first | (rw [if_pos (by decide +kernel)]; kernel_rfl) | (rw [if_neg (by decide +kernel)]; exact ⟨rfl, rfl⟩))
    (fun os started H enc _ => lifted os started H enc)
#print axioms proved

end Go.Proofs.Ytgapdlokljcpbaa.lawFnPairs
