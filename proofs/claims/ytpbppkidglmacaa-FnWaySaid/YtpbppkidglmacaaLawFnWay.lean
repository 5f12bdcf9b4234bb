/- For every code, the way of the end of the drawn beam is its way backwards, and no cell stands in it more than twice; the program's and the specification's answers are the same: the law FnWay returns true, and its argument reads as it did. No condition. -/
import Derived.Test.YtpbppkidglmacaaPK
import Derived.Test.YtpbppkidglmacaaPKB
import Derived.Test.YtpbppkidglmacaaDrawPort
import Derived.Test.YtpbppkidglmacaaBeamP
namespace Go.Proofs.Ytpbppkidglmacaa.lawFnWay
open Go.ChangeShapes Go.WideShapes Go.ChangeAt Go.RowKit
open Go.ChangeMaps (open_string shut_string)

theorem port_back {n m q : Nat} {ts : List ByteArray} {x : Int} (h : PortIn ts x n m q) : ∃ e : Nat, bend_ n m (lett m (pad (flat ts))) q = e ∧ PortIn ts (e : Int) n m e ∧ bend_ n m (lett m (pad (flat ts))) e = q ∧ blen n m (lett m (pad (flat ts))) e = blen n m (lett m (pad (flat ts))) q ∧ e < 2 * (n + m) ∧ x = (q : Int) := by
  obtain ⟨hg, hx, hq⟩ := h
  have hn := hg.2.1
  have hm := hg.2.2.2.1
  have f1 := bend_facts (t := lett m (pad (flat ts))) hn hm hq
  have f2 := back_facts (t := lett m (pad (flat ts))) hn hm hq
  exact ⟨_, rfl, ⟨hg, rfl, f1.2.1⟩, f2.2, f2.1, f1.2.1, hx⟩

theorem facts {n m q : Nat} {ts : List ByteArray} {x : Int} (h : PortIn ts x n m q) : ∃ (M e : Nat) (l bk : List Int), wayR n m (lett m (pad (flat ts))) q = l ∧ bend_ n m (lett m (pad (flat ts))) q = e ∧ PortIn ts (e : Int) n m e ∧ wayR n m (lett m (pad (flat ts))) e = bk ∧ l.length = M ∧ bk.length = M ∧ 1 ≤ M ∧ M ≤ 100 ∧
    ∀ i, i < M → ∃ v : Int, l[i]? = some v ∧ bk[M - 1 - i]? = some v ∧ l.count v ≤ 2 := by
  obtain ⟨e, e1, p1, _, hb, _, _⟩ := port_back h
  obtain ⟨hg, hx, hq⟩ := h
  have hn := hg.2.1
  have hm := hg.2.2.2.1
  have h25 := hg.le25
  have h2 := blen_two (n := n) (t := lett m (pad (flat ts))) hm hq
  have hp := blen_pos (t := lett m (pad (flat ts))) hn hm hq
  refine ⟨blen n m (lett m (pad (flat ts))) q, e, _, _, rfl, e1, p1, rfl, by unfold wayR; rw [cellsI_length], by unfold wayR; rw [cellsI_length, hb], hp, by omega, fun i hi => ⟨((cellN m (bway n m (lett m (pad (flat ts))) q i) : Nat) : Int), cellsI_at hi, ?_, ?_⟩⟩
  · unfold wayR
    rw [hb, cellsI_at (by omega)]
    have h3 := back_cellN (t := lett m (pad (flat ts))) (j := blen n m (lett m (pad (flat ts))) q - 1 - i) hn hm hq (by omega)
    rw [e1, show blen n m (lett m (pad (flat ts))) q - 1 - (blen n m (lett m (pad (flat ts))) q - 1 - i) = i by omega] at h3
    rw [h3]
  · unfold wayR
    rw [count_cells]
    exact count_le2 hq hm
theorem cnt_take {l : List Int} {k : Nat} {u : Int} (h : l[k]? = some u) (v : Int) : (l.take (k + 1)).count v = (l.take k).count v + (if (u == v) = true then 1 else 0) := by
  obtain ⟨hlt, rfl⟩ := List.getElem?_eq_some_iff.1 h
  rw [List.take_succ_eq_append_getElem hlt, List.count_append]
  simp [List.count_cons]

set_option maxRecDepth 100000 in
set_option maxHeartbeats 1000000 in
theorem draw_any (A : Option Addr) (len cap : Nat) (w : World) (h : CodeAt w A len) (hl : len ≤ 1048576) (hc : len ≤ cap) (hc2 : cap ≤ 9223372036854775807) :
    Calls Try.prog 18 #[.slice A len cap] w fun e w' => Below w.heap.size w w' ∧ ∃ A c ts x, e = .returned (.tuple #[.slice A ts.length c, .int .i64 x]) ∧ LS w' A ts ∧ Drawn 4 4 ts ∧ -100 ≤ x ∧ x ≤ 100 := by
  have HC := hid (l91Port_any A len cap w h hl hc hc2)
  clear h
  go_enter Try.func18, Try.ntmps18
  go_wp2_with fail
  refine HC.out.mono ?_
  rintro e w1 ⟨hb, A1, c1, ts, x, rfl, hst, hd, hx⟩
  have HST := hid hst
  have HD := hid hd
  have HX := hid hx
  have HB := hid hb
  clear hst hd hx hb
  go_wp2_with fail
  refine bodyPost_ret (results_tmp2 rfl _ _ _) rfl ?_
  exact ⟨HB.out, A1, c1, ts, x, rfl, HST.out, HD.out, HX.out⟩

set_option maxRecDepth 100000 in
set_option maxHeartbeats 4000000 in
theorem walk (v : Value) (w : World) (hc : CameB w v) :
    Calls Try.prog 4 #[v] w fun e w' => e = .returned (.bool true) ∧ Below w.heap.size w w' := by
  obtain ⟨A, len, cap, rfl, hcode, hlc, hcap⟩ := hc
  have HCD := hid hcode
  clear hcode
  go_enter Try.func4, Try.ntmps4
  by_cases hbig : 1048576 < len
  · have hbi : (1048576 : Int) < (len : Int) := by omega
    go_wp2_with fail
    go_ret
    exact ⟨rfl, Below.refl _ _⟩
  have hbi : ¬ (1048576 : Int) < (len : Int) := by omega
  have HDR := hid (draw_any A len cap w HCD.out (by omega) hlc hcap)
  have HC1 := hid (HDR.out)
  go_wp2_with fail
  refine HC1.out.mono ?_
  rintro e w1 ⟨hb, A1, c1, ts, x, rfl, hl, hd, hx0, hx1⟩
  have HB1 := hid hb
  have Lts1 := hid hl
  clear hl
  clear hb HC1
  have HSM := hid (hd.small (by decide) (by decide))
  clear hd
  have HC2 := hid ((implBeamWay_any A1 c1 ts x w1 Lts1.out HSM.out.1 HSM.out.2).mono fun _ _ h => lend_own h)
  go_wp2_with fail
  refine HC2.out.mono ?_
  rintro e w2 ⟨hb, A2, c2, out, ok, rfl, hout, hl⟩
  have HB2 := hid (HB1.out.trans (hb.mono HB1.out.size))
  clear HB1
  have Lts2 := hid (Lts1.out.step hb)
  clear Lts1
  have Lout2 := hid hl
  clear hl
  clear hb HC2
  have HO := hid hout
  clear hout
  have HC3 := hid ((specBeamWay_any A1 c1 w2.heap.size ts x w2 Lts2.out (Nat.le_refl _) HSM.out.1 HSM.out.2).mono fun _ _ h => lend_spec h)
  go_wp2_with fail
  refine HC3.out.mono ?_
  rintro e w3 ⟨hb, A3, c3, out2, ok2, rfl, hout2, hl⟩
  have HB3 := hid (HB2.out.trans (hb.mono HB2.out.size))
  clear HB2
  have Lts3 := hid (Lts2.out.step hb)
  clear Lts2
  have Lout3 := hid (Lout2.out.step hb)
  clear Lout2
  have Lwant3 := hid hl
  clear hl
  clear hb HC3
  obtain ⟨rfl, rfl⟩ := HO.out.uniq hout2
  clear hout2
  rcases HO.out with ⟨n, m, q, hp, rfl, _, rfl⟩ | ⟨_, rfl, rfl⟩
  · obtain ⟨M, e, l, bk, e0, e1, p1, e2, hlM, hbM, hM1, hM9, hF⟩ := facts hp
    rw [e0] at Lout3 Lwant3 ⊢
    obtain ⟨gb, oo, rfl⟩ := Lout3.out.addr (by omega)
    have hli : ((l.length : Nat) : Int) = (M : Int) := by omega
    have hbi : ((bk.length : Nat) : Int) = (M : Int) := by omega
    have HLM := hid hlM
    have HBM := hid hbM
    clear e0 hlM hbM
    have HP := hid hp
    have E1 := hid e1
    have P1 := hid p1
    have E2 := hid e2
    have HF := hid hF
    clear hp e1 p1 e2 hF
    go_wp2_with fail
    refine (nSameI (Lout3.out) (Lwant3.out) (by have := HLM.out; omega)).mono ?_
    rintro e w4 ⟨hb, rfl⟩
    have HB4 := hid (HB3.out.trans (hb.mono HB3.out.size))
    clear HB3
    have Lts4 := hid (Lts3.out.step hb)
    clear Lts3
    have Lout4 := hid (Lout3.out.step hb)
    clear Lout3
    have Lwant4 := hid (Lwant3.out.step hb)
    clear Lwant3
    clear hb
    clear Lwant4
    go_wp2_with fail
    refine (nBeamEnd (Lts4.out) HP.out E1.out).mono ?_
    rintro e w5 ⟨hb, rfl⟩
    have HB5 := hid (HB4.out.trans (hb.mono HB4.out.size))
    clear HB4
    have Lts5 := hid (Lts4.out.step hb)
    clear Lts4
    have Lout5 := hid (Lout4.out.step hb)
    clear Lout4
    clear hb
    go_wp2_with fail
    refine (nBeamWay (Lts5.out) P1.out E2.out).mono ?_
    rintro e w6 ⟨hb, A6, c6, rfl, hls⟩
    have HB6 := hid (HB5.out.trans (hb.mono HB5.out.size))
    clear HB5
    have Lts6 := hid (Lts5.out.step hb)
    clear Lts5
    have Lout6 := hid (Lout5.out.step hb)
    clear Lout5
    have Lbk6 := hid hls
    clear hls
    clear hb
    obtain ⟨gk, ok, rfl⟩ := Lbk6.out.addr (by have := HBM.out; omega)
    go_wp2_with fail
    go_loopw [13] (fun (iv : Value) (wr : World) => ∃ i : Nat, i ≤ M ∧ iv = .int .i64 i ∧ ∃ d, wr = w6.drewN d) (fun iv _ => M - (intOf iv).toNat)
    case atStart => exact ⟨0, by omega, rfl, 0, rfl⟩
    case round =>
      obtain ⟨i, hi, rfl, d, rfl⟩ := hrel
      by_cases hlt : i < M
      · obtain ⟨v, hv1, hv2, hv3⟩ := HF.out i hlt
        have hcv := Lout6.out.cellk hv1
        have hcb := Lbk6.out.cellk hv2
        obtain ⟨j, hj⟩ : ∃ j, M - 1 - i = j := ⟨_, rfl⟩
        rw [hj] at hcb
        have hii : (i : Int) < (M : Int) := by omega
        have hil : i < l.length := by rw [HLM.out]; exact hlt
        have hjl : j < bk.length := by rw [HBM.out]; omega
        have hi0 : (0 : Int) ≤ (i : Int) := by omega
        have HV3 := hid hv3
        have HJ := hid hj
        clear hv1 hv2 hv3 hj
        go_wp2_with fail
        go_loopw [14, 15] (fun (nv kv : Value) (wr2 : World) => ∃ k : Nat, k ≤ M ∧ kv = .int .i64 k ∧ nv = .int .i64 (((l.take k).count v : Nat) : Int) ∧ ∃ d, wr2 = w6.drewN d) (fun _ kv _ => M - (intOf kv).toNat)
        case atStart => exact ⟨0, by omega, rfl, rfl, _, rfl⟩
        case round =>
          obtain ⟨k, hk, rfl, rfl, d2, rfl⟩ := hrel
          have hcnt := List.count_le_length (l := l.take k) (a := v)
          rw [List.length_take] at hcnt
          have hcn : (l.take k).count v ≤ 100 := by omega
          clear hcnt
          by_cases hlk : k < M
          · obtain ⟨u, hu⟩ : ∃ u, l[k]? = some u := ⟨_, List.getElem?_eq_getElem (by rw [HLM.out]; exact hlk)⟩
            have hcu := Lout6.out.cellk hu
            have hct := hid (cnt_take hu v)
            have hki : (k : Int) < (M : Int) := by omega
            have hkl : k < l.length := by rw [HLM.out]; exact hlk
            have hk0 : (0 : Int) ≤ (k : Int) := by omega
            obtain ⟨c, hc⟩ : ∃ c, (l.take k).count v = c := ⟨_, rfl⟩
            rw [hc] at hcn hct ⊢
            clear hu hc hcb
            by_cases huv : u = v
            · subst huv
              go_wp2_with fail
              go_quiet (fail)
              go_wp2_with fail
              go_roundw
              case rel => exact ⟨k + 1, by omega, by go_num, by rw [hct.out]; simp, _, rfl⟩
              case measure => simp [intOf]; omega
            · have huv2 : (u == v) = false := by rw [beq_eq_false_iff_ne]; exact huv
              go_wp2_with fail
              go_quiet (fail)
              go_wp2_with fail
              go_roundw
              case rel => exact ⟨k + 1, by omega, by go_num, by rw [hct.out, huv2]; simp, _, rfl⟩
              case measure => simp [intOf]; omega
          · obtain rfl : k = M := by omega
            have hc2 : (l.take k).count v ≤ 2 := by rw [List.take_of_length_le (by rw [HLM.out]; exact Nat.le_refl _)]; exact HV3.out
            obtain ⟨c, hc⟩ : ∃ c, (l.take k).count v = c := ⟨_, rfl⟩
            rw [hc] at hc2 ⊢
            have hc2i : decide ((2 : Int) < (c : Int)) = false := by simp; omega
            have hji : (k : Int) - 1 - (i : Int) = (j : Int) := by have := HJ.out; omega
            have hw1 : IntKind.i64.wrap ((k : Int) - 1) = (k : Int) - 1 := IntWalk.i64_in _ (by omega)
            have hw2 : IntKind.i64.wrap ((k : Int) - 1 - (i : Int)) = (j : Int) := by rw [hji]; exact IntWalk.i64_in _ (by omega)
            have hj0 : (0 : Int) ≤ (j : Int) := by omega
            have hjk : (j : Int) < (k : Int) := by omega
            have hvv : (v != v) = false := by simp
            clear hc hji
            go_wp2_with fail
            go_quiet (fail)
            go_wp2_with fail
            go_roundw
            case rel => exact ⟨i + 1, by omega, by go_num, _, rfl⟩
            case measure => simp [intOf]; omega
      · obtain rfl : i = M := by omega
        have HB9 := hid (below_drewN' HB6.out d)
        go_wp2_with fail
        go_ret
        exact ⟨rfl, HB9.out⟩
  · skip
    go_wp2_with fail
    refine (nSameI (Lout3.out) (Lwant3.out) (by simp)).mono ?_
    rintro e w4 ⟨hb, rfl⟩
    have HB4 := hid (HB3.out.trans (hb.mono HB3.out.size))
    clear HB3
    have Lts4 := hid (Lts3.out.step hb)
    clear Lts3
    have Lout4 := hid (Lout3.out.step hb)
    clear Lout3
    have Lwant4 := hid (Lwant3.out.step hb)
    clear Lwant3
    clear hb
    go_wp2_with fail
    refine (nSameI (Lout4.out) (Lwant4.out) (by simp)).mono ?_
    rintro e w5 ⟨hb, rfl⟩
    have HB5 := hid (HB4.out.trans (hb.mono HB4.out.size))
    clear HB4
    have Lts5 := hid (Lts4.out.step hb)
    clear Lts4
    have Lout5 := hid (Lout4.out.step hb)
    clear Lout4
    have Lwant5 := hid (Lwant4.out.step hb)
    clear Lwant4
    clear hb
    go_wp2_with fail
    go_ret
    exact ⟨rfl, HB5.out⟩

set_option maxRecDepth 100000 in
theorem lifted (os : Os) (started : os.Started) (H : Type) (enc : TypeId × Value → H) :
    ReturnsInHanded {} Try.checked os 4 .any (Rows.fnWaySpec.pre6 enc Try.prog Try.f4 Rows.fnWayRow.domain false) (Rows.fnWaySpec.post enc Try.prog Try.f4 false true false false) := by
  refine returnsInHanded_of_change (C := Try.checked) Try.own started (by kernel_rfl) Try.func4
    (ChangeSpec.witness6 (enc := enc) (C := Try.checked) false ⟨#[], #[.slice none 0 0], []⟩ 8 (by kernel_rfl) (by kernel_rfl) (by kernel_rfl) (by kernel_rfl)) ?_
  intro W base args ds gs before hval0 hW hcnd _
  have hval : ∀ (j : Nat) t v, Try.f4.params[j]? = some t → args[j]? = some v → Value.okWide Try.prog W .any base t v := hval0
  have hW' := hW
  obtain ⟨p, q, hA0, hV, rfl, hfz, hnd⟩ := hW
  have hA : DataW.TrodAll enc Try.prog W 0 (fun _ => true) true Try.f4.params.toList args.toList ds p := hA0
  rw [Try.params4] at hA hval
  obtain ⟨v0, vs0, d0, ds0, p0, q0, hargs, rfl, rfl, h0, r0⟩ := trodAll_cons hA
  obtain ⟨rfl, rfl, rfl⟩ := trodAll_nil r0
  obtain rfl : args = #[v0] := by cases args; simp_all
  obtain ⟨rfl, rfl⟩ := trodVars_none hV
  have k0 := h0
  have lt0 : ∀ x ∈ p0, x.block < W.heap.size := by obtain ⟨m, hm⟩ := k0; exact DataW.trod_lt m _ _ _ hm
  have c0 := cameB_of (hval 0 22 v0 rfl rfl) h0
  clear hA0 hval0
  refine (walk v0 W c0).mono fun e W' ⟨he, bel⟩ => ?_
  subst he
  exact ⟨_, rfl, _, _, _, [], _, [], hW', trodAll_mk1 (shut_bool Try.underlying4 _), (trodAll_cons_mk (Below.trod Try.laidOut (by kernel_rfl) (of_decide_eq_true (by kernel_rfl)) k0 bel lt0) trodAll_mk0), rfl, bel.frame _, fun h => by cases h⟩

theorem closed : joinedFacts Try.pinned.checked.prog 4 Try.f4 Rows.fnWaySpec Rows.fnWayRow = true := by
  unfold joinedFacts
  exact and8 (by as_aux_lemma => kernel_rfl) head_enter head_lifts head_make (by as_aux_lemma => kernel_rfl) (by as_aux_lemma => kernel_rfl) (by as_aux_lemma => kernel_rfl) (by as_aux_lemma => kernel_rfl)

theorem proved : Rows.FnWaySaid :=
  OpenClaim.holds_of_wide 4 Try.f4 rfl rfl rfl rfl rfl rfl rfl ⟨rfl, rfl, rfl, rfl, rfl⟩ rfl rfl rfl rfl rfl (by kernel_rfl) Try.func4 closed
    (of_decide_eq_true (by kernel_rfl)) (by unfold Func.isWrapper; first | (rw [if_pos (by decide +kernel)]; kernel_rfl) | (rw [if_neg (by decide +kernel)]; exact ⟨rfl, rfl⟩))
    (fun os started H enc _ => lifted os started H enc)
#print axioms proved

end Go.Proofs.Ytpbppkidglmacaa.lawFnWay
