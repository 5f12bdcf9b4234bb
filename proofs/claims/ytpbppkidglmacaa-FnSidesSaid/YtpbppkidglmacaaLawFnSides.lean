/- For every code, the sides of the drawn beam add up to those of its end, and none is negative; the program's and the specification's answers are the same: the law FnSides returns true, and its argument reads as it did. No condition. -/
import Derived.Test.YtpbppkidglmacaaPK
import Derived.Test.YtpbppkidglmacaaPKB
import Derived.Test.YtpbppkidglmacaaDrawPort
import Derived.Test.YtpbppkidglmacaaBeamP
namespace Go.Proofs.Ytpbppkidglmacaa.lawFnSides
open Go.ChangeShapes Go.WideShapes Go.ChangeAt Go.RowKit
open Go.ChangeMaps (open_string shut_string)

theorem port_back {n m q : Nat} {ts : List ByteArray} {x : Int} (h : PortIn ts x n m q) : ∃ e : Nat, bend_ n m (lett m (pad (flat ts))) q = e ∧ PortIn ts (e : Int) n m e ∧ bend_ n m (lett m (pad (flat ts))) e = q ∧ blen n m (lett m (pad (flat ts))) e = blen n m (lett m (pad (flat ts))) q ∧ e < 2 * (n + m) ∧ x = (q : Int) := by
  obtain ⟨hg, hx, hq⟩ := h
  have hn := hg.2.1
  have hm := hg.2.2.2.1
  have f1 := bend_facts (t := lett m (pad (flat ts))) hn hm hq
  have f2 := back_facts (t := lett m (pad (flat ts))) hn hm hq
  exact ⟨_, rfl, ⟨hg, rfl, f1.2.1⟩, f2.2, f2.1, f1.2.1, hx⟩

theorem facts {n m q : Nat} {ts : List ByteArray} {x : Int} (h : PortIn ts x n m q) : ∃ (M e : Nat) (s xs : List Int), sidesR n m (lett m (pad (flat ts))) q = s ∧ bend_ n m (lett m (pad (flat ts))) q = e ∧ PortIn ts (e : Int) n m e ∧ sidesR n m (lett m (pad (flat ts))) e = xs ∧ s.sum = (M : Int) ∧ xs.sum = (M : Int) ∧ s.length = 4 ∧ xs.length ≤ 1000 ∧
    (∀ y ∈ s, -1000 ≤ y ∧ y ≤ 1000) ∧ (∀ y ∈ xs, -1000 ≤ y ∧ y ≤ 1000) ∧ ∀ y ∈ s, 0 ≤ y := by
  obtain ⟨e, e1, p1, _, hb, _, _⟩ := port_back h
  obtain ⟨hg, hx, hq⟩ := h
  have hm := hg.2.2.2.1
  have h25 := hg.le25
  have h2 := blen_two (n := n) (t := lett m (pad (flat ts))) hm hq
  refine ⟨_, e, _, _, rfl, e1, p1, rfl, sides_sum q, by rw [sides_sum, hb], sides_four q, by rw [sides_four]; omega, fun y hy => by have := sides_mem hy; omega, fun y hy => by have := sides_mem hy; rw [hb] at this; omega, fun y hy => (sides_mem hy).1⟩

set_option maxRecDepth 100000 in
set_option maxHeartbeats 1000000 in
theorem draw_any (A : Option Addr) (len cap : Nat) (w : World) (h : CodeAt w A len) (hl : len ≤ 1048576) (hc : len ≤ cap) (hc2 : cap ≤ 9223372036854775807) :
    Calls Try.prog 33 #[.slice A len cap] w fun e w' => Below w.heap.size w w' ∧ ∃ A c ts x, e = .returned (.tuple #[.slice A ts.length c, .int .i64 x]) ∧ LS w' A ts ∧ Drawn 4 4 ts ∧ -100 ≤ x ∧ x ≤ 100 := by
  have HC := hid (l91Port_any A len cap w h hl hc hc2)
  clear h
  go_enter Try.func33, Try.ntmps33
  go_wp2_with fail
  refine HC.out.mono ?_
  rintro e w1 ⟨hb, A1, c1, ts, x, rfl, hst, hd, hx⟩
  have HST := hid hst
  have HD := hid hd
  have HX := hid hx
  have HB := hid hb
  clear hst hd hx hb
  go_wp2_with fail
  refine bodyPost_ret (results_tmp2 rfl _ _ _) rfl ?_
  exact ⟨HB.out, A1, c1, ts, x, rfl, HST.out, HD.out, HX.out⟩

set_option maxRecDepth 100000 in
set_option maxHeartbeats 4000000 in
theorem walk (v : Value) (w : World) (hc : CameB w v) :
    Calls Try.prog 8 #[v] w fun e w' => e = .returned (.bool true) ∧ Below w.heap.size w w' := by
  obtain ⟨A, len, cap, rfl, hcode, hlc, hcap⟩ := hc
  have HCD := hid hcode
  clear hcode
  go_enter Try.func8, Try.ntmps8
  by_cases hbig : 1048576 < len
  · have hbi : (1048576 : Int) < (len : Int) := by omega
    go_wp2_with fail
    go_ret
    exact ⟨rfl, Below.refl _ _⟩
  have hbi : ¬ (1048576 : Int) < (len : Int) := by omega
  have HDR := hid (draw_any A len cap w HCD.out (by omega) hlc hcap)
  have HC1 := hid (HDR.out)
  go_wp2_with fail
  refine HC1.out.mono ?_
  rintro e w1 ⟨hb, A1, c1, ts, x, rfl, hl, hd, hx0, hx1⟩
  have HB1 := hid hb
  have Lts1 := hid hl
  clear hl
  clear hb HC1
  have HSM := hid (hd.small (by decide) (by decide))
  clear hd
  have HC2 := hid ((implBeamSides_any A1 c1 ts x w1 Lts1.out HSM.out.1 HSM.out.2).mono fun _ _ h => lend_own h)
  go_wp2_with fail
  refine HC2.out.mono ?_
  rintro e w2 ⟨hb, A2, c2, out, ok, rfl, hout, hl⟩
  have HB2 := hid (HB1.out.trans (hb.mono HB1.out.size))
  clear HB1
  have Lts2 := hid (Lts1.out.step hb)
  clear Lts1
  have Lout2 := hid hl
  clear hl
  clear hb HC2
  have HO := hid hout
  clear hout
  have HC3 := hid ((specBeamSides_any A1 c1 w2.heap.size ts x w2 Lts2.out (Nat.le_refl _) HSM.out.1 HSM.out.2).mono fun _ _ h => lend_spec h)
  go_wp2_with fail
  refine HC3.out.mono ?_
  rintro e w3 ⟨hb, A3, c3, out2, ok2, rfl, hout2, hl⟩
  have HB3 := hid (HB2.out.trans (hb.mono HB2.out.size))
  clear HB2
  have Lts3 := hid (Lts2.out.step hb)
  clear Lts2
  have Lout3 := hid (Lout2.out.step hb)
  clear Lout2
  have Lwant3 := hid hl
  clear hl
  clear hb HC3
  obtain ⟨rfl, rfl⟩ := HO.out.uniq hout2
  clear hout2
  rcases HO.out with ⟨n, m, q, hp, rfl, _, rfl⟩ | ⟨_, rfl, rfl⟩
  · obtain ⟨M, e, s, xs, e0, e1, p1, e2, e3, e4, hs4, h4, h5, h6, h7⟩ := facts hp
    rw [e0] at Lout3 Lwant3 ⊢
    obtain ⟨gb, oo, rfl⟩ := Lout3.out.addr (by omega)
    have hli : ((s.length : Nat) : Int) = 4 := by omega
    have hs9 : s.length ≤ 1000 := by omega
    have HS4 := hid hs4
    clear e0 hs4
    have HP := hid hp
    have E1 := hid e1
    have P1 := hid p1
    have E2 := hid e2
    have E3 := hid e3
    have E4 := hid e4
    have H4 := hid h4
    have H5 := hid h5
    have H6 := hid h6
    have H7 := hid h7
    have HS9 := hid hs9
    clear hp e1 p1 e2 e3 e4 h4 h5 h6 h7 hs9
    go_wp2_with fail
    refine (nSameI (Lout3.out) (Lwant3.out) (by have := HS9.out; omega)).mono ?_
    rintro e w4 ⟨hb, rfl⟩
    have HB4 := hid (HB3.out.trans (hb.mono HB3.out.size))
    clear HB3
    have Lts4 := hid (Lts3.out.step hb)
    clear Lts3
    have Lout4 := hid (Lout3.out.step hb)
    clear Lout3
    have Lwant4 := hid (Lwant3.out.step hb)
    clear Lwant3
    clear hb
    clear Lwant4
    go_wp2_with fail
    refine (nBeamEnd (Lts4.out) HP.out E1.out).mono ?_
    rintro e w5 ⟨hb, rfl⟩
    have HB5 := hid (HB4.out.trans (hb.mono HB4.out.size))
    clear HB4
    have Lts5 := hid (Lts4.out.step hb)
    clear Lts4
    have Lout5 := hid (Lout4.out.step hb)
    clear Lout4
    clear hb
    go_wp2_with fail
    refine (nBeamSides (Lts5.out) P1.out E2.out).mono ?_
    rintro e w6 ⟨hb, A6, c6, rfl, hls⟩
    have HB6 := hid (HB5.out.trans (hb.mono HB5.out.size))
    clear HB5
    have Lts6 := hid (Lts5.out.step hb)
    clear Lts5
    have Lout6 := hid (Lout5.out.step hb)
    clear Lout5
    have Lx6 := hid hls
    clear hls
    clear hb
    go_wp2_with fail
    go_loopw [13] (fun (iv : Value) (wr : World) => ∃ k : Nat, k ≤ 4 ∧ iv = .int .i64 k ∧ wr = w6) (fun iv _ => 4 - (intOf iv).toNat)
    case atStart => exact ⟨0, by omega, rfl, rfl⟩
    case round =>
      obtain ⟨k, hk, rfl, rfl⟩ := hrel
      by_cases hlt : k < 4
      · obtain ⟨y, hy⟩ : ∃ y, s[k]? = some y := ⟨_, List.getElem?_eq_getElem (by rw [HS4.out]; exact hlt)⟩
        have hy0 := H7.out y (List.mem_of_getElem? hy)
        have hc := Lout6.out.cellk hy
        have hki : (k : Int) < 4 := by omega
        have hks : k < s.length := by have := HS4.out; omega
        have hyn : ¬ y < 0 := by omega
        clear hy
        go_wp2_with fail
        go_roundw
        case rel => exact ⟨k + 1, by omega, by go_num, by first | rfl | trivial⟩
        case measure => simp [intOf]; omega
      · obtain rfl : k = 4 := by omega
        go_wp2_with fail
        refine (nTotal (Lx6.out) H4.out H6.out E4.out).mono ?_
        rintro e w7 ⟨hb, rfl⟩
        have HB7 := hid (HB6.out.trans (hb.mono HB6.out.size))
        clear HB6
        have Lts7 := hid (Lts6.out.step hb)
        clear Lts6
        have Lout7 := hid (Lout6.out.step hb)
        clear Lout6
        have Lx7 := hid (Lx6.out.step hb)
        clear Lx6
        clear hb
        go_wp2_with fail
        refine (nTotal (Lout7.out) HS9.out H5.out E3.out).mono ?_
        rintro e w8 ⟨hb, rfl⟩
        have HB8 := hid (HB7.out.trans (hb.mono HB7.out.size))
        clear HB7
        have Lts8 := hid (Lts7.out.step hb)
        clear Lts7
        have Lout8 := hid (Lout7.out.step hb)
        clear Lout7
        have Lx8 := hid (Lx7.out.step hb)
        clear Lx7
        clear hb
        go_wp2_with fail
        go_ret
        exact ⟨rfl, HB8.out⟩
  · skip
    go_wp2_with fail
    refine (nSameI (Lout3.out) (Lwant3.out) (by simp)).mono ?_
    rintro e w4 ⟨hb, rfl⟩
    have HB4 := hid (HB3.out.trans (hb.mono HB3.out.size))
    clear HB3
    have Lts4 := hid (Lts3.out.step hb)
    clear Lts3
    have Lout4 := hid (Lout3.out.step hb)
    clear Lout3
    have Lwant4 := hid (Lwant3.out.step hb)
    clear Lwant3
    clear hb
    go_wp2_with fail
    refine (nSameI (Lout4.out) (Lwant4.out) (by simp)).mono ?_
    rintro e w5 ⟨hb, rfl⟩
    have HB5 := hid (HB4.out.trans (hb.mono HB4.out.size))
    clear HB4
    have Lts5 := hid (Lts4.out.step hb)
    clear Lts4
    have Lout5 := hid (Lout4.out.step hb)
    clear Lout4
    have Lwant5 := hid (Lwant4.out.step hb)
    clear Lwant4
    clear hb
    go_wp2_with fail
    go_ret
    exact ⟨rfl, HB5.out⟩

set_option maxRecDepth 100000 in
theorem lifted (os : Os) (started : os.Started) (H : Type) (enc : TypeId × Value → H) :
    ReturnsInHanded {} Try.checked os 8 .any (Rows.fnSidesSpec.pre6 enc Try.prog Try.f8 Rows.fnSidesRow.domain false) (Rows.fnSidesSpec.post enc Try.prog Try.f8 false true false false) := by
  refine returnsInHanded_of_change (C := Try.checked) Try.own started (by kernel_rfl) Try.func8
    (ChangeSpec.witness6 (enc := enc) (C := Try.checked) false ⟨#[], #[.slice none 0 0], []⟩ 8 (by kernel_rfl) (by kernel_rfl) (by kernel_rfl) (by kernel_rfl)) ?_
  intro W base args ds gs before hval0 hW hcnd _
  have hval : ∀ (j : Nat) t v, Try.f8.params[j]? = some t → args[j]? = some v → Value.okWide Try.prog W .any base t v := hval0
  have hW' := hW
  obtain ⟨p, q, hA0, hV, rfl, hfz, hnd⟩ := hW
  have hA : DataW.TrodAll enc Try.prog W 0 (fun _ => true) true Try.f8.params.toList args.toList ds p := hA0
  rw [Try.params8] at hA hval
  obtain ⟨v0, vs0, d0, ds0, p0, q0, hargs, rfl, rfl, h0, r0⟩ := trodAll_cons hA
  obtain ⟨rfl, rfl, rfl⟩ := trodAll_nil r0
  obtain rfl : args = #[v0] := by cases args; simp_all
  obtain ⟨rfl, rfl⟩ := trodVars_none hV
  have k0 := h0
  have lt0 : ∀ x ∈ p0, x.block < W.heap.size := by obtain ⟨m, hm⟩ := k0; exact DataW.trod_lt m _ _ _ hm
  have c0 := cameB_of (hval 0 22 v0 rfl rfl) h0
  clear hA0 hval0
  refine (walk v0 W c0).mono fun e W' ⟨he, bel⟩ => ?_
  subst he
  exact ⟨_, rfl, _, _, _, [], _, [], hW', trodAll_mk1 (shut_bool Try.underlying4 _), (trodAll_cons_mk (Below.trod Try.laidOut (by kernel_rfl) (of_decide_eq_true (by kernel_rfl)) k0 bel lt0) trodAll_mk0), rfl, bel.frame _, fun h => by cases h⟩

theorem closed : joinedFacts Try.pinned.checked.prog 8 Try.f8 Rows.fnSidesSpec Rows.fnSidesRow = true := by
  unfold joinedFacts
  exact and8 (by as_aux_lemma => kernel_rfl) head_enter head_lifts head_make (by as_aux_lemma => kernel_rfl) (by as_aux_lemma => kernel_rfl) (by as_aux_lemma => kernel_rfl) (by as_aux_lemma => kernel_rfl)

theorem proved : Rows.FnSidesSaid :=
  OpenClaim.holds_of_wide 8 Try.f8 rfl rfl rfl rfl rfl rfl rfl ⟨rfl, rfl, rfl, rfl, rfl⟩ rfl rfl rfl rfl rfl (by kernel_rfl) Try.func8 closed
    (of_decide_eq_true (by kernel_rfl)) (by unfold Func.isWrapper; first | (rw [if_pos (by decide +kernel)]; kernel_rfl) | (rw [if_neg (by decide +kernel)]; exact ⟨rfl, rfl⟩))
    (fun os started H enc _ => lifted os started H enc)
#print axioms proved

end Go.Proofs.Ytpbppkidglmacaa.lawFnSides
