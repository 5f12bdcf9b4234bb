/- For every code, the drawn grid, if full, is full turned and exchanged, and not with its first cell made empty; the program's and the specification's answers are the same: the law FnFull returns true, and its argument reads as it did. No condition. -/
import Derived.Test.YtkgjhchgflichaaPK
import Derived.Test.YtkgjhchgflichaaPKG
import Derived.Test.YtkgjhchgflichaaGridP
namespace Go.Proofs.Ytkgjhchgflichaa.lawFnFull
open Go.ChangeShapes Go.WideShapes Go.ChangeAt Go.RowKit
open Go.ChangeMaps (open_string shut_string)

theorem facts {n m : Nat} {ts : List ByteArray} (h : IsGrid n m ts) (hf : (cntOf 46 (flat ts) == 0) = true) : ∃ t o x, turnG n m (pad (flat ts)) = t ∧ IsGrid m n t ∧ otherG n m (pad (flat ts)) = o ∧ IsGrid n m o ∧ textsOf n m ((pad (flat ts)).set 0 46) = x ∧ IsGrid n m x ∧ PutIn ts 0 ⟨#[46]⟩ n m 0 46 ∧ (cntOf 46 (flat t) == 0) = true ∧ (cntOf 46 (flat o) == 0) = true ∧ (cntOf 46 (flat x) == 0) = false := by
  have hn := h.2.1
  have hm := h.2.2.2.1
  have h0 : 0 < n * m := Nat.mul_pos hn hm
  have hp := put_grid (b := 46) h h0 rfl
  refine ⟨_, _, _, turn_same h, turn_grid h, other_same h, other_grid h, rfl, hp.1, ⟨h, rfl, h0, rfl, rfl⟩, by rw [turn_emp h]; exact hf, by rw [other_emp h]; exact hf, ?_⟩
  have h1 : 0 < (flat ts).length := by rw [h.flen]; exact h0
  have hfx : flat (textsOf n m ((pad (flat ts)).set 0 46)) = (flat ts).set 0 46 := by
    rw [pad_set_in h1, (flat_texts h.2.2.2.1 (by rw [List.length_set, h.flen])).1]
  rw [hfx, beq_eq_false_iff_ne]
  unfold cntOf
  have : 0 < ((flat ts).set 0 46).countP (fun x => x == 46) := List.countP_pos_iff.2 ⟨46, List.mem_of_getElem? (List.getElem?_set_self h1), rfl⟩
  omega

set_option maxRecDepth 100000 in
set_option maxHeartbeats 1000000 in
theorem draw_any (A : Option Addr) (len cap : Nat) (w : World) (h : CodeAt w A len) (hl : len ≤ 1048576) (hc : len ≤ cap) (hc2 : cap ≤ 9223372036854775807) :
    Calls Try.prog 38 #[.slice A len cap] w fun e w' => Below w.heap.size w w' ∧ ∃ A c ts, e = .returned (.slice A ts.length c) ∧ LS w' A ts ∧ Drawn 4 4 ts := by
  have HC := hid (l91One_any A len cap w h hl hc hc2)
  clear h
  go_enter Try.func38, Try.ntmps38
  go_wp2_with fail
  refine HC.out.mono ?_
  rintro e w1 ⟨⟨A1, c1, ts, rfl, hst, hd⟩, hb⟩
  have HST := hid hst
  have HD := hid hd
  have HB := hid hb
  clear hst hd hb
  go_wp2_with fail
  go_ret
  exact ⟨HB.out, A1, c1, ts, rfl, HST.out, HD.out⟩

set_option maxRecDepth 100000 in
set_option maxHeartbeats 4000000 in
theorem walk (v : Value) (w : World) (hc : CameB w v) :
    Calls Try.prog 10 #[v] w fun e w' => e = .returned (.bool true) ∧ Below w.heap.size w w' := by
  obtain ⟨A, len, cap, rfl, hcode, hlc, hcap⟩ := hc
  have HCD := hid hcode
  clear hcode
  go_enter Try.func10, Try.ntmps10
  by_cases hbig : 1048576 < len
  · have hbi : (1048576 : Int) < (len : Int) := by omega
    go_wp2_with fail
    go_ret
    exact ⟨rfl, Below.refl _ _⟩
  have hbi : ¬ (1048576 : Int) < (len : Int) := by omega
  have HDR := hid (draw_any A len cap w HCD.out (by omega) hlc hcap)
  have HC1 := hid (HDR.out)
  go_wp2_with fail
  refine HC1.out.mono ?_
  rintro e w1 ⟨hb, A1, c1, ts, rfl, hl, hd⟩
  have HB1 := hid hb
  have Lts1 := hid hl
  clear hl
  clear hb HC1
  have HD := hid hd
  clear hd
  have HSM := hid (HD.out.small (by decide) (by decide))
  have HC2 := hid ((implGridFull_any A1 c1 ts w1 Lts1.out HSM.out.1 HSM.out.2).mono fun _ _ h => full_end h)
  go_wp2_with fail
  refine HC2.out.mono ?_
  rintro e w2 ⟨hb, ok, rfl, hout⟩
  have HB2 := hid (HB1.out.trans (hb.mono HB1.out.size))
  clear HB1
  have Lts2 := hid (Lts1.out.step hb)
  clear Lts1
  clear hb HC2
  have HO := hid hout
  clear hout
  have HC3 := hid ((specGridFull_any A1 c1 w2.heap.size ts w2 Lts2.out HSM.out.1 HSM.out.2).mono fun _ _ h => full_end2 h)
  go_wp2_with fail
  refine HC3.out.mono ?_
  rintro e w3 ⟨hb, ok2, rfl, hout2⟩
  have HB3 := hid (HB2.out.trans (hb.mono HB2.out.size))
  clear HB2
  have Lts3 := hid (Lts2.out.step hb)
  clear Lts2
  clear hb HC3
  obtain rfl := HO.out.uniq hout2
  clear hout2
  cases ok2 with
  | true =>
    obtain ⟨n, m, hg, hf⟩ := HO.out.yes
    obtain ⟨t, o, x, e1, g1, e2, g2, e3, g3, hp, k1, k2, k3⟩ := facts hg hf
    clear hf
    have HG := hid hg
    have G1 := hid g1
    have E1 := hid e1
    have G2 := hid g2
    have E2 := hid e2
    have G3 := hid g3
    have E3 := hid e3
    have HP := hid hp
    have K1 := hid k1
    have K2 := hid k2
    have K3 := hid k3
    clear hg g1 e1 g2 e2 g3 e3 hp k1 k2 k3
    go_wp2_with fail
    refine (nGridTurn (Lts3.out) HG.out E1.out).mono ?_
    rintro e w4 ⟨hb, A5, c5, rfl, hl⟩
    have HB4 := hid (HB3.out.trans (hb.mono HB3.out.size))
    clear HB3
    have Lts4 := hid (Lts3.out.step hb)
    clear Lts3
    have Lt4 := hid hl
    clear hl
    clear hb
    go_wp2_with fail
    refine (nGridOther (Lts4.out) HG.out E2.out).mono ?_
    rintro e w5 ⟨hb, A6, c6, rfl, hl⟩
    have HB5 := hid (HB4.out.trans (hb.mono HB4.out.size))
    clear HB4
    have Lts5 := hid (Lts4.out.step hb)
    clear Lts4
    have Lt5 := hid (Lt4.out.step hb)
    clear Lt4
    have Lo5 := hid hl
    clear hl
    clear hb
    go_wp2_with fail
    refine (nGridPut (Lts5.out) HP.out E3.out).mono ?_
    rintro e w6 ⟨hb, A7, c7, rfl, hl⟩
    have HB6 := hid (HB5.out.trans (hb.mono HB5.out.size))
    clear HB5
    have Lts6 := hid (Lts5.out.step hb)
    clear Lts5
    have Lt6 := hid (Lt5.out.step hb)
    clear Lt5
    have Lo6 := hid (Lo5.out.step hb)
    clear Lo5
    have Lx6 := hid hl
    clear hl
    clear hb
    go_wp2_with fail
    refine (nGridFull (Lt6.out) G1.out K1.out).mono ?_
    rintro e w7 ⟨hb, rfl⟩
    have HB7 := hid (HB6.out.trans (hb.mono HB6.out.size))
    clear HB6
    have Lts7 := hid (Lts6.out.step hb)
    clear Lts6
    have Lt7 := hid (Lt6.out.step hb)
    clear Lt6
    have Lo7 := hid (Lo6.out.step hb)
    clear Lo6
    have Lx7 := hid (Lx6.out.step hb)
    clear Lx6
    clear hb
    go_wp2_with fail
    refine (nGridFull (Lo7.out) G2.out K2.out).mono ?_
    rintro e w8 ⟨hb, rfl⟩
    have HB8 := hid (HB7.out.trans (hb.mono HB7.out.size))
    clear HB7
    have Lts8 := hid (Lts7.out.step hb)
    clear Lts7
    have Lt8 := hid (Lt7.out.step hb)
    clear Lt7
    have Lo8 := hid (Lo7.out.step hb)
    clear Lo7
    have Lx8 := hid (Lx7.out.step hb)
    clear Lx7
    clear hb
    go_wp2_with fail
    refine (nGridFull (Lx8.out) G3.out K3.out).mono ?_
    rintro e w9 ⟨hb, rfl⟩
    have HB9 := hid (HB8.out.trans (hb.mono HB8.out.size))
    clear HB8
    have Lts9 := hid (Lts8.out.step hb)
    clear Lts8
    have Lt9 := hid (Lt8.out.step hb)
    clear Lt8
    have Lo9 := hid (Lo8.out.step hb)
    clear Lo8
    have Lx9 := hid (Lx8.out.step hb)
    clear Lx8
    clear hb
    go_wp2_with fail
    go_ret
    exact ⟨rfl, HB9.out⟩
  | false =>
    go_wp2_with fail
    go_ret
    exact ⟨rfl, HB3.out⟩

set_option maxRecDepth 100000 in
theorem lifted (os : Os) (started : os.Started) (H : Type) (enc : TypeId × Value → H) :
    ReturnsInHanded {} Try.checked os 10 .any (Rows.fnFullSpec.pre6 enc Try.prog Try.f10 Rows.fnFullRow.domain false) (Rows.fnFullSpec.post enc Try.prog Try.f10 false true false false) := by
  refine returnsInHanded_of_change (C := Try.checked) Try.own started (by kernel_rfl) Try.func10
    (ChangeSpec.witness6 (enc := enc) (C := Try.checked) false ⟨#[], #[.slice none 0 0], []⟩ 8 (by kernel_rfl) (by kernel_rfl) (by kernel_rfl) (by kernel_rfl)) ?_
  intro W base args ds gs before hval0 hW hcnd _
  have hval : ∀ (j : Nat) t v, Try.f10.params[j]? = some t → args[j]? = some v → Value.okWide Try.prog W .any base t v := hval0
  have hW' := hW
  obtain ⟨p, q, hA0, hV, rfl, hfz, hnd⟩ := hW
  have hA : DataW.TrodAll enc Try.prog W 0 (fun _ => true) true Try.f10.params.toList args.toList ds p := hA0
  rw [Try.params10] at hA hval
  obtain ⟨v0, vs0, d0, ds0, p0, q0, hargs, rfl, rfl, h0, r0⟩ := trodAll_cons hA
  obtain ⟨rfl, rfl, rfl⟩ := trodAll_nil r0
  obtain rfl : args = #[v0] := by cases args; simp_all
  obtain ⟨rfl, rfl⟩ := trodVars_none hV
  have k0 := h0
  have lt0 : ∀ x ∈ p0, x.block < W.heap.size := by obtain ⟨m, hm⟩ := k0; exact DataW.trod_lt m _ _ _ hm
  have c0 := cameB_of (hval 0 22 v0 rfl rfl) h0
  clear hA0 hval0
  refine (walk v0 W c0).mono fun e W' ⟨he, bel⟩ => ?_
  subst he
  exact ⟨_, rfl, _, _, _, [], _, [], hW', trodAll_mk1 (shut_bool Try.underlying4 _), (trodAll_cons_mk (Below.trod Try.laidOut (by kernel_rfl) (of_decide_eq_true (by kernel_rfl)) k0 bel lt0) trodAll_mk0), rfl, bel.frame _, fun h => by cases h⟩

theorem closed : joinedFacts Try.pinned.checked.prog 10 Try.f10 Rows.fnFullSpec Rows.fnFullRow = true := by
  unfold joinedFacts
  exact and8 (by as_aux_lemma => kernel_rfl) head_enter head_lifts head_make (by as_aux_lemma => kernel_rfl) (by as_aux_lemma => kernel_rfl) (by as_aux_lemma => kernel_rfl) (by as_aux_lemma => kernel_rfl)

theorem proved : Rows.FnFullSaid :=
  OpenClaim.holds_of_wide 10 Try.f10 rfl rfl rfl rfl rfl rfl rfl ⟨rfl, rfl, rfl, rfl, rfl⟩ rfl rfl rfl rfl rfl (by kernel_rfl) Try.func10 closed
    (of_decide_eq_true (by kernel_rfl)) (by unfold Func.isWrapper; first | (rw [if_pos (by decide +kernel)]; kernel_rfl) | (rw [if_neg (by decide +kernel)]; exact ⟨rfl, rfl⟩))
    (fun os started H enc _ => lifted os started H enc)
#print axioms proved

end Go.Proofs.Ytkgjhchgflichaa.lawFnFull
