/- For every code, the drawn list, if a grid, is one turned, and without its last row, if there are two; the program's and the specification's answers are the same: the law FnGrid returns true, and its argument reads as it did. No condition. -/
import Derived.Test.YtkgjhchgflichaaPK
import Derived.Test.YtkgjhchgflichaaPKD
import Derived.Test.YtkgjhchgflichaaGridP
namespace Go.Proofs.Ytkgjhchgflichaa.lawFnGrid
open Go.ChangeShapes Go.WideShapes Go.ChangeAt Go.RowKit
open Go.ChangeMaps (open_string shut_string)

theorem facts {n m : Nat} {ts : List ByteArray} (h : IsGrid n m ts) : ∃ t, turnG n m (pad (flat ts)) = t ∧ IsGrid m n t := ⟨_, turn_same h, turn_grid h⟩
theorem less {n m k : Nat} {ts : List ByteArray} (h : IsGrid n m ts) (hk : n = k + 1) (h1 : 1 ≤ k) : IsGrid k m (ts.take k) ∧ (ts.take k).length = k := by
  have hl : (ts.take k).length = k := by rw [List.length_take, h.1]; omega
  exact ⟨⟨hl, h1, by have := h.2.2.1; omega, h.2.2.2.1, h.2.2.2.2.1, fun s hs => h.2.2.2.2.2 s (List.mem_of_mem_take hs)⟩, hl⟩
theorem LS.take {w : World} {A : Option Addr} {ts : List ByteArray} (h : LS w A ts) (k : Nat) : LS w A (ts.take k) := fun hn => by
  obtain ⟨b, off, e, hb, hc⟩ := h (by rw [List.length_take] at hn; omega)
  refine ⟨b, off, e, hb, fun j s hj => hc j s ?_⟩
  by_cases hjk : j < k
  · rw [List.getElem?_take_of_lt hjk] at hj; exact hj
  · rw [List.getElem?_eq_none (by rw [List.length_take]; omega)] at hj; cases hj

set_option maxRecDepth 100000 in
set_option maxHeartbeats 2000000 in
theorem draw_any (A : Option Addr) (len cap : Nat) (w : World) (h : CodeAt w A len) (hl : len ≤ 1048576) (hc : len ≤ cap) (hc2 : cap ≤ 9223372036854775807) :
    Calls Try.prog 15 #[.slice A len cap] w fun e w' => Below w.heap.size w w' ∧ ∃ A c ts, e = .returned (.slice A ts.length c) ∧ LS w' A ts ∧ Drawn 6 6 ts ∧ ts.length ≤ c := by
  have HOP := hid (dOpen A len cap w h hl hc hc2)
  clear h
  go_enter Try.func15, Try.ntmps15
  go_wp2_with fail
  refine HOP.out.mono ?_
  rintro e w1 ⟨rfl, hd⟩
  have HD1 := hid hd
  clear hd HOP
  have HC1 := hid (dSome 6 6 HD1.out (by omega) (by omega) (by omega) (by omega) (by omega))
  go_wp2_with fail
  refine HC1.out.mono ?_
  rintro e w2 ⟨hg, hd, A1, c1, ts, ht, hlc, hx, rfl⟩
  have Xts2 := hid hx
  clear hx
  have HD2 := hid hd
  clear hg hd HC1 HD1
  have HT := hid ht
  have HLC := hid hlc
  clear ht hlc
  go_wp2_with fail
  go_ret
  exact ⟨HD2.out.below, A1, c1, ts, rfl, Xts2.out.1, HT.out, HLC.out⟩

set_option maxRecDepth 100000 in
set_option maxHeartbeats 4000000 in
theorem walk (v : Value) (w : World) (hc : CameB w v) :
    Calls Try.prog 3 #[v] w fun e w' => e = .returned (.bool true) ∧ Below w.heap.size w w' := by
  obtain ⟨A, len, cap, rfl, hcode, hlc, hcap⟩ := hc
  have HCD := hid hcode
  clear hcode
  go_enter Try.func3, Try.ntmps3
  by_cases hbig : 1048576 < len
  · have hbi : (1048576 : Int) < (len : Int) := by omega
    go_wp2_with fail
    go_ret
    exact ⟨rfl, Below.refl _ _⟩
  have hbi : ¬ (1048576 : Int) < (len : Int) := by omega
  have HDR := hid (draw_any A len cap w HCD.out (by omega) hlc hcap)
  have HC1 := hid (HDR.out)
  go_wp2_with fail
  refine HC1.out.mono ?_
  rintro e w1 ⟨hb, A1, c1, ts, rfl, hl, hd, hcap2⟩
  have HB1 := hid hb
  have Lts1 := hid hl
  clear hl
  clear hb HC1
  have HD := hid hd
  clear hd
  have HSM := hid (HD.out.small (by decide) (by decide))
  have HCAP := hid hcap2
  clear hcap2
  have HC2 := hid (implGridIn_any A1 c1 ts w1 Lts1.out HSM.out.1 HSM.out.2)
  go_wp2_with fail
  refine HC2.out.mono ?_
  rintro e w2 ⟨hb, ok, rfl, hout⟩
  have HB2 := hid (HB1.out.trans (hb.mono HB1.out.size))
  clear HB1
  have Lts2 := hid (Lts1.out.step hb)
  clear Lts1
  clear hb HC2
  have HO := hid hout
  clear hout
  have HC3 := hid ((specGridIn_any A1 c1 w2.heap.size ts w2 Lts2.out HSM.out.1 HSM.out.2).mono fun _ _ h => h.bend)
  go_wp2_with fail
  refine HC3.out.mono ?_
  rintro e w3 ⟨hb, ok2, rfl, hout2⟩
  have HB3 := hid (HB2.out.trans (hb.mono HB2.out.size))
  clear HB2
  have Lts3 := hid (Lts2.out.step hb)
  clear Lts2
  clear hb HC3
  obtain rfl : ok2 = ok := by rw [Bool.eq_iff_iff]; exact hout2.trans HO.out.symm
  clear hout2
  cases ok2 with
  | true =>
    obtain ⟨n, m, hg⟩ := HO.out.1 rfl
    obtain ⟨t, e1, g1⟩ := facts hg
    obtain ⟨b0, o0, s0, rfl, hk0, hs0, hl0⟩ := Lts3.out.addr hg
    have HN0 := hid hg.1
    have HN1 := hid hg.2.1
    have HN5 := hid hg.2.2.1
    have HG := hid hg
    have G1 := hid g1
    have E1 := hid e1
    clear hg g1 e1
    go_wp2_with fail
    refine (nGridTurn (Lts3.out) HG.out E1.out).mono ?_
    rintro e w4 ⟨hb, A5, c5, rfl, hl⟩
    have HB4 := hid (HB3.out.trans (hb.mono HB3.out.size))
    clear HB3
    have Lts4 := hid (Lts3.out.step hb)
    clear Lts3
    have Lt4 := hid hl
    clear hl
    clear hb
    by_cases hone : n = 1
    · have hln : (((ts.length : Nat) : Int) == 1) = true := by rw [beq_iff_eq]; have := HN0.out; omega
      go_wp2_with fail
      refine (nGridIn (Lt4.out) G1.out).mono ?_
      rintro e w5 ⟨hb, rfl⟩
      have HB5 := hid (HB4.out.trans (hb.mono HB4.out.size))
      clear HB4
      have Lts5 := hid (Lts4.out.step hb)
      clear Lts4
      have Lt5 := hid (Lt4.out.step hb)
      clear Lt4
      clear hb
      go_wp2_with fail
      go_ret
      exact ⟨rfl, HB5.out⟩
    · obtain ⟨k, hk⟩ : ∃ k, n = k + 1 := ⟨n - 1, by have := HN1.out; omega⟩
      obtain ⟨l1, l2⟩ := less HG.out hk (by have := HN1.out; omega)
      have hk5 : k ≤ 5 := by have := HN5.out; omega
      have hln : (((ts.length : Nat) : Int) == 1) = false := by rw [beq_eq_false_iff_ne]; have := HN0.out; omega
      obtain ⟨N, hN⟩ : ∃ N, ts.length = N := ⟨_, rfl⟩
      have HCN := hid (hN ▸ HCAP.out)
      rw [hN] at hln ⊢
      have hkN : (N : Int) - 1 = (k : Int) := by have := HN0.out; omega
      have hkc : k ≤ c1 := by have := HCN.out; have := HN0.out; omega
      have HL1 := hid l1
      have HL2 := hid l2
      clear l1 l2 hN hk
      go_wp2_with fail
      refine (nGridIn (Lt4.out) G1.out).mono ?_
      rintro e w5 ⟨hb, rfl⟩
      have HB5 := hid (HB4.out.trans (hb.mono HB4.out.size))
      clear HB4
      have Lts5 := hid (Lts4.out.step hb)
      clear Lts4
      have Lt5 := hid (Lt4.out.step hb)
      clear Lt4
      clear hb
      have HT := hid (show Calls Try.prog 16 #[.slice (some ⟨b0, o0, none⟩) k c1] w5 _ from HL2.out ▸ nGridIn (c := c1) (LS.take (Lts5.out) k) HL1.out)
      have HC6 := hid (HT.out)
      go_wp2_with fail
      refine HC6.out.mono ?_
      rintro e w6 ⟨hb, rfl⟩
      have HB6 := hid (HB5.out.trans (hb.mono HB5.out.size))
      clear HB5
      have Lts6 := hid (Lts5.out.step hb)
      clear Lts5
      have Lt6 := hid (Lt5.out.step hb)
      clear Lt5
      clear hb HC6
      go_wp2_with fail
      go_ret
      exact ⟨rfl, HB6.out⟩
  | false =>
    go_wp2_with fail
    go_ret
    exact ⟨rfl, HB3.out⟩

set_option maxRecDepth 100000 in
theorem lifted (os : Os) (started : os.Started) (H : Type) (enc : TypeId × Value → H) :
    ReturnsInHanded {} Try.checked os 3 .any (Rows.fnGridSpec.pre6 enc Try.prog Try.f3 Rows.fnGridRow.domain false) (Rows.fnGridSpec.post enc Try.prog Try.f3 false true false false) := by
  refine returnsInHanded_of_change (C := Try.checked) Try.own started (by kernel_rfl) Try.func3
    (ChangeSpec.witness6 (enc := enc) (C := Try.checked) false ⟨#[], #[.slice none 0 0], []⟩ 8 (by kernel_rfl) (by kernel_rfl) (by kernel_rfl) (by kernel_rfl)) ?_
  intro W base args ds gs before hval0 hW hcnd _
  have hval : ∀ (j : Nat) t v, Try.f3.params[j]? = some t → args[j]? = some v → Value.okWide Try.prog W .any base t v := hval0
  have hW' := hW
  obtain ⟨p, q, hA0, hV, rfl, hfz, hnd⟩ := hW
  have hA : DataW.TrodAll enc Try.prog W 0 (fun _ => true) true Try.f3.params.toList args.toList ds p := hA0
  rw [Try.params3] at hA hval
  obtain ⟨v0, vs0, d0, ds0, p0, q0, hargs, rfl, rfl, h0, r0⟩ := trodAll_cons hA
  obtain ⟨rfl, rfl, rfl⟩ := trodAll_nil r0
  obtain rfl : args = #[v0] := by cases args; simp_all
  obtain ⟨rfl, rfl⟩ := trodVars_none hV
  have k0 := h0
  have lt0 : ∀ x ∈ p0, x.block < W.heap.size := by obtain ⟨m, hm⟩ := k0; exact DataW.trod_lt m _ _ _ hm
  have c0 := cameB_of (hval 0 22 v0 rfl rfl) h0
  clear hA0 hval0
  refine (walk v0 W c0).mono fun e W' ⟨he, bel⟩ => ?_
  subst he
  exact ⟨_, rfl, _, _, _, [], _, [], hW', trodAll_mk1 (shut_bool Try.underlying4 _), (trodAll_cons_mk (Below.trod Try.laidOut (by kernel_rfl) (of_decide_eq_true (by kernel_rfl)) k0 bel lt0) trodAll_mk0), rfl, bel.frame _, fun h => by cases h⟩

theorem closed : joinedFacts Try.pinned.checked.prog 3 Try.f3 Rows.fnGridSpec Rows.fnGridRow = true := by
  unfold joinedFacts
  exact and8 (by as_aux_lemma => kernel_rfl) head_enter head_lifts head_make (by as_aux_lemma => kernel_rfl) (by as_aux_lemma => kernel_rfl) (by as_aux_lemma => kernel_rfl) (by as_aux_lemma => kernel_rfl)

theorem proved : Rows.FnGridSaid :=
  OpenClaim.holds_of_wide 3 Try.f3 rfl rfl rfl rfl rfl rfl rfl ⟨rfl, rfl, rfl, rfl, rfl⟩ rfl rfl rfl rfl rfl (by kernel_rfl) Try.func3 closed
    (of_decide_eq_true (by kernel_rfl)) (by unfold Func.isWrapper; first | (rw [if_pos (by decide +kernel)]; kernel_rfl) | (rw [if_neg (by decide +kernel)]; exact ⟨rfl, rfl⟩))
    (fun os started H enc _ => lifted os started H enc)
#print axioms proved

end Go.Proofs.Ytkgjhchgflichaa.lawFnGrid
