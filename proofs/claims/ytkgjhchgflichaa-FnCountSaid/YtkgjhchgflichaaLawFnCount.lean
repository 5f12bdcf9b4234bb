/- For every code, the drawn grid exchanged has as many mirrors, and it is full just where there are as many as cells; the program's and the specification's answers are the same: the law FnCount returns true, and its argument reads as it did. No condition. -/
import Derived.Test.YtkgjhchgflichaaPK
import Derived.Test.YtkgjhchgflichaaGridP
import Derived.Test.YtkgjhchgflichaaBunG
import Derived.Test.YtkgjhchgflichaaBunC
namespace Go.Proofs.Ytkgjhchgflichaa.lawFnCount
open Go.ChangeShapes Go.WideShapes Go.ChangeAt Go.RowKit
open Go.ChangeMaps (open_string shut_string)

theorem facts {n m : Nat} {ts : List ByteArray} (h : IsGrid n m ts) : ∃ (fl : List ByteArray) (k : Nat) (b : Bool), otherG n m (pad (flat ts)) = fl ∧ IsGrid n m fl ∧ cntOf 114 (flat ts) + cntOf 102 (flat ts) = k ∧ cntOf 114 (flat fl) + cntOf 102 (flat fl) = k ∧ (cntOf 46 (flat ts) == 0) = b ∧ ((k : Int) == ((n * m : Nat) : Int)) = b := by
  have g1 := other_grid h
  have e1 := mir_emp h
  have e2 := mir_emp g1
  rw [other_emp h] at e2
  refine ⟨_, _, _, other_same h, g1, rfl, by omega, rfl, ?_⟩
  rw [Bool.eq_iff_iff, beq_iff_eq, beq_iff_eq]
  omega

set_option maxRecDepth 100000 in
set_option maxHeartbeats 1000000 in
theorem draw_any (A : Option Addr) (len cap : Nat) (w : World) (h : CodeAt w A len) (hl : len ≤ 1048576) (hc : len ≤ cap) (hc2 : cap ≤ 9223372036854775807) :
    Calls Try.prog 35 #[.slice A len cap] w fun e w' => Below w.heap.size w w' ∧ ∃ A c ts, e = .returned (.slice A ts.length c) ∧ LS w' A ts ∧ Drawn 4 4 ts := by
  have HC := hid (l91One_any A len cap w h hl hc hc2)
  clear h
  go_enter Try.func35, Try.ntmps35
  go_wp2_with fail
  refine HC.out.mono ?_
  rintro e w1 ⟨⟨A1, c1, ts, rfl, hst, hd⟩, hb⟩
  have HST := hid hst
  have HD := hid hd
  have HB := hid hb
  clear hst hd hb
  go_wp2_with fail
  go_ret
  exact ⟨HB.out, A1, c1, ts, rfl, HST.out, HD.out⟩

set_option maxRecDepth 100000 in
set_option maxHeartbeats 4000000 in
theorem walk (v : Value) (w : World) (hc : CameB w v) :
    Calls Try.prog 9 #[v] w fun e w' => e = .returned (.bool true) ∧ Below w.heap.size w w' := by
  obtain ⟨A, len, cap, rfl, hcode, hlc, hcap⟩ := hc
  have HCD := hid hcode
  clear hcode
  go_enter Try.func9, Try.ntmps9
  by_cases hbig : 1048576 < len
  · have hbi : (1048576 : Int) < (len : Int) := by omega
    go_wp2_with fail
    go_ret
    exact ⟨rfl, Below.refl _ _⟩
  have hbi : ¬ (1048576 : Int) < (len : Int) := by omega
  have HDR := hid (draw_any A len cap w HCD.out (by omega) hlc hcap)
  have HC1 := hid (HDR.out)
  go_wp2_with fail
  refine HC1.out.mono ?_
  rintro e w1 ⟨hb, A1, c1, ts, rfl, hl, hd⟩
  have HB1 := hid hb
  have Lts1 := hid hl
  clear hl
  clear hb HC1
  have HD := hid hd
  clear hd
  have HSM := hid (HD.out.small (by decide) (by decide))
  have HC2 := hid ((implGridCount_any A1 c1 ts w1 Lts1.out HSM.out.1 HSM.out.2).mono fun _ _ h => cnt_end h)
  go_wp2_with fail
  refine HC2.out.mono ?_
  rintro e w2 ⟨hb, x, ok, rfl, hout⟩
  have HB2 := hid (HB1.out.trans (hb.mono HB1.out.size))
  clear HB1
  have Lts2 := hid (Lts1.out.step hb)
  clear Lts1
  clear hb HC2
  have HO := hid hout
  clear hout
  have HC3 := hid ((specGridCount_any A1 c1 w2.heap.size ts w2 Lts2.out HSM.out.1 HSM.out.2).mono fun _ _ h => cnt_end2 h)
  go_wp2_with fail
  refine HC3.out.mono ?_
  rintro e w3 ⟨hb, x2, ok2, rfl, hout2⟩
  have HB3 := hid (HB2.out.trans (hb.mono HB2.out.size))
  clear HB2
  have Lts3 := hid (Lts2.out.step hb)
  clear Lts2
  clear hb HC3
  obtain ⟨rfl, rfl⟩ := HO.out.uniq hout2
  clear hout2
  rcases HO.out with ⟨n, m, hg, rfl, rfl⟩ | ⟨_, rfl, rfl⟩
  · obtain ⟨fl, k, b, e1, g1, k1, k2, k3, hkb⟩ := facts hg
    rw [k1]
    obtain ⟨b0, o0, s0, rfl, hk0, hs0, hl0⟩ := Lts3.out.addr hg
    have hn : ((ts.length : Nat) : Int) = (n : Int) := by rw [hg.1]
    have hn0 : 0 < n := hg.2.1
    have hnm : (n : Int) * (m : Int) = ((n * m : Nat) : Int) := by rw [Int.natCast_mul]
    have hle := hg.le25
    obtain ⟨N, hN⟩ : ∃ N, n * m = N := ⟨_, rfl⟩
    rw [hN] at hnm hle hkb
    clear hN
    have HG := hid hg
    have G1 := hid g1
    have E1 := hid e1
    have K2 := hid k2
    have K1 := hid k1
    have K3 := hid k3
    have HK0 := hid hk0
    clear hg g1 e1 k2 k1 k3 hk0
    go_wp2_with fail
    refine (nGridOther (Lts3.out) HG.out E1.out).mono ?_
    rintro e w4 ⟨hb, A5, c5, rfl, hl⟩
    have HB4 := hid (HB3.out.trans (hb.mono HB3.out.size))
    clear HB3
    have Lts4 := hid (Lts3.out.step hb)
    clear Lts3
    have Lo4 := hid hl
    clear hl
    clear hb
    go_wp2_with fail
    refine (nGridCount (Lo4.out) G1.out K2.out).mono ?_
    rintro e w5 ⟨hb, rfl⟩
    have HB5 := hid (HB4.out.trans (hb.mono HB4.out.size))
    clear HB4
    have Lts5 := hid (Lts4.out.step hb)
    clear Lts4
    have Lo5 := hid (Lo4.out.step hb)
    clear Lo4
    clear hb
    have hwr : IntKind.i64.wrap ((n : Int) * (m : Int)) = (N : Int) := by rw [hnm]; exact IntWalk.i64_in _ (by omega)
    by_cases hkN : k = N
    · subst hkN
      obtain rfl : b = true := by rw [← hkb]; simp
      clear hkb
      go_wp2_with fail
      have C0 := hid (fun w' (hw : Cls w5 w') => ((Lts5.out).step hw).cell0 HK0.out)
      refine wp_region_quiet (C := Cls w5) (by kernel_rfl) (by kernel_rfl) (Below.refl _ w5).drew ?_
      iterate 15 (quiet_step ((intro _; rfl)))
      refine wpQuiet_valueW rfl (.string s0) (fun w' hw => by have hc := C0.out w' hw; go_simp) ?_
      quiet_step ((intro _; rfl))
      refine wpQuiet_valueW rfl (.int .i64 k) (fun w' hw => by go_simp; exact IntWalk.i64_in _ (by omega)) ?_
      quiet_step ((intro _; rfl))
      quiet_step ((intro _; rfl))
      refine wpQuiet_callW rfl 37 #[.slice (some ⟨b0, o0, none⟩) ts.length c1] (.bool true) (fun w _ => by go_simp) (fun w' hw => (nGridFull ((Lts5.out).step hw) HG.out K3.out).mono fun e w'' ⟨hb, he⟩ => ⟨he, Below.trans hw (hb.mono (Below.size hw))⟩) ?_
      quiet_step ((intro _; rfl))
      quiet_step ((intro _; rfl))
      quiet_step ((intro _; rfl))
      refine wpQuiet_nil ?_
      intro w9 hw9
      have HB9 := hid (HB5.out.trans (Below.mono hw9 HB5.out.size))
      clear hw9
      go_wp2_with fail
      go_ret
      exact ⟨rfl, HB9.out⟩
    · have hkf : ((k : Int) == (N : Int)) = false := by rw [beq_eq_false_iff_ne]; omega
      obtain rfl : b = false := by rw [← hkb]; exact hkf
      clear hkb
      go_wp2_with fail
      have C0 := hid (fun w' (hw : Cls w5 w') => ((Lts5.out).step hw).cell0 HK0.out)
      refine wp_region_quiet (C := Cls w5) (by kernel_rfl) (by kernel_rfl) (Below.refl _ w5).drew ?_
      iterate 15 (quiet_step ((intro _; rfl)))
      refine wpQuiet_valueW rfl (.string s0) (fun w' hw => by have hc := C0.out w' hw; go_simp) ?_
      quiet_step ((intro _; rfl))
      refine wpQuiet_valueW rfl (.int .i64 N) (fun w' hw => by go_simp; exact IntWalk.i64_in _ (by omega)) ?_
      quiet_step ((intro _; rfl))
      quiet_step ((intro _; rfl))
      refine wpQuiet_callW rfl 37 #[.slice (some ⟨b0, o0, none⟩) ts.length c1] (.bool false) (fun w _ => by go_simp) (fun w' hw => (nGridFull ((Lts5.out).step hw) HG.out K3.out).mono fun e w'' ⟨hb, he⟩ => ⟨he, Below.trans hw (hb.mono (Below.size hw))⟩) ?_
      quiet_step ((intro _; rfl))
      quiet_step ((intro _; rfl))
      quiet_step ((intro _; rfl))
      refine wpQuiet_nil ?_
      intro w9 hw9
      have HB9 := hid (HB5.out.trans (Below.mono hw9 HB5.out.size))
      clear hw9
      go_wp2_with fail
      go_ret
      exact ⟨rfl, HB9.out⟩
  · skip
    go_wp2_with fail
    go_ret
    exact ⟨rfl, HB3.out⟩

set_option maxRecDepth 100000 in
theorem lifted (os : Os) (started : os.Started) (H : Type) (enc : TypeId × Value → H) :
    ReturnsInHanded {} Try.checked os 9 .any (Rows.fnCountSpec.pre6 enc Try.prog Try.f9 Rows.fnCountRow.domain false) (Rows.fnCountSpec.post enc Try.prog Try.f9 false true false false) := by
  refine returnsInHanded_of_change (C := Try.checked) Try.own started (by kernel_rfl) Try.func9
    (ChangeSpec.witness6 (enc := enc) (C := Try.checked) false ⟨#[], #[.slice none 0 0], []⟩ 8 (by kernel_rfl) (by kernel_rfl) (by kernel_rfl) (by kernel_rfl)) ?_
  intro W base args ds gs before hval0 hW hcnd _
  have hval : ∀ (j : Nat) t v, Try.f9.params[j]? = some t → args[j]? = some v → Value.okWide Try.prog W .any base t v := hval0
  have hW' := hW
  obtain ⟨p, q, hA0, hV, rfl, hfz, hnd⟩ := hW
  have hA : DataW.TrodAll enc Try.prog W 0 (fun _ => true) true Try.f9.params.toList args.toList ds p := hA0
  rw [Try.params9] at hA hval
  obtain ⟨v0, vs0, d0, ds0, p0, q0, hargs, rfl, rfl, h0, r0⟩ := trodAll_cons hA
  obtain ⟨rfl, rfl, rfl⟩ := trodAll_nil r0
  obtain rfl : args = #[v0] := by cases args; simp_all
  obtain ⟨rfl, rfl⟩ := trodVars_none hV
  have k0 := h0
  have lt0 : ∀ x ∈ p0, x.block < W.heap.size := by obtain ⟨m, hm⟩ := k0; exact DataW.trod_lt m _ _ _ hm
  have c0 := cameB_of (hval 0 22 v0 rfl rfl) h0
  clear hA0 hval0
  refine (walk v0 W c0).mono fun e W' ⟨he, bel⟩ => ?_
  subst he
  exact ⟨_, rfl, _, _, _, [], _, [], hW', trodAll_mk1 (shut_bool Try.underlying4 _), (trodAll_cons_mk (Below.trod Try.laidOut (by kernel_rfl) (of_decide_eq_true (by kernel_rfl)) k0 bel lt0) trodAll_mk0), rfl, bel.frame _, fun h => by cases h⟩

theorem closed : joinedFacts Try.pinned.checked.prog 9 Try.f9 Rows.fnCountSpec Rows.fnCountRow = true := by
  unfold joinedFacts
  exact and8 (by as_aux_lemma => kernel_rfl) head_enter head_lifts head_make (by as_aux_lemma => kernel_rfl) (by as_aux_lemma => kernel_rfl) (by as_aux_lemma => kernel_rfl) (by as_aux_lemma => kernel_rfl)

theorem proved : Rows.FnCountSaid :=
  OpenClaim.holds_of_wide 9 Try.f9 rfl rfl rfl rfl rfl rfl rfl ⟨rfl, rfl, rfl, rfl, rfl⟩ rfl rfl rfl rfl rfl (by kernel_rfl) Try.func9 closed
    (of_decide_eq_true (by kernel_rfl)) (by unfold Func.isWrapper; first | (rw [if_pos (by decide +kernel)]; kernel_rfl) | (rw [if_neg (by decide +kernel)]; exact ⟨rfl, rfl⟩))
    (fun os started H enc _ => lifted os started H enc)
#print axioms proved

end Go.Proofs.Ytkgjhchgflichaa.lawFnCount
