/- For every three numbers, GridOf of the program answers as GridOf of the specification, and hands back memory of its own: the law FnExactGridOf returns true, and its arguments read as they did. No condition. -/
import Derived.Test.YtcomaodpnhoeaaaOf
namespace Go.Proofs.Ytcomaodpnhoeaaa.lawGridOf
open Go.ChangeShapes Go.WideShapes Go.ChangeAt Go.RowKit
open Go.ChangeMaps (open_string shut_string)

set_option maxRecDepth 100000 in
set_option maxHeartbeats 4000000 in
theorem walk (a b x : Int) (w : World) (hx : x ≤ 9223372036854775807) :
    Calls Try.prog 14 #[.int .i64 a, .int .i64 b, .int .i64 x] w fun e w' => e = .returned (.bool true) ∧ Below w.heap.size w w' := by
  have HX := hid hx
  clear hx
  go_enter Try.func14, Try.ntmps14
  go_wp2_with fail
  refine (specGridOf_any a b x w HX.out).mono ?_
  rintro e w2 ⟨hb2, A0, c0, res, ok, rfl, hout, hs0⟩
  have HO := hid hout
  have HS0 := hid hs0
  have HB2 := hid hb2
  have HLr := hid hout.len
  clear hout hs0 hb2
  go_wp2_with fail
  refine (implGridOf_any a b x w2 HX.out).mono ?_
  rintro e w4 ⟨hb4, Ag, res', ok', rfl, hout, hown⟩
  obtain ⟨rfl, rfl⟩ := HO.out.uniq hout
  have HG4 := hid hown
  have T4 := hid hb4
  clear hout hown hb4
  go_wp2_with fail
  refine (eqStringS_same Ag A0 res'.length c0 w4.heap.size res' w4 HG4.out.strs ((HS0.out.below T4.out (Nat.le_refl _)).more T4.out.size) HLr.out).mono ?_
  rintro e w9 ⟨rfl, d5, rfl⟩
  have T9 := hid (below_drewN' T4.out d5)
  have HG9 := hid (HG4.out.below (below_drewN' (Below.refl w4.heap.size w4) d5))
  obtain ⟨w9, hw9⟩ : ∃ w9, w4.drewN d5 = w9 := ⟨_, rfl⟩
  rw [hw9] at T9 HG9 ⊢
  clear hw9
  -- the result is marked, and holds its marks
  obtain ⟨k2, hk2⟩ : ∃ k2, 1 + res'.length = k2 := ⟨_, rfl⟩
  have HK2 := hid hk2
  have hk20 : 0 ≤ (k2 : Int) := Int.natCast_nonneg _
  clear hk2
  have HM := hid (markOwn Ag w2.heap.size k2 res' w9 HG9.out T9.out.size HLr.out HK2.out)
  go_wp2_with fail
  refine HM.out.mono ?_
  rintro e w10 ⟨rfl, hb10, hg10⟩
  have T10 := hid (T9.out.trans hb10)
  have HG10 := hid hg10
  clear hb10 hg10
  have HD := hid (heldOwn Ag w2.heap.size k2 res'.length w10 HG10.out HLr.out HK2.out)
  go_wp2_with fail
  refine HD.out.mono ?_
  rintro e w11 ⟨rfl, hb11⟩
  have T11 := hid (T10.out.trans (hb11.mono T10.out.size))
  have HG11 := hid (HG10.out.below hb11)
  clear hb11
  go_wp2_with fail
  refine (implGridOf_any a b x w11 HX.out).mono ?_
  rintro e w13 ⟨hb13, Ah, res2, ok2, rfl, hout, hown⟩
  obtain ⟨rfl, rfl⟩ := HO.out.uniq hout
  have HH13 := hid hown
  have T13 := hid (T11.out.trans (hb13.mono T11.out.size))
  have HG13 := hid (HG11.out.below hb13)
  clear hout hown hb13
  go_wp2_with fail
  refine (eqStringS_same Ah A0 res2.length c0 w13.heap.size res2 w13 HH13.out.strs ((HS0.out.below T13.out (Nat.le_refl _)).more T13.out.size) HLr.out).mono ?_
  rintro e w14 ⟨rfl, d14, rfl⟩
  have T14 := hid (below_drewN' T13.out d14)
  have HG14 := hid (HG13.out.below (below_drewN' (Below.refl w13.heap.size w13) d14))
  have HD2 := hid (heldOwn Ag w2.heap.size k2 res2.length (w13.drewN d14) HG14.out HLr.out HK2.out)
  go_wp2_with fail
  refine HD2.out.mono ?_
  rintro e w15 ⟨rfl, hb15⟩
  have T15 := hid (T14.out.trans (hb15.mono T14.out.size))
  clear hb15
  go_wp2_with fail
  go_ret
  exact ⟨rfl, HB2.out.trans (T15.out.mono HB2.out.size)⟩

theorem le_of_wf {n : Int} (h : (Lit.int .i64 n).wf = true) : n ≤ 9223372036854775807 := by
  unfold Lit.wf at h
  rw [Bool.and_eq_true, decide_eq_true_iff, decide_eq_true_iff] at h
  exact h.2

set_option maxRecDepth 100000 in
theorem lifted (os : Os) (started : os.Started) (H : Type) (enc : TypeId × Value → H) :
    ReturnsInHanded {} Try.checked os 14 .any (Rows.fnExactGridOfSpec.pre6 enc Try.prog Try.f14 Rows.fnExactGridOfRow.domain false) (Rows.fnExactGridOfSpec.post enc Try.prog Try.f14 false true false false) := by
  refine returnsInHanded_of_change (C := Try.checked) Try.own started (by kernel_rfl) Try.func14
    (ChangeSpec.witness6 (enc := enc) (C := Try.checked) false ⟨#[], #[.int .i64 0, .int .i64 0, .int .i64 0], []⟩ 8 (by kernel_rfl) (by kernel_rfl) (by kernel_rfl) (by kernel_rfl)) ?_
  intro W base args ds gs before hval0 hW hcnd _
  have hval : ∀ (j : Nat) t v, Try.f14.params[j]? = some t → args[j]? = some v → Value.okWide Try.prog W .any base t v := hval0
  have hW' := hW
  obtain ⟨p, q, hA0, hV, rfl, hfz, hnd⟩ := hW
  have hA : DataW.TrodAll enc Try.prog W 0 (fun _ => true) true Try.f14.params.toList args.toList ds p := hA0
  rw [Try.params14] at hA hval
  obtain ⟨v0, v1, v2, d0, d1, d2, p0, p1, p2, rfl, rfl, rfl, h0, h1, h2⟩ := trodAll_three hA
  obtain ⟨rfl, rfl⟩ := trodVars_none hV
  obtain ⟨a, rfl, rfl, rfl, wa⟩ := open_int Try.underlying3 (hval 0 3 v0 rfl rfl) h0
  obtain ⟨b, rfl, rfl, rfl, wb⟩ := open_int Try.underlying3 (hval 1 3 v1 rfl rfl) h1
  obtain ⟨x, rfl, rfl, rfl, wx⟩ := open_int Try.underlying3 (hval 2 3 v2 rfl rfl) h2
  clear hA0 hval0
  refine (walk a b x W (le_of_wf wx)).mono fun e W' ⟨he, bel⟩ => ?_
  subst he
  exact ⟨_, rfl, _, _, _, [], _, [], hW', trodAll_mk1 (shut_bool Try.underlying4 _), trodAll_mk3 (shut_int Try.underlying3 wa) (shut_int Try.underlying3 wb) (shut_int Try.underlying3 wx), rfl, bel.frame _, fun h => by cases h⟩

theorem closed : joinedFacts Try.pinned.checked.prog 14 Try.f14 Rows.fnExactGridOfSpec Rows.fnExactGridOfRow = true := by
  unfold joinedFacts
  exact and8 (by as_aux_lemma => kernel_rfl) head_enter head_lifts head_make (by as_aux_lemma => kernel_rfl) (by as_aux_lemma => kernel_rfl) (by as_aux_lemma => kernel_rfl) (by as_aux_lemma => kernel_rfl)

theorem proved : Rows.FnExactGridOfSaid :=
  OpenClaim.holds_of_wide 14 Try.f14 rfl rfl rfl rfl rfl rfl rfl ⟨rfl, rfl, rfl, rfl, rfl⟩ rfl rfl rfl rfl rfl (by kernel_rfl) Try.func14 closed
    (of_decide_eq_true (by kernel_rfl)) (by unfold Func.isWrapper; first | (rw [if_pos (by decide +kernel)]; kernel_rfl) | (rw [if_neg (by decide +kernel)]; exact ⟨rfl, rfl⟩))
    (fun os started H enc _ => lifted os started H enc)
#print axioms proved

end Go.Proofs.Ytcomaodpnhoeaaa.lawGridOf
