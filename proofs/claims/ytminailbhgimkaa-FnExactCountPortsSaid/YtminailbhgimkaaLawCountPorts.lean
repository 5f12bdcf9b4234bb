/- For all numbers of rows and columns, CountPorts of the program answers as CountPorts of the specification, and hands back memory of its own: the law FnExactCountPorts returns true, and its argument reads as it did. No condition. -/
import Derived.Test.YtminailbhgimkaaBunA
import Derived.Test.YtminailbhgimkaaHead
import Derived.Test.YtminailbhgimkaaCountPS
import Derived.Test.YtminailbhgimkaaCameI
namespace Go.Proofs.Ytminailbhgimkaa.lawCountPorts
open Go.ChangeShapes Go.WideShapes Go.ChangeAt Go.RowKit
open Go.ChangeMaps (open_string shut_string)

set_option maxRecDepth 100000 in
set_option maxHeartbeats 4000000 in
theorem walk (a0 a1 : Int) (w : World) :
    Calls Try.prog 10 #[.int .i64 a0, .int .i64 a1] w fun e w' => e = .returned (.bool true) ∧ Below w.heap.size w w' := by
  have HSP := hid (fun W => specCountPorts_any a0 a1 W)
  have HIM := hid (fun W => implCountPorts_any a0 a1 W)
  go_enter Try.func10, Try.ntmps10
  -- the specification
  go_wp2_with fail
  refine (HSP.out w).mono ?_
  rintro e w2 ⟨hb2, A0, c0, res, ok, rfl, hout, hs0⟩
  have HO := hid hout
  have HS0 := hid hs0
  have HB2 := hid hb2
  have HLr := hid hout.len
  clear hout hs0 hb2
  -- the program
  go_wp2_with fail
  refine (HIM.out w2).mono ?_
  rintro e w4 ⟨hb4, Ag, cg, res', ok', rfl, hout, hown⟩
  obtain ⟨rfl, rfl⟩ := HO.out.uniq hout
  have HG4 := hid hown
  have T4 := hid hb4
  have L4 := hid hb4.size
  clear hout hown hb4
  go_wp2_with fail
  refine (eqIntS_same Ag A0 cg c0 w4.heap.size res' w4 HG4.out.ints ((HS0.out.below T4.out (Nat.le_refl _)).more T4.out.size) HLr.out).mono ?_
  rintro e w5 ⟨rfl, d5, rfl⟩
  have T5 := hid (below_drewN' T4.out d5)
  have E5 := hid (below_drewN' (Below.refl w4.heap.size w4) d5)
  have HG9 := hid (HG4.out.below E5.out)
  have L9 := hid (Nat.le_trans L4.out E5.out.size)
  obtain ⟨w9, hw9⟩ : ∃ w9, w4.drewN d5 = w9 := ⟨_, rfl⟩
  rw [hw9] at T5 E5 HG9 L9 ⊢
  clear hw9
  -- the result is marked, and holds its marks
  obtain ⟨k2, hk2⟩ : ∃ k2, 1 + res'.length = k2 := ⟨_, rfl⟩
  have HK2 := hid hk2
  have hk20 : 0 ≤ (k2 : Int) := Int.natCast_nonneg _
  clear hk2
  have HM := hid (markOwnI Ag cg w2.heap.size k2 res' w9 HG9.out L9.out HLr.out HK2.out)
  go_wp2_with fail
  refine HM.out.mono ?_
  rintro e w10 ⟨rfl, hb10, hg10⟩
  have T10 := hid (T5.out.trans (hb10.mono (Nat.le_refl _)))
  have HG10 := hid hg10
  clear hb10 hg10
  have HD := hid (heldOwnI Ag cg w2.heap.size k2 res'.length w10 HG10.out HLr.out HK2.out)
  go_wp2_with fail
  refine HD.out.mono ?_
  rintro e w11 ⟨rfl, rfl⟩
  -- once more: the second result leaves the first as it is
  go_wp2_with fail
  refine (HIM.out w10).mono ?_
  rintro e w13 ⟨hb13, Ah, ch, res2, ok2, rfl, hout, hown⟩
  obtain ⟨rfl, rfl⟩ := HO.out.uniq hout
  have HH13 := hid hown
  have T13 := hid (T10.out.trans (hb13.mono T10.out.size))
  have HG13 := hid (HG10.out.below hb13)
  clear hout hown hb13
  go_wp2_with fail
  refine (eqIntS_same Ah A0 ch c0 w13.heap.size res2 w13 HH13.out.ints ((HS0.out.below T13.out (Nat.le_refl _)).more T13.out.size) HLr.out).mono ?_
  rintro e w14 ⟨rfl, d14, rfl⟩
  have T14 := hid (below_drewN' T13.out d14)
  have HG14 := hid (HG13.out.below (below_drewN' (Below.refl w13.heap.size w13) d14))
  have HD2 := hid (heldOwnI Ag cg w2.heap.size k2 res2.length (w13.drewN d14) HG14.out HLr.out HK2.out)
  go_wp2_with fail
  refine HD2.out.mono ?_
  rintro e w15 ⟨rfl, rfl⟩
  go_wp2_with fail
  go_ret
  exact ⟨rfl, HB2.out.trans (T14.out.mono HB2.out.size)⟩

set_option maxRecDepth 100000 in
theorem lifted (os : Os) (started : os.Started) (H : Type) (enc : TypeId × Value → H) :
    ReturnsInHanded {} Try.checked os 10 .any (Rows.fnExactCountPortsSpec.pre6 enc Try.prog Try.f10 Rows.fnExactCountPortsRow.domain false) (Rows.fnExactCountPortsSpec.post enc Try.prog Try.f10 false true false false) := by
  refine returnsInHanded_of_change (C := Try.checked) Try.own started (by kernel_rfl) Try.func10
    (ChangeSpec.witness6 (enc := enc) (C := Try.checked) false ⟨#[], #[.int .i64 0, .int .i64 0], []⟩ 8 (by kernel_rfl) (by kernel_rfl) (by kernel_rfl) (by kernel_rfl)) ?_
  intro W base args ds gs before hval0 hW hcnd _
  have hval : ∀ (j : Nat) t v, Try.f10.params[j]? = some t → args[j]? = some v → Value.okWide Try.prog W .any base t v := hval0
  have hW' := hW
  obtain ⟨p, q, hA0, hV, rfl, hfz, hnd⟩ := hW
  have hA : DataW.TrodAll enc Try.prog W 0 (fun _ => true) true Try.f10.params.toList args.toList ds p := hA0
  rw [Try.params10] at hA hval
  obtain ⟨v0, v1, d0, d1, p0, p1, rfl, rfl, rfl, h0, h1⟩ := trodAll_two hA
  obtain ⟨rfl, rfl⟩ := trodVars_none hV
  obtain ⟨a0, rfl, rfl, rfl, w0⟩ := open_int Try.underlying3 (hval 0 3 v0 rfl rfl) h0
  obtain ⟨a1, rfl, rfl, rfl, w1⟩ := open_int Try.underlying3 (hval 1 3 v1 rfl rfl) h1
  clear hA0 hval0
  refine (walk a0 a1 W).mono fun e W' ⟨he, bel⟩ => ?_
  subst he
  exact ⟨_, rfl, _, _, _, [], _, [], hW', trodAll_mk1 (shut_bool Try.underlying4 _), trodAll_mk2 (shut_int Try.underlying3 w0) (shut_int Try.underlying3 w1), rfl, bel.frame _, fun h => by cases h⟩

theorem closed : joinedFacts Try.pinned.checked.prog 10 Try.f10 Rows.fnExactCountPortsSpec Rows.fnExactCountPortsRow = true := by
  unfold joinedFacts
  exact and8 (by as_aux_lemma => kernel_rfl) head_enter head_lifts head_make (by as_aux_lemma => kernel_rfl) (by as_aux_lemma => kernel_rfl) (by as_aux_lemma => kernel_rfl) (by as_aux_lemma => kernel_rfl)

theorem proved : Rows.FnExactCountPortsSaid :=
  OpenClaim.holds_of_wide 10 Try.f10 rfl rfl rfl rfl rfl rfl rfl ⟨rfl, rfl, rfl, rfl, rfl⟩ rfl rfl rfl rfl rfl (by kernel_rfl) Try.func10 closed
    (of_decide_eq_true (by kernel_rfl)) (by unfold Func.isWrapper; first | (rw [if_pos (by decide +kernel)]; kernel_rfl) | (rw [if_neg (by decide +kernel)]; exact ⟨rfl, rfl⟩))
    (fun os started H enc _ => lifted os started H enc)
#print axioms proved

end Go.Proofs.Ytminailbhgimkaa.lawCountPorts
