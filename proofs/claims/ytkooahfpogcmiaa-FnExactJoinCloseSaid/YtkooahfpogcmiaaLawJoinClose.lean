/- For all numbers of rows and columns and every list of integers, JoinClose of the program answers as JoinClose of the specification, and leaves its argument as it was: the law FnExactJoinClose returns true, and its argument reads as it did. No condition. -/
import Derived.Test.YtkooahfpogcmiaaBunA
import Derived.Test.YtkooahfpogcmiaaHead
import Derived.Test.YtkooahfpogcmiaaCameI
import Derived.Test.YtkooahfpogcmiaaCloseS
namespace Go.Proofs.Ytkooahfpogcmiaa.lawJoinClose
open Go.ChangeShapes Go.WideShapes Go.ChangeAt Go.RowKit
open Go.ChangeMaps (open_string shut_string)

set_option maxRecDepth 100000 in
set_option maxHeartbeats 1000000 in
theorem walk (v : Value) (a0 a1 : Int) (w : World) (hc : CameI w v) :
    Calls Try.prog 11 #[.int .i64 a0, .int .i64 a1, v] w fun e w' => e = .returned (.bool true) ∧ Below w.heap.size w w' := by
  obtain ⟨A, c, l, rfl, hints, hlen⟩ := hc
  have HS := hid hints
  obtain ⟨n, hnl⟩ : ∃ n, l.length = n := ⟨_, rfl⟩
  have HNL := hid hnl
  rw [hnl] at hlen ⊢
  clear hints
  go_enter Try.func11, Try.ntmps11
  by_cases hbig : 1048576 < n
  · have hbi : (1048576 : Int) < (n : Int) := by omega
    go_wp2
    go_ret
    exact ⟨rfl, Below.refl _ _⟩
  have hbi : ¬ (1048576 : Int) < (n : Int) := by omega
  have HN := hid (show l.length ≤ 1048576 by rw [hnl]; omega)
  have HT := hid (fun (W : World) (hb : Below w.heap.size w W) => toIntS_any A c w.heap.size l W (HS.out.below hb (Nat.le_refl _)) hb.size HN.out)
  rw [hnl] at HT
  clear hnl
  go_wp2_with fail
  refine (HT.out w (Below.refl _ _)).mono ?_
  rintro e w1 ⟨rfl, hb1, hr1⟩
  have HB1 := hid hb1
  have HC1 := hid (specJoinClose_any a0 a1 (some ⟨w.heap.size, 0, none⟩) l.length w1.heap.size l w1 (hr1.ints hr1.lt) (Nat.le_refl _) HN.out)
  rw [HNL.out] at HC1
  clear hb1 hr1
  go_wp2_with fail
  refine HC1.out.mono ?_
  rintro e w2 ⟨hb2, x, ok, rfl, hend⟩
  have HE := hid hend
  clear hend
  have HB2 := hid (HB1.out.trans (hb2.mono HB1.out.size))
  clear hb2
  go_wp2_with fail
  refine (HT.out w2 HB2.out).mono ?_
  rintro e w3 ⟨rfl, hb3, hr3⟩
  have HR3 := hid hr3
  have HB3 := hid (HB2.out.trans (hb3.mono HB2.out.size))
  have HC3 := hid (implJoinClose_any a0 a1 (some ⟨w2.heap.size, 0, none⟩) l.length l w3 (hr3.ints hr3.lt) HN.out)
  rw [HNL.out] at HC3
  clear hb3 hr3
  go_wp2_with fail
  refine HC3.out.mono ?_
  rintro e w4 ⟨hb4, x', ok', rfl, hend⟩
  obtain ⟨rfl, rfl⟩ := HE.out.uniq hend
  clear hend
  have HR4 := hid (HR3.out.below hb4 HR3.out.lt)
  have HB4 := hid (HB3.out.trans (hb4.mono HB3.out.size))
  clear hb4
  go_wp2_with fail
  refine (HT.out w4 HB4.out).mono ?_
  rintro e w5 ⟨rfl, hb5, hr5⟩
  have HR5 := hid hr5
  have HX5 := hid (HR4.out.below hb5 HR4.out.lt)
  have HB5 := hid (HB4.out.trans (hb5.mono HB4.out.size))
  have HQ := hid (eqIntS_same (some ⟨w2.heap.size, 0, none⟩) (some ⟨w4.heap.size, 0, none⟩) l.length l.length w5.heap.size l w5 (HX5.out.ints HX5.out.lt) (HR5.out.ints HR5.out.lt) HN.out)
  rw [HNL.out] at HQ
  clear hb5 hr5
  go_wp2_with fail
  refine HQ.out.mono ?_
  rintro e w6 ⟨rfl, d6, rfl⟩
  have HB6 := hid (below_drewN' HB5.out d6)
  go_wp2
  go_ret
  exact ⟨rfl, HB6.out⟩

set_option maxRecDepth 100000 in
theorem lifted (os : Os) (started : os.Started) (H : Type) (enc : TypeId × Value → H) :
    ReturnsInHanded {} Try.checked os 11 .any (Rows.fnExactJoinCloseSpec.pre6 enc Try.prog Try.f11 Rows.fnExactJoinCloseRow.domain false) (Rows.fnExactJoinCloseSpec.post enc Try.prog Try.f11 false true false false) := by
  refine returnsInHanded_of_change (C := Try.checked) Try.own started (by kernel_rfl) Try.func11
    (ChangeSpec.witness6 (enc := enc) (C := Try.checked) false ⟨#[], #[.int .i64 0, .int .i64 0, .slice none 0 0], []⟩ 8 (by kernel_rfl) (by kernel_rfl) (by kernel_rfl) (by kernel_rfl)) ?_
  intro W base args ds gs before hval0 hW hcnd _
  have hval : ∀ (j : Nat) t v, Try.f11.params[j]? = some t → args[j]? = some v → Value.okWide Try.prog W .any base t v := hval0
  have hW' := hW
  obtain ⟨p, q, hA0, hV, rfl, hfz, hnd⟩ := hW
  have hA : DataW.TrodAll enc Try.prog W 0 (fun _ => true) true Try.f11.params.toList args.toList ds p := hA0
  rw [Try.params11] at hA hval
  obtain ⟨v0, v1, v2, d0, d1, d2, p0, p1, p2, rfl, rfl, rfl, h0, h1, h2⟩ := trodAll_three hA
  obtain ⟨rfl, rfl⟩ := trodVars_none hV
  have k2 := h2
  have lt2 : ∀ x ∈ p2, x.block < W.heap.size := by obtain ⟨m, hm⟩ := k2; exact DataW.trod_lt m _ _ _ hm
  have c2 := cameI_of (hval 2 23 v2 rfl rfl) h2
  obtain ⟨a0, rfl, rfl, rfl, w0⟩ := open_int Try.underlying3 (hval 0 3 v0 rfl rfl) h0
  obtain ⟨a1, rfl, rfl, rfl, w1⟩ := open_int Try.underlying3 (hval 1 3 v1 rfl rfl) h1
  clear hA0 hval0
  refine (walk v2 a0 a1 W c2).mono fun e W' ⟨he, bel⟩ => ?_
  subst he
  exact ⟨_, rfl, _, _, _, [], _, [], hW', trodAll_mk1 (shut_bool Try.underlying4 _), trodAll_mk3 (shut_int Try.underlying3 w0) (shut_int Try.underlying3 w1) (Below.trod Try.laidOut (by kernel_rfl) (of_decide_eq_true (by kernel_rfl)) k2 bel lt2), rfl, bel.frame _, fun h => by cases h⟩

theorem closed : joinedFacts Try.pinned.checked.prog 11 Try.f11 Rows.fnExactJoinCloseSpec Rows.fnExactJoinCloseRow = true := by
  unfold joinedFacts
  exact and8 (by as_aux_lemma => kernel_rfl) head_enter head_lifts head_make (by as_aux_lemma => kernel_rfl) (by as_aux_lemma => kernel_rfl) (by as_aux_lemma => kernel_rfl) (by as_aux_lemma => kernel_rfl)

theorem proved : Rows.FnExactJoinCloseSaid :=
  OpenClaim.holds_of_wide 11 Try.f11 rfl rfl rfl rfl rfl rfl rfl ⟨rfl, rfl, rfl, rfl, rfl⟩ rfl rfl rfl rfl rfl (by kernel_rfl) Try.func11 closed
    (of_decide_eq_true (by kernel_rfl)) (by unfold Func.isWrapper; first | (rw [if_pos (by decide +kernel)]; kernel_rfl) | (rw [if_neg (by decide +kernel)]; exact ⟨rfl, rfl⟩))
    (fun os started H enc _ => lifted os started H enc)
#print axioms proved

end Go.Proofs.Ytkooahfpogcmiaa.lawJoinClose
