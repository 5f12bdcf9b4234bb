/- For every list of texts, TermOf of the program answers as TermOf of the specification, and leaves its argument as it was: the law FnExactTermOf returns true, and its argument reads as it did. No condition. -/
import Derived.Test.YtongjijkdjagdaaBunA
import Derived.Test.YtongjijkdjagdaaHead
import Derived.Test.YtongjijkdjagdaaTermOS
namespace Go.Proofs.Ytongjijkdjagdaa.lawTermOf
open Go.ChangeShapes Go.WideShapes Go.ChangeAt Go.RowKit
open Go.ChangeMaps (open_string shut_string)

set_option maxRecDepth 100000 in
set_option maxHeartbeats 1000000 in
theorem walk (v : Value) (w : World) (hc : Came w v) :
    Calls Try.prog 3 #[v] w fun e w' => e = .returned (.bool true) ∧ Below w.heap.size w w' := by
  obtain ⟨A, c, ss, rfl, hstr, hlen, hsz⟩ := hc
  have hz := hid (szStringS_any A c w.heap.size ss 1048576 w hstr (by omega) (by omega) hlen hsz)
  have HS := hid hstr
  clear hlen hsz hstr
  go_enter Try.func3, Try.ntmps3
  go_wp2_with fail
  refine hz.out.mono ?_
  rintro e w0 ⟨r, rfl, rfl, hr⟩
  by_cases hneg : r < 0
  · clear hr
    go_wp2
    go_ret
    exact ⟨rfl, Below.refl _ _⟩
  · have hpos : 0 ≤ r := by omega
    have hb := hr hpos
    have hn : ss.length ≤ 1048576 := by omega
    have hs : ∀ s ∈ ss, s.size ≤ 1048576 := fun s hs => by have := size_le_bytes hs; omega
    have HN := hid hs
    clear hr hb hs
    go_wp2_with fail
    refine (toStringS_any A c w.heap.size ss w HS.out (Nat.le_refl _) hn).mono ?_
    rintro e w1 ⟨rfl, C1, hw1, hC1⟩
    have HR1 := hid (madeRow hC1 hw1)
    have HB1 := hid (show Below w.heap.size w w1 by rw [hw1]; exact (Below.refl _ w).alloc (Nat.le_refl _) _)
    clear hw1 hC1
    go_wp2_with fail
    refine (specTermOf_any (some ⟨w.heap.size, 0, none⟩) ss.length w1.heap.size ss w1 (HR1.out.strs HR1.out.lt) (Nat.le_refl _) (Nat.le_refl _) hn HN.out).mono ?_
    rintro e w2 ⟨hb2, x0, ok, rfl, hend⟩
    have HE := hid hend
    have HB2 := hid (HB1.out.trans (hb2.mono HB1.out.size))
    clear hend hb2
    go_wp2_with fail
    refine (toStringS_any A c w.heap.size ss w2 (HS.out.below HB2.out (Nat.le_refl _)) HB2.out.size hn).mono ?_
    rintro e w3 ⟨rfl, C3, hw3, hC3⟩
    have HR3 := hid (madeRow hC3 hw3)
    have HB3 := hid (show Below w.heap.size w w3 by rw [hw3]; exact HB2.out.alloc HB2.out.size _)
    clear hw3 hC3
    go_wp2_with fail
    refine (implTermOf_any (some ⟨w2.heap.size, 0, none⟩) ss.length ss w3 (HR3.out.strs HR3.out.lt) hn HN.out).mono ?_
    rintro e w4 ⟨hb4, y0, ok', rfl, hend⟩
    obtain ⟨rfl, rfl⟩ := HE.out.uniq hend
    have HB4 := hid hb4
    have HB := hid (HB3.out.trans (hb4.mono HB3.out.size))
    clear hb4 hend
    go_wp2_with fail
    refine (toStringS_any A c w.heap.size ss w4 (HS.out.below HB.out (Nat.le_refl _)) HB.out.size hn).mono ?_
    rintro e w5 ⟨rfl, C5, hw5, hC5⟩
    have HR5 := hid (madeRow hC5 hw5)
    have HX5 := hid (show Below w4.heap.size w4 w5 by rw [hw5]; exact (Below.refl _ w4).alloc (Nat.le_refl _) _)
    have HR5' := hid ((HR3.out.below HB4.out HR3.out.lt).below HX5.out (Nat.lt_of_lt_of_le HR3.out.lt HB4.out.size))
    have HB5 := hid (HB.out.trans (HX5.out.mono HB.out.size))
    clear hw5 hC5
    go_wp2_with fail
    refine (eqStringS_same (some ⟨w2.heap.size, 0, none⟩) (some ⟨w4.heap.size, 0, none⟩) ss.length ss.length w5.heap.size ss w5 (HR5'.out.strs HR5'.out.lt) (HR5.out.strs HR5.out.lt) hn).mono ?_
    rintro e w6 ⟨rfl, d6, rfl⟩
    have HB6 := hid (below_drewN' HB5.out d6)
    go_wp2
    go_ret
    exact ⟨rfl, HB6.out⟩

set_option maxRecDepth 100000 in
theorem lifted (os : Os) (started : os.Started) (H : Type) (enc : TypeId × Value → H) :
    ReturnsInHanded {} Try.checked os 3 .any (Rows.fnExactTermOfSpec.pre6 enc Try.prog Try.f3 Rows.fnExactTermOfRow.domain false) (Rows.fnExactTermOfSpec.post enc Try.prog Try.f3 false true false false) := by
  refine returnsInHanded_of_change (C := Try.checked) Try.own started (by kernel_rfl) Try.func3
    (ChangeSpec.witness6 (enc := enc) (C := Try.checked) false ⟨#[], #[.slice none 0 0], []⟩ 8 (by kernel_rfl) (by kernel_rfl) (by kernel_rfl) (by kernel_rfl)) ?_
  intro W base args ds gs before hval0 hW hcnd _
  have hval : ∀ (j : Nat) t v, Try.f3.params[j]? = some t → args[j]? = some v → Value.okWide Try.prog W .any base t v := hval0
  have hW' := hW
  obtain ⟨p, q, hA0, hV, rfl, hfz, hnd⟩ := hW
  have hA : DataW.TrodAll enc Try.prog W 0 (fun _ => true) true Try.f3.params.toList args.toList ds p := hA0
  rw [Try.params3] at hA hval
  obtain ⟨v0, vs0, d0, ds0, p0, q0, hargs, rfl, rfl, h0, r0⟩ := trodAll_cons hA
  obtain ⟨rfl, rfl, rfl⟩ := trodAll_nil r0
  obtain rfl : args = #[v0] := by cases args; simp_all
  obtain ⟨rfl, rfl⟩ := trodVars_none hV
  have k0 := h0
  have lt0 : ∀ x ∈ p0, x.block < W.heap.size := by obtain ⟨m, hm⟩ := k0; exact DataW.trod_lt m _ _ _ hm
  have c0 := came_of (hval 0 22 v0 rfl rfl) h0
  clear hA0 hval0
  refine (walk v0 W c0).mono fun e W' ⟨he, bel⟩ => ?_
  subst he
  exact ⟨_, rfl, _, _, _, [], _, [], hW', trodAll_mk1 (shut_bool Try.underlying4 _), (trodAll_cons_mk (Below.trod Try.laidOut (by kernel_rfl) (of_decide_eq_true (by kernel_rfl)) k0 bel lt0) trodAll_mk0), rfl, bel.frame _, fun h => by cases h⟩

theorem closed : joinedFacts Try.pinned.checked.prog 3 Try.f3 Rows.fnExactTermOfSpec Rows.fnExactTermOfRow = true := by
  unfold joinedFacts
  exact and8 (by as_aux_lemma => kernel_rfl) head_enter head_lifts head_make (by as_aux_lemma => kernel_rfl) (by as_aux_lemma => kernel_rfl) (by as_aux_lemma => kernel_rfl) (by as_aux_lemma => kernel_rfl)

theorem proved : Rows.FnExactTermOfSaid :=
  OpenClaim.holds_of_wide 3 Try.f3 rfl rfl rfl rfl rfl rfl rfl ⟨rfl, rfl, rfl, rfl, rfl⟩ rfl rfl rfl rfl rfl (by kernel_rfl) Try.func3 closed
    (of_decide_eq_true (by kernel_rfl)) (by unfold Func.isWrapper; first | (rw [if_pos (by decide +kernel)]; kernel_rfl) | (rw [if_neg (by decide +kernel)]; exact ⟨rfl, rfl⟩))
    (fun os started H enc _ => lifted os started H enc)
#print axioms proved

end Go.Proofs.Ytongjijkdjagdaa.lawTermOf
