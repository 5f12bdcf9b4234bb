/- For every code, the drawn pairing moved on by one is a pairing; the program's and the specification's answers are the same: the law FnCrossIn returns true, and its argument reads as it did. No condition. -/
import Derived.Test.YtgapdlokljcpbaaPKR
import Derived.Test.YtgapdlokljcpbaaDrawChords
import Derived.Test.YtgapdlokljcpbaaPairQ
namespace Go.Proofs.Ytgapdlokljcpbaa.lawFnCrossIn
open Go.ChangeShapes Go.WideShapes Go.ChangeAt Go.RowKit
open Go.ChangeMaps (open_string shut_string)

theorem nSpecIn {c : Nat} {A : Option Addr} {l : List Int} {w : World} {b : Bool} (h : LI w A l) (hn : l.length ≤ 1048576) (hb : isPairB l = b) :
    Calls Try.prog 33 #[.slice A l.length c] w fun e w' => Below w.heap.size w w' ∧ e = .returned (.bool b) :=
  (specCrossIn_any A c w.heap.size l w h hn).mono fun _ _ ⟨he, hb'⟩ => ⟨hb', by rw [he, hb]⟩
theorem facts {l : List Int} {b : Bool} (h : isPairB l = b) : b = false ∨ ∃ r, b = true ∧ IsPair l ∧ turnL l 1 = r ∧ isPairB r = true ∧ r.length ≤ 1048576 := by
  cases b with
  | false => exact .inl rfl
  | true =>
    have h := isPairB_iff.1 h
    have h2 := turnL_pair 1 h
    exact .inr ⟨_, rfl, h, rfl, isPairB_iff.2 h2, by have := h2.2.1; omega⟩

set_option maxRecDepth 100000 in
set_option maxHeartbeats 1000000 in
theorem draw_any (A : Option Addr) (len cap : Nat) (w : World) (h : CodeAt w A len) (hl : len ≤ 1048576) (hc : len ≤ cap) (hc2 : cap ≤ 9223372036854775807) :
    Calls Try.prog 32 #[.slice A len cap] w fun e w' => Below w.heap.size w w' ∧ ∃ A c l, e = .returned (.slice A l.length c) ∧ LI w' A l ∧ l.length ≤ 20 := by
  have HP := hid (l91Chords_any A len cap w h hl hc hc2)
  clear h
  go_enter Try.func32, Try.ntmps32
  go_wp2_with fail
  refine HP.out.mono ?_
  rintro e w1 ⟨hb, A1, c1, l, rfl, hli, h20⟩
  have HB := hid hb
  have HL := hid hli
  clear hb hli
  go_wp2_with fail
  go_ret
  exact ⟨HB.out, A1, c1, l, rfl, HL.out, h20⟩

set_option maxRecDepth 100000 in
set_option maxHeartbeats 4000000 in
theorem walk (v : Value) (w : World) (hc : CameB w v) :
    Calls Try.prog 7 #[v] w fun e w' => e = .returned (.bool true) ∧ Below w.heap.size w w' := by
  obtain ⟨A, len, cap, rfl, hcode, hlc, hcap⟩ := hc
  have HCD := hid hcode
  clear hcode
  go_enter Try.func7, Try.ntmps7
  by_cases hbig : 1048576 < len
  · have hbi : (1048576 : Int) < (len : Int) := by omega
    go_wp2_with fail
    go_ret
    exact ⟨rfl, Below.refl _ _⟩
  have hbi : ¬ (1048576 : Int) < (len : Int) := by omega
  have HDR := hid (draw_any A len cap w HCD.out (by omega) hlc hcap)
  have HC1 := hid (HDR.out)
  go_wp2_with fail
  refine HC1.out.mono ?_
  rintro e w1 ⟨hb, A1, c1, l, rfl, hl, hl20⟩
  have HB1 := hid hb
  have Ll1 := hid hl
  clear hl
  clear hb HC1
  obtain ⟨b, hb0⟩ : ∃ b, isPairB l = b := ⟨_, rfl⟩
  have HBB := hid hb0
  clear hb0
  go_wp2_with fail
  refine (nCrossIn (Ll1.out) (by omega) HBB.out).mono ?_
  rintro e w2 ⟨hb, rfl⟩
  have HB2 := hid (HB1.out.trans (hb.mono HB1.out.size))
  clear HB1
  have Ll2 := hid (Ll1.out.step hb)
  clear Ll1
  clear hb
  go_wp2_with fail
  refine (nSpecIn (Ll2.out) (by omega) HBB.out).mono ?_
  rintro e w3 ⟨hb, rfl⟩
  have HB3 := hid (HB2.out.trans (hb.mono HB2.out.size))
  clear HB2
  have Ll3 := hid (Ll2.out.step hb)
  clear Ll2
  clear hb
  rcases facts HBB.out with rfl | ⟨r, rfl, h1, h2, h3, h4⟩
  · skip
    go_wp2_with fail
    go_ret
    exact ⟨rfl, HB3.out⟩
  · skip
    have H1 := hid h1
    have H2 := hid h2
    have H3 := hid h3
    have H4 := hid h4
    clear h1 h2 h3 h4
    go_wp2_with fail
    refine (nCrossTurn (k := 1) (kk := 1) (Ll3.out) H1.out (by omega) rfl H2.out).mono ?_
    rintro e w4 ⟨hb, A4, c4, rfl, hl⟩
    have HB4 := hid (HB3.out.trans (hb.mono HB3.out.size))
    clear HB3
    have Ll4 := hid (Ll3.out.step hb)
    clear Ll3
    have Lx4 := hid hl
    clear hl
    clear hb
    go_wp2_with fail
    refine (nCrossIn (Lx4.out) H4.out H3.out).mono ?_
    rintro e w5 ⟨hb, rfl⟩
    have HB5 := hid (HB4.out.trans (hb.mono HB4.out.size))
    clear HB4
    have Ll5 := hid (Ll4.out.step hb)
    clear Ll4
    have Lx5 := hid (Lx4.out.step hb)
    clear Lx4
    clear hb
    go_wp2_with fail
    go_ret
    exact ⟨rfl, HB5.out⟩

set_option maxRecDepth 100000 in
theorem lifted (os : Os) (started : os.Started) (H : Type) (enc : TypeId × Value → H) :
    ReturnsInHanded {} Try.checked os 7 .any (Rows.fnCrossInSpec.pre6 enc Try.prog Try.f7 Rows.fnCrossInRow.domain false) (Rows.fnCrossInSpec.post enc Try.prog Try.f7 false true false false) := by
  refine returnsInHanded_of_change (C := Try.checked) Try.own started (by kernel_rfl) Try.func7
    (ChangeSpec.witness6 (enc := enc) (C := Try.checked) false ⟨#[], #[.slice none 0 0], []⟩ 8 (by kernel_rfl) (by kernel_rfl) (by kernel_rfl) (by kernel_rfl)) ?_
  intro W base args ds gs before hval0 hW hcnd _
  have hval : ∀ (j : Nat) t v, Try.f7.params[j]? = some t → args[j]? = some v → Value.okWide Try.prog W .any base t v := hval0
  have hW' := hW
  obtain ⟨p, q, hA0, hV, rfl, hfz, hnd⟩ := hW
  have hA : DataW.TrodAll enc Try.prog W 0 (fun _ => true) true Try.f7.params.toList args.toList ds p := hA0
  rw [Try.params7] at hA hval
  obtain ⟨v0, vs0, d0, ds0, p0, q0, hargs, rfl, rfl, h0, r0⟩ := trodAll_cons hA
  obtain ⟨rfl, rfl, rfl⟩ := trodAll_nil r0
  obtain rfl : args = #[v0] := by cases args; simp_all
  obtain ⟨rfl, rfl⟩ := trodVars_none hV
  have k0 := h0
  have lt0 : ∀ x ∈ p0, x.block < W.heap.size := by obtain ⟨m, hm⟩ := k0; exact DataW.trod_lt m _ _ _ hm
  have c0 := cameB_of (hval 0 22 v0 rfl rfl) h0
  clear hA0 hval0
  refine (walk v0 W c0).mono fun e W' ⟨he, bel⟩ => ?_
  subst he
  exact ⟨_, rfl, _, _, _, [], _, [], hW', trodAll_mk1 (shut_bool Try.underlying4 _), (trodAll_cons_mk (Below.trod Try.laidOut (by kernel_rfl) (of_decide_eq_true (by kernel_rfl)) k0 bel lt0) trodAll_mk0), rfl, bel.frame _, fun h => by cases h⟩

theorem closed : joinedFacts Try.pinned.checked.prog 7 Try.f7 Rows.fnCrossInSpec Rows.fnCrossInRow = true := by
  unfold joinedFacts
  exact and8 (by as_aux_lemma => kernel_rfl) head_enter head_lifts head_make (by as_aux_lemma => kernel_rfl) (by as_aux_lemma => kernel_rfl) (by as_aux_lemma => kernel_rfl) (by as_aux_lemma => kernel_rfl)

theorem proved : Rows.FnCrossInSaid :=
  OpenClaim.holds_of_wide 7 Try.f7 rfl rfl rfl rfl rfl rfl rfl ⟨rfl, rfl, rfl, rfl, rfl⟩ rfl rfl rfl rfl rfl (by kernel_rfl) Try.func7 closed
    (of_decide_eq_true (by kernel_rfl)) (by unfold Func.isWrapper; first | (rw [if_pos (by decide +kernel)]; kernel_rfl) | (rw [if_neg (by decide +kernel)]; exact ⟨rfl, rfl⟩))
    (fun os started H enc _ => lifted os started H enc)
#print axioms proved

end Go.Proofs.Ytgapdlokljcpbaa.lawFnCrossIn
