/- For every code, the drawn pairing moved on by three has as many crossings, and no more than pairs of pairs; the program's and the specification's answers are the same: the law FnChords returns true, and its argument reads as it did. No condition. -/
import Derived.Test.YtgapdlokljcpbaaPKR
import Derived.Test.YtgapdlokljcpbaaDrawChords
import Derived.Test.YtgapdlokljcpbaaPairQ
import Derived.Test.YtgapdlokljcpbaaBunS
namespace Go.Proofs.Ytgapdlokljcpbaa.lawFnChords
open Go.ChangeShapes Go.WideShapes Go.ChangeAt Go.RowKit
open Go.ChangeMaps (open_string shut_string)

theorem facts {l : List Int} (h : IsPair l) : ∃ (c k M : Nat) (r : List Int), chordsC (intAt l) l.length l.length = c ∧ turnL l 3 = r ∧ IsPair r ∧ chordsC (intAt r) r.length r.length = c ∧ l.length = M ∧ M ≤ 20 ∧ 4 ≤ M ∧ M / 2 = k ∧ c ≤ k * (k - 1) / 2 := by
  have hev := h.even
  obtain ⟨k, hk⟩ : ∃ k, l.length = 2 * k := ⟨l.length / 2, by omega⟩
  have h3 := chords_few h hk
  have h4 := chords_turn h 3
  refine ⟨_, k, _, _, rfl, rfl, turnL_pair 3 h, by rw [turnL_length]; exact h4, rfl, h.2.1, h.1, by omega, ?_⟩
  rw [Nat.le_div_iff_mul_le (by decide)]
  omega

set_option maxRecDepth 100000 in
set_option maxHeartbeats 1000000 in
theorem draw_any (A : Option Addr) (len cap : Nat) (w : World) (h : CodeAt w A len) (hl : len ≤ 1048576) (hc : len ≤ cap) (hc2 : cap ≤ 9223372036854775807) :
    Calls Try.prog 37 #[.slice A len cap] w fun e w' => Below w.heap.size w w' ∧ ∃ A c l, e = .returned (.slice A l.length c) ∧ LI w' A l ∧ l.length ≤ 20 := by
  have HP := hid (l91Chords_any A len cap w h hl hc hc2)
  clear h
  go_enter Try.func37, Try.ntmps37
  go_wp2_with fail
  refine HP.out.mono ?_
  rintro e w1 ⟨hb, A1, c1, l, rfl, hli, h20⟩
  have HB := hid hb
  have HL := hid hli
  clear hb hli
  go_wp2_with fail
  go_ret
  exact ⟨HB.out, A1, c1, l, rfl, HL.out, h20⟩

set_option maxRecDepth 100000 in
set_option maxHeartbeats 4000000 in
theorem walk (v : Value) (w : World) (hc : CameB w v) :
    Calls Try.prog 9 #[v] w fun e w' => e = .returned (.bool true) ∧ Below w.heap.size w w' := by
  obtain ⟨A, len, cap, rfl, hcode, hlc, hcap⟩ := hc
  have HCD := hid hcode
  clear hcode
  go_enter Try.func9, Try.ntmps9
  by_cases hbig : 1048576 < len
  · have hbi : (1048576 : Int) < (len : Int) := by omega
    go_wp2_with fail
    go_ret
    exact ⟨rfl, Below.refl _ _⟩
  have hbi : ¬ (1048576 : Int) < (len : Int) := by omega
  have HDR := hid (draw_any A len cap w HCD.out (by omega) hlc hcap)
  have HC1 := hid (HDR.out)
  go_wp2_with fail
  refine HC1.out.mono ?_
  rintro e w1 ⟨hb, A1, c1, l, rfl, hl, hl20⟩
  have HB1 := hid hb
  have Ll1 := hid hl
  clear hl
  clear hb HC1
  have HC2 := hid (implCrossChords_any A1 c1 l w1 Ll1.out (by omega))
  go_wp2_with fail
  refine HC2.out.mono ?_
  rintro e w2 ⟨hb, out, ok, rfl, hout⟩
  have HB2 := hid (HB1.out.trans (hb.mono HB1.out.size))
  clear HB1
  have Ll2 := hid (Ll1.out.step hb)
  clear Ll1
  clear hb HC2
  have HO := hid hout
  clear hout
  have HC3 := hid (specCrossChords_any A1 c1 w2.heap.size l w2 Ll2.out (by omega))
  go_wp2_with fail
  refine HC3.out.mono ?_
  rintro e w3 ⟨hb, out2, ok2, rfl, hout2⟩
  have HB3 := hid (HB2.out.trans (hb.mono HB2.out.size))
  clear HB2
  have Ll3 := hid (Ll2.out.step hb)
  clear Ll2
  clear hb HC3
  obtain ⟨rfl, rfl⟩ := HO.out.uniq hout2
  clear hout2
  rcases HO.out with ⟨hp, hv, rfl⟩ | ⟨_, rfl, rfl⟩
  · obtain ⟨c, k, M, r, e1, e2, p2, e3, hlM, hM20, hM4, hk, hck⟩ := facts hp
    rw [e1] at hv
    subst hv
    have hlMi : ((l.length : Nat) : Int) = (M : Int) := by rw [hlM]
    have hki : (M : Int) / 2 = (k : Int) := by omega
    have hk10 : k ≤ 10 := by omega
    have hk2 : 2 ≤ k := by omega
    obtain ⟨z, hz⟩ : ∃ z : Nat, k * (k - 1) = z := ⟨_, rfl⟩
    have hzi : (k : Int) * ((k : Int) - 1) = (z : Int) := by rw [← hz, Int.natCast_mul, Int.natCast_sub (by omega)]; rfl
    have hz99 : z ≤ 100 := by rw [← hz]; exact Nat.le_trans (Nat.mul_le_mul hk10 (show k - 1 ≤ 10 by omega)) (by decide)
    rw [hz] at hck
    obtain ⟨y, hy⟩ : ∃ y : Nat, z / 2 = y := ⟨_, rfl⟩
    have hyi : (z : Int) / 2 = (y : Int) := by omega
    rw [hy] at hck
    have hcki : (c : Int) ≤ (y : Int) := by omega
    have hc0 : (0 : Int) ≤ (c : Int) := by omega
    clear hz hk hy hlM
    have HP := hid hp
    have E1 := hid e1
    have E2 := hid e2
    have P2 := hid p2
    have E3 := hid e3
    clear hp e1 e2 p2 e3
    go_wp2_with fail
    refine (nCrossTurn (k := 3) (kk := 3) (Ll3.out) HP.out (by omega) rfl E2.out).mono ?_
    rintro e w4 ⟨hb, A4, c4, rfl, hl⟩
    have HB4 := hid (HB3.out.trans (hb.mono HB3.out.size))
    clear HB3
    have Ll4 := hid (Ll3.out.step hb)
    clear Ll3
    have Lx4 := hid hl
    clear hl
    clear hb
    go_wp2_with fail
    refine (nCrossChords (Lx4.out) P2.out E3.out).mono ?_
    rintro e w5 ⟨hb, rfl⟩
    have HB5 := hid (HB4.out.trans (hb.mono HB4.out.size))
    clear HB4
    have Ll5 := hid (Ll4.out.step hb)
    clear Ll4
    have Lx5 := hid (Lx4.out.step hb)
    clear Lx4
    clear hb
    go_wp2_with fail
    go_ret
    exact ⟨rfl, HB5.out⟩
  · skip
    go_wp2_with fail
    go_ret
    exact ⟨rfl, HB3.out⟩

set_option maxRecDepth 100000 in
theorem lifted (os : Os) (started : os.Started) (H : Type) (enc : TypeId × Value → H) :
    ReturnsInHanded {} Try.checked os 9 .any (Rows.fnChordsSpec.pre6 enc Try.prog Try.f9 Rows.fnChordsRow.domain false) (Rows.fnChordsSpec.post enc Try.prog Try.f9 false true false false) := by
  refine returnsInHanded_of_change (C := Try.checked) Try.own started (by kernel_rfl) Try.func9
    (ChangeSpec.witness6 (enc := enc) (C := Try.checked) false ⟨#[], #[.slice none 0 0], []⟩ 8 (by kernel_rfl) (by kernel_rfl) (by kernel_rfl) (by kernel_rfl)) ?_
  intro W base args ds gs before hval0 hW hcnd _
  have hval : ∀ (j : Nat) t v, Try.f9.params[j]? = some t → args[j]? = some v → Value.okWide Try.prog W .any base t v := hval0
  have hW' := hW
  obtain ⟨p, q, hA0, hV, rfl, hfz, hnd⟩ := hW
  have hA : DataW.TrodAll enc Try.prog W 0 (fun _ => true) true Try.f9.params.toList args.toList ds p := hA0
  rw [Try.params9] at hA hval
  obtain ⟨v0, vs0, d0, ds0, p0, q0, hargs, rfl, rfl, h0, r0⟩ := trodAll_cons hA
  obtain ⟨rfl, rfl, rfl⟩ := trodAll_nil r0
  obtain rfl : args = #[v0] := by cases args; simp_all
  obtain ⟨rfl, rfl⟩ := trodVars_none hV
  have k0 := h0
  have lt0 : ∀ x ∈ p0, x.block < W.heap.size := by obtain ⟨m, hm⟩ := k0; exact DataW.trod_lt m _ _ _ hm
  have c0 := cameB_of (hval 0 22 v0 rfl rfl) h0
  clear hA0 hval0
  refine (walk v0 W c0).mono fun e W' ⟨he, bel⟩ => ?_
  subst he
  exact ⟨_, rfl, _, _, _, [], _, [], hW', trodAll_mk1 (shut_bool Try.underlying4 _), (trodAll_cons_mk (Below.trod Try.laidOut (by kernel_rfl) (of_decide_eq_true (by kernel_rfl)) k0 bel lt0) trodAll_mk0), rfl, bel.frame _, fun h => by cases h⟩

theorem closed : joinedFacts Try.pinned.checked.prog 9 Try.f9 Rows.fnChordsSpec Rows.fnChordsRow = true := by
  unfold joinedFacts
  exact and8 (by as_aux_lemma => kernel_rfl) head_enter head_lifts head_make (by as_aux_lemma => kernel_rfl) (by as_aux_lemma => kernel_rfl) (by as_aux_lemma => kernel_rfl) (by as_aux_lemma => kernel_rfl)

theorem proved : Rows.FnChordsSaid :=
  OpenClaim.holds_of_wide 9 Try.f9 rfl rfl rfl rfl rfl rfl rfl ⟨rfl, rfl, rfl, rfl, rfl⟩ rfl rfl rfl rfl rfl (by kernel_rfl) Try.func9 closed
    (of_decide_eq_true (by kernel_rfl)) (by unfold Func.isWrapper; first | (rw [if_pos (by decide +kernel)]; kernel_rfl) | (rw [if_neg (by decide +kernel)]; exact ⟨rfl, rfl⟩))
    (fun os started H enc _ => lifted os started H enc)
#print axioms proved

end Go.Proofs.Ytgapdlokljcpbaa.lawFnChords
