/- For every code, rounds of the drawn grid cross each other in an even number of cells, of those that have two rounds' ways; the program's and the specification's answers are the same: the law FnCrossRounds returns true, and its argument reads as it did. No condition. -/
import Derived.Test.YtonhnmpgikmlpaaPKR
import Derived.Test.YtonhnmpgikmlpaaRoundsS
import Derived.Test.YtonhnmpgikmlpaaBunM
import Derived.Test.YtonhnmpgikmlpaaPotR
import Derived.Test.YtonhnmpgikmlpaaBunB
import Derived.Test.YtonhnmpgikmlpaaBunA
namespace Go.Proofs.Ytonhnmpgikmlpaa.lawFnCrossRounds
open Go.ChangeShapes Go.WideShapes Go.ChangeAt Go.RowKit
open Go.ChangeMaps (open_string shut_string)

theorem grid_let {n m : Nat} {ts : List ByteArray} (hg : IsGrid n m ts) : ∀ i k : Int, 0 ≤ i → i < n → 0 ≤ k → k < m → lett m (pad (flat ts)) i k = 46 ∨ lett m (pad (flat ts)) i k = 114 ∨ lett m (pad (flat ts)) i k = 102 := fun i k h1 h2 h3 h4 => by
  obtain ⟨r, rfl⟩ := Int.eq_ofNat_of_zero_le h1
  obtain ⟨q, rfl⟩ := Int.eq_ofNat_of_zero_le h3
  have hlt : r * m + q < (flat ts).length := by rw [hg.flen]; exact parts_lt (by omega) (by omega)
  have hl := hg.lets _ (List.getElem_mem hlt)
  unfold lett pad
  rw [show ((r : Int) * (m : Int) + (q : Int)).toNat = r * m + q by rw [← Int.natCast_mul, ← Int.natCast_add, Int.toNat_natCast], List.getD_eq_getElem?_getD, List.getElem?_append_left hlt, List.getElem?_eq_getElem hlt, Option.getD_some]
  simp only [isLet, Bool.or_eq_true, beq_iff_eq] at hl
  rcases hl with (h | h) | h
  · exact .inl h
  · exact .inr (.inl h)
  · exact .inr (.inr h)

theorem countP_mono' {p q : Nat → Bool} : ∀ l : List Nat, (∀ x ∈ l, p x = true → q x = true) → l.countP p ≤ l.countP q
  | [], _ => Nat.le_refl _
  | x :: l, h => by
    have ih := countP_mono' l fun y hy => h y (by simp [hy])
    have hx := h x (by simp)
    rw [List.countP_cons, List.countP_cons]
    cases hp : p x with
    | false => simp; omega
    | true => rw [hx hp]; simp; omega
theorem countP_three {p a b c : Nat → Bool} : ∀ l : List Nat, (∀ x ∈ l, (p x).toNat = (a x).toNat + (b x).toNat + (c x).toNat) → l.countP p = l.countP a + l.countP b + l.countP c
  | [], _ => rfl
  | x :: l, h => by
    have ih := countP_three l fun y hy => h y (by simp [hy])
    have hx := h x (by simp)
    have e : ∀ z : Bool, (if z = true then 1 else 0) = z.toNat := fun z => by cases z <;> rfl
    rw [List.countP_cons, List.countP_cons, List.countP_cons, List.countP_cons, e, e, e, e]
    omega
theorem cross_three {n m : Nat} {t : Int → Int → UInt8} : (List.range (n * m)).countP (crossC n m t [0, 1, 2]) = (List.range (n * m)).countP (crossC n m t [0]) + (List.range (n * m)).countP (crossC n m t [1]) + (List.range (n * m)).countP (crossC n m t [2]) := by
  refine countP_three _ fun c _ => ?_
  have h2 := atN_le (n := n) (m := m) (t := t) c
  unfold crossC
  generalize emptyC m t c = e
  generalize selfB n m t (placeN m c).i (placeN m c).k = s
  generalize atN n m t c = a at *
  rcases (show a = 0 ∨ a = 1 ∨ a = 2 by omega) with rfl | rfl | rfl <;> cases e <;> cases s <;> decide

theorem facts {n m : Nat} {ts : List ByteArray} (h : IsGrid n m ts) : ∃ (k z b c : Nat), crossR [2] n m (lett m (pad (flat ts))) = ((k : Int), true) ∧ rtwiceR n m (lett m (pad (flat ts))) = ((z : Int), true) ∧ crossR [0] n m (lett m (pad (flat ts))) = ((b : Int), true) ∧ crossR [0, 1, 2] n m (lett m (pad (flat ts))) = ((c : Int), true) ∧ (k : Int).tmod 2 = 0 ∧ k ≤ z ∧ k + b ≤ c ∧ c ≤ 25 := by
  have h3 := cross_three (n := n) (m := m) (t := lett m (pad (flat ts)))
  have h4 := rr_even (n := n) (m := m) (grid_let h)
  have h25 := h.le25
  have hl := List.countP_le_length (p := crossC n m (lett m (pad (flat ts))) [0, 1, 2]) (l := List.range (n * m))
  rw [List.length_range] at hl
  refine ⟨_, _, _, _, rfl, rfl, rfl, rfl, ?_, ?_, by omega, by omega⟩
  · rw [Int.tmod_eq_emod_of_nonneg (by omega)]; omega
  · refine countP_mono' _ fun c _ hc => ?_
    have := (crossC_iff.1 hc).2.2
    simp only [List.mem_singleton] at this
    rw [beq_iff_eq]
    omega

set_option maxRecDepth 100000 in
set_option maxHeartbeats 1000000 in
theorem draw_any (A : Option Addr) (len cap : Nat) (w : World) (h : CodeAt w A len) (hl : len ≤ 1048576) (hc : len ≤ cap) (hc2 : cap ≤ 9223372036854775807) :
    Calls Try.prog 29 #[.slice A len cap] w fun e w' => Below w.heap.size w w' ∧ ∃ A c ts, e = .returned (.slice A ts.length c) ∧ LS w' A ts ∧ Drawn 5 5 ts := by
  have HOP := hid (l6Open_any A len cap w (by omega) hc hc2)
  have HRD := hid (fun len' (h1 : len' ≤ len) (h2 : len' ≤ 2000) => open_rd (cap := cap) h h1 h2)
  have HSO := hid (fun W (hr : Rd W w.heap.size 0) => l91Some_any w.heap.size 0 5 5 W hr (by omega) (by omega) (by omega) (by omega) (by omega))
  clear h
  go_enter Try.func29, Try.ntmps29
  go_wp2_with fail
  refine HOP.out.mono ?_
  rintro e w1 ⟨rfl, len', h1, h2, _, rfl⟩
  have HS := hid (HSO.out _ (HRD.out len' h1 h2))
  go_wp2_with fail
  refine HS.out.mono ?_
  rintro e w2 ⟨⟨gb, c1, ts, rfl, _, hst, h3, h4, h5⟩, _, hgw⟩
  have HST := hid (hst.strs hst.lt)
  have HD := hid (show Drawn 5 5 ts from ⟨h3, h4, h5⟩)
  have HB := hid (((Below.refl _ w).alloc (Nat.le_refl _) (.cells #[.slice A len' cap, .int .i64 0] 124)).grown hgw (by simp) (fun k e => by cases e; exact Nat.le_refl _))
  clear hst h3 h4 h5 hgw
  go_wp2_with fail
  go_ret
  exact ⟨HB.out, _, c1, ts, rfl, HST.out, HD.out⟩

set_option maxRecDepth 100000 in
set_option maxHeartbeats 4000000 in
theorem walk (v : Value) (w : World) (hc : CameB w v) :
    Calls Try.prog 6 #[v] w fun e w' => e = .returned (.bool true) ∧ Below w.heap.size w w' := by
  obtain ⟨A, len, cap, rfl, hcode, hlc, hcap⟩ := hc
  have HCD := hid hcode
  clear hcode
  go_enter Try.func6, Try.ntmps6
  by_cases hbig : 1048576 < len
  · have hbi : (1048576 : Int) < (len : Int) := by omega
    go_wp2_with fail
    go_ret
    exact ⟨rfl, Below.refl _ _⟩
  have hbi : ¬ (1048576 : Int) < (len : Int) := by omega
  have HDR := hid (draw_any A len cap w HCD.out (by omega) hlc hcap)
  have HC1 := hid (HDR.out)
  go_wp2_with fail
  refine HC1.out.mono ?_
  rintro e w1 ⟨hb, A1, c1, ts, rfl, hl, hd⟩
  have HB1 := hid hb
  have Lts1 := hid hl
  clear hl
  clear hb HC1
  have HSM := hid (hd.small (by decide) (by decide))
  clear hd
  have HC2 := hid (implCrossRounds_any A1 c1 ts w1 Lts1.out HSM.out.1 HSM.out.2)
  go_wp2_with fail
  refine HC2.out.mono ?_
  rintro e w2 ⟨hb, out, ok, rfl, hout⟩
  have HB2 := hid (HB1.out.trans (hb.mono HB1.out.size))
  clear HB1
  have Lts2 := hid (Lts1.out.step hb)
  clear Lts1
  clear hb HC2
  have HO := hid hout
  clear hout
  have HC3 := hid (specCrossRounds_any A1 c1 w2.heap.size ts w2 Lts2.out (Nat.le_refl _) HSM.out.1 HSM.out.2)
  go_wp2_with fail
  refine HC3.out.mono ?_
  rintro e w3 ⟨hb, out2, ok2, rfl, hout2⟩
  have HB3 := hid (HB2.out.trans (hb.mono HB2.out.size))
  clear HB2
  have Lts3 := hid (Lts2.out.step hb)
  clear Lts2
  clear hb HC3
  obtain ⟨rfl, rfl⟩ := HO.out.uniq hout2
  clear hout2
  rcases HO.out with ⟨n, m, hg, hv⟩ | ⟨_, rfl, rfl⟩
  · obtain ⟨k, z, b, c, hR, e1, e2, e3, hk2, hkz, hkb, hc25⟩ := facts hg
    rw [hR] at hv
    obtain ⟨rfl, rfl⟩ := Prod.mk.inj hv
    clear hv hR
    have h1 : (k : Int) ≤ (z : Int) := by omega
    have h2 : (k : Int) + (b : Int) ≤ (c : Int) := by omega
    have h3 : (k : Int) ≤ 25 := by omega
    have h4 : (b : Int) ≤ 25 := by omega
    have HG := hid hg
    have E1 := hid e1
    have E2 := hid e2
    have E3 := hid e3
    clear hg e1 e2 e3
    go_wp2_with fail
    refine (nRoundTwice (Lts3.out) HG.out E1.out).mono ?_
    rintro e w4 ⟨hb, rfl⟩
    have HB4 := hid (HB3.out.trans (hb.mono HB3.out.size))
    clear HB3
    have Lts4 := hid (Lts3.out.step hb)
    clear Lts3
    clear hb
    go_wp2_with fail
    refine (nCrossBeams (Lts4.out) HG.out E2.out).mono ?_
    rintro e w5 ⟨hb, rfl⟩
    have HB5 := hid (HB4.out.trans (hb.mono HB4.out.size))
    clear HB4
    have Lts5 := hid (Lts4.out.step hb)
    clear Lts4
    clear hb
    go_wp2_with fail
    refine (nCrossTotal (Lts5.out) HG.out E3.out).mono ?_
    rintro e w6 ⟨hb, rfl⟩
    have HB6 := hid (HB5.out.trans (hb.mono HB5.out.size))
    clear HB5
    have Lts6 := hid (Lts5.out.step hb)
    clear Lts5
    clear hb
    go_wp2_with fail
    go_ret
    exact ⟨rfl, HB6.out⟩
  · skip
    go_wp2_with fail
    go_ret
    exact ⟨rfl, HB3.out⟩

set_option maxRecDepth 100000 in
theorem lifted (os : Os) (started : os.Started) (H : Type) (enc : TypeId × Value → H) :
    ReturnsInHanded {} Try.checked os 6 .any (Rows.fnCrossRoundsSpec.pre6 enc Try.prog Try.f6 Rows.fnCrossRoundsRow.domain false) (Rows.fnCrossRoundsSpec.post enc Try.prog Try.f6 false true false false) := by
  refine returnsInHanded_of_change (C := Try.checked) Try.own started (by kernel_rfl) Try.func6
    (ChangeSpec.witness6 (enc := enc) (C := Try.checked) false ⟨#[], #[.slice none 0 0], []⟩ 8 (by kernel_rfl) (by kernel_rfl) (by kernel_rfl) (by kernel_rfl)) ?_
  intro W base args ds gs before hval0 hW hcnd _
  have hval : ∀ (j : Nat) t v, Try.f6.params[j]? = some t → args[j]? = some v → Value.okWide Try.prog W .any base t v := hval0
  have hW' := hW
  obtain ⟨p, q, hA0, hV, rfl, hfz, hnd⟩ := hW
  have hA : DataW.TrodAll enc Try.prog W 0 (fun _ => true) true Try.f6.params.toList args.toList ds p := hA0
  rw [Try.params6] at hA hval
  obtain ⟨v0, vs0, d0, ds0, p0, q0, hargs, rfl, rfl, h0, r0⟩ := trodAll_cons hA
  obtain ⟨rfl, rfl, rfl⟩ := trodAll_nil r0
  obtain rfl : args = #[v0] := by cases args; simp_all
  obtain ⟨rfl, rfl⟩ := trodVars_none hV
  have k0 := h0
  have lt0 : ∀ x ∈ p0, x.block < W.heap.size := by obtain ⟨m, hm⟩ := k0; exact DataW.trod_lt m _ _ _ hm
  have c0 := cameB_of (hval 0 22 v0 rfl rfl) h0
  clear hA0 hval0
  refine (walk v0 W c0).mono fun e W' ⟨he, bel⟩ => ?_
  subst he
  exact ⟨_, rfl, _, _, _, [], _, [], hW', trodAll_mk1 (shut_bool Try.underlying4 _), (trodAll_cons_mk (Below.trod Try.laidOut (by kernel_rfl) (of_decide_eq_true (by kernel_rfl)) k0 bel lt0) trodAll_mk0), rfl, bel.frame _, fun h => by cases h⟩

theorem closed : joinedFacts Try.pinned.checked.prog 6 Try.f6 Rows.fnCrossRoundsSpec Rows.fnCrossRoundsRow = true := by
  unfold joinedFacts
  exact and8 (by as_aux_lemma => kernel_rfl) head_enter head_lifts head_make (by as_aux_lemma => kernel_rfl) (by as_aux_lemma => kernel_rfl) (by as_aux_lemma => kernel_rfl) (by as_aux_lemma => kernel_rfl)

theorem proved : Rows.FnCrossRoundsSaid :=
  OpenClaim.holds_of_wide 6 Try.f6 rfl rfl rfl rfl rfl rfl rfl ⟨rfl, rfl, rfl, rfl, rfl⟩ rfl rfl rfl rfl rfl (by kernel_rfl) Try.func6 closed
    (of_decide_eq_true (by kernel_rfl)) (by unfold Func.isWrapper; first | (rw [if_pos (by decide +kernel)]; kernel_rfl) | (rw [if_neg (by decide +kernel)]; exact ⟨rfl, rfl⟩))
    (fun os started H enc _ => lifted os started H enc)
#print axioms proved

end Go.Proofs.Ytonhnmpgikmlpaa.lawFnCrossRounds
