/- For every code, paths of the drawn grid cross in empty cells, and beams and rounds in an even number of them; the program's and the specification's answers are the same: the law FnTotal returns true, and its argument reads as it did. No condition. -/
import Derived.Test.YtonhnmpgikmlpaaPKR
import Derived.Test.YtonhnmpgikmlpaaTotalS
import Derived.Test.YtonhnmpgikmlpaaBunM
import Derived.Test.YtonhnmpgikmlpaaPotR
import Derived.Test.YtonhnmpgikmlpaaBunB
import Derived.Test.YtonhnmpgikmlpaaBunA
import Derived.Test.YtonhnmpgikmlpaaGridQ
namespace Go.Proofs.Ytonhnmpgikmlpaa.lawFnTotal
open Go.ChangeShapes Go.WideShapes Go.ChangeAt Go.RowKit
open Go.ChangeMaps (open_string shut_string)

theorem grid_let {n m : Nat} {ts : List ByteArray} (hg : IsGrid n m ts) : ∀ i k : Int, 0 ≤ i → i < n → 0 ≤ k → k < m → lett m (pad (flat ts)) i k = 46 ∨ lett m (pad (flat ts)) i k = 114 ∨ lett m (pad (flat ts)) i k = 102 := fun i k h1 h2 h3 h4 => by
  obtain ⟨r, rfl⟩ := Int.eq_ofNat_of_zero_le h1
  obtain ⟨q, rfl⟩ := Int.eq_ofNat_of_zero_le h3
  have hlt : r * m + q < (flat ts).length := by rw [hg.flen]; exact parts_lt (by omega) (by omega)
  have hl := hg.lets _ (List.getElem_mem hlt)
  unfold lett pad
  rw [show ((r : Int) * (m : Int) + (q : Int)).toNat = r * m + q by rw [← Int.natCast_mul, ← Int.natCast_add, Int.toNat_natCast], List.getD_eq_getElem?_getD, List.getElem?_append_left hlt, List.getElem?_eq_getElem hlt, Option.getD_some]
  simp only [isLet, Bool.or_eq_true, beq_iff_eq] at hl
  rcases hl with (h | h) | h
  · exact .inl h
  · exact .inr (.inl h)
  · exact .inr (.inr h)

theorem countP_mono' {p q : Nat → Bool} : ∀ l : List Nat, (∀ x ∈ l, p x = true → q x = true) → l.countP p ≤ l.countP q
  | [], _ => Nat.le_refl _
  | x :: l, h => by
    have ih := countP_mono' l fun y hy => h y (by simp [hy])
    have hx := h x (by simp)
    rw [List.countP_cons, List.countP_cons]
    cases hp : p x with
    | false => simp; omega
    | true => rw [hx hp]; simp; omega
theorem countP_three {p a b c : Nat → Bool} : ∀ l : List Nat, (∀ x ∈ l, (p x).toNat = (a x).toNat + (b x).toNat + (c x).toNat) → l.countP p = l.countP a + l.countP b + l.countP c
  | [], _ => rfl
  | x :: l, h => by
    have ih := countP_three l fun y hy => h y (by simp [hy])
    have hx := h x (by simp)
    have e : ∀ z : Bool, (if z = true then 1 else 0) = z.toNat := fun z => by cases z <;> rfl
    rw [List.countP_cons, List.countP_cons, List.countP_cons, List.countP_cons, e, e, e, e]
    omega
theorem cross_three {n m : Nat} {t : Int → Int → UInt8} : (List.range (n * m)).countP (crossC n m t [0, 1, 2]) = (List.range (n * m)).countP (crossC n m t [0]) + (List.range (n * m)).countP (crossC n m t [1]) + (List.range (n * m)).countP (crossC n m t [2]) := by
  refine countP_three _ fun c _ => ?_
  have h2 := atN_le (n := n) (m := m) (t := t) c
  unfold crossC
  generalize emptyC m t c = e
  generalize selfB n m t (placeN m c).i (placeN m c).k = s
  generalize atN n m t c = a at *
  rcases (show a = 0 ∨ a = 1 ∨ a = 2 by omega) with rfl | rfl | rfl <;> cases e <;> cases s <;> decide

theorem empty_cnt {n m : Nat} {ts : List ByteArray} (h : IsGrid n m ts) : (List.range (n * m)).countP (emptyC m (lett m (pad (flat ts)))) = cntOf 46 (flat ts) := by
  unfold cntOf
  have e : (List.range (n * m)).countP (emptyC m (lett m (pad (flat ts)))) = ((List.range (n * m)).map fun c => (flat ts).getD c 0).countP fun x => x == 46 := by
    rw [List.countP_map]
    refine List.countP_congr fun c hc => ?_
    have hc := List.mem_range.1 hc
    have hl : c < (flat ts).length := by rw [h.flen]; exact hc
    have e2 : lett m (pad (flat ts)) ((c / m : Nat) : Int) ((c % m : Nat) : Int) = (pad (flat ts)).getD c 0 := lett_place' (m := m) (c := c) (pad (flat ts))
    have e3 : (pad (flat ts)).getD c 0 = (flat ts).getD c 0 := by
      unfold pad
      rw [List.getD_eq_getElem?_getD, List.getD_eq_getElem?_getD, List.getElem?_append_left hl]
    unfold emptyC
    rw [e2, e3]
    rfl
  rw [e]
  congr 1
  refine List.ext_getElem? fun c => ?_
  by_cases hc : c < n * m
  · have hl : c < (flat ts).length := by rw [h.flen]; exact hc
    rw [List.getElem?_map, List.getElem?_range hc, List.getElem?_eq_getElem hl, Option.map_some, List.getD_eq_getElem?_getD, List.getElem?_eq_getElem hl]
    rfl
  · rw [List.getElem?_eq_none (by simp; omega), List.getElem?_eq_none (by rw [h.flen]; omega)]

theorem facts {n m : Nat} {ts : List ByteArray} (h : IsGrid n m ts) : ∃ (k c b N : Nat), crossR [0, 1, 2] n m (lett m (pad (flat ts))) = ((k : Int), true) ∧ cntOf 114 (flat ts) + cntOf 102 (flat ts) = c ∧ crossR [0] n m (lett m (pad (flat ts))) = ((b : Int), true) ∧ (n : Int) * (m : Int) = (N : Int) ∧ k + c ≤ N ∧ b ≤ k ∧ ((k : Int) - (b : Int)).tmod 2 = 0 ∧ N ≤ 25 := by
  have h3 := cross_three (n := n) (m := m) (t := lett m (pad (flat ts)))
  have h4 := rr_even (n := n) (m := m) (grid_let h)
  have h5 := rb_even (n := n) (m := m) (grid_let h)
  have h6 := mir_emp h
  have h7 : (List.range (n * m)).countP (crossC n m (lett m (pad (flat ts))) [0, 1, 2]) ≤ (List.range (n * m)).countP (emptyC m (lett m (pad (flat ts)))) := countP_mono' _ fun c _ hc => (crossC_iff.1 hc).1
  rw [empty_cnt h] at h7
  refine ⟨_, _, _, n * m, rfl, rfl, rfl, by rw [Int.natCast_mul], by omega, by omega, ?_, h.le25⟩
  rw [Int.tmod_eq_emod_of_nonneg (by omega)]
  omega

set_option maxRecDepth 100000 in
set_option maxHeartbeats 1000000 in
theorem draw_any (A : Option Addr) (len cap : Nat) (w : World) (h : CodeAt w A len) (hl : len ≤ 1048576) (hc : len ≤ cap) (hc2 : cap ≤ 9223372036854775807) :
    Calls Try.prog 19 #[.slice A len cap] w fun e w' => Below w.heap.size w w' ∧ ∃ A c ts, e = .returned (.slice A ts.length c) ∧ LS w' A ts ∧ Drawn 4 4 ts := by
  have HC := hid (l91One_any A len cap w h hl hc hc2)
  clear h
  go_enter Try.func19, Try.ntmps19
  go_wp2_with fail
  refine HC.out.mono ?_
  rintro e w1 ⟨⟨A1, c1, ts, rfl, hst, hd⟩, hb⟩
  have HST := hid hst
  have HD := hid hd
  have HB := hid hb
  clear hst hd hb
  go_wp2_with fail
  go_ret
  exact ⟨HB.out, A1, c1, ts, rfl, HST.out, HD.out⟩

set_option maxRecDepth 100000 in
set_option maxHeartbeats 4000000 in
theorem walk (v : Value) (w : World) (hc : CameB w v) :
    Calls Try.prog 4 #[v] w fun e w' => e = .returned (.bool true) ∧ Below w.heap.size w w' := by
  obtain ⟨A, len, cap, rfl, hcode, hlc, hcap⟩ := hc
  have HCD := hid hcode
  clear hcode
  go_enter Try.func4, Try.ntmps4
  by_cases hbig : 1048576 < len
  · have hbi : (1048576 : Int) < (len : Int) := by omega
    go_wp2_with fail
    go_ret
    exact ⟨rfl, Below.refl _ _⟩
  have hbi : ¬ (1048576 : Int) < (len : Int) := by omega
  have HDR := hid (draw_any A len cap w HCD.out (by omega) hlc hcap)
  have HC1 := hid (HDR.out)
  go_wp2_with fail
  refine HC1.out.mono ?_
  rintro e w1 ⟨hb, A1, c1, ts, rfl, hl, hd⟩
  have HB1 := hid hb
  have Lts1 := hid hl
  clear hl
  clear hb HC1
  have HSM := hid (hd.small (by decide) (by decide))
  clear hd
  have HC2 := hid (implCrossTotal_any A1 c1 ts w1 Lts1.out HSM.out.1 HSM.out.2)
  go_wp2_with fail
  refine HC2.out.mono ?_
  rintro e w2 ⟨hb, out, ok, rfl, hout⟩
  have HB2 := hid (HB1.out.trans (hb.mono HB1.out.size))
  clear HB1
  have Lts2 := hid (Lts1.out.step hb)
  clear Lts1
  clear hb HC2
  have HO := hid hout
  clear hout
  have HC3 := hid (specCrossTotal_any A1 c1 w2.heap.size ts w2 Lts2.out (Nat.le_refl _) HSM.out.1 HSM.out.2)
  go_wp2_with fail
  refine HC3.out.mono ?_
  rintro e w3 ⟨hb, out2, ok2, rfl, hout2⟩
  have HB3 := hid (HB2.out.trans (hb.mono HB2.out.size))
  clear HB2
  have Lts3 := hid (Lts2.out.step hb)
  clear Lts2
  clear hb HC3
  obtain ⟨rfl, rfl⟩ := HO.out.uniq hout2
  clear hout2
  rcases HO.out with ⟨n, m, hg, hv⟩ | ⟨_, rfl, rfl⟩
  · obtain ⟨k, c, b, N, hR, e1, e2, hN, hkc, hbk, hpar, hN25⟩ := facts hg
    rw [hR] at hv
    obtain ⟨rfl, rfl⟩ := Prod.mk.inj hv
    clear hv hR
    obtain ⟨b0, o0, s0, rfl, hk0, hs0, hl0⟩ := Lts3.out.addr hg
    have hn : ((ts.length : Nat) : Int) = (n : Int) := by rw [(hg).1]
    have hn0 : 0 < n := (hg).2.1
    have hn5 := (hg).2.2.1
    have hm1 := (hg).2.2.2.1
    have hm5 := (hg).2.2.2.2.1
    have HK0 := hid hk0
    clear hk0
    have h1 : (k : Int) ≤ (N : Int) - (c : Int) := by omega
    have h2 : (b : Int) ≤ (k : Int) := by omega
    have h3 : (k : Int) ≤ 25 := by omega
    have h4 : (c : Int) ≤ 25 := by omega
    have HG := hid hg
    have E1 := hid e1
    have E2 := hid e2
    clear hg e1 e2
    go_wp2_with fail
    refine (nGridCount (Lts3.out) HG.out E1.out).mono ?_
    rintro e w4 ⟨hb, rfl⟩
    have HB4 := hid (HB3.out.trans (hb.mono HB3.out.size))
    clear HB3
    have Lts4 := hid (Lts3.out.step hb)
    clear Lts3
    clear hb
    go_wp2_with fail
    refine (nCrossBeams (Lts4.out) HG.out E2.out).mono ?_
    rintro e w5 ⟨hb, rfl⟩
    have HB5 := hid (HB4.out.trans (hb.mono HB4.out.size))
    clear HB4
    have Lts5 := hid (Lts4.out.step hb)
    clear Lts4
    clear hb
    have c0 := Lts5.out.cell0 HK0.out
    go_wp2_with fail
    go_ret
    exact ⟨rfl, HB5.out⟩
  · skip
    go_wp2_with fail
    go_ret
    exact ⟨rfl, HB3.out⟩

set_option maxRecDepth 100000 in
theorem lifted (os : Os) (started : os.Started) (H : Type) (enc : TypeId × Value → H) :
    ReturnsInHanded {} Try.checked os 4 .any (Rows.fnTotalSpec.pre6 enc Try.prog Try.f4 Rows.fnTotalRow.domain false) (Rows.fnTotalSpec.post enc Try.prog Try.f4 false true false false) := by
  refine returnsInHanded_of_change (C := Try.checked) Try.own started (by kernel_rfl) Try.func4
    (ChangeSpec.witness6 (enc := enc) (C := Try.checked) false ⟨#[], #[.slice none 0 0], []⟩ 8 (by kernel_rfl) (by kernel_rfl) (by kernel_rfl) (by kernel_rfl)) ?_
  intro W base args ds gs before hval0 hW hcnd _
  have hval : ∀ (j : Nat) t v, Try.f4.params[j]? = some t → args[j]? = some v → Value.okWide Try.prog W .any base t v := hval0
  have hW' := hW
  obtain ⟨p, q, hA0, hV, rfl, hfz, hnd⟩ := hW
  have hA : DataW.TrodAll enc Try.prog W 0 (fun _ => true) true Try.f4.params.toList args.toList ds p := hA0
  rw [Try.params4] at hA hval
  obtain ⟨v0, vs0, d0, ds0, p0, q0, hargs, rfl, rfl, h0, r0⟩ := trodAll_cons hA
  obtain ⟨rfl, rfl, rfl⟩ := trodAll_nil r0
  obtain rfl : args = #[v0] := by cases args; simp_all
  obtain ⟨rfl, rfl⟩ := trodVars_none hV
  have k0 := h0
  have lt0 : ∀ x ∈ p0, x.block < W.heap.size := by obtain ⟨m, hm⟩ := k0; exact DataW.trod_lt m _ _ _ hm
  have c0 := cameB_of (hval 0 22 v0 rfl rfl) h0
  clear hA0 hval0
  refine (walk v0 W c0).mono fun e W' ⟨he, bel⟩ => ?_
  subst he
  exact ⟨_, rfl, _, _, _, [], _, [], hW', trodAll_mk1 (shut_bool Try.underlying4 _), (trodAll_cons_mk (Below.trod Try.laidOut (by kernel_rfl) (of_decide_eq_true (by kernel_rfl)) k0 bel lt0) trodAll_mk0), rfl, bel.frame _, fun h => by cases h⟩

theorem closed : joinedFacts Try.pinned.checked.prog 4 Try.f4 Rows.fnTotalSpec Rows.fnTotalRow = true := by
  unfold joinedFacts
  exact and8 (by as_aux_lemma => kernel_rfl) head_enter head_lifts head_make (by as_aux_lemma => kernel_rfl) (by as_aux_lemma => kernel_rfl) (by as_aux_lemma => kernel_rfl) (by as_aux_lemma => kernel_rfl)

theorem proved : Rows.FnTotalSaid :=
  OpenClaim.holds_of_wide 4 Try.f4 rfl rfl rfl rfl rfl rfl rfl ⟨rfl, rfl, rfl, rfl, rfl⟩ rfl rfl rfl rfl rfl (by kernel_rfl) Try.func4 closed
    (of_decide_eq_true (by kernel_rfl)) (by unfold Func.isWrapper; first | (rw [if_pos (by decide +kernel)]; kernel_rfl) | (rw [if_neg (by decide +kernel)]; exact ⟨rfl, rfl⟩))
    (fun os started H enc _ => lifted os started H enc)
#print axioms proved

end Go.Proofs.Ytonhnmpgikmlpaa.lawFnTotal
