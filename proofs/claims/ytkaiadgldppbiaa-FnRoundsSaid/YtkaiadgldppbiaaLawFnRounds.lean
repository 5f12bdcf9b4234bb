/- For every code, the drawn grid turned or flipped has as many rounds, and a least cell just if it has one; the program's and the specification's answers are the same: the law FnRounds returns true, and its argument reads as it did. No condition. -/
import Derived.Test.YtkaiadgldppbiaaPKR
import Derived.Test.YtkaiadgldppbiaaBunF
import Derived.Test.YtkaiadgldppbiaaBunM
import Derived.Test.YtkaiadgldppbiaaGridQ
import Derived.Test.YtkaiadgldppbiaaSymQ
namespace Go.Proofs.Ytkaiadgldppbiaa.lawFnRounds
open Go.ChangeShapes Go.WideShapes Go.ChangeAt Go.RowKit
open Go.ChangeMaps (open_string shut_string)

theorem lett_nat {m : Nat} {l : List UInt8} {r q : Nat} (h : r * m + q < l.length) : lett m (pad l) (r : Int) (q : Int) = l.getD (r * m + q) 0 := by
  unfold lett pad
  rw [show ((r : Int) * (m : Int) + (q : Int)).toNat = r * m + q by rw [← Int.natCast_mul, ← Int.natCast_add, Int.toNat_natCast], List.getD_eq_getElem?_getD, List.getD_eq_getElem?_getD, List.getElem?_append_left h]
theorem turn_letters {n m : Nat} {ts : List ByteArray} (h : IsGrid n m ts) : ∀ i k : Int, 0 ≤ i → i < n → 0 ≤ k → k < m → lett n (pad (flat (ruleG m n (turnF n m (flat ts))))) k ((n : Int) - 1 - i) = swapM (lett m (pad (flat ts)) i k) := by
  intro i k h1 h2 h3 h4
  obtain ⟨r, rfl⟩ := Int.eq_ofNat_of_zero_le h1
  obtain ⟨q, rfl⟩ := Int.eq_ofNat_of_zero_le h3
  have hr : r < n := by omega
  have hq : q < m := by omega
  have g1 := turn_grid h
  rw [show (n : Int) - 1 - (r : Int) = ((n - 1 - r : Nat) : Int) by omega, lett_nat (by rw [g1.flen]; exact parts_lt hq (by omega)), lett_nat (by rw [h.flen]; exact parts_lt hr hq), rule_flat hq (by omega)]
  show oth ((flat ts).getD ((n - 1 - (n - 1 - r)) * m + q) 0) = swapM _
  rw [show n - 1 - (n - 1 - r) = r by omega]
  rfl
theorem flip_letters {n m : Nat} {ts : List ByteArray} (h : IsGrid n m ts) (g1 : IsGrid n m (ruleG n m (flipF m (flat ts)))) : ∀ i k : Int, 0 ≤ i → i < n → 0 ≤ k → k < m → lett m (pad (flat (ruleG n m (flipF m (flat ts))))) i ((m : Int) - 1 - k) = swapM (lett m (pad (flat ts)) i k) := by
  intro i k h1 h2 h3 h4
  obtain ⟨r, rfl⟩ := Int.eq_ofNat_of_zero_le h1
  obtain ⟨q, rfl⟩ := Int.eq_ofNat_of_zero_le h3
  have hr : r < n := by omega
  have hq : q < m := by omega
  rw [show (m : Int) - 1 - (q : Int) = ((m - 1 - q : Nat) : Int) by omega, lett_nat (by rw [g1.flen]; exact parts_lt hr (by omega)), lett_nat (by rw [h.flen]; exact parts_lt hr hq), rule_flat hr (by omega)]
  show oth ((flat ts).getD (r * m + (m - 1 - (m - 1 - q))) 0) = swapM _
  rw [show m - 1 - (m - 1 - q) = q by omega]
  rfl

theorem facts {n m : Nat} {ts : List ByteArray} (h : IsGrid n m ts) : ∃ (k : Nat) (t f : List ByteArray) (x : Int) (b : Bool), manyR n m (lett m (pad (flat ts))) = ((k : Int), true) ∧ turnG n m (pad (flat ts)) = t ∧ IsGrid m n t ∧ manyR m n (lett n (pad (flat t))) = ((k : Int), true) ∧
    flipG n m (pad (flat ts)) = f ∧ IsGrid n m f ∧ manyR n m (lett m (pad (flat f))) = ((k : Int), true) ∧ leastR n m (lett m (pad (flat ts))) = (x, b) ∧ ((k = 0 ∧ b = false) ∨ (0 < k ∧ b = true)) ∧ k ≤ 1000 := by
  have g1 := turn_grid h
  have g2 := flip_grid h
  have k1 := leads_turn (turn_letters h)
  have k2 := leads_flip (flip_letters h g2)
  have h1 := pathsR_le (n := n) (m := m) (t := lett m (pad (flat ts))) h.2.2.1 h.2.2.2.2.1
  obtain ⟨x, b, hl, hb⟩ : ∃ x b, leastR n m (lett m (pad (flat ts))) = (x, b) ∧ (((leads n m (lett m (pad (flat ts)))).length = 0 ∧ b = false) ∨ (0 < (leads n m (lett m (pad (flat ts)))).length ∧ b = true)) := by
    unfold leastR
    cases leads n m (lett m (pad (flat ts))) with
    | nil => exact ⟨_, _, rfl, .inl ⟨rfl, rfl⟩⟩
    | cons a l => exact ⟨_, _, rfl, .inr ⟨by simp, rfl⟩⟩
  refine ⟨_, _, _, x, b, rfl, turn_same h, g1, ?_, flip_same h, g2, ?_, hl, hb, ?_⟩
  · unfold manyR; rw [k1]
  · unfold manyR; rw [k2]
  · unfold pathsR at h1; simp only at h1; omega

set_option maxRecDepth 100000 in
set_option maxHeartbeats 1000000 in
theorem draw_any (A : Option Addr) (len cap : Nat) (w : World) (h : CodeAt w A len) (hl : len ≤ 1048576) (hc : len ≤ cap) (hc2 : cap ≤ 9223372036854775807) :
    Calls Try.prog 6 #[.slice A len cap] w fun e w' => Below w.heap.size w w' ∧ ∃ A c ts, e = .returned (.slice A ts.length c) ∧ LS w' A ts ∧ Drawn 5 5 ts := by
  have HOP := hid (l6Open_any A len cap w (by omega) hc hc2)
  have HRD := hid (fun len' (h1 : len' ≤ len) (h2 : len' ≤ 2000) => open_rd (cap := cap) h h1 h2)
  have HSO := hid (fun W (hr : Rd W w.heap.size 0) => l91Some_any w.heap.size 0 5 5 W hr (by omega) (by omega) (by omega) (by omega) (by omega))
  clear h
  go_enter Try.func6, Try.ntmps6
  go_wp2_with fail
  refine HOP.out.mono ?_
  rintro e w1 ⟨rfl, len', h1, h2, _, rfl⟩
  have HS := hid (HSO.out _ (HRD.out len' h1 h2))
  go_wp2_with fail
  refine HS.out.mono ?_
  rintro e w2 ⟨⟨gb, c1, ts, rfl, _, hst, h3, h4, h5⟩, _, hgw⟩
  have HST := hid (hst.strs hst.lt)
  have HD := hid (show Drawn 5 5 ts from ⟨h3, h4, h5⟩)
  have HB := hid (((Below.refl _ w).alloc (Nat.le_refl _) (.cells #[.slice A len' cap, .int .i64 0] 76)).grown hgw (by simp) (fun k e => by cases e; exact Nat.le_refl _))
  clear hst h3 h4 h5 hgw
  go_wp2_with fail
  go_ret
  exact ⟨HB.out, _, c1, ts, rfl, HST.out, HD.out⟩

set_option maxRecDepth 100000 in
set_option maxHeartbeats 4000000 in
theorem walk (v : Value) (w : World) (hc : CameB w v) :
    Calls Try.prog 3 #[v] w fun e w' => e = .returned (.bool true) ∧ Below w.heap.size w w' := by
  obtain ⟨A, len, cap, rfl, hcode, hlc, hcap⟩ := hc
  have HCD := hid hcode
  clear hcode
  go_enter Try.func3, Try.ntmps3
  by_cases hbig : 1048576 < len
  · have hbi : (1048576 : Int) < (len : Int) := by omega
    go_wp2_with fail
    go_ret
    exact ⟨rfl, Below.refl _ _⟩
  have hbi : ¬ (1048576 : Int) < (len : Int) := by omega
  have HDR := hid (draw_any A len cap w HCD.out (by omega) hlc hcap)
  have HC1 := hid (HDR.out)
  go_wp2_with fail
  refine HC1.out.mono ?_
  rintro e w1 ⟨hb, A1, c1, ts, rfl, hl, hd⟩
  have HB1 := hid hb
  have Lts1 := hid hl
  clear hl
  clear hb HC1
  have HSM := hid (hd.small (by decide) (by decide))
  clear hd
  have HC2 := hid (implRoundMany_any A1 c1 ts w1 Lts1.out HSM.out.1 HSM.out.2)
  go_wp2_with fail
  refine HC2.out.mono ?_
  rintro e w2 ⟨hb, out, ok, rfl, hout⟩
  have HB2 := hid (HB1.out.trans (hb.mono HB1.out.size))
  clear HB1
  have Lts2 := hid (Lts1.out.step hb)
  clear Lts1
  clear hb HC2
  have HO := hid hout
  clear hout
  have HC3 := hid (specRoundMany_any A1 c1 w2.heap.size ts w2 Lts2.out (Nat.le_refl _) HSM.out.1 HSM.out.2)
  go_wp2_with fail
  refine HC3.out.mono ?_
  rintro e w3 ⟨hb, out2, ok2, rfl, hout2⟩
  have HB3 := hid (HB2.out.trans (hb.mono HB2.out.size))
  clear HB2
  have Lts3 := hid (Lts2.out.step hb)
  clear Lts2
  clear hb HC3
  obtain ⟨rfl, rfl⟩ := HO.out.uniq hout2
  clear hout2
  rcases HO.out with ⟨n, m, hg, hv⟩ | ⟨_, rfl, rfl⟩
  · obtain ⟨k, t, f, x, b, hR, e1, g1, e2, e3, g2, e4, e5, hkb, hk9⟩ := facts hg
    rw [hR] at hv
    obtain ⟨rfl, rfl⟩ := Prod.mk.inj hv
    clear hv hR
    have HG := hid hg
    have E1 := hid e1
    have G1 := hid g1
    have E2 := hid e2
    have E3 := hid e3
    have G2 := hid g2
    have E4 := hid e4
    have E5 := hid e5
    clear hg e1 g1 e2 e3 g2 e4 e5
    go_wp2_with fail
    refine (nGridTurn (Lts3.out) HG.out E1.out).mono ?_
    rintro e w4 ⟨hb, A5, c5, rfl, hl⟩
    have HB4 := hid (HB3.out.trans (hb.mono HB3.out.size))
    clear HB3
    have Lts4 := hid (Lts3.out.step hb)
    clear Lts3
    have Lt4 := hid hl
    clear hl
    clear hb
    go_wp2_with fail
    refine (nGridFlip (Lts4.out) HG.out E3.out).mono ?_
    rintro e w5 ⟨hb, A6, c6, rfl, hl⟩
    have HB5 := hid (HB4.out.trans (hb.mono HB4.out.size))
    clear HB4
    have Lts5 := hid (Lts4.out.step hb)
    clear Lts4
    have Lt5 := hid (Lt4.out.step hb)
    clear Lt4
    have Lf5 := hid hl
    clear hl
    clear hb
    go_wp2_with fail
    refine (nRoundMany (Lt5.out) G1.out E2.out).mono ?_
    rintro e w6 ⟨hb, rfl⟩
    have HB6 := hid (HB5.out.trans (hb.mono HB5.out.size))
    clear HB5
    have Lts6 := hid (Lts5.out.step hb)
    clear Lts5
    have Lt6 := hid (Lt5.out.step hb)
    clear Lt5
    have Lf6 := hid (Lf5.out.step hb)
    clear Lf5
    clear hb
    go_wp2_with fail
    refine (nRoundMany (Lf6.out) G2.out E4.out).mono ?_
    rintro e w7 ⟨hb, rfl⟩
    have HB7 := hid (HB6.out.trans (hb.mono HB6.out.size))
    clear HB6
    have Lts7 := hid (Lts6.out.step hb)
    clear Lts6
    have Lt7 := hid (Lt6.out.step hb)
    clear Lt6
    have Lf7 := hid (Lf6.out.step hb)
    clear Lf6
    clear hb
    go_wp2_with fail
    refine (nRoundLeast (Lts7.out) HG.out E5.out).mono ?_
    rintro e w8 ⟨hb, rfl⟩
    have HB8 := hid (HB7.out.trans (hb.mono HB7.out.size))
    clear HB7
    have Lts8 := hid (Lts7.out.step hb)
    clear Lts7
    have Lt8 := hid (Lt7.out.step hb)
    clear Lt7
    have Lf8 := hid (Lf7.out.step hb)
    clear Lf7
    clear hb
    rcases hkb with ⟨rfl, rfl⟩ | ⟨hk0, rfl⟩
    · skip
      go_wp2_with fail
      go_ret
      exact ⟨rfl, HB8.out⟩
    · have hki : decide ((k : Int) = 0) = false := by simp; omega
      have hki2 : ((k : Int) == 0) = false := by simp; omega
      go_wp2_with fail
      go_ret
      exact ⟨rfl, HB8.out⟩
  · skip
    go_wp2_with fail
    go_ret
    exact ⟨rfl, HB3.out⟩

set_option maxRecDepth 100000 in
theorem lifted (os : Os) (started : os.Started) (H : Type) (enc : TypeId × Value → H) :
    ReturnsInHanded {} Try.checked os 3 .any (Rows.fnRoundsSpec.pre6 enc Try.prog Try.f3 Rows.fnRoundsRow.domain false) (Rows.fnRoundsSpec.post enc Try.prog Try.f3 false true false false) := by
  refine returnsInHanded_of_change (C := Try.checked) Try.own started (by kernel_rfl) Try.func3
    (ChangeSpec.witness6 (enc := enc) (C := Try.checked) false ⟨#[], #[.slice none 0 0], []⟩ 8 (by kernel_rfl) (by kernel_rfl) (by kernel_rfl) (by kernel_rfl)) ?_
  intro W base args ds gs before hval0 hW hcnd _
  have hval : ∀ (j : Nat) t v, Try.f3.params[j]? = some t → args[j]? = some v → Value.okWide Try.prog W .any base t v := hval0
  have hW' := hW
  obtain ⟨p, q, hA0, hV, rfl, hfz, hnd⟩ := hW
  have hA : DataW.TrodAll enc Try.prog W 0 (fun _ => true) true Try.f3.params.toList args.toList ds p := hA0
  rw [Try.params3] at hA hval
  obtain ⟨v0, vs0, d0, ds0, p0, q0, hargs, rfl, rfl, h0, r0⟩ := trodAll_cons hA
  obtain ⟨rfl, rfl, rfl⟩ := trodAll_nil r0
  obtain rfl : args = #[v0] := by cases args; simp_all
  obtain ⟨rfl, rfl⟩ := trodVars_none hV
  have k0 := h0
  have lt0 : ∀ x ∈ p0, x.block < W.heap.size := by obtain ⟨m, hm⟩ := k0; exact DataW.trod_lt m _ _ _ hm
  have c0 := cameB_of (hval 0 22 v0 rfl rfl) h0
  clear hA0 hval0
  refine (walk v0 W c0).mono fun e W' ⟨he, bel⟩ => ?_
  subst he
  exact ⟨_, rfl, _, _, _, [], _, [], hW', trodAll_mk1 (shut_bool Try.underlying4 _), (trodAll_cons_mk (Below.trod Try.laidOut (by kernel_rfl) (of_decide_eq_true (by kernel_rfl)) k0 bel lt0) trodAll_mk0), rfl, bel.frame _, fun h => by cases h⟩

theorem closed : joinedFacts Try.pinned.checked.prog 3 Try.f3 Rows.fnRoundsSpec Rows.fnRoundsRow = true := by
  unfold joinedFacts
  exact and8 (by as_aux_lemma => kernel_rfl) head_enter head_lifts head_make (by as_aux_lemma => kernel_rfl) (by as_aux_lemma => kernel_rfl) (by as_aux_lemma => kernel_rfl) (by as_aux_lemma => kernel_rfl)

theorem proved : Rows.FnRoundsSaid :=
  OpenClaim.holds_of_wide 3 Try.f3 rfl rfl rfl rfl rfl rfl rfl ⟨rfl, rfl, rfl, rfl, rfl⟩ rfl rfl rfl rfl rfl (by kernel_rfl) Try.func3 closed
    (of_decide_eq_true (by kernel_rfl)) (by unfold Func.isWrapper; first | (rw [if_pos (by decide +kernel)]; kernel_rfl) | (rw [if_neg (by decide +kernel)]; exact ⟨rfl, rfl⟩))
    (fun os started H enc _ => lifted os started H enc)
#print axioms proved

end Go.Proofs.Ytkaiadgldppbiaa.lawFnRounds
