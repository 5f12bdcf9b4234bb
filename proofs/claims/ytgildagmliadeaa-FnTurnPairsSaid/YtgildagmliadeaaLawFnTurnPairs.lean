/- For every code, the drawn grid turned has the pairs moved on by the number of its rows; the program's and the specification's answers are the same: the law FnTurnPairs returns true, and its argument reads as it did. No condition. -/
import Derived.Test.YtgildagmliadeaaPKR
import Derived.Test.YtgildagmliadeaaPKP
import Derived.Test.YtgildagmliadeaaBunV
import Derived.Test.YtgildagmliadeaaBunP
import Derived.Test.YtgildagmliadeaaBunB
import Derived.Test.YtgildagmliadeaaPairQ
import Derived.Test.YtgildagmliadeaaGridQ
import Derived.Test.YtgildagmliadeaaSymB
namespace Go.Proofs.Ytgildagmliadeaa.lawFnTurnPairs
open Go.ChangeShapes Go.WideShapes Go.ChangeAt Go.RowKit
open Go.ChangeMaps (open_string shut_string)

theorem lett_nat {m : Nat} {l : List UInt8} {r q : Nat} (h : r * m + q < l.length) : lett m (pad l) (r : Int) (q : Int) = l.getD (r * m + q) 0 := by
  unfold lett pad
  rw [show ((r : Int) * (m : Int) + (q : Int)).toNat = r * m + q by rw [← Int.natCast_mul, ← Int.natCast_add, Int.toNat_natCast], List.getD_eq_getElem?_getD, List.getD_eq_getElem?_getD, List.getElem?_append_left h]
theorem turn_letters {n m : Nat} {ts : List ByteArray} (h : IsGrid n m ts) : ∀ i k : Int, 0 ≤ i → i < n → 0 ≤ k → k < m → lett n (pad (flat (ruleG m n (turnF n m (flat ts))))) k ((n : Int) - 1 - i) = swapM (lett m (pad (flat ts)) i k) := by
  intro i k h1 h2 h3 h4
  obtain ⟨r, rfl⟩ := Int.eq_ofNat_of_zero_le h1
  obtain ⟨q, rfl⟩ := Int.eq_ofNat_of_zero_le h3
  have hr : r < n := by omega
  have hq : q < m := by omega
  have g1 := turn_grid h
  rw [show (n : Int) - 1 - (r : Int) = ((n - 1 - r : Nat) : Int) by omega, lett_nat (by rw [g1.flen]; exact parts_lt hq (by omega)), lett_nat (by rw [h.flen]; exact parts_lt hr hq), rule_flat hq (by omega)]
  show oth ((flat ts).getD ((n - 1 - (n - 1 - r)) * m + q) 0) = swapM _
  rw [show n - 1 - (n - 1 - r) = r by omega]
  rfl
theorem flip_letters {n m : Nat} {ts : List ByteArray} (h : IsGrid n m ts) (g1 : IsGrid n m (ruleG n m (flipF m (flat ts)))) : ∀ i k : Int, 0 ≤ i → i < n → 0 ≤ k → k < m → lett m (pad (flat (ruleG n m (flipF m (flat ts))))) i ((m : Int) - 1 - k) = swapM (lett m (pad (flat ts)) i k) := by
  intro i k h1 h2 h3 h4
  obtain ⟨r, rfl⟩ := Int.eq_ofNat_of_zero_le h1
  obtain ⟨q, rfl⟩ := Int.eq_ofNat_of_zero_le h3
  have hr : r < n := by omega
  have hq : q < m := by omega
  rw [show (m : Int) - 1 - (q : Int) = ((m - 1 - q : Nat) : Int) by omega, lett_nat (by rw [g1.flen]; exact parts_lt hr (by omega)), lett_nat (by rw [h.flen]; exact parts_lt hr hq), rule_flat hr (by omega)]
  show oth ((flat ts).getD (r * m + (m - 1 - (m - 1 - q))) 0) = swapM _
  rw [show m - 1 - (m - 1 - q) = q by omega]
  rfl

theorem bend_self {n m p : Nat} {t : Int → Int → UInt8} (hn : 1 ≤ n) (hm : 1 ≤ m) (hp : p < 2 * (n + m)) : bend_ n m t p ≠ p := fun e => by
  have hpos := blen_pos (t := t) hn hm hp
  have hb := bway_back (t := t) hn hm hp 0 (by omega)
  rw [e] at hb
  exact bway_ne_rev 0 (blen n m t p - 1 - 0) (by omega) (by omega) hb
theorem pairs_mates {n m : Nat} {t : Int → Int → UInt8} (hn : 1 ≤ n) (hm : 1 ≤ m) : Mates (2 * (n + m)) (bend_ n m t) :=
  ⟨fun _ hq => (bend_facts hn hm hq).2.1, fun _ hq => bend_self hn hm hq, fun _ hq => (back_facts hn hm hq).2⟩
theorem pairs_pair {n m : Nat} {t : Int → Int → UInt8} (hn : 1 ≤ n) (hn5 : n ≤ 5) (hm : 1 ≤ m) (hm5 : m ≤ 5) : IsPair (pairsR n m t) := listS_pair (pairs_mates hn hm) (by omega) (by omega)
theorem pairs_mate {n m q : Nat} {t : Int → Int → UInt8} (hq : q < 2 * (n + m)) : mateN (pairsR n m t) q = bend_ n m t q := listS_mate hq
theorem pairs_of {n m : Nat} {t : Int → Int → UInt8} (hn : 1 ≤ n) (hn5 : n ≤ 5) (hm : 1 ≤ m) (hm5 : m ≤ 5) : PairOf (n : Int) (m : Int) (pairsR n m t) :=
  ⟨⟨by omega, by omega⟩, ⟨by omega, by omega⟩, pairs_pair hn hn5 hm hm5, by rw [pairsR_length]; omega⟩

theorem nJoinTurn {n m c : Nat} {A : Option Addr} {l r : List Int} {w : World} (h : LI w A l) (hp : PairOf n m l) (hr : turnL l n = r) :
    Calls Try.prog 20 #[.int .i64 (n : Int), .int .i64 (m : Int), .slice A l.length c] w fun e w' => Below w.heap.size w w' ∧ ∃ A c, e = .returned (.tuple #[.slice A r.length c, .bool true]) ∧ LI w' A r :=
  (implJoinTurn_any n m A c l w h (by have := hp.2.2.1.2.1; omega)).mono fun _ _ h => (lend_own h).yes fun r' ok ho => by
    subst hr
    rcases ho with ⟨_, h1, h2⟩ | ⟨h1, _, _⟩
    · exact ⟨h1, h2⟩
    · exact absurd hp h1

theorem facts {n m : Nat} {ts : List ByteArray} (h : IsGrid n m ts) : ∃ (l r : List Int) (t : List ByteArray), pairsR n m (lett m (pad (flat ts))) = l ∧ turnG n m (pad (flat ts)) = t ∧ IsGrid m n t ∧ pairsR m n (lett n (pad (flat t))) = r ∧ PairOf (n : Int) (m : Int) l ∧ turnL l n = r ∧ l.length ≤ 20 ∧ r.length ≤ 20 := by
  have hn := h.2.1
  have hm := h.2.2.2.1
  have hn5 := h.2.2.1
  have hm5 := h.2.2.2.2.1
  have g1 := turn_grid h
  have p1 := pairs_pair (t := lett m (pad (flat ts))) hn hn5 hm hm5
  have hl := pairsR_length n m (lett m (pad (flat ts)))
  refine ⟨_, _, _, rfl, turn_same h, g1, rfl, pairs_of hn hn5 hm hm5, ?_, by omega, by rw [pairsR_length]; omega⟩
  refine (lists_mates (k := n) (turnL_pair n p1) (pairs_pair hm hm5 hn hn5) (by rw [turnL_length, hl, pairsR_length]; omega) fun q hq => ?_).symm
  rw [turnL_length] at hq ⊢
  rw [turnL_mate p1 hq, hl]
  rw [hl] at hq
  rw [pairs_mate (by have := Nat.mod_lt (q + n) (show 0 < 2 * (n + m) by omega); omega), pairs_mate hq]
  exact beam_turn (turn_letters h) hn hm hq

set_option maxRecDepth 100000 in
set_option maxHeartbeats 1000000 in
theorem draw_any (A : Option Addr) (len cap : Nat) (w : World) (h : CodeAt w A len) (hl : len ≤ 1048576) (hc : len ≤ cap) (hc2 : cap ≤ 9223372036854775807) :
    Calls Try.prog 15 #[.slice A len cap] w fun e w' => Below w.heap.size w w' ∧ ∃ A c ts, e = .returned (.slice A ts.length c) ∧ LS w' A ts ∧ Drawn 4 4 ts := by
  have HC := hid (l91One_any A len cap w h hl hc hc2)
  clear h
  go_enter Try.func15, Try.ntmps15
  go_wp2_with fail
  refine HC.out.mono ?_
  rintro e w1 ⟨⟨A1, c1, ts, rfl, hst, hd⟩, hb⟩
  have HST := hid hst
  have HD := hid hd
  have HB := hid hb
  clear hst hd hb
  go_wp2_with fail
  go_ret
  exact ⟨HB.out, A1, c1, ts, rfl, HST.out, HD.out⟩

set_option maxRecDepth 100000 in
set_option maxHeartbeats 4000000 in
theorem walk (v : Value) (w : World) (hc : CameB w v) :
    Calls Try.prog 3 #[v] w fun e w' => e = .returned (.bool true) ∧ Below w.heap.size w w' := by
  obtain ⟨A, len, cap, rfl, hcode, hlc, hcap⟩ := hc
  have HCD := hid hcode
  clear hcode
  go_enter Try.func3, Try.ntmps3
  by_cases hbig : 1048576 < len
  · have hbi : (1048576 : Int) < (len : Int) := by omega
    go_wp2_with fail
    go_ret
    exact ⟨rfl, Below.refl _ _⟩
  have hbi : ¬ (1048576 : Int) < (len : Int) := by omega
  have HDR := hid (draw_any A len cap w HCD.out (by omega) hlc hcap)
  have HC1 := hid (HDR.out)
  go_wp2_with fail
  refine HC1.out.mono ?_
  rintro e w1 ⟨hb, A1, c1, ts, rfl, hl, hd⟩
  have HB1 := hid hb
  have Lts1 := hid hl
  clear hl
  clear hb HC1
  have HSM := hid (hd.small (by decide) (by decide))
  clear hd
  have HC2 := hid ((implBeamPairs_any A1 c1 ts w1 Lts1.out HSM.out.1 HSM.out.2).mono fun _ _ h => lend_own h)
  go_wp2_with fail
  refine HC2.out.mono ?_
  rintro e w2 ⟨hb, A2, c2, out, ok, rfl, hout, hl⟩
  have HB2 := hid (HB1.out.trans (hb.mono HB1.out.size))
  clear HB1
  have Lts2 := hid (Lts1.out.step hb)
  clear Lts1
  have Lout2 := hid hl
  clear hl
  clear hb HC2
  have HO := hid hout
  clear hout
  have HC3 := hid ((specBeamPairs_any A1 c1 w2.heap.size ts w2 Lts2.out (Nat.le_refl _) HSM.out.1 HSM.out.2).mono fun _ _ h => lend_spec h)
  go_wp2_with fail
  refine HC3.out.mono ?_
  rintro e w3 ⟨hb, A3, c3, out2, ok2, rfl, hout2, hl⟩
  have HB3 := hid (HB2.out.trans (hb.mono HB2.out.size))
  clear HB2
  have Lts3 := hid (Lts2.out.step hb)
  clear Lts2
  have Lout3 := hid (Lout2.out.step hb)
  clear Lout2
  have Lwant3 := hid hl
  clear hl
  clear hb HC3
  obtain ⟨rfl, rfl⟩ := HO.out.uniq hout2
  clear hout2
  rcases HO.out with ⟨n, m, hg, rfl, rfl⟩ | ⟨_, rfl, rfl⟩
  · obtain ⟨l, r, t, e0, e1, g1, e2, p1, e3, hl20, hr20⟩ := facts hg
    rw [e0] at Lout3 Lwant3 ⊢
    obtain ⟨b0, o0, s0, rfl, hk0, hs0, hl0⟩ := Lts3.out.addr hg
    have hn : ((ts.length : Nat) : Int) = (n : Int) := by rw [(hg).1]
    have hn0 : 0 < n := (hg).2.1
    have hn5 := (hg).2.2.1
    have hm1 := (hg).2.2.2.1
    have hm5 := (hg).2.2.2.2.1
    have HK0 := hid hk0
    clear hk0
    clear e0
    have HG := hid hg
    have E1 := hid e1
    have G1 := hid g1
    have E2 := hid e2
    have P1 := hid p1
    have E3 := hid e3
    clear hg e1 g1 e2 p1 e3
    go_wp2_with fail
    refine (nSameI (Lout3.out) (Lwant3.out) (by omega)).mono ?_
    rintro e w4 ⟨hb, rfl⟩
    have HB4 := hid (HB3.out.trans (hb.mono HB3.out.size))
    clear HB3
    have Lts4 := hid (Lts3.out.step hb)
    clear Lts3
    have Lout4 := hid (Lout3.out.step hb)
    clear Lout3
    have Lwant4 := hid (Lwant3.out.step hb)
    clear Lwant3
    clear hb
    clear Lwant4
    go_wp2_with fail
    refine (nGridTurn (Lts4.out) HG.out E1.out).mono ?_
    rintro e w5 ⟨hb, A5, c5, rfl, hl⟩
    have HB5 := hid (HB4.out.trans (hb.mono HB4.out.size))
    clear HB4
    have Lts5 := hid (Lts4.out.step hb)
    clear Lts4
    have Lout5 := hid (Lout4.out.step hb)
    clear Lout4
    have Lt5 := hid hl
    clear hl
    clear hb
    go_wp2_with fail
    refine (nBeamPairs (Lt5.out) G1.out E2.out).mono ?_
    rintro e w6 ⟨hb, A6, c6, rfl, hl⟩
    have HB6 := hid (HB5.out.trans (hb.mono HB5.out.size))
    clear HB5
    have Lts6 := hid (Lts5.out.step hb)
    clear Lts5
    have Lout6 := hid (Lout5.out.step hb)
    clear Lout5
    have Lt6 := hid (Lt5.out.step hb)
    clear Lt5
    have Lx6 := hid hl
    clear hl
    clear hb
    have c0 := Lts6.out.cell0 HK0.out
    go_wp2_with fail
    refine (nJoinTurn (Lout6.out) P1.out E3.out).mono ?_
    rintro e w7 ⟨hb, A7, c7, rfl, hl⟩
    have HB7 := hid (HB6.out.trans (hb.mono HB6.out.size))
    clear HB6
    have Lts7 := hid (Lts6.out.step hb)
    clear Lts6
    have Lout7 := hid (Lout6.out.step hb)
    clear Lout6
    have Lt7 := hid (Lt6.out.step hb)
    clear Lt6
    have Lx7 := hid (Lx6.out.step hb)
    clear Lx6
    have Ly7 := hid hl
    clear hl
    clear hb
    go_wp2_with fail
    refine (nSameI (Lx7.out) (Ly7.out) (by omega)).mono ?_
    rintro e w8 ⟨hb, rfl⟩
    have HB8 := hid (HB7.out.trans (hb.mono HB7.out.size))
    clear HB7
    have Lts8 := hid (Lts7.out.step hb)
    clear Lts7
    have Lout8 := hid (Lout7.out.step hb)
    clear Lout7
    have Lt8 := hid (Lt7.out.step hb)
    clear Lt7
    have Lx8 := hid (Lx7.out.step hb)
    clear Lx7
    have Ly8 := hid (Ly7.out.step hb)
    clear Ly7
    clear hb
    go_wp2_with fail
    go_ret
    exact ⟨rfl, HB8.out⟩
  · skip
    go_wp2_with fail
    refine (nSameI (Lout3.out) (Lwant3.out) (by simp)).mono ?_
    rintro e w4 ⟨hb, rfl⟩
    have HB4 := hid (HB3.out.trans (hb.mono HB3.out.size))
    clear HB3
    have Lts4 := hid (Lts3.out.step hb)
    clear Lts3
    have Lout4 := hid (Lout3.out.step hb)
    clear Lout3
    have Lwant4 := hid (Lwant3.out.step hb)
    clear Lwant3
    clear hb
    go_wp2_with fail
    refine (nSameI (Lout4.out) (Lwant4.out) (by simp)).mono ?_
    rintro e w5 ⟨hb, rfl⟩
    have HB5 := hid (HB4.out.trans (hb.mono HB4.out.size))
    clear HB4
    have Lts5 := hid (Lts4.out.step hb)
    clear Lts4
    have Lout5 := hid (Lout4.out.step hb)
    clear Lout4
    have Lwant5 := hid (Lwant4.out.step hb)
    clear Lwant4
    clear hb
    go_wp2_with fail
    go_ret
    exact ⟨rfl, HB5.out⟩

set_option maxRecDepth 100000 in
theorem lifted (os : Os) (started : os.Started) (H : Type) (enc : TypeId × Value → H) :
    ReturnsInHanded {} Try.checked os 3 .any (Rows.fnTurnPairsSpec.pre6 enc Try.prog Try.f3 Rows.fnTurnPairsRow.domain false) (Rows.fnTurnPairsSpec.post enc Try.prog Try.f3 false true false false) := by
  refine returnsInHanded_of_change (C := Try.checked) Try.own started (by kernel_rfl) Try.func3
    (ChangeSpec.witness6 (enc := enc) (C := Try.checked) false ⟨#[], #[.slice none 0 0], []⟩ 8 (by kernel_rfl) (by kernel_rfl) (by kernel_rfl) (by kernel_rfl)) ?_
  intro W base args ds gs before hval0 hW hcnd _
  have hval : ∀ (j : Nat) t v, Try.f3.params[j]? = some t → args[j]? = some v → Value.okWide Try.prog W .any base t v := hval0
  have hW' := hW
  obtain ⟨p, q, hA0, hV, rfl, hfz, hnd⟩ := hW
  have hA : DataW.TrodAll enc Try.prog W 0 (fun _ => true) true Try.f3.params.toList args.toList ds p := hA0
  rw [Try.params3] at hA hval
  obtain ⟨v0, vs0, d0, ds0, p0, q0, hargs, rfl, rfl, h0, r0⟩ := trodAll_cons hA
  obtain ⟨rfl, rfl, rfl⟩ := trodAll_nil r0
  obtain rfl : args = #[v0] := by cases args; simp_all
  obtain ⟨rfl, rfl⟩ := trodVars_none hV
  have k0 := h0
  have lt0 : ∀ x ∈ p0, x.block < W.heap.size := by obtain ⟨m, hm⟩ := k0; exact DataW.trod_lt m _ _ _ hm
  have c0 := cameB_of (hval 0 22 v0 rfl rfl) h0
  clear hA0 hval0
  refine (walk v0 W c0).mono fun e W' ⟨he, bel⟩ => ?_
  subst he
  exact ⟨_, rfl, _, _, _, [], _, [], hW', trodAll_mk1 (shut_bool Try.underlying4 _), (trodAll_cons_mk (Below.trod Try.laidOut (by kernel_rfl) (of_decide_eq_true (by kernel_rfl)) k0 bel lt0) trodAll_mk0), rfl, bel.frame _, fun h => by cases h⟩

theorem closed : joinedFacts Try.pinned.checked.prog 3 Try.f3 Rows.fnTurnPairsSpec Rows.fnTurnPairsRow = true := by
  unfold joinedFacts
  exact and8 (by as_aux_lemma => kernel_rfl) head_enter head_lifts head_make (by as_aux_lemma => kernel_rfl) (by as_aux_lemma => kernel_rfl) (by as_aux_lemma => kernel_rfl) (by as_aux_lemma => kernel_rfl)

theorem proved : Rows.FnTurnPairsSaid :=
  OpenClaim.holds_of_wide 3 Try.f3 rfl rfl rfl rfl rfl rfl rfl ⟨rfl, rfl, rfl, rfl, rfl⟩ rfl rfl rfl rfl rfl (by kernel_rfl) Try.func3 closed
    (of_decide_eq_true (by kernel_rfl)) (by unfold Func.isWrapper; first | (rw [if_pos (by decide +kernel)]; kernel_rfl) | (rw [if_neg (by decide +kernel)]; exact ⟨rfl, rfl⟩))
    (fun os started H enc _ => lifted os started H enc)
#print axioms proved

end Go.Proofs.Ytgildagmliadeaa.lawFnTurnPairs
