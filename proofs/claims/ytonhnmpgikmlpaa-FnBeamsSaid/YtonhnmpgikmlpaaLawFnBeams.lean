/- For every code, beams of the drawn grid cross as often as their pairs, but for an even number, and not at all in full grids; the program's and the specification's answers are the same: the law FnBeams returns true, and its argument reads as it did. No condition. -/
import Derived.Test.YtonhnmpgikmlpaaPKR
import Derived.Test.YtonhnmpgikmlpaaBunK
import Derived.Test.YtonhnmpgikmlpaaBunM
import Derived.Test.YtonhnmpgikmlpaaPotR
import Derived.Test.YtonhnmpgikmlpaaBunB
import Derived.Test.YtonhnmpgikmlpaaBunA
import Derived.Test.YtonhnmpgikmlpaaGridQ
import Derived.Test.YtonhnmpgikmlpaaBunV
import Derived.Test.YtonhnmpgikmlpaaBunP
import Derived.Test.YtonhnmpgikmlpaaBunS
import Derived.Test.YtonhnmpgikmlpaaBunI
namespace Go.Proofs.Ytonhnmpgikmlpaa.lawFnBeams
open Go.ChangeShapes Go.WideShapes Go.ChangeAt Go.RowKit
open Go.ChangeMaps (open_string shut_string)

theorem grid_let {n m : Nat} {ts : List ByteArray} (hg : IsGrid n m ts) : ∀ i k : Int, 0 ≤ i → i < n → 0 ≤ k → k < m → lett m (pad (flat ts)) i k = 46 ∨ lett m (pad (flat ts)) i k = 114 ∨ lett m (pad (flat ts)) i k = 102 := fun i k h1 h2 h3 h4 => by
  obtain ⟨r, rfl⟩ := Int.eq_ofNat_of_zero_le h1
  obtain ⟨q, rfl⟩ := Int.eq_ofNat_of_zero_le h3
  have hlt : r * m + q < (flat ts).length := by rw [hg.flen]; exact parts_lt (by omega) (by omega)
  have hl := hg.lets _ (List.getElem_mem hlt)
  unfold lett pad
  rw [show ((r : Int) * (m : Int) + (q : Int)).toNat = r * m + q by rw [← Int.natCast_mul, ← Int.natCast_add, Int.toNat_natCast], List.getD_eq_getElem?_getD, List.getElem?_append_left hlt, List.getElem?_eq_getElem hlt, Option.getD_some]
  simp only [isLet, Bool.or_eq_true, beq_iff_eq] at hl
  rcases hl with (h | h) | h
  · exact .inl h
  · exact .inr (.inl h)
  · exact .inr (.inr h)

theorem countP_mono' {p q : Nat → Bool} : ∀ l : List Nat, (∀ x ∈ l, p x = true → q x = true) → l.countP p ≤ l.countP q
  | [], _ => Nat.le_refl _
  | x :: l, h => by
    have ih := countP_mono' l fun y hy => h y (by simp [hy])
    have hx := h x (by simp)
    rw [List.countP_cons, List.countP_cons]
    cases hp : p x with
    | false => simp; omega
    | true => rw [hx hp]; simp; omega
theorem countP_three {p a b c : Nat → Bool} : ∀ l : List Nat, (∀ x ∈ l, (p x).toNat = (a x).toNat + (b x).toNat + (c x).toNat) → l.countP p = l.countP a + l.countP b + l.countP c
  | [], _ => rfl
  | x :: l, h => by
    have ih := countP_three l fun y hy => h y (by simp [hy])
    have hx := h x (by simp)
    have e : ∀ z : Bool, (if z = true then 1 else 0) = z.toNat := fun z => by cases z <;> rfl
    rw [List.countP_cons, List.countP_cons, List.countP_cons, List.countP_cons, e, e, e, e]
    omega
theorem cross_three {n m : Nat} {t : Int → Int → UInt8} : (List.range (n * m)).countP (crossC n m t [0, 1, 2]) = (List.range (n * m)).countP (crossC n m t [0]) + (List.range (n * m)).countP (crossC n m t [1]) + (List.range (n * m)).countP (crossC n m t [2]) := by
  refine countP_three _ fun c _ => ?_
  have h2 := atN_le (n := n) (m := m) (t := t) c
  unfold crossC
  generalize emptyC m t c = e
  generalize selfB n m t (placeN m c).i (placeN m c).k = s
  generalize atN n m t c = a at *
  rcases (show a = 0 ∨ a = 1 ∨ a = 2 by omega) with rfl | rfl | rfl <;> cases e <;> cases s <;> decide

theorem empty_cnt {n m : Nat} {ts : List ByteArray} (h : IsGrid n m ts) : (List.range (n * m)).countP (emptyC m (lett m (pad (flat ts)))) = cntOf 46 (flat ts) := by
  unfold cntOf
  have e : (List.range (n * m)).countP (emptyC m (lett m (pad (flat ts)))) = ((List.range (n * m)).map fun c => (flat ts).getD c 0).countP fun x => x == 46 := by
    rw [List.countP_map]
    refine List.countP_congr fun c hc => ?_
    have hc := List.mem_range.1 hc
    have hl : c < (flat ts).length := by rw [h.flen]; exact hc
    have e2 : lett m (pad (flat ts)) ((c / m : Nat) : Int) ((c % m : Nat) : Int) = (pad (flat ts)).getD c 0 := lett_place' (m := m) (c := c) (pad (flat ts))
    have e3 : (pad (flat ts)).getD c 0 = (flat ts).getD c 0 := by
      unfold pad
      rw [List.getD_eq_getElem?_getD, List.getD_eq_getElem?_getD, List.getElem?_append_left hl]
    unfold emptyC
    rw [e2, e3]
    rfl
  rw [e]
  congr 1
  refine List.ext_getElem? fun c => ?_
  by_cases hc : c < n * m
  · have hl : c < (flat ts).length := by rw [h.flen]; exact hc
    rw [List.getElem?_map, List.getElem?_range hc, List.getElem?_eq_getElem hl, Option.map_some, List.getD_eq_getElem?_getD, List.getElem?_eq_getElem hl]
    rfl
  · rw [List.getElem?_eq_none (by simp; omega), List.getElem?_eq_none (by rw [h.flen]; omega)]

theorem bend_self {n m p : Nat} {t : Int → Int → UInt8} (hn : 1 ≤ n) (hm : 1 ≤ m) (hp : p < 2 * (n + m)) : bend_ n m t p ≠ p := fun e => by
  have hpos := blen_pos (t := t) hn hm hp
  have hb := bway_back (t := t) hn hm hp 0 (by omega)
  rw [e] at hb
  exact bway_ne_rev 0 (blen n m t p - 1 - 0) (by omega) (by omega) hb
theorem pairs_mates {n m : Nat} {t : Int → Int → UInt8} (hn : 1 ≤ n) (hm : 1 ≤ m) : Mates (2 * (n + m)) (bend_ n m t) :=
  ⟨fun _ hq => (bend_facts hn hm hq).2.1, fun _ hq => bend_self hn hm hq, fun _ hq => (back_facts hn hm hq).2⟩
theorem pairs_pair {n m : Nat} {t : Int → Int → UInt8} (hn : 1 ≤ n) (hn5 : n ≤ 5) (hm : 1 ≤ m) (hm5 : m ≤ 5) : IsPair (pairsR n m t) := listS_pair (pairs_mates hn hm) (by omega) (by omega)
theorem pairs_mate {n m q : Nat} {t : Int → Int → UInt8} (hq : q < 2 * (n + m)) : mateN (pairsR n m t) q = bend_ n m t q := listS_mate hq
theorem pairs_of {n m : Nat} {t : Int → Int → UInt8} (hn : 1 ≤ n) (hn5 : n ≤ 5) (hm : 1 ≤ m) (hm5 : m ≤ 5) : PairOf (n : Int) (m : Int) (pairsR n m t) :=
  ⟨⟨by omega, by omega⟩, ⟨by omega, by omega⟩, pairs_pair hn hn5 hm hm5, by rw [pairsR_length]; omega⟩

theorem sum_par {F G : Nat → Nat} : ∀ N, (∀ c, c < N → G c ≤ F c ∧ F c % 2 = G c % 2) → sumN G N ≤ sumN F N ∧ sumN F N % 2 = sumN G N % 2
  | 0, _ => ⟨Nat.le_refl _, rfl⟩
  | N + 1, h => by
    have h1 := sum_par N fun c hc => h c (by omega)
    have h2 := h N (by omega)
    rw [sumN, sumN]
    omega
theorem beams_par {n m p q : Nat} {t : Int → Int → UInt8} (ht : ∀ i k : Int, 0 ≤ i → i < n → 0 ≤ k → k < m → t i k = 46 ∨ t i k = 114 ∨ t i k = 102) (hn : 1 ≤ n) (hm : 1 ≤ m) (hp : p < 2 * (n + m)) (hq : q < 2 * (n + m)) :
    (if crossB (intAt (pairsR n m t)) p q = true then 1 else 0) ≤ beamsS n m t p q ∧ beamsS n m t p q % 2 = (if crossB (intAt (pairsR n m t)) p q = true then 1 else 0) % 2 := by
  have ip : intAt (pairsR n m t) p = ((bend_ n m t p : Nat) : Int) := intAt_eq (pairsR_at hp)
  have iq : intAt (pairsR n m t) q = ((bend_ n m t q : Nat) : Int) := intAt_eq (pairsR_at hq)
  have nq := bend_self (t := t) hn hm hq
  have np := bend_self (t := t) hn hm hp
  have bp := (back_facts (t := t) hn hm hp).2
  have bq := (back_facts (t := t) hn hm hq).2
  have hcb : crossB (intAt (pairsR n m t)) p q = true ↔ p < q ∧ q < bend_ n m t p ∧ bend_ n m t p < bend_ n m t q := by
    unfold crossB
    rw [ip, iq, decide_eq_true_iff]
    omega
  unfold beamsS
  by_cases h1 : p < q ∧ p < bend_ n m t p ∧ q < bend_ n m t q
  · rw [if_pos h1]
    by_cases h2 : bend_ n m t p = q
    · have : ¬ crossB (intAt (pairsR n m t)) p q = true := fun h => by have := hcb.1 h; omega
      have h3 : bend_ n m t q = p := by rw [← h2, bp]
      omega
    · have ho := both_odd ht hn hm hp hq (by omega) h2
      have hne : bend_ n m t q ≠ p := fun e => h2 (by rw [← e, bq])
      have hne2 : bend_ n m t p ≠ bend_ n m t q := fun e => by
        have := congrArg (bend_ n m t) e
        rw [bp, bq] at this
        omega
      by_cases h3 : crossB (intAt (pairsR n m t)) p q = true
      · rw [if_pos h3]
        obtain ⟨k1, k2, k3⟩ := hcb.1 h3
        rw [decide_eq_false (show ¬ q < p by omega), decide_eq_false (show ¬ bend_ n m t q < p by omega), decide_eq_true k2, decide_eq_false (show ¬ bend_ n m t q < bend_ n m t p by omega)] at ho
        have := of_decide_eq_true ho
        omega
      · rw [if_neg h3]
        have h4 : ¬ (q < bend_ n m t p ∧ bend_ n m t p < bend_ n m t q) := fun h => h3 (hcb.2 ⟨h1.1, h.1, h.2⟩)
        have h5 : (decide (q < bend_ n m t p) ^^ decide (bend_ n m t q < bend_ n m t p)) = false := by
          by_cases g1 : q < bend_ n m t p
          · rw [decide_eq_true g1, decide_eq_true (show bend_ n m t q < bend_ n m t p by omega)]; rfl
          · rw [decide_eq_false g1, decide_eq_false (show ¬ bend_ n m t q < bend_ n m t p by omega)]; rfl
        rw [decide_eq_false (show ¬ q < p by omega), decide_eq_false (show ¬ bend_ n m t q < p by omega), h5] at ho
        have : ¬ bothN n m t p q % 2 = 1 := of_decide_eq_false ho
        omega
  · rw [if_neg h1]
    have : ¬ crossB (intAt (pairsR n m t)) p q = true := fun h => by have := hcb.1 h; omega
    rw [if_neg this]
    exact ⟨Nat.le_refl _, rfl⟩
theorem facts {n m : Nat} {ts : List ByteArray} (h : IsGrid n m ts) : ∃ (k c : Nat) (l : List Int) (f : Bool), crossR [0] n m (lett m (pad (flat ts))) = ((k : Int), true) ∧ pairsR n m (lett m (pad (flat ts))) = l ∧ IsPair l ∧ chordsC (intAt l) l.length l.length = c ∧ (cntOf 46 (flat ts) == 0) = f ∧ c ≤ k ∧ ((k : Int) - (c : Int)).tmod 2 = 0 ∧ (f = true → k = 0 ∧ c = 0) ∧ k ≤ 25 := by
  have hn := h.2.1
  have hm := h.2.2.2.1
  have h25 := h.le25
  have hall := beams_all (n := n) (m := m) (t := lett m (pad (flat ts))) hn hm
  have hpl := pairsR_length n m (lett m (pad (flat ts)))
  have hcs : chordsC (intAt (pairsR n m (lett m (pad (flat ts))))) (2 * (n + m)) (2 * (n + m)) = sumN (fun p => sumN (fun q => if crossB (intAt (pairsR n m (lett m (pad (flat ts))))) p q = true then 1 else 0) (2 * (n + m))) (2 * (n + m)) := by
    unfold chordsC rowC
    exact sumN_congr _ fun p _ => countP_range _ _
  have hpar := sum_par (F := fun p => sumN (fun q => beamsS n m (lett m (pad (flat ts))) p q) (2 * (n + m))) (G := fun p => sumN (fun q => if crossB (intAt (pairsR n m (lett m (pad (flat ts))))) p q = true then 1 else 0) (2 * (n + m))) (2 * (n + m)) fun p hp => sum_par _ fun q hq => beams_par (grid_let h) hn hm hp hq
  rw [hall, ← hcs] at hpar
  have h7 : (List.range (n * m)).countP (crossC n m (lett m (pad (flat ts))) [0]) ≤ (List.range (n * m)).countP (emptyC m (lett m (pad (flat ts)))) := countP_mono' _ fun c _ hc => (crossC_iff.1 hc).1
  rw [empty_cnt h] at h7
  have h8 := mir_emp h
  refine ⟨_, _, _, _, rfl, rfl, pairs_pair hn h.2.2.1 hm h.2.2.2.2.1, rfl, rfl, by rw [hpl]; exact hpar.1, ?_, fun hf => ?_, by omega⟩
  · rw [hpl, Int.tmod_eq_emod_of_nonneg (by have := hpar.1; omega)]
    have := hpar.2
    omega
  · rw [beq_iff_eq] at hf
    rw [hpl]
    have := hpar.1
    omega

set_option maxRecDepth 100000 in
set_option maxHeartbeats 1000000 in
theorem draw_any (A : Option Addr) (len cap : Nat) (w : World) (h : CodeAt w A len) (hl : len ≤ 1048576) (hc : len ≤ cap) (hc2 : cap ≤ 9223372036854775807) :
    Calls Try.prog 24 #[.slice A len cap] w fun e w' => Below w.heap.size w w' ∧ ∃ A c ts, e = .returned (.slice A ts.length c) ∧ LS w' A ts ∧ Drawn 4 4 ts := by
  have HC := hid (l91One_any A len cap w h hl hc hc2)
  clear h
  go_enter Try.func24, Try.ntmps24
  go_wp2_with fail
  refine HC.out.mono ?_
  rintro e w1 ⟨⟨A1, c1, ts, rfl, hst, hd⟩, hb⟩
  have HST := hid hst
  have HD := hid hd
  have HB := hid hb
  clear hst hd hb
  go_wp2_with fail
  go_ret
  exact ⟨HB.out, A1, c1, ts, rfl, HST.out, HD.out⟩

set_option maxRecDepth 100000 in
set_option maxHeartbeats 4000000 in
theorem walk (v : Value) (w : World) (hc : CameB w v) :
    Calls Try.prog 5 #[v] w fun e w' => e = .returned (.bool true) ∧ Below w.heap.size w w' := by
  obtain ⟨A, len, cap, rfl, hcode, hlc, hcap⟩ := hc
  have HCD := hid hcode
  clear hcode
  go_enter Try.func5, Try.ntmps5
  by_cases hbig : 1048576 < len
  · have hbi : (1048576 : Int) < (len : Int) := by omega
    go_wp2_with fail
    go_ret
    exact ⟨rfl, Below.refl _ _⟩
  have hbi : ¬ (1048576 : Int) < (len : Int) := by omega
  have HDR := hid (draw_any A len cap w HCD.out (by omega) hlc hcap)
  have HC1 := hid (HDR.out)
  go_wp2_with fail
  refine HC1.out.mono ?_
  rintro e w1 ⟨hb, A1, c1, ts, rfl, hl, hd⟩
  have HB1 := hid hb
  have Lts1 := hid hl
  clear hl
  clear hb HC1
  have HSM := hid (hd.small (by decide) (by decide))
  clear hd
  have HC2 := hid (implCrossBeams_any A1 c1 ts w1 Lts1.out HSM.out.1 HSM.out.2)
  go_wp2_with fail
  refine HC2.out.mono ?_
  rintro e w2 ⟨hb, out, ok, rfl, hout⟩
  have HB2 := hid (HB1.out.trans (hb.mono HB1.out.size))
  clear HB1
  have Lts2 := hid (Lts1.out.step hb)
  clear Lts1
  clear hb HC2
  have HO := hid hout
  clear hout
  have HC3 := hid (specCrossBeams_any A1 c1 w2.heap.size ts w2 Lts2.out (Nat.le_refl _) HSM.out.1 HSM.out.2)
  go_wp2_with fail
  refine HC3.out.mono ?_
  rintro e w3 ⟨hb, out2, ok2, rfl, hout2⟩
  have HB3 := hid (HB2.out.trans (hb.mono HB2.out.size))
  clear HB2
  have Lts3 := hid (Lts2.out.step hb)
  clear Lts2
  clear hb HC3
  obtain ⟨rfl, rfl⟩ := HO.out.uniq hout2
  clear hout2
  rcases HO.out with ⟨n, m, hg, hv⟩ | ⟨_, rfl, rfl⟩
  · obtain ⟨k, c, l, f, hR, e1, p1, e2, e3, hck, hpar, hf, hk25⟩ := facts hg
    rw [hR] at hv
    obtain ⟨rfl, rfl⟩ := Prod.mk.inj hv
    clear hv hR
    have h1 : (c : Int) ≤ (k : Int) := by omega
    have h2 : (k : Int) ≤ 25 := by omega
    have HF := hid hf
    clear hf hck
    have HG := hid hg
    have E1 := hid e1
    have P1 := hid p1
    have E2 := hid e2
    have E3 := hid e3
    clear hg e1 p1 e2 e3
    go_wp2_with fail
    refine (nBeamPairs (Lts3.out) HG.out E1.out).mono ?_
    rintro e w4 ⟨hb, A5, c5, rfl, hl⟩
    have HB4 := hid (HB3.out.trans (hb.mono HB3.out.size))
    clear HB3
    have Lts4 := hid (Lts3.out.step hb)
    clear Lts3
    have Lp4 := hid hl
    clear hl
    clear hb
    go_wp2_with fail
    refine (nCrossChords (Lp4.out) P1.out E2.out).mono ?_
    rintro e w5 ⟨hb, rfl⟩
    have HB5 := hid (HB4.out.trans (hb.mono HB4.out.size))
    clear HB4
    have Lts5 := hid (Lts4.out.step hb)
    clear Lts4
    have Lp5 := hid (Lp4.out.step hb)
    clear Lp4
    clear hb
    go_wp2_with fail
    refine (nGridFull (Lts5.out) HG.out E3.out).mono ?_
    rintro e w6 ⟨hb, rfl⟩
    have HB6 := hid (HB5.out.trans (hb.mono HB5.out.size))
    clear HB5
    have Lts6 := hid (Lts5.out.step hb)
    clear Lts5
    have Lp6 := hid (Lp5.out.step hb)
    clear Lp5
    clear hb
    cases f with
    | false =>
      go_wp2_with fail
      go_ret
      exact ⟨rfl, HB6.out⟩
    | true =>
      obtain ⟨rfl, rfl⟩ := HF.out rfl
      go_wp2_with fail
      go_ret
      exact ⟨rfl, HB6.out⟩
  · skip
    go_wp2_with fail
    go_ret
    exact ⟨rfl, HB3.out⟩

set_option maxRecDepth 100000 in
theorem lifted (os : Os) (started : os.Started) (H : Type) (enc : TypeId × Value → H) :
    ReturnsInHanded {} Try.checked os 5 .any (Rows.fnBeamsSpec.pre6 enc Try.prog Try.f5 Rows.fnBeamsRow.domain false) (Rows.fnBeamsSpec.post enc Try.prog Try.f5 false true false false) := by
  refine returnsInHanded_of_change (C := Try.checked) Try.own started (by kernel_rfl) Try.func5
    (ChangeSpec.witness6 (enc := enc) (C := Try.checked) false ⟨#[], #[.slice none 0 0], []⟩ 8 (by kernel_rfl) (by kernel_rfl) (by kernel_rfl) (by kernel_rfl)) ?_
  intro W base args ds gs before hval0 hW hcnd _
  have hval : ∀ (j : Nat) t v, Try.f5.params[j]? = some t → args[j]? = some v → Value.okWide Try.prog W .any base t v := hval0
  have hW' := hW
  obtain ⟨p, q, hA0, hV, rfl, hfz, hnd⟩ := hW
  have hA : DataW.TrodAll enc Try.prog W 0 (fun _ => true) true Try.f5.params.toList args.toList ds p := hA0
  rw [Try.params5] at hA hval
  obtain ⟨v0, vs0, d0, ds0, p0, q0, hargs, rfl, rfl, h0, r0⟩ := trodAll_cons hA
  obtain ⟨rfl, rfl, rfl⟩ := trodAll_nil r0
  obtain rfl : args = #[v0] := by cases args; simp_all
  obtain ⟨rfl, rfl⟩ := trodVars_none hV
  have k0 := h0
  have lt0 : ∀ x ∈ p0, x.block < W.heap.size := by obtain ⟨m, hm⟩ := k0; exact DataW.trod_lt m _ _ _ hm
  have c0 := cameB_of (hval 0 22 v0 rfl rfl) h0
  clear hA0 hval0
  refine (walk v0 W c0).mono fun e W' ⟨he, bel⟩ => ?_
  subst he
  exact ⟨_, rfl, _, _, _, [], _, [], hW', trodAll_mk1 (shut_bool Try.underlying4 _), (trodAll_cons_mk (Below.trod Try.laidOut (by kernel_rfl) (of_decide_eq_true (by kernel_rfl)) k0 bel lt0) trodAll_mk0), rfl, bel.frame _, fun h => by cases h⟩

theorem closed : joinedFacts Try.pinned.checked.prog 5 Try.f5 Rows.fnBeamsSpec Rows.fnBeamsRow = true := by
  unfold joinedFacts
  exact and8 (by as_aux_lemma => kernel_rfl) head_enter head_lifts head_make (by as_aux_lemma => kernel_rfl) (by as_aux_lemma => kernel_rfl) (by as_aux_lemma => kernel_rfl) (by as_aux_lemma => kernel_rfl)

theorem proved : Rows.FnBeamsSaid :=
  OpenClaim.holds_of_wide 5 Try.f5 rfl rfl rfl rfl rfl rfl rfl ⟨rfl, rfl, rfl, rfl, rfl⟩ rfl rfl rfl rfl rfl (by kernel_rfl) Try.func5 closed
    (of_decide_eq_true (by kernel_rfl)) (by unfold Func.isWrapper; first | (rw [if_pos (by decide +kernel)]; kernel_rfl) | (rw [if_neg (by decide +kernel)]; exact ⟨rfl, rfl⟩))
    (fun os started H enc _ => lifted os started H enc)
#print axioms proved

end Go.Proofs.Ytonhnmpgikmlpaa.lawFnBeams
