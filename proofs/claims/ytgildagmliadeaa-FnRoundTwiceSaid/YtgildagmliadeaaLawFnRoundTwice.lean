/- For every code, as many cells as told have two rounds' ways, in the drawn grid and turned; the program's and the specification's answers are the same: the law FnRoundTwice returns true, and its argument reads as it did. No condition. -/
import Derived.Test.YtgildagmliadeaaPKR
import Derived.Test.YtgildagmliadeaaBunF
import Derived.Test.YtgildagmliadeaaBunM
import Derived.Test.YtgildagmliadeaaGridQ
import Derived.Test.YtgildagmliadeaaCntQ
import Derived.Test.YtgildagmliadeaaBunQ
namespace Go.Proofs.Ytgildagmliadeaa.lawFnRoundTwice
open Go.ChangeShapes Go.WideShapes Go.ChangeAt Go.RowKit
open Go.ChangeMaps (open_string shut_string)

theorem lett_nat {m : Nat} {l : List UInt8} {r q : Nat} (h : r * m + q < l.length) : lett m (pad l) (r : Int) (q : Int) = l.getD (r * m + q) 0 := by
  unfold lett pad
  rw [show ((r : Int) * (m : Int) + (q : Int)).toNat = r * m + q by rw [← Int.natCast_mul, ← Int.natCast_add, Int.toNat_natCast], List.getD_eq_getElem?_getD, List.getD_eq_getElem?_getD, List.getElem?_append_left h]
theorem turn_letters {n m : Nat} {ts : List ByteArray} (h : IsGrid n m ts) : ∀ i k : Int, 0 ≤ i → i < n → 0 ≤ k → k < m → lett n (pad (flat (ruleG m n (turnF n m (flat ts))))) k ((n : Int) - 1 - i) = swapM (lett m (pad (flat ts)) i k) := by
  intro i k h1 h2 h3 h4
  obtain ⟨r, rfl⟩ := Int.eq_ofNat_of_zero_le h1
  obtain ⟨q, rfl⟩ := Int.eq_ofNat_of_zero_le h3
  have hr : r < n := by omega
  have hq : q < m := by omega
  have g1 := turn_grid h
  rw [show (n : Int) - 1 - (r : Int) = ((n - 1 - r : Nat) : Int) by omega, lett_nat (by rw [g1.flen]; exact parts_lt hq (by omega)), lett_nat (by rw [h.flen]; exact parts_lt hr hq), rule_flat hq (by omega)]
  show oth ((flat ts).getD ((n - 1 - (n - 1 - r)) * m + q) 0) = swapM _
  rw [show n - 1 - (n - 1 - r) = r by omega]
  rfl
theorem flip_letters {n m : Nat} {ts : List ByteArray} (h : IsGrid n m ts) (g1 : IsGrid n m (ruleG n m (flipF m (flat ts)))) : ∀ i k : Int, 0 ≤ i → i < n → 0 ≤ k → k < m → lett m (pad (flat (ruleG n m (flipF m (flat ts))))) i ((m : Int) - 1 - k) = swapM (lett m (pad (flat ts)) i k) := by
  intro i k h1 h2 h3 h4
  obtain ⟨r, rfl⟩ := Int.eq_ofNat_of_zero_le h1
  obtain ⟨q, rfl⟩ := Int.eq_ofNat_of_zero_le h3
  have hr : r < n := by omega
  have hq : q < m := by omega
  rw [show (m : Int) - 1 - (q : Int) = ((m - 1 - q : Nat) : Int) by omega, lett_nat (by rw [g1.flen]; exact parts_lt hr (by omega)), lett_nat (by rw [h.flen]; exact parts_lt hr hq), rule_flat hr (by omega)]
  show oth ((flat ts).getD (r * m + (m - 1 - (m - 1 - q))) 0) = swapM _
  rw [show m - 1 - (m - 1 - q) = q by omega]
  rfl

theorem nRoundAt {n m c cc : Nat} {A : Option Addr} {ss : List ByteArray} {w : World} {cell x : Int} {ok : Bool} (h : LS w A ss) (hc : CellIn ss cell n m cc) (hv : atR n m (lett m (pad (flat ss))) cc = (x, ok)) :
    Calls Try.prog 26 #[.slice A ss.length c, .int .i64 cell] w (IEnd x ok w) :=
  (implRoundAt_any A c ss cell w h (gsmall hc.1).1 (gsmall hc.1).2).mono fun _ _ ⟨hb, x', ok', he, ho⟩ => ⟨hb, by
    rcases ho with ⟨n', m', c', h1, h2⟩ | ⟨h1, _, _⟩
    · obtain ⟨rfl, rfl⟩ := hc.1.uniq h1.1
      obtain rfl : cc = c' := by have := hc.2.1.symm.trans h1.2.1; omega
      rw [hv] at h2
      cases h2
      exact he
    · exact absurd hc (h1 _ _ _)⟩
theorem countP_upto (p : Nat → Bool) (c : Nat) : (List.range (c + 1)).countP p = (List.range c).countP p + (if p c = true then 1 else 0) := by
  rw [List.range_succ, List.countP_append, List.countP_cons, List.countP_nil, Nat.zero_add]
theorem countP_lt (p : Nat → Bool) (c : Nat) : (List.range c).countP p ≤ c := by
  have := List.countP_le_length (p := p) (l := List.range c)
  rwa [List.length_range] at this

theorem facts {n m : Nat} {ts : List ByteArray} (h : IsGrid n m ts) : ∃ (k N : Nat) (t : List ByteArray) (A : Nat → Nat), rtwiceR n m (lett m (pad (flat ts))) = ((k : Int), true) ∧ turnG n m (pad (flat ts)) = t ∧ IsGrid m n t ∧ rtwiceR m n (lett n (pad (flat t))) = ((k : Int), true) ∧ (n : Int) * (m : Int) = (N : Int) ∧ N ≤ 25 ∧
    (∀ c, c < N → CellIn ts (c : Int) n m c ∧ atR n m (lett m (pad (flat ts))) c = ((A c : Int), true)) ∧ (List.range N).countP (fun c => A c == 2) = k ∧ k ≤ 25 := by
  refine ⟨_, n * m, _, atN n m (lett m (pad (flat ts))), rfl, turn_same h, turn_grid h, ?_, by rw [Int.natCast_mul], h.le25, fun c hc => ⟨⟨h, rfl, hc⟩, rfl⟩, rfl, ?_⟩
  · unfold rtwiceR
    rw [cnt_turn (p := fun c => atN n m (lett m (pad (flat ts))) c == 2) fun c hc => by rw [at_turn (turn_letters h) hc]]
  · have h1 := countP_lt (fun c => atN n m (lett m (pad (flat ts))) c == 2) (n * m)
    have h2 := h.le25
    omega

set_option maxRecDepth 100000 in
set_option maxHeartbeats 1000000 in
theorem draw_any (A : Option Addr) (len cap : Nat) (w : World) (h : CodeAt w A len) (hl : len ≤ 1048576) (hc : len ≤ cap) (hc2 : cap ≤ 9223372036854775807) :
    Calls Try.prog 23 #[.slice A len cap] w fun e w' => Below w.heap.size w w' ∧ ∃ A c ts, e = .returned (.slice A ts.length c) ∧ LS w' A ts ∧ Drawn 5 5 ts := by
  have HOP := hid (l6Open_any A len cap w (by omega) hc hc2)
  have HRD := hid (fun len' (h1 : len' ≤ len) (h2 : len' ≤ 2000) => open_rd (cap := cap) h h1 h2)
  have HSO := hid (fun W (hr : Rd W w.heap.size 0) => l91Some_any w.heap.size 0 5 5 W hr (by omega) (by omega) (by omega) (by omega) (by omega))
  clear h
  go_enter Try.func23, Try.ntmps23
  go_wp2_with fail
  refine HOP.out.mono ?_
  rintro e w1 ⟨rfl, len', h1, h2, _, rfl⟩
  have HS := hid (HSO.out _ (HRD.out len' h1 h2))
  go_wp2_with fail
  refine HS.out.mono ?_
  rintro e w2 ⟨⟨gb, c1, ts, rfl, _, hst, h3, h4, h5⟩, _, hgw⟩
  have HST := hid (hst.strs hst.lt)
  have HD := hid (show Drawn 5 5 ts from ⟨h3, h4, h5⟩)
  have HB := hid (((Below.refl _ w).alloc (Nat.le_refl _) (.cells #[.slice A len' cap, .int .i64 0] 153)).grown hgw (by simp) (fun k e => by cases e; exact Nat.le_refl _))
  clear hst h3 h4 h5 hgw
  go_wp2_with fail
  go_ret
  exact ⟨HB.out, _, c1, ts, rfl, HST.out, HD.out⟩

set_option maxRecDepth 100000 in
set_option maxHeartbeats 4000000 in
theorem walk (v : Value) (w : World) (hc : CameB w v) :
    Calls Try.prog 5 #[v] w fun e w' => e = .returned (.bool true) ∧ Below w.heap.size w w' := by
  obtain ⟨A, len, cap, rfl, hcode, hlc, hcap⟩ := hc
  have HCD := hid hcode
  clear hcode
  go_enter Try.func5, Try.ntmps5
  by_cases hbig : 1048576 < len
  · have hbi : (1048576 : Int) < (len : Int) := by omega
    go_wp2_with fail
    go_ret
    exact ⟨rfl, Below.refl _ _⟩
  have hbi : ¬ (1048576 : Int) < (len : Int) := by omega
  have HDR := hid (draw_any A len cap w HCD.out (by omega) hlc hcap)
  have HC1 := hid (HDR.out)
  go_wp2_with fail
  refine HC1.out.mono ?_
  rintro e w1 ⟨hb, A1, c1, ts, rfl, hl, hd⟩
  have HB1 := hid hb
  have Lts1 := hid hl
  clear hl
  clear hb HC1
  have HSM := hid (hd.small (by decide) (by decide))
  clear hd
  have HC2 := hid (implRoundTwice_any A1 c1 ts w1 Lts1.out HSM.out.1 HSM.out.2)
  go_wp2_with fail
  refine HC2.out.mono ?_
  rintro e w2 ⟨hb, out, ok, rfl, hout⟩
  have HB2 := hid (HB1.out.trans (hb.mono HB1.out.size))
  clear HB1
  have Lts2 := hid (Lts1.out.step hb)
  clear Lts1
  clear hb HC2
  have HO := hid hout
  clear hout
  have HC3 := hid (specRoundTwice_any A1 c1 w2.heap.size ts w2 Lts2.out (Nat.le_refl _) HSM.out.1 HSM.out.2)
  go_wp2_with fail
  refine HC3.out.mono ?_
  rintro e w3 ⟨hb, out2, ok2, rfl, hout2⟩
  have HB3 := hid (HB2.out.trans (hb.mono HB2.out.size))
  clear HB2
  have Lts3 := hid (Lts2.out.step hb)
  clear Lts2
  clear hb HC3
  obtain ⟨rfl, rfl⟩ := HO.out.uniq hout2
  clear hout2
  rcases HO.out with ⟨n, m, hg, hv⟩ | ⟨_, rfl, rfl⟩
  · obtain ⟨k, N, t, A, hR, e1, g1, e2, hN, hN25, hF, hk, hk25⟩ := facts hg
    rw [hR] at hv
    obtain ⟨rfl, rfl⟩ := Prod.mk.inj hv
    clear hv hR
    obtain ⟨b0, o0, s0, rfl, hk0, hs0, hl0⟩ := Lts3.out.addr hg
    have hn : ((ts.length : Nat) : Int) = (n : Int) := by rw [(hg).1]
    have hn0 : 0 < n := (hg).2.1
    have hn5 := (hg).2.2.1
    have hm1 := (hg).2.2.2.1
    have hm5 := (hg).2.2.2.2.1
    have HK0 := hid hk0
    clear hk0
    have HG := hid hg
    have E1 := hid e1
    have G1 := hid g1
    have E2 := hid e2
    have HF := hid hF
    have HK := hid hk
    clear hg e1 g1 e2 hF hk
    go_wp2_with fail
    refine (nGridTurn (Lts3.out) HG.out E1.out).mono ?_
    rintro e w4 ⟨hb, A5, c5, rfl, hl⟩
    have HB4 := hid (HB3.out.trans (hb.mono HB3.out.size))
    clear HB3
    have Lts4 := hid (Lts3.out.step hb)
    clear Lts3
    have Lt4 := hid hl
    clear hl
    clear hb
    go_wp2_with fail
    refine (nRoundTwice (Lt4.out) G1.out E2.out).mono ?_
    rintro e w5 ⟨hb, rfl⟩
    have HB5 := hid (HB4.out.trans (hb.mono HB4.out.size))
    clear HB4
    have Lts5 := hid (Lts4.out.step hb)
    clear Lts4
    have Lt5 := hid (Lt4.out.step hb)
    clear Lt4
    clear hb
    clear Lt5
    go_wp2_with fail
    go_loopw [12, 13] (fun (nv iv : Value) (wr : World) => ∃ c : Nat, c ≤ N ∧ iv = .int .i64 c ∧ nv = .int .i64 (((List.range c).countP (fun c => A c == 2) : Nat) : Int) ∧ Below w.heap.size w wr ∧ LS wr (some ⟨b0, o0, none⟩) ts) (fun _ iv _ => N - (intOf iv).toNat)
    case atStart => exact ⟨0, by omega, rfl, rfl, HB5.out, Lts5.out⟩
    case round =>
      obtain ⟨c, hc, rfl, rfl, hbr, hlr⟩ := hrel
      have HBR := hid hbr
      have HLR := hid hlr
      clear hbr hlr
      have c0 := HLR.out.cell0 HK0.out
      by_cases hlt : c < N
      · obtain ⟨f1, f2⟩ := HF.out c hlt
        have F1 := hid f1
        have F2 := hid f2
        have hci : (c : Int) < (N : Int) := by omega
        have hcl := countP_lt (fun c => A c == 2) c
        have hsu := countP_upto (fun c => A c == 2) c
        obtain ⟨M, hM⟩ : ∃ M, (List.range c).countP (fun c => A c == 2) = M := ⟨_, rfl⟩
        obtain ⟨M2, hM2⟩ : ∃ M, (List.range (c + 1)).countP (fun c => A c == 2) = M := ⟨_, rfl⟩
        rw [hM] at hcl hsu ⊢
        rw [hM2] at hsu
        have HM2 := hid hM2
        clear f1 f2 hM hM2
        obtain ⟨a, ha⟩ : ∃ a, A c = a := ⟨_, rfl⟩
        rw [ha] at F2 hsu
        go_wp2_with fail
        refine (nRoundAt HLR.out F1.out F2.out).mono ?_
        rintro e9 w9 ⟨hb, rfl⟩
        have HB9 := hid (HBR.out.trans (hb.mono HBR.out.size))
        have HL9 := hid (HLR.out.step hb)
        clear hb c0
        by_cases h2 : a = 2
        · subst h2
          have HS := hid (show M2 = M + 1 by simpa using hsu)
          clear hsu
          go_wp2_with fail
          go_roundw
          case rel => exact ⟨c + 1, by omega, by go_num, by rw [HM2.out, HS.out]; go_num, HB9.out, HL9.out⟩
          case measure => simp [intOf]; omega
        · have h2i : ((a : Int) == 2) = false := by rw [beq_eq_false_iff_ne]; omega
          have h2j : ¬ (a : Int) = 2 := by omega
          have HS := hid (show M2 = M by simpa [h2] using hsu)
          clear hsu
          go_wp2_with fail
          go_roundw
          case rel => exact ⟨c + 1, by omega, by go_num, by rw [HM2.out, HS.out], HB9.out, HL9.out⟩
          case measure => simp [intOf]; omega
      · obtain rfl : c = N := by omega
        rw [HK.out]
        go_wp2_with fail
        go_ret
        exact ⟨rfl, HBR.out⟩
  · skip
    go_wp2_with fail
    go_ret
    exact ⟨rfl, HB3.out⟩

set_option maxRecDepth 100000 in
theorem lifted (os : Os) (started : os.Started) (H : Type) (enc : TypeId × Value → H) :
    ReturnsInHanded {} Try.checked os 5 .any (Rows.fnRoundTwiceSpec.pre6 enc Try.prog Try.f5 Rows.fnRoundTwiceRow.domain false) (Rows.fnRoundTwiceSpec.post enc Try.prog Try.f5 false true false false) := by
  refine returnsInHanded_of_change (C := Try.checked) Try.own started (by kernel_rfl) Try.func5
    (ChangeSpec.witness6 (enc := enc) (C := Try.checked) false ⟨#[], #[.slice none 0 0], []⟩ 8 (by kernel_rfl) (by kernel_rfl) (by kernel_rfl) (by kernel_rfl)) ?_
  intro W base args ds gs before hval0 hW hcnd _
  have hval : ∀ (j : Nat) t v, Try.f5.params[j]? = some t → args[j]? = some v → Value.okWide Try.prog W .any base t v := hval0
  have hW' := hW
  obtain ⟨p, q, hA0, hV, rfl, hfz, hnd⟩ := hW
  have hA : DataW.TrodAll enc Try.prog W 0 (fun _ => true) true Try.f5.params.toList args.toList ds p := hA0
  rw [Try.params5] at hA hval
  obtain ⟨v0, vs0, d0, ds0, p0, q0, hargs, rfl, rfl, h0, r0⟩ := trodAll_cons hA
  obtain ⟨rfl, rfl, rfl⟩ := trodAll_nil r0
  obtain rfl : args = #[v0] := by cases args; simp_all
  obtain ⟨rfl, rfl⟩ := trodVars_none hV
  have k0 := h0
  have lt0 : ∀ x ∈ p0, x.block < W.heap.size := by obtain ⟨m, hm⟩ := k0; exact DataW.trod_lt m _ _ _ hm
  have c0 := cameB_of (hval 0 22 v0 rfl rfl) h0
  clear hA0 hval0
  refine (walk v0 W c0).mono fun e W' ⟨he, bel⟩ => ?_
  subst he
  exact ⟨_, rfl, _, _, _, [], _, [], hW', trodAll_mk1 (shut_bool Try.underlying4 _), (trodAll_cons_mk (Below.trod Try.laidOut (by kernel_rfl) (of_decide_eq_true (by kernel_rfl)) k0 bel lt0) trodAll_mk0), rfl, bel.frame _, fun h => by cases h⟩

theorem closed : joinedFacts Try.pinned.checked.prog 5 Try.f5 Rows.fnRoundTwiceSpec Rows.fnRoundTwiceRow = true := by
  unfold joinedFacts
  exact and8 (by as_aux_lemma => kernel_rfl) head_enter head_lifts head_make (by as_aux_lemma => kernel_rfl) (by as_aux_lemma => kernel_rfl) (by as_aux_lemma => kernel_rfl) (by as_aux_lemma => kernel_rfl)

theorem proved : Rows.FnRoundTwiceSaid :=
  OpenClaim.holds_of_wide 5 Try.f5 rfl rfl rfl rfl rfl rfl rfl ⟨rfl, rfl, rfl, rfl, rfl⟩ rfl rfl rfl rfl rfl (by kernel_rfl) Try.func5 closed
    (of_decide_eq_true (by kernel_rfl)) (by unfold Func.isWrapper; first | (rw [if_pos (by decide +kernel)]; kernel_rfl) | (rw [if_neg (by decide +kernel)]; exact ⟨rfl, rfl⟩))
    (fun os started H enc _ => lifted os started H enc)
#print axioms proved

end Go.Proofs.Ytgildagmliadeaa.lawFnRoundTwice
