/- For every code, the longest beam of the drawn grid has the length told, no beam is longer, and none of a lesser port is as long; the program's and the specification's answers are the same: the law FnLongest returns true, and its argument reads as it did. No condition. -/
import Derived.Test.YtpbppkidglmacaaPK
import Derived.Test.YtpbppkidglmacaaPKB
import Derived.Test.YtpbppkidglmacaaBeamP
import Derived.Test.YtpbppkidglmacaaLongest
namespace Go.Proofs.Ytpbppkidglmacaa.lawFnLongest
open Go.ChangeShapes Go.WideShapes Go.ChangeAt Go.RowKit
open Go.ChangeMaps (open_string shut_string)

theorem best_spec (len : Nat → Nat) : ∀ k, (∀ i, i < k → len i ≤ (best len k).2) ∧ (∀ i, i < (best len k).1 → len i < (best len k).2) ∧ (0 < (best len k).2 → (best len k).1 < k ∧ len (best len k).1 = (best len k).2)
  | 0 => ⟨fun i h => by omega, fun i h => by simp [best] at h, fun h => by simp [best] at h⟩
  | k + 1 => by
    obtain ⟨h1, h2, h3⟩ := best_spec len k
    unfold best
    split
    · rename_i hgt
      refine ⟨fun i hi => ?_, fun i hi => ?_, fun _ => ⟨Nat.lt_succ_self _, rfl⟩⟩
      · by_cases hik : i = k
        · subst hik; exact Nat.le_refl _
        · have := h1 i (by omega)
          show len i ≤ len k
          omega
      · have := h1 i hi
        show len i < len k
        omega
    · rename_i hgt
      refine ⟨fun i hi => ?_, h2, fun h0 => ⟨by have := (h3 h0).1; omega, (h3 h0).2⟩⟩
      by_cases hik : i = k
      · subst hik; omega
      · exact h1 i (by omega)
theorem facts {n m : Nat} {ts : List ByteArray} (hg : IsGrid n m ts) : ∃ (a b K : Nat) (len : Nat → Nat), (best (lenOfB n m (lett m (pad (flat ts)))) (2 * (n + m))).1 = a ∧ (best (lenOfB n m (lett m (pad (flat ts)))) (2 * (n + m))).2 = b ∧ (2 : Int) * ((n : Int) + (m : Int)) = (K : Int) ∧ K ≤ 20 ∧
    ∀ i, i < K → PortIn ts (i : Int) n m i ∧ lengthR n m (lett m (pad (flat ts))) i = ((len i : Int), true) ∧ len i ≤ b ∧ (i < a → len i ≠ b) ∧ (i = a → len i = b) := by
  have hn := hg.2.1
  have hm := hg.2.2.2.1
  have hn5 := hg.2.2.1
  have hm5 := hg.2.2.2.2.1
  obtain ⟨h1, h2, h3⟩ := best_spec (lenOfB n m (lett m (pad (flat ts)))) (2 * (n + m))
  have hl : ∀ i, i < 2 * (n + m) → lenOfB n m (lett m (pad (flat ts))) i = blen n m (lett m (pad (flat ts))) i := fun i hi => if_pos hi
  have hp : 0 < (best (lenOfB n m (lett m (pad (flat ts)))) (2 * (n + m))).2 := by
    have h4 := h1 0 (by omega)
    have h5 := blen_pos (t := lett m (pad (flat ts))) (p := 0) hn hm (by omega)
    rw [hl 0 (by omega)] at h4
    omega
  refine ⟨_, _, 2 * (n + m), blen n m (lett m (pad (flat ts))), rfl, rfl, by omega, by omega, fun i hi => ⟨⟨hg, rfl, hi⟩, rfl, ?_, fun h => ?_, fun h => ?_⟩⟩
  · rw [← hl i hi]; exact h1 i hi
  · have := h2 i h
    rw [hl i hi] at this
    omega
  · rw [← hl i hi, h]; exact (h3 hp).2

set_option maxRecDepth 100000 in
set_option maxHeartbeats 1000000 in
theorem draw_any (A : Option Addr) (len cap : Nat) (w : World) (h : CodeAt w A len) (hl : len ≤ 1048576) (hc : len ≤ cap) (hc2 : cap ≤ 9223372036854775807) :
    Calls Try.prog 35 #[.slice A len cap] w fun e w' => Below w.heap.size w w' ∧ ∃ A c ts, e = .returned (.slice A ts.length c) ∧ LS w' A ts ∧ Drawn 4 4 ts := by
  have HC := hid (l91One_any A len cap w h hl hc hc2)
  clear h
  go_enter Try.func35, Try.ntmps35
  go_wp2_with fail
  refine HC.out.mono ?_
  rintro e w1 ⟨⟨A1, c1, ts, rfl, hst, hd⟩, hb⟩
  have HST := hid hst
  have HD := hid hd
  have HB := hid hb
  clear hst hd hb
  go_wp2_with fail
  go_ret
  exact ⟨HB.out, A1, c1, ts, rfl, HST.out, HD.out⟩

set_option maxRecDepth 100000 in
set_option maxHeartbeats 4000000 in
theorem walk (v : Value) (w : World) (hc : CameB w v) :
    Calls Try.prog 9 #[v] w fun e w' => e = .returned (.bool true) ∧ Below w.heap.size w w' := by
  obtain ⟨A, len, cap, rfl, hcode, hlc, hcap⟩ := hc
  have HCD := hid hcode
  clear hcode
  go_enter Try.func9, Try.ntmps9
  by_cases hbig : 1048576 < len
  · have hbi : (1048576 : Int) < (len : Int) := by omega
    go_wp2_with fail
    go_ret
    exact ⟨rfl, Below.refl _ _⟩
  have hbi : ¬ (1048576 : Int) < (len : Int) := by omega
  have HDR := hid (draw_any A len cap w HCD.out (by omega) hlc hcap)
  have HC1 := hid (HDR.out)
  go_wp2_with fail
  refine HC1.out.mono ?_
  rintro e w1 ⟨hb, A1, c1, ts, rfl, hl, hd⟩
  have HB1 := hid hb
  have Lts1 := hid hl
  clear hl
  clear hb HC1
  have HSM := hid (hd.small (by decide) (by decide))
  clear hd
  have HC2 := hid (implBeamLongest_any A1 c1 ts w1 Lts1.out HSM.out.1 HSM.out.2)
  go_wp2_with fail
  refine HC2.out.mono ?_
  rintro e w2 ⟨hb, out, got, ok, rfl, hout⟩
  have HB2 := hid (HB1.out.trans (hb.mono HB1.out.size))
  clear HB1
  have Lts2 := hid (Lts1.out.step hb)
  clear Lts1
  clear hb HC2
  have HO := hid hout
  clear hout
  have HC3 := hid (specBeamLongest_any A1 c1 w2.heap.size ts w2 Lts2.out (Nat.le_refl _) HSM.out.1 HSM.out.2)
  go_wp2_with fail
  refine HC3.out.mono ?_
  rintro e w3 ⟨hb, out2, got2, ok2, rfl, hout2⟩
  have HB3 := hid (HB2.out.trans (hb.mono HB2.out.size))
  clear HB2
  have Lts3 := hid (Lts2.out.step hb)
  clear Lts2
  clear hb HC3
  obtain ⟨rfl, rfl, rfl⟩ := HO.out.uniq hout2
  clear hout2
  rcases HO.out with ⟨n, m, hg, rfl, rfl, rfl⟩ | ⟨_, rfl, rfl, rfl⟩
  · obtain ⟨a, b, K, ln, e1, e2, hK, hK20, hF⟩ := facts hg
    rw [e1, e2]
    obtain ⟨b0, o0, s0, rfl, hk0, hs0, hl0⟩ := Lts3.out.addr hg
    have hn : ((ts.length : Nat) : Int) = (n : Int) := by rw [hg.1]
    have hn0 : 0 < n := hg.2.1
    have hn5 := hg.2.2.1
    have hm5 := hg.2.2.2.2.1
    clear e1 e2 hg
    have HK0 := hid hk0
    have HF := hid hF
    clear hk0 hF
    go_wp2_with fail
    go_loopw [10] (fun (iv : Value) (wr : World) => ∃ k : Nat, k ≤ K ∧ iv = .int .i64 k ∧ Below w.heap.size w wr ∧ LS wr (some ⟨b0, o0, none⟩) ts) (fun iv _ => K - (intOf iv).toNat)
    case atStart => exact ⟨0, by omega, rfl, HB3.out, Lts3.out⟩
    case round =>
      obtain ⟨k, hk, rfl, hbr, hlr⟩ := hrel
      have HBR := hid hbr
      have HLR := hid hlr
      have c0 := hlr.cell0 HK0.out
      clear hbr hlr
      by_cases hlt : k < K
      · obtain ⟨f1, f2, f3, f4, f5⟩ := HF.out k hlt
        obtain ⟨M, hM⟩ : ∃ M, ln k = M := ⟨_, rfl⟩
        rw [hM] at f2 f3 f4 f5
        have F1 := hid f1
        have F2 := hid f2
        have hki : (k : Int) < (K : Int) := by omega
        have g1 : ¬ (b : Int) < (M : Int) := by omega
        have g1b : (M : Int) ≤ (b : Int) := by omega
        clear f1 f2 hM
        go_wp2_with fail
        refine (nBeamLength HLR.out F1.out F2.out).mono ?_
        rintro e w9 ⟨hb, rfl⟩
        have HB9 := hid (HBR.out.trans (hb.mono HBR.out.size))
        have HL9 := hid (HLR.out.step hb)
        clear hb c0
        rcases Nat.lt_trichotomy k a with h | h | h
        · have hMb := f4 h
          have g2 : (k : Int) < (a : Int) := by omega
          have g3 : ((M : Int) == (b : Int)) = false := by rw [beq_eq_false_iff_ne]; omega
          have g4 : ((k : Int) == (a : Int)) = false := by rw [beq_eq_false_iff_ne]; omega
          clear f3 f4 f5 hMb h
          go_wp2_with fail
          go_roundw
          case rel => exact ⟨k + 1, by omega, by go_num, HB9.out, HL9.out⟩
          case measure => simp [intOf]; omega
        · have hMb := f5 h
          have g2 : ¬ (k : Int) < (a : Int) := by omega
          have g2b : (a : Int) ≤ (k : Int) := by omega
          have g3 : ((M : Int) != (b : Int)) = false := by rw [bne_eq_false_iff_eq]; omega
          have g4 : ((k : Int) == (a : Int)) = true := by rw [beq_iff_eq]; omega
          clear f3 f4 f5 hMb h
          go_wp2_with fail
          go_roundw
          case rel => exact ⟨k + 1, by omega, by go_num, HB9.out, HL9.out⟩
          case measure => simp [intOf]; omega
        · skip
          have g2 : ¬ (k : Int) < (a : Int) := by omega
          have g2b : (a : Int) ≤ (k : Int) := by omega
          have g4 : ((k : Int) == (a : Int)) = false := by rw [beq_eq_false_iff_ne]; omega
          clear f3 f4 f5 h
          go_wp2_with fail
          go_roundw
          case rel => exact ⟨k + 1, by omega, by go_num, HB9.out, HL9.out⟩
          case measure => simp [intOf]; omega
      · obtain rfl : k = K := by omega
        go_wp2_with fail
        go_ret
        exact ⟨rfl, HBR.out⟩
  · skip
    go_wp2_with fail
    go_ret
    exact ⟨rfl, HB3.out⟩

set_option maxRecDepth 100000 in
theorem lifted (os : Os) (started : os.Started) (H : Type) (enc : TypeId × Value → H) :
    ReturnsInHanded {} Try.checked os 9 .any (Rows.fnLongestSpec.pre6 enc Try.prog Try.f9 Rows.fnLongestRow.domain false) (Rows.fnLongestSpec.post enc Try.prog Try.f9 false true false false) := by
  refine returnsInHanded_of_change (C := Try.checked) Try.own started (by kernel_rfl) Try.func9
    (ChangeSpec.witness6 (enc := enc) (C := Try.checked) false ⟨#[], #[.slice none 0 0], []⟩ 8 (by kernel_rfl) (by kernel_rfl) (by kernel_rfl) (by kernel_rfl)) ?_
  intro W base args ds gs before hval0 hW hcnd _
  have hval : ∀ (j : Nat) t v, Try.f9.params[j]? = some t → args[j]? = some v → Value.okWide Try.prog W .any base t v := hval0
  have hW' := hW
  obtain ⟨p, q, hA0, hV, rfl, hfz, hnd⟩ := hW
  have hA : DataW.TrodAll enc Try.prog W 0 (fun _ => true) true Try.f9.params.toList args.toList ds p := hA0
  rw [Try.params9] at hA hval
  obtain ⟨v0, vs0, d0, ds0, p0, q0, hargs, rfl, rfl, h0, r0⟩ := trodAll_cons hA
  obtain ⟨rfl, rfl, rfl⟩ := trodAll_nil r0
  obtain rfl : args = #[v0] := by cases args; simp_all
  obtain ⟨rfl, rfl⟩ := trodVars_none hV
  have k0 := h0
  have lt0 : ∀ x ∈ p0, x.block < W.heap.size := by obtain ⟨m, hm⟩ := k0; exact DataW.trod_lt m _ _ _ hm
  have c0 := cameB_of (hval 0 22 v0 rfl rfl) h0
  clear hA0 hval0
  refine (walk v0 W c0).mono fun e W' ⟨he, bel⟩ => ?_
  subst he
  exact ⟨_, rfl, _, _, _, [], _, [], hW', trodAll_mk1 (shut_bool Try.underlying4 _), (trodAll_cons_mk (Below.trod Try.laidOut (by kernel_rfl) (of_decide_eq_true (by kernel_rfl)) k0 bel lt0) trodAll_mk0), rfl, bel.frame _, fun h => by cases h⟩

theorem closed : joinedFacts Try.pinned.checked.prog 9 Try.f9 Rows.fnLongestSpec Rows.fnLongestRow = true := by
  unfold joinedFacts
  exact and8 (by as_aux_lemma => kernel_rfl) head_enter head_lifts head_make (by as_aux_lemma => kernel_rfl) (by as_aux_lemma => kernel_rfl) (by as_aux_lemma => kernel_rfl) (by as_aux_lemma => kernel_rfl)

theorem proved : Rows.FnLongestSaid :=
  OpenClaim.holds_of_wide 9 Try.f9 rfl rfl rfl rfl rfl rfl rfl ⟨rfl, rfl, rfl, rfl, rfl⟩ rfl rfl rfl rfl rfl (by kernel_rfl) Try.func9 closed
    (of_decide_eq_true (by kernel_rfl)) (by unfold Func.isWrapper; first | (rw [if_pos (by decide +kernel)]; kernel_rfl) | (rw [if_neg (by decide +kernel)]; exact ⟨rfl, rfl⟩))
    (fun os started H enc _ => lifted os started H enc)
#print axioms proved

end Go.Proofs.Ytpbppkidglmacaa.lawFnLongest
