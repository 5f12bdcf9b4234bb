/- For every code, no cell before the least one of the drawn grid is on a round, and this one is; the program's and the specification's answers are the same: the law FnRoundLeast returns true, and its argument reads as it did. No condition. -/
import Derived.Test.YtgildagmliadeaaPKR
import Derived.Test.YtgildagmliadeaaBunF
import Derived.Test.YtgildagmliadeaaBunM
import Derived.Test.YtgildagmliadeaaRoundC
import Derived.Test.YtgildagmliadeaaBunQ
import Derived.Test.YtgildagmliadeaaCntQ
namespace Go.Proofs.Ytgildagmliadeaa.lawFnRoundLeast
open Go.ChangeShapes Go.WideShapes Go.ChangeAt Go.RowKit
open Go.ChangeMaps (open_string shut_string)

def RingB (ss : List ByteArray) (c d : Nat) (b : Bool) : Prop := (b = true ∧ ∃ n m, DirIn ss (c : Int) (d : Int) n m c d) ∨ (b = false ∧ ∀ n m c' d', ¬ DirIn ss (c : Int) (d : Int) n m c' d')
theorem nRoundCells {c cc d : Nat} {A : Option Addr} {ss : List ByteArray} {w : World} {n m : Nat} {b : Bool} (h : LS w A ss) (hg : IsGrid n m ss) (hb : RingB ss cc d b) :
    Calls Try.prog 41 #[.slice A ss.length c, .int .i64 (cc : Int), .int .i64 (d : Int)] w fun e w' => Below w.heap.size w w' ∧ ∃ A c K, e = .returned (.tuple #[.slice A K c, .bool b]) :=
  (implRoundCells_any A c ss cc d w h (gsmall hg).1 (gsmall hg).2).mono fun _ _ ⟨hbe, A', c', l, ok, he, ho, _⟩ => ⟨hbe, A', c', l.length, by
    rw [he]
    rcases ho with ⟨n', m', c2, d2, h1, _, _, rfl⟩ | ⟨h1, _, rfl⟩
    · rcases hb with ⟨rfl, _⟩ | ⟨_, h2⟩
      · rfl
      · exact absurd h1 (h2 _ _ _ _)
    · rcases hb with ⟨_, n', m', h2⟩ | ⟨rfl, _⟩
      · exact absurd h2 (h1 _ _ _ _)
      · rfl⟩
theorem any_upto (B : Nat → Bool) (d : Nat) : (List.range (d + 1)).any B = ((List.range d).any B || B d) := by
  rw [List.range_succ, List.any_append]
  simp
theorem facts {n m : Nat} {ts : List ByteArray} (hg : IsGrid n m ts) : ∃ (x : Int) (b : Bool), leastR n m (lett m (pad (flat ts))) = (x, b) ∧ (b = false ∨ ∃ o : Nat, x = (o : Int) ∧ o ≤ 25 ∧ b = true ∧ ∀ c, c ≤ o → ∃ B : Nat → Bool, (∀ d, d < 4 → RingB ts c d (B d)) ∧ (c < o → (List.range 4).any B = false) ∧ (c = o → (List.range 4).any B = true)) := by
  have h25 := hg.le25
  unfold leastR
  cases h : (leads n m (lett m (pad (flat ts)))) with
  | nil => exact ⟨_, _, rfl, .inl rfl⟩
  | cons l ls =>
    have hl : l ∈ leads n m (lett m (pad (flat ts))) := by rw [h]; simp
    obtain ⟨h1, h2⟩ := leads_lt hl
    have hlow : ∀ l', l' ∈ leads n m (lett m (pad (flat ts))) → l ≤ l' := fun l' hl' => by
      have hp : (leads n m (lett m (pad (flat ts)))).Pairwise (· < ·) := by
        unfold leads
        exact List.Pairwise.filter _ List.pairwise_lt_range
      rw [h] at hp hl'
      rcases List.mem_cons.1 hl' with rfl | hm
      · exact Nat.le_refl _
      · exact Nat.le_of_lt ((List.pairwise_cons.1 hp).1 _ hm)
    refine ⟨_, _, rfl, .inr ⟨l / 4, rfl, by omega, rfl, fun c hc => ⟨fun d => onR n m (lett m (pad (flat ts))) (wayN m (4 * c + d)), fun d hd => ?_, fun hlt => ?_, fun he => ?_⟩⟩⟩
    · cases hb : onR n m (lett m (pad (flat ts))) (wayN m (4 * c + d)) with
      | true => exact .inl ⟨hb, n, m, hg, rfl, by omega, rfl, hd, hb⟩
      | false => exact .inr ⟨hb, fun n' m' c' d' ⟨k1, k2, _, k4, _, k6⟩ => by
          obtain ⟨rfl, rfl⟩ := hg.uniq k1
          obtain rfl : c = c' := by omega
          obtain rfl : d = d' := by omega
          rw [hb] at k6
          cases k6⟩
    · rw [List.any_eq_false]
      intro d hd hon
      have hd := List.mem_range.1 hd
      obtain ⟨l', hl', hle, hr⟩ := ring_lead (wayN_d _) hon (4 * c + d) _ (ringW_refl _) (wcode_way _)
      have := hlow l' (List.mem_filter.2 ⟨List.mem_range.2 (by omega), hle⟩)
      omega
    · rw [List.any_eq_true]
      refine ⟨l % 4, List.mem_range.2 (Nat.mod_lt _ (by decide)), ?_⟩
      rw [he, Nat.div_add_mod]
      exact (lead_iff.1 h2).1

set_option maxRecDepth 100000 in
set_option maxHeartbeats 1000000 in
theorem draw_any (A : Option Addr) (len cap : Nat) (w : World) (h : CodeAt w A len) (hl : len ≤ 1048576) (hc : len ≤ cap) (hc2 : cap ≤ 9223372036854775807) :
    Calls Try.prog 38 #[.slice A len cap] w fun e w' => Below w.heap.size w w' ∧ ∃ A c ts, e = .returned (.slice A ts.length c) ∧ LS w' A ts ∧ Drawn 4 4 ts := by
  have HC := hid (l91One_any A len cap w h hl hc hc2)
  clear h
  go_enter Try.func38, Try.ntmps38
  go_wp2_with fail
  refine HC.out.mono ?_
  rintro e w1 ⟨⟨A1, c1, ts, rfl, hst, hd⟩, hb⟩
  have HST := hid hst
  have HD := hid hd
  have HB := hid hb
  clear hst hd hb
  go_wp2_with fail
  go_ret
  exact ⟨HB.out, A1, c1, ts, rfl, HST.out, HD.out⟩

set_option maxRecDepth 100000 in
set_option maxHeartbeats 4000000 in
theorem walk (v : Value) (w : World) (hc : CameB w v) :
    Calls Try.prog 9 #[v] w fun e w' => e = .returned (.bool true) ∧ Below w.heap.size w w' := by
  obtain ⟨A, len, cap, rfl, hcode, hlc, hcap⟩ := hc
  have HCD := hid hcode
  clear hcode
  go_enter Try.func9, Try.ntmps9
  by_cases hbig : 1048576 < len
  · have hbi : (1048576 : Int) < (len : Int) := by omega
    go_wp2_with fail
    go_ret
    exact ⟨rfl, Below.refl _ _⟩
  have hbi : ¬ (1048576 : Int) < (len : Int) := by omega
  have HDR := hid (draw_any A len cap w HCD.out (by omega) hlc hcap)
  have HC1 := hid (HDR.out)
  go_wp2_with fail
  refine HC1.out.mono ?_
  rintro e w1 ⟨hb, A1, c1, ts, rfl, hl, hd⟩
  have HB1 := hid hb
  have Lts1 := hid hl
  clear hl
  clear hb HC1
  have HSM := hid (hd.small (by decide) (by decide))
  clear hd
  have HC2 := hid (implRoundLeast_any A1 c1 ts w1 Lts1.out HSM.out.1 HSM.out.2)
  go_wp2_with fail
  refine HC2.out.mono ?_
  rintro e w2 ⟨hb, out, ok, rfl, hout⟩
  have HB2 := hid (HB1.out.trans (hb.mono HB1.out.size))
  clear HB1
  have Lts2 := hid (Lts1.out.step hb)
  clear Lts1
  clear hb HC2
  have HO := hid hout
  clear hout
  have HC3 := hid (specRoundLeast_any A1 c1 w2.heap.size ts w2 Lts2.out (Nat.le_refl _) HSM.out.1 HSM.out.2)
  go_wp2_with fail
  refine HC3.out.mono ?_
  rintro e w3 ⟨hb, out2, ok2, rfl, hout2⟩
  have HB3 := hid (HB2.out.trans (hb.mono HB2.out.size))
  clear HB2
  have Lts3 := hid (Lts2.out.step hb)
  clear Lts2
  clear hb HC3
  obtain ⟨rfl, rfl⟩ := HO.out.uniq hout2
  clear hout2
  rcases HO.out with ⟨n, m, hg, hv⟩ | ⟨_, rfl, rfl⟩
  · obtain ⟨x, b, hR, hcase⟩ := facts hg
    rw [hR] at hv
    obtain ⟨rfl, rfl⟩ := Prod.mk.inj hv
    clear hv hR
    rcases hcase with rfl | ⟨o, rfl, ho, rfl, hF⟩
    · skip
      go_wp2_with fail
      go_ret
      exact ⟨rfl, HB3.out⟩
    · skip
      have HG := hid hg
      have HF := hid hF
      clear hg hF
      go_wp2_with fail
      go_loopw [8] (fun (iv : Value) (wr : World) => ∃ c : Nat, c ≤ o + 1 ∧ iv = .int .i64 c ∧ Below w.heap.size w wr ∧ LS wr A1 ts) (fun iv _ => o + 1 - (intOf iv).toNat)
      case atStart => exact ⟨0, by omega, rfl, HB3.out, Lts3.out⟩
      case round =>
        obtain ⟨c, hc, rfl, hbr, hlr⟩ := hrel
        have HBR := hid hbr
        have HLR := hid hlr
        clear hbr hlr
        by_cases hlt : c ≤ o
        · obtain ⟨B, f1, f2, f3⟩ := HF.out c hlt
          have F1 := hid f1
          have hci : (c : Int) ≤ (o : Int) := by omega
          have hcase : (c < o ∧ (List.range 4).any B = false) ∨ (c = o ∧ (List.range 4).any B = true) := by
            rcases Nat.lt_or_ge c o with h | h
            · exact .inl ⟨h, f2 h⟩
            · exact .inr ⟨by omega, f3 (by omega)⟩
          have HCASE := hid hcase
          clear f1 f2 f3 hcase
          go_wp2_with fail
          go_loopw [9, 10] (fun (sv dv : Value) (wq : World) => ∃ d : Nat, d ≤ 4 ∧ dv = .int .i64 d ∧ sv = .bool ((List.range d).any B) ∧ Below w.heap.size w wq ∧ LS wq A1 ts) (fun _ dv _ => 4 - (intOf dv).toNat)
          case atStart => exact ⟨0, by omega, rfl, rfl, HBR.out, HLR.out⟩
          case round =>
            obtain ⟨d, hd, rfl, rfl, hbq, hlq⟩ := hrel
            have HBQ := hid hbq
            have HLQ := hid hlq
            clear hbq hlq
            by_cases hdt : d < 4
            · have F2 := hid (F1.out d hdt)
              have hdi : (d : Int) < 4 := by omega
              have HAN := hid (any_upto B d)
              generalize B d = b at *
              generalize (List.range d).any B = s at *
              go_wp2_with fail
              refine (nRoundCells HLQ.out HG.out F2.out).mono ?_
              rintro e9 w9 ⟨hb, A9, c9, K9, rfl⟩
              have HB9 := hid (HBQ.out.trans (hb.mono HBQ.out.size))
              have HL9 := hid (HLQ.out.step hb)
              clear hb
              cases s with
              | true =>
                go_wp2_with fail
                go_roundw
                case rel => exact ⟨d + 1, by omega, by go_num, by rw [HAN.out] <;> first | rfl | (cases b <;> rfl), HB9.out, HL9.out⟩
                case measure => simp [intOf]; omega
              | false =>
                go_wp2_with fail
                go_roundw
                case rel => exact ⟨d + 1, by omega, by go_num, by rw [HAN.out] <;> first | rfl | (cases b <;> rfl), HB9.out, HL9.out⟩
                case measure => simp [intOf]; omega
            · obtain rfl : d = 4 := by omega
              rcases HCASE.out with ⟨h1, h2⟩ | ⟨h1, h2⟩
              · rw [h2]
                have hci2 : ((c : Int) == (o : Int)) = false := by rw [beq_eq_false_iff_ne]; omega
                have hci3 : ¬ (c : Int) = (o : Int) := by omega
                clear h1 h2
                go_wp2_with fail
                go_roundw
                case rel => exact ⟨c + 1, by omega, by go_num, HBQ.out, HLQ.out⟩
                case measure => first | (simp [intOf]; done) | (simp [intOf]; omega)
              · rw [h2]
                subst h1
                clear h2
                go_wp2_with fail
                go_roundw
                case rel => exact ⟨c + 1, by omega, by go_num, HBQ.out, HLQ.out⟩
                case measure => first | (simp [intOf]; done) | (simp [intOf]; omega)
        · have hci : ¬ (c : Int) ≤ (o : Int) := by omega
          go_wp2_with fail
          go_ret
          exact ⟨rfl, HBR.out⟩
  · skip
    go_wp2_with fail
    go_ret
    exact ⟨rfl, HB3.out⟩

set_option maxRecDepth 100000 in
theorem lifted (os : Os) (started : os.Started) (H : Type) (enc : TypeId × Value → H) :
    ReturnsInHanded {} Try.checked os 9 .any (Rows.fnRoundLeastSpec.pre6 enc Try.prog Try.f9 Rows.fnRoundLeastRow.domain false) (Rows.fnRoundLeastSpec.post enc Try.prog Try.f9 false true false false) := by
  refine returnsInHanded_of_change (C := Try.checked) Try.own started (by kernel_rfl) Try.func9
    (ChangeSpec.witness6 (enc := enc) (C := Try.checked) false ⟨#[], #[.slice none 0 0], []⟩ 8 (by kernel_rfl) (by kernel_rfl) (by kernel_rfl) (by kernel_rfl)) ?_
  intro W base args ds gs before hval0 hW hcnd _
  have hval : ∀ (j : Nat) t v, Try.f9.params[j]? = some t → args[j]? = some v → Value.okWide Try.prog W .any base t v := hval0
  have hW' := hW
  obtain ⟨p, q, hA0, hV, rfl, hfz, hnd⟩ := hW
  have hA : DataW.TrodAll enc Try.prog W 0 (fun _ => true) true Try.f9.params.toList args.toList ds p := hA0
  rw [Try.params9] at hA hval
  obtain ⟨v0, vs0, d0, ds0, p0, q0, hargs, rfl, rfl, h0, r0⟩ := trodAll_cons hA
  obtain ⟨rfl, rfl, rfl⟩ := trodAll_nil r0
  obtain rfl : args = #[v0] := by cases args; simp_all
  obtain ⟨rfl, rfl⟩ := trodVars_none hV
  have k0 := h0
  have lt0 : ∀ x ∈ p0, x.block < W.heap.size := by obtain ⟨m, hm⟩ := k0; exact DataW.trod_lt m _ _ _ hm
  have c0 := cameB_of (hval 0 22 v0 rfl rfl) h0
  clear hA0 hval0
  refine (walk v0 W c0).mono fun e W' ⟨he, bel⟩ => ?_
  subst he
  exact ⟨_, rfl, _, _, _, [], _, [], hW', trodAll_mk1 (shut_bool Try.underlying4 _), (trodAll_cons_mk (Below.trod Try.laidOut (by kernel_rfl) (of_decide_eq_true (by kernel_rfl)) k0 bel lt0) trodAll_mk0), rfl, bel.frame _, fun h => by cases h⟩

theorem closed : joinedFacts Try.pinned.checked.prog 9 Try.f9 Rows.fnRoundLeastSpec Rows.fnRoundLeastRow = true := by
  unfold joinedFacts
  exact and8 (by as_aux_lemma => kernel_rfl) head_enter head_lifts head_make (by as_aux_lemma => kernel_rfl) (by as_aux_lemma => kernel_rfl) (by as_aux_lemma => kernel_rfl) (by as_aux_lemma => kernel_rfl)

theorem proved : Rows.FnRoundLeastSaid :=
  OpenClaim.holds_of_wide 9 Try.f9 rfl rfl rfl rfl rfl rfl rfl ⟨rfl, rfl, rfl, rfl, rfl⟩ rfl rfl rfl rfl rfl (by kernel_rfl) Try.func9 closed
    (of_decide_eq_true (by kernel_rfl)) (by unfold Func.isWrapper; first | (rw [if_pos (by decide +kernel)]; kernel_rfl) | (rw [if_neg (by decide +kernel)]; exact ⟨rfl, rfl⟩))
    (fun os started H enc _ => lifted os started H enc)
#print axioms proved

end Go.Proofs.Ytgildagmliadeaa.lawFnRoundLeast
