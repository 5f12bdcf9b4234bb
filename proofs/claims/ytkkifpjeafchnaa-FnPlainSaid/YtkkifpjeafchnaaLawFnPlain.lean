/- For every code, the number of plain pairings of the drawn number of pairs is the sum over the partner of the first port, and the program's and the specification's answers are the same: the law FnPlain returns true, and its argument reads as it did. No condition. -/
import Derived.Test.YtkkifpjeafchnaaBunA
import Derived.Test.YtkkifpjeafchnaaHead
import Derived.Test.YtkkifpjeafchnaaMakeP
import Derived.Test.YtkkifpjeafchnaaCode
namespace Go.Proofs.Ytkkifpjeafchnaa.lawFnPlain
open Go.ChangeShapes Go.WideShapes Go.ChangeAt Go.RowKit
open Go.ChangeMaps (open_string shut_string)

/-- The sum over the first partners so far. -/
def convN (k : Nat) : Nat → Nat
  | 0 => 0
  | i + 1 => convN k i + catN i * catN (k - i - 1)
theorem conv_all {k : Nat} (h1 : 1 ≤ k) (h : k ≤ 8) : convN k k = catN k := by
  have : k = 1 ∨ k = 2 ∨ k = 3 ∨ k = 4 ∨ k = 5 ∨ k = 6 ∨ k = 7 ∨ k = 8 := by omega
  rcases this with rfl | rfl | rfl | rfl | rfl | rfl | rfl | rfl <;> decide
theorem conv_mono (k : Nat) : ∀ d i, convN k i ≤ convN k (i + d)
  | 0, _ => Nat.le_refl _
  | d + 1, i => by
    have := conv_mono k d i
    rw [← Nat.add_assoc, convN]
    omega
theorem conv_le {k i : Nat} (h1 : 1 ≤ k) (h : k ≤ 8) (hi : i ≤ k) : convN k i ≤ 1430 := by
  have h2 := conv_mono k (k - i) i
  rw [show i + (k - i) = k by omega, conv_all h1 h] at h2
  have := catN_le h
  omega

set_option maxRecDepth 100000 in
set_option maxHeartbeats 1000000 in
theorem draw_any (A : Option Addr) (len cap : Nat) (w : World) (h : CodeAt w A len) (hl : len ≤ 1048576) (hc : len ≤ cap) (hc2 : cap ≤ 9223372036854775807) :
    Calls Try.prog 32 #[.slice A len cap] w fun e w' => (∃ x : Int, -1 ≤ x ∧ x ≤ 9 ∧ e = .returned (.int .i64 x)) ∧ Below w.heap.size w w' := by
  have HOP := hid (l6Open_any A len cap w (by omega) hc hc2)
  have HRD := hid (fun len' (h1 : len' ≤ len) (h2 : len' ≤ 2000) => open_rd (cap := cap) h h1 h2)
  have HP1 := hid (fun W (hr : Rd W w.heap.size 0) => pick_rd w.heap.size 0 10 W hr (by omega) (by omega) (by omega))
  have HP2 := hid (fun W (hr : Rd W w.heap.size 1) => pick_rd w.heap.size 1 24 W hr (by omega) (by omega) (by omega))
  have HQ := hid (fun (v : Nat) (hv : v < 24) => show ∃ q : Nat, q ≤ 1 ∧ (v : Int) / 23 = (q : Int) from ⟨v / 23, by omega, by omega⟩)
  clear h
  go_enter Try.func32, Try.ntmps32
  go_wp2_with fail
  refine HOP.out.mono ?_
  rintro e w1 ⟨rfl, len', h1, h2, _, rfl⟩
  have HS := hid (HP1.out _ (HRD.out len' h1 h2))
  have HB := hid ((Below.refl _ w).alloc (Nat.le_refl _) (.cells #[.slice A len' cap, .int .i64 0] 115))
  go_wp2_with fail
  refine HS.out.mono ?_
  rintro e w2 ⟨⟨v1, hv1, rfl⟩, hrd, hgw, hsz⟩
  have HB2 := hid (HB.out.grown hgw (by simp) (fun k e => by cases e; exact Nat.le_refl _))
  have HS2 := hid (HP2.out _ hrd)
  clear hrd hgw hsz HS
  go_wp2_with fail
  refine HS2.out.mono ?_
  rintro e w3 ⟨⟨v2, hv2, rfl⟩, hrd, hgw, hsz⟩
  have HB3 := hid (HB2.out.grown hgw HB2.out.size (fun k e => by cases e; exact Nat.le_refl _))
  obtain ⟨q2, hq2, hd2⟩ := HQ.out v2 hv2
  clear hrd hgw hsz
  go_wp2_with fail
  go_ret
  exact ⟨⟨_, by omega, by omega, rfl⟩, HB3.out⟩

set_option maxRecDepth 100000 in
set_option maxHeartbeats 2000000 in
theorem walk (v : Value) (w : World) (hc : CameB w v) :
    Calls Try.prog 9 #[v] w fun e w' => e = .returned (.bool true) ∧ Below w.heap.size w w' := by
  obtain ⟨A, len, cap, rfl, hcode, hlc, hcap⟩ := hc
  have HCD := hid hcode
  clear hcode
  go_enter Try.func9, Try.ntmps9
  by_cases hbig : 1048576 < len
  · have hbi : (1048576 : Int) < (len : Int) := by omega
    go_wp2_with fail
    go_ret
    exact ⟨rfl, Below.refl _ _⟩
  have hbi : ¬ (1048576 : Int) < (len : Int) := by omega
  have HDR := hid (draw_any A len cap w HCD.out (by omega) hlc hcap)
  go_wp2_with fail
  refine HDR.out.mono ?_
  rintro e w1 ⟨⟨x, hx1, hx9, rfl⟩, hb1⟩
  have HB1 := hid hb1
  clear hb1 HDR
  go_wp2_with fail
  refine (implMakePlain_any x w1).mono ?_
  rintro e w2 ⟨rfl, y, ok, rfl, hout⟩
  have HO := hid hout
  clear hout
  go_wp2_with fail
  refine (specMakePlain_any x w1).mono ?_
  rintro e w2 ⟨rfl, y', ok', rfl, hout⟩
  obtain ⟨rfl, rfl⟩ := HO.out.uniq hout
  clear hout
  rcases HO.out with ⟨k, rfl, hk8, rfl, rfl⟩ | ⟨_, rfl, rfl⟩
  · by_cases hk0 : k = 0
    · subst hk0
      have e1 : ((catN 0 : Nat) : Int) = 1 := rfl
      rw [e1]
      go_wp2_with fail
      go_ret
      exact ⟨rfl, HB1.out⟩
    · have hk0i : ((k : Int) == 0) = false := by simp; omega
      have hk1 : 1 ≤ k := by omega
      have HCA := hid (conv_all hk1 hk8)
      obtain ⟨C, hC⟩ : ∃ C, catN k = C := ⟨_, rfl⟩
      rw [hC] at HCA ⊢
      clear hC
      go_wp2_with fail
      go_loopw [8, 9] (fun (sv iv : Value) (wr : World) => ∃ i : Nat, i ≤ k ∧ iv = .int .i64 i ∧ sv = .int .i64 ((convN k i : Nat) : Int) ∧ w1 = wr) (fun _ i _ => k - (intOf i).toNat)
      case atStart => exact ⟨0, by omega, rfl, rfl, rfl⟩
      case round =>
        obtain ⟨i, hi, rfl, rfl, rfl⟩ := hrel
        have hcl := conv_le hk1 hk8 hi
        obtain ⟨S, hS⟩ : ∃ S, convN k i = S := ⟨_, rfl⟩
        rw [hS] at hcl ⊢
        have hSi : (S : Int) ≤ 1430 := by omega
        by_cases hlt : i < k
        · have hii : (i : Int) < (k : Int) := by omega
          go_wp2_with fail
          refine (implMakePlain_any (i : Int) w1).mono ?_
          rintro e w2 ⟨rfl, a, ok, rfl, hout⟩
          obtain ⟨rfl, rfl⟩ : a = ((catN i : Nat) : Int) ∧ ok = true := by
            rcases hout with ⟨j, e, _, rfl, rfl⟩ | ⟨h, _⟩
            · obtain rfl : i = j := by omega
              exact ⟨rfl, rfl⟩
            · omega
          clear hout
          go_wp2_with fail
          refine (implMakePlain_any ((k : Int) - (i : Int) - 1) w1).mono ?_
          rintro e w2 ⟨rfl, b, ok, rfl, hout⟩
          obtain ⟨rfl, rfl⟩ : b = ((catN (k - i - 1) : Nat) : Int) ∧ ok = true := by
            rcases hout with ⟨j, e, _, rfl, rfl⟩ | ⟨h, _⟩
            · obtain rfl : k - i - 1 = j := by omega
              exact ⟨rfl, rfl⟩
            · omega
          clear hout
          have h1 := catN_le (i := i) (by omega)
          have h2 := catN_le (i := k - i - 1) (by omega)
          have HST := hid (show convN k (i + 1) = S + catN i * catN (k - i - 1) by rw [convN, hS])
          obtain ⟨P, hP⟩ : ∃ P, catN i = P := ⟨_, rfl⟩
          obtain ⟨Q, hQ⟩ : ∃ Q, catN (k - i - 1) = Q := ⟨_, rfl⟩
          rw [hP] at h1 HST ⊢
          rw [hQ] at h2 HST ⊢
          obtain ⟨R, hR⟩ : ∃ R, P * Q = R := ⟨_, rfl⟩
          have hRi : (P : Int) * (Q : Int) = (R : Int) := by rw [← Int.natCast_mul, hR]
          have hRl : R ≤ 1430 * 1430 := by rw [← hR]; exact Nat.mul_le_mul h1 h2
          have hRli : (R : Int) ≤ 2044900 := by omega
          rw [hR] at HST
          clear hP hQ hR hS
          go_wp2_with fail
          go_roundw
          case rel => exact ⟨i + 1, by omega, by go_num, by rw [HST.out]; go_num, trivial⟩
          case measure => simp [intOf]; omega
        · obtain rfl : i = k := by omega
          rw [HCA.out] at hS
          subst hS
          go_wp2_with fail
          go_ret
          exact ⟨rfl, HB1.out⟩
  · go_wp2_with fail
    go_ret
    exact ⟨rfl, HB1.out⟩

set_option maxRecDepth 100000 in
theorem lifted (os : Os) (started : os.Started) (H : Type) (enc : TypeId × Value → H) :
    ReturnsInHanded {} Try.checked os 9 .any (Rows.fnPlainSpec.pre6 enc Try.prog Try.f9 Rows.fnPlainRow.domain false) (Rows.fnPlainSpec.post enc Try.prog Try.f9 false true false false) := by
  refine returnsInHanded_of_change (C := Try.checked) Try.own started (by kernel_rfl) Try.func9
    (ChangeSpec.witness6 (enc := enc) (C := Try.checked) false ⟨#[], #[.slice none 0 0], []⟩ 8 (by kernel_rfl) (by kernel_rfl) (by kernel_rfl) (by kernel_rfl)) ?_
  intro W base args ds gs before hval0 hW hcnd _
  have hval : ∀ (j : Nat) t v, Try.f9.params[j]? = some t → args[j]? = some v → Value.okWide Try.prog W .any base t v := hval0
  have hW' := hW
  obtain ⟨p, q, hA0, hV, rfl, hfz, hnd⟩ := hW
  have hA : DataW.TrodAll enc Try.prog W 0 (fun _ => true) true Try.f9.params.toList args.toList ds p := hA0
  rw [Try.params9] at hA hval
  obtain ⟨v0, vs0, d0, ds0, p0, q0, hargs, rfl, rfl, h0, r0⟩ := trodAll_cons hA
  obtain ⟨rfl, rfl, rfl⟩ := trodAll_nil r0
  obtain rfl : args = #[v0] := by cases args; simp_all
  obtain ⟨rfl, rfl⟩ := trodVars_none hV
  have k0 := h0
  have lt0 : ∀ x ∈ p0, x.block < W.heap.size := by obtain ⟨m, hm⟩ := k0; exact DataW.trod_lt m _ _ _ hm
  have c0 := cameB_of (hval 0 38 v0 rfl rfl) h0
  clear hA0 hval0
  refine (walk v0 W c0).mono fun e W' ⟨he, bel⟩ => ?_
  subst he
  exact ⟨_, rfl, _, _, _, [], _, [], hW', trodAll_mk1 (shut_bool Try.underlying4 _), (trodAll_cons_mk (Below.trod Try.laidOut (by kernel_rfl) (of_decide_eq_true (by kernel_rfl)) k0 bel lt0) trodAll_mk0), rfl, bel.frame _, fun h => by cases h⟩

theorem closed : joinedFacts Try.pinned.checked.prog 9 Try.f9 Rows.fnPlainSpec Rows.fnPlainRow = true := by
  unfold joinedFacts
  exact and8 (by as_aux_lemma => kernel_rfl) head_enter head_lifts head_make (by as_aux_lemma => kernel_rfl) (by as_aux_lemma => kernel_rfl) (by as_aux_lemma => kernel_rfl) (by as_aux_lemma => kernel_rfl)

theorem proved : Rows.FnPlainSaid :=
  OpenClaim.holds_of_wide 9 Try.f9 rfl rfl rfl rfl rfl rfl rfl ⟨rfl, rfl, rfl, rfl, rfl⟩ rfl rfl rfl rfl rfl (by kernel_rfl) Try.func9 closed
    (of_decide_eq_true (by kernel_rfl)) (by unfold Func.isWrapper; first | (rw [if_pos (by decide +kernel)]; kernel_rfl) | (rw [if_neg (by decide +kernel)]; exact ⟨rfl, rfl⟩))
    (fun os started H enc _ => lifted os started H enc)
#print axioms proved

end Go.Proofs.Ytkkifpjeafchnaa.lawFnPlain
