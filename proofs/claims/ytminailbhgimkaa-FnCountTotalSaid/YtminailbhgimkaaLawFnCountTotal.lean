/- For every code, sixteen times the rounds of all full grids are as many at least as full grids and inner corners multiplied, and there are none just for one row or one column; the program's and the specification's answers are the same: the law FnCountTotal returns true, and its argument reads as it did. No condition. -/
import Derived.Test.YtminailbhgimkaaPKE
import Derived.Test.YtminailbhgimkaaPKD
import Derived.Test.YtminailbhgimkaaCountS
import Derived.Test.YtminailbhgimkaaCountP
import Derived.Test.YtminailbhgimkaaDrawCounts
import Derived.Test.YtminailbhgimkaaBunM
import Derived.Test.YtminailbhgimkaaColQ
namespace Go.Proofs.Ytminailbhgimkaa.lawFnCountTotal
open Go.ChangeShapes Go.WideShapes Go.ChangeAt Go.RowKit
open Go.ChangeMaps (open_string shut_string)

theorem nPow {k S : Nat} {w : World} (hk : k ≤ 9) (hS : 2 ^ k = S) : Calls Try.prog 20 #[.int .i64 2, .int .i64 (k : Int)] w fun e w' => Below w.heap.size w w' ∧ e = .returned (.int .i64 (S : Int)) :=
  (power_any k w hk).mono fun _ _ ⟨he, hw⟩ => ⟨by rw [hw]; exact Below.refl _ _, by rw [he, hS]⟩
theorem mem_bound {l : List Int} {B : Int} (h : ∀ k, 0 ≤ l.getD k 0 ∧ l.getD k 0 ≤ B) : ∀ x ∈ l, 0 ≤ x ∧ x ≤ B := by
  intro x hx
  obtain ⟨i, hi, rfl⟩ := List.getElem_of_mem hx
  have := h i
  rw [List.getD_eq_getElem?_getD, List.getElem?_eq_getElem hi] at this
  exact this

theorem line_none {n m : Nat} {t : Int → Int → UInt8} (hn : 1 ≤ n) (hm : 1 ≤ m) (h : n = 1 ∨ m = 1) : (leads n m t).length = 0 := by
  have hcol : ∀ (n : Nat) (t : Int → Int → UInt8), 1 ≤ n → (leads n 1 t).length = 0 := fun n t hn => by
    rw [no_lead fun c _ => col_onR hn (wayN_d c)]
    rfl
  rcases h with rfl | rfl
  · have h1 := leads_turn (n := 1) (m := m) (t := t) (t' := fun i k => swapM (t ((1 : Nat) - 1 - k) i)) fun i k h1 h2 h3 h4 => by
      show swapM (t ((1 : Nat) - 1 - ((1 : Nat) - 1 - i)) k) = swapM (t i k)
      congr 2
      omega
    rw [← h1]
    exact hcol m _ hm
  · exact hcol n _ hn
theorem sum_zero {f : Nat → Nat} (h : ∀ x, f x = 0) : ∀ l : List Nat, (l.map f).sum = 0
  | [] => rfl
  | x :: l => by rw [List.map_cons, List.sum_cons, h x, sum_zero h l]
theorem facts {n m : Nat} (h : MostIn (n : Int) (m : Int) n m) : ∃ (T N S X Y : Nat), weigh (countsR n m) = (T : Int) ∧ T ≤ 100000 ∧ (n : Int) * (m : Int) = (N : Int) ∧ N ≤ 9 ∧ 2 ^ N = S ∧ S ≤ 512 ∧ (S : Int) * ((n : Int) - 1) = (X : Int) ∧ X ≤ 5000 ∧ (X : Int) * ((m : Int) - 1) = (Y : Int) ∧ Y ≤ 100000 ∧ Y ≤ 16 * T ∧ (T = 0 ↔ n = 1 ∨ m = 1) ∧ 1 ≤ n ∧ n ≤ 5 ∧ 1 ≤ m ∧ m ≤ 5 := by
  obtain ⟨_, _, h1, h2, h3, h4, h5⟩ := h
  have h512 : 2 ^ (n * m) ≤ 2 ^ 9 := Nat.pow_le_pow_right (by omega) h5
  have e512 : (2 : Nat) ^ 9 = 512 := rfl
  have hw := weigh_cnt (cntF n m) (fun _ => cntF_le h5) (List.range (2 ^ (n * m)))
  have hwb := countsR_weigh h5 _ (Nat.le_refl _)
  have hge := total_ge h1 h2 h3 h4 h5
  obtain ⟨T, hT⟩ : ∃ T, ((List.range (2 ^ (n * m))).map (cntF n m)).sum = T := ⟨_, rfl⟩
  rw [hT] at hw hge
  have hT0 : (n = 1 ∨ m = 1) → T = 0 := fun h => by
    rw [← hT]
    exact sum_zero (fun x => line_none h1 h3 h) _
  have hwe : weighTo (countsR n m) (countsR n m).length = (T : Int) := hw
  rw [hwe] at hwb
  have hT2 : T ≤ 1000000 := by omega
  have hTs : T ≤ 36 * 512 := by
    have key : ∀ l : List Nat, (l.map (cntF n m)).sum ≤ 36 * l.length := by
      intro l
      induction l with
      | nil => exact Nat.le_refl _
      | cons x l ih =>
        rw [List.map_cons, List.sum_cons, List.length_cons]
        have := cntF_le (n := n) (m := m) (x := x) h5
        omega
    have := key (List.range (2 ^ (n * m)))
    rw [hT, List.length_range] at this
    omega
  obtain ⟨S, hS⟩ : ∃ S, 2 ^ (n * m) = S := ⟨_, rfl⟩
  rw [hS] at hge h512
  have hXb : S * (n - 1) ≤ 512 * 4 := Nat.mul_le_mul (by omega) (by omega)
  have hYb : S * (n - 1) * (m - 1) ≤ 512 * 4 * 4 := Nat.mul_le_mul hXb (by omega)
  have hYe : S * ((n - 1) * (m - 1)) = S * (n - 1) * (m - 1) := (Nat.mul_assoc _ _ _).symm
  have hS1 : 1 ≤ S := by rw [← hS]; exact Nat.one_le_two_pow
  refine ⟨T, n * m, S, S * (n - 1), S * (n - 1) * (m - 1), hw, by omega, by rw [Int.natCast_mul], h5, hS, by omega, ?_, by omega, ?_, by omega, by omega, ⟨fun h0 => ?_, hT0⟩, h1, h2, h3, h4⟩
  · rw [Int.natCast_mul, Int.natCast_sub h1]; rfl
  · rw [Int.natCast_mul _ (m - 1), Int.natCast_sub h3]; rfl
  · rcases Nat.lt_or_ge 1 n with hn | hn
    · rcases Nat.lt_or_ge 1 m with hm | hm
      · exfalso
        have : 1 * 1 ≤ S * (n - 1) := Nat.mul_le_mul hS1 (by omega)
        have : 1 * 1 ≤ S * (n - 1) * (m - 1) := Nat.mul_le_mul (by omega) (by omega)
        omega
      · exact .inr (by omega)
    · exact .inl (by omega)

set_option maxRecDepth 100000 in
set_option maxHeartbeats 2000000 in
theorem draw_any (A : Option Addr) (len cap : Nat) (w : World) (h : CodeAt w A len) (hl : len ≤ 1048576) (hc : len ≤ cap) (hc2 : cap ≤ 9223372036854775807) :
    Calls Try.prog 21 #[.slice A len cap] w fun e w' => Below w.heap.size w w' ∧ ∃ (n m : Nat), e = .returned (.tuple #[.int .i64 (n : Int), .int .i64 (m : Int)]) ∧ n ≤ 4 ∧ m ≤ 12 := by
  have HP := hid (l92Counts_any A len cap w h hl hc hc2)
  clear h
  go_enter Try.func21, Try.ntmps21
  go_wp2_with fail
  refine HP.out.mono ?_
  rintro e w1 ⟨hb, n, m, rfl, hn, hm⟩
  have HB := hid hb
  clear hb
  go_wp2_with fail
  refine bodyPost_ret (results_tmp2 rfl _ _ _) rfl ?_
  exact ⟨HB.out, n, m, rfl, hn, hm⟩

set_option maxRecDepth 100000 in
set_option maxHeartbeats 4000000 in
theorem walk (v : Value) (w : World) (hc : CameB w v) :
    Calls Try.prog 4 #[v] w fun e w' => e = .returned (.bool true) ∧ Below w.heap.size w w' := by
  obtain ⟨A, len, cap, rfl, hcode, hlc, hcap⟩ := hc
  have HCD := hid hcode
  clear hcode
  go_enter Try.func4, Try.ntmps4
  by_cases hbig : 1048576 < len
  · have hbi : (1048576 : Int) < (len : Int) := by omega
    go_wp2_with fail
    go_ret
    exact ⟨rfl, Below.refl _ _⟩
  have hbi : ¬ (1048576 : Int) < (len : Int) := by omega
  have HDR := hid (draw_any A len cap w HCD.out (by omega) hlc hcap)
  have HC1 := hid (HDR.out)
  go_wp2_with fail
  refine HC1.out.mono ?_
  rintro e w1 ⟨hb, n, m, rfl, hn4, hm12⟩
  have HB1 := hid hb
  clear hb HC1
  have HC2 := hid (implCountTotal_any n m w1)
  go_wp2_with fail
  refine HC2.out.mono ?_
  rintro e w2 ⟨hb, out, ok, rfl, hout⟩
  have HB2 := hid (HB1.out.trans (hb.mono HB1.out.size))
  clear HB1
  clear hb HC2
  have HO := hid hout
  clear hout
  have HC3 := hid (specCountTotal_any n m w2)
  go_wp2_with fail
  refine HC3.out.mono ?_
  rintro e w3 ⟨hb, out2, ok2, rfl, hout2⟩
  have HB3 := hid (HB2.out.trans (hb.mono HB2.out.size))
  clear HB2
  clear hb HC3
  obtain ⟨rfl, rfl⟩ := HO.out.uniq hout2
  clear hout2
  rcases HO.out with ⟨n2, m2, hp, rfl, rfl⟩ | ⟨_, rfl, rfl⟩
  · obtain rfl : n = n2 := by have := hp.1; omega
    obtain rfl : m = m2 := by have := hp.2.1; omega
    obtain ⟨T, N, S, X, Y, e1, hT, hN, hN9, hS, hS512, hX, hX5, hY, hY1, hYT, h0, hn1, hn5, hm1, hm5⟩ := facts hp
    rw [e1]
    clear e1 hp
    have HS := hid hS
    have H0 := hid h0
    clear hS h0
    go_wp2_with fail
    refine (nPow hN9 HS.out).mono ?_
    rintro e w4 ⟨hb, rfl⟩
    have HB4 := hid (HB3.out.trans (hb.mono HB3.out.size))
    clear HB3
    clear hb
    have hge : (Y : Int) ≤ 16 * (T : Int) := by omega
    by_cases hz : T = 0
    · skip
      by_cases h1 : n = 1
      · skip
        have dT : decide ((T : Int) = 0) = true := by simp; omega
        have qT : (((T : Nat) : Int) == 0) = true := by simp; omega
        have dn : decide ((n : Int) = 1) = true := by simp; omega
        have qn : (((n : Nat) : Int) == 1) = true := by simp; omega
        clear hz h1
        go_wp2_with fail
        go_ret
        exact ⟨rfl, HB4.out⟩
      · have h2 : m = 1 := (H0.out.1 hz).resolve_left h1
        have dT : decide ((T : Int) = 0) = true := by simp; omega
        have qT : (((T : Nat) : Int) == 0) = true := by simp; omega
        have dn : decide ((n : Int) = 1) = false := by simp; omega
        have qn : (((n : Nat) : Int) == 1) = false := by simp; omega
        have dm : decide ((m : Int) = 1) = true := by simp; omega
        have qm : (((m : Nat) : Int) == 1) = true := by simp; omega
        clear hz h1 h2
        go_wp2_with fail
        go_ret
        exact ⟨rfl, HB4.out⟩
    · have h1 : ¬ n = 1 := fun e => hz (H0.out.2 (.inl e))
      have h2 : ¬ m = 1 := fun e => hz (H0.out.2 (.inr e))
      have dT : decide ((T : Int) = 0) = false := by simp; omega
      have qT : (((T : Nat) : Int) == 0) = false := by simp; omega
      have dn : decide ((n : Int) = 1) = false := by simp; omega
      have qn : (((n : Nat) : Int) == 1) = false := by simp; omega
      have dm : decide ((m : Int) = 1) = false := by simp; omega
      have qm : (((m : Nat) : Int) == 1) = false := by simp; omega
      clear hz h1 h2
      go_wp2_with fail
      go_ret
      exact ⟨rfl, HB4.out⟩
  · skip
    go_wp2_with fail
    go_ret
    exact ⟨rfl, HB3.out⟩

set_option maxRecDepth 100000 in
theorem lifted (os : Os) (started : os.Started) (H : Type) (enc : TypeId × Value → H) :
    ReturnsInHanded {} Try.checked os 4 .any (Rows.fnCountTotalSpec.pre6 enc Try.prog Try.f4 Rows.fnCountTotalRow.domain false) (Rows.fnCountTotalSpec.post enc Try.prog Try.f4 false true false false) := by
  refine returnsInHanded_of_change (C := Try.checked) Try.own started (by kernel_rfl) Try.func4
    (ChangeSpec.witness6 (enc := enc) (C := Try.checked) false ⟨#[], #[.slice none 0 0], []⟩ 8 (by kernel_rfl) (by kernel_rfl) (by kernel_rfl) (by kernel_rfl)) ?_
  intro W base args ds gs before hval0 hW hcnd _
  have hval : ∀ (j : Nat) t v, Try.f4.params[j]? = some t → args[j]? = some v → Value.okWide Try.prog W .any base t v := hval0
  have hW' := hW
  obtain ⟨p, q, hA0, hV, rfl, hfz, hnd⟩ := hW
  have hA : DataW.TrodAll enc Try.prog W 0 (fun _ => true) true Try.f4.params.toList args.toList ds p := hA0
  rw [Try.params4] at hA hval
  obtain ⟨v0, vs0, d0, ds0, p0, q0, hargs, rfl, rfl, h0, r0⟩ := trodAll_cons hA
  obtain ⟨rfl, rfl, rfl⟩ := trodAll_nil r0
  obtain rfl : args = #[v0] := by cases args; simp_all
  obtain ⟨rfl, rfl⟩ := trodVars_none hV
  have k0 := h0
  have lt0 : ∀ x ∈ p0, x.block < W.heap.size := by obtain ⟨m, hm⟩ := k0; exact DataW.trod_lt m _ _ _ hm
  have c0 := cameB_of (hval 0 22 v0 rfl rfl) h0
  clear hA0 hval0
  refine (walk v0 W c0).mono fun e W' ⟨he, bel⟩ => ?_
  subst he
  exact ⟨_, rfl, _, _, _, [], _, [], hW', trodAll_mk1 (shut_bool Try.underlying4 _), (trodAll_cons_mk (Below.trod Try.laidOut (by kernel_rfl) (of_decide_eq_true (by kernel_rfl)) k0 bel lt0) trodAll_mk0), rfl, bel.frame _, fun h => by cases h⟩

theorem closed : joinedFacts Try.pinned.checked.prog 4 Try.f4 Rows.fnCountTotalSpec Rows.fnCountTotalRow = true := by
  unfold joinedFacts
  exact and8 (by as_aux_lemma => kernel_rfl) head_enter head_lifts head_make (by as_aux_lemma => kernel_rfl) (by as_aux_lemma => kernel_rfl) (by as_aux_lemma => kernel_rfl) (by as_aux_lemma => kernel_rfl)

theorem proved : Rows.FnCountTotalSaid :=
  OpenClaim.holds_of_wide 4 Try.f4 rfl rfl rfl rfl rfl rfl rfl ⟨rfl, rfl, rfl, rfl, rfl⟩ rfl rfl rfl rfl rfl (by kernel_rfl) Try.func4 closed
    (of_decide_eq_true (by kernel_rfl)) (by unfold Func.isWrapper; first | (rw [if_pos (by decide +kernel)]; kernel_rfl) | (rw [if_neg (by decide +kernel)]; exact ⟨rfl, rfl⟩))
    (fun os started H enc _ => lifted os started H enc)
#print axioms proved

end Go.Proofs.Ytminailbhgimkaa.lawFnCountTotal
