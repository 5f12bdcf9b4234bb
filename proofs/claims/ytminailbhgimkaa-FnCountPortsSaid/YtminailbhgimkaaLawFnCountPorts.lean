/- For every code, the full grids in which each port is the partner of the port 0 are as many as told; they add up to all full grids, and ports with even numbers have none; the program's and the specification's answers are the same: the law FnCountPorts returns true, and its argument reads as it did. No condition. -/
import Derived.Test.YtminailbhgimkaaPKE
import Derived.Test.YtminailbhgimkaaPKD
import Derived.Test.YtminailbhgimkaaCountPS
import Derived.Test.YtminailbhgimkaaCountP
import Derived.Test.YtminailbhgimkaaDrawCounts
import Derived.Test.YtminailbhgimkaaBunM
namespace Go.Proofs.Ytminailbhgimkaa.lawFnCountPorts
open Go.ChangeShapes Go.WideShapes Go.ChangeAt Go.RowKit
open Go.ChangeMaps (open_string shut_string)

theorem nPow {k S : Nat} {w : World} (hk : k ≤ 9) (hS : 2 ^ k = S) : Calls Try.prog 20 #[.int .i64 2, .int .i64 (k : Int)] w fun e w' => Below w.heap.size w w' ∧ e = .returned (.int .i64 (S : Int)) :=
  (power_any k w hk).mono fun _ _ ⟨he, hw⟩ => ⟨by rw [hw]; exact Below.refl _ _, by rw [he, hS]⟩
theorem mem_bound {l : List Int} {B : Int} (h : ∀ k, 0 ≤ l.getD k 0 ∧ l.getD k 0 ≤ B) : ∀ x ∈ l, 0 ≤ x ∧ x ≤ B := by
  intro x hx
  obtain ⟨i, hi, rfl⟩ := List.getElem_of_mem hx
  have := h i
  rw [List.getD_eq_getElem?_getD, List.getElem?_eq_getElem hi] at this
  exact this

theorem portsL_sum {P : Nat} {f : Nat → Nat} (pre : List Nat) : (portsL P f pre).sum = pre.length := by
  have key : ∀ (pre : List Nat) (l : List Int), (pre.foldl (fun l x => addAt l (f x) 1) l).sum = l.sum + pre.length := by
    intro pre
    induction pre with
    | nil => intro l; simp
    | cons x pre ih =>
      intro l
      rw [List.foldl_cons, ih, addAt_sum, List.length_cons]
      omega
  have := key pre (List.replicate P 0)
  rw [sum_zeros, Int.zero_add] at this
  exact this
theorem facts {n m : Nat} (h : MostIn (n : Int) (m : Int) n m) : ∃ (l : List Int) (K N S : Nat), portsR n m = l ∧ l.length = 2 * K ∧ 1 ≤ K ∧ K ≤ 10 ∧ (∀ k, k < K → l[2 * k]? = some 0) ∧ (n : Int) * (m : Int) = (N : Int) ∧ N ≤ 9 ∧ 2 ^ N = S ∧ S ≤ 512 ∧ l.sum = (S : Int) ∧ ∀ x ∈ l, -1000 ≤ x ∧ x ≤ 1000 := by
  obtain ⟨_, _, h1, h2, h3, h4, h5⟩ := h
  have hlen := portsR_len (n := n) (m := m) h1 h3
  have h512 : 2 ^ (n * m) ≤ 2 ^ 9 := Nat.pow_le_pow_right (by omega) h5
  have e512 : (2 : Nat) ^ 9 = 512 := rfl
  have hbd : ∀ k, 0 ≤ (portsR n m).getD k 0 ∧ (portsR n m).getD k 0 ≤ 1000 := fun k => by
    have := portsL_bound (2 * (n + m)) (endF n m) k (List.range (2 ^ (n * m)))
    rw [List.length_range] at this
    unfold portsR
    omega
  refine ⟨_, n + m, n * m, _, rfl, hlen, by omega, by omega, fun k hk => ?_, by rw [Int.natCast_mul], h5, rfl, by omega, ?_, fun x hx => ?_⟩
  · have hk2 : 2 * k < (portsR n m).length := by omega
    rw [List.getElem?_eq_getElem hk2]
    have hz : (portsR n m).getD (2 * k) 0 = 0 := by
      unfold portsR
      rw [portsL_getD, List.countP_eq_zero.2]
      · rfl
      · intro x _
        have := odd_end (n := n) (m := m) (t := lett m (fullL (n * m) x)) h1 h3 fun y hy => by
          obtain ⟨k1, k2, k3, k4⟩ := hy
          rw [full_lett (by omega) k1 k2 k3 k4]
          unfold mirV
          split
          · exact .inl rfl
          · exact .inr rfl
        unfold endF
        simp only [beq_iff_eq]
        omega
    rw [List.getD_eq_getElem?_getD, List.getElem?_eq_getElem hk2] at hz
    exact congrArg some hz
  · unfold portsR
    rw [portsL_sum, List.length_range]
  · have := mem_bound hbd x hx
    omega

set_option maxRecDepth 100000 in
set_option maxHeartbeats 2000000 in
theorem draw_any (A : Option Addr) (len cap : Nat) (w : World) (h : CodeAt w A len) (hl : len ≤ 1048576) (hc : len ≤ cap) (hc2 : cap ≤ 9223372036854775807) :
    Calls Try.prog 24 #[.slice A len cap] w fun e w' => Below w.heap.size w w' ∧ ∃ (n m : Nat), e = .returned (.tuple #[.int .i64 (n : Int), .int .i64 (m : Int)]) ∧ n ≤ 4 ∧ m ≤ 12 := by
  have HP := hid (l92Counts_any A len cap w h hl hc hc2)
  clear h
  go_enter Try.func24, Try.ntmps24
  go_wp2_with fail
  refine HP.out.mono ?_
  rintro e w1 ⟨hb, n, m, rfl, hn, hm⟩
  have HB := hid hb
  clear hb
  go_wp2_with fail
  refine bodyPost_ret (results_tmp2 rfl _ _ _) rfl ?_
  exact ⟨HB.out, n, m, rfl, hn, hm⟩

set_option maxRecDepth 100000 in
set_option maxHeartbeats 4000000 in
theorem walk (v : Value) (w : World) (hc : CameB w v) :
    Calls Try.prog 5 #[v] w fun e w' => e = .returned (.bool true) ∧ Below w.heap.size w w' := by
  obtain ⟨A, len, cap, rfl, hcode, hlc, hcap⟩ := hc
  have HCD := hid hcode
  clear hcode
  go_enter Try.func5, Try.ntmps5
  by_cases hbig : 1048576 < len
  · have hbi : (1048576 : Int) < (len : Int) := by omega
    go_wp2_with fail
    go_ret
    exact ⟨rfl, Below.refl _ _⟩
  have hbi : ¬ (1048576 : Int) < (len : Int) := by omega
  have HDR := hid (draw_any A len cap w HCD.out (by omega) hlc hcap)
  have HC1 := hid (HDR.out)
  go_wp2_with fail
  refine HC1.out.mono ?_
  rintro e w1 ⟨hb, n, m, rfl, hn4, hm12⟩
  have HB1 := hid hb
  clear hb HC1
  have HC2 := hid ((implCountPorts_any n m w1).mono fun _ _ h => lend_own h)
  go_wp2_with fail
  refine HC2.out.mono ?_
  rintro e w2 ⟨hb, A2, c2, out, ok, rfl, hout, hl⟩
  have HB2 := hid (HB1.out.trans (hb.mono HB1.out.size))
  clear HB1
  have Lout2 := hid hl
  clear hl
  clear hb HC2
  have HO := hid hout
  clear hout
  have HC3 := hid ((specCountPorts_any n m w2).mono fun _ _ h => lend_spec h)
  go_wp2_with fail
  refine HC3.out.mono ?_
  rintro e w3 ⟨hb, A3, c3, out2, ok2, rfl, hout2, hl⟩
  have HB3 := hid (HB2.out.trans (hb.mono HB2.out.size))
  clear HB2
  have Lout3 := hid (Lout2.out.step hb)
  clear Lout2
  have Lwant3 := hid hl
  clear hl
  clear hb HC3
  obtain ⟨rfl, rfl⟩ := HO.out.uniq hout2
  clear hout2
  rcases HO.out with ⟨n2, m2, hp, rfl, rfl⟩ | ⟨_, rfl, rfl⟩
  · obtain rfl : n = n2 := by have := hp.1; omega
    obtain rfl : m = m2 := by have := hp.2.1; omega
    obtain ⟨l, K, N, S, e1, hlen, hK1, hK10, hev, hN, hN9, hS, hS512, hsum, hmem⟩ := facts hp
    rw [e1] at Lout3 Lwant3 ⊢
    have HLEN := hid hlen
    clear e1 hp hlen
    have HEV := hid hev
    have HS := hid hS
    have HSUM := hid hsum
    have HMEM := hid hmem
    clear hev hS hsum hmem
    go_wp2_with fail
    refine (nSameI (Lout3.out) (Lwant3.out) (by have := HLEN.out; omega)).mono ?_
    rintro e w4 ⟨hb, rfl⟩
    have HB4 := hid (HB3.out.trans (hb.mono HB3.out.size))
    clear HB3
    have Lout4 := hid (Lout3.out.step hb)
    clear Lout3
    have Lwant4 := hid (Lwant3.out.step hb)
    clear Lwant3
    clear hb
    clear Lwant4
    obtain ⟨bo, oo, rfl⟩ := (Lout4.out).addr (by rw [HLEN.out]; omega)
    have hli : ((l.length : Nat) : Int) = 2 * (K : Int) := by rw [HLEN.out]; omega
    go_wp2_with fail
    go_loopw [9] (fun (iv : Value) (wr : World) => ∃ k : Nat, k ≤ K ∧ iv = .int .i64 ((2 * k : Nat) : Int) ∧ wr = w4) (fun i _ => 2 * K - (intOf i).toNat)
    case atStart => exact ⟨0, by omega, rfl, rfl⟩
    case round =>
      obtain ⟨k, hk, rfl, rfl⟩ := hrel
      by_cases hlt : k < K
      · skip
        have hc := Lout4.out.cellk (HEV.out k hlt)
        have hki : ((2 * k : Nat) : Int) < 2 * (K : Int) := by omega
        have hkl : 2 * k < l.length := by rw [HLEN.out]; omega
        have hk0 : (0 : Int) ≤ ((2 * k : Nat) : Int) := by omega
        obtain ⟨k2, hk2⟩ : ∃ k2, 2 * k = k2 := ⟨_, rfl⟩
        rw [hk2] at hc hki hkl hk0 ⊢
        have HK2 := hid hk2
        clear hk2
        go_wp2_with fail
        go_roundw
        case rel => exact ⟨k + 1, by omega, by have := HK2.out; go_num, by first | rfl | trivial⟩
        case measure => have := HK2.out; simp [intOf]; omega
      · obtain rfl : k = K := by omega
        have hki : ¬ ((2 * k : Nat) : Int) < 2 * (k : Int) := by omega
        go_wp2_with fail
        refine (nTotal (Lout4.out) (by have := HLEN.out; omega) HMEM.out HSUM.out).mono ?_
        rintro e w5 ⟨hb, rfl⟩
        have HB5 := hid (HB4.out.trans (hb.mono HB4.out.size))
        clear HB4
        have Lout5 := hid (Lout4.out.step hb)
        clear Lout4
        clear hb
        go_wp2_with fail
        refine (nPow hN9 HS.out).mono ?_
        rintro e w6 ⟨hb, rfl⟩
        have HB6 := hid (HB5.out.trans (hb.mono HB5.out.size))
        clear HB5
        have Lout6 := hid (Lout5.out.step hb)
        clear Lout5
        clear hb
        go_wp2_with fail
        go_ret
        exact ⟨rfl, HB6.out⟩
  · skip
    go_wp2_with fail
    refine (nSameI (Lout3.out) (Lwant3.out) (by simp)).mono ?_
    rintro e w4 ⟨hb, rfl⟩
    have HB4 := hid (HB3.out.trans (hb.mono HB3.out.size))
    clear HB3
    have Lout4 := hid (Lout3.out.step hb)
    clear Lout3
    have Lwant4 := hid (Lwant3.out.step hb)
    clear Lwant3
    clear hb
    go_wp2_with fail
    refine (nSameI (Lout4.out) (Lwant4.out) (by simp)).mono ?_
    rintro e w5 ⟨hb, rfl⟩
    have HB5 := hid (HB4.out.trans (hb.mono HB4.out.size))
    clear HB4
    have Lout5 := hid (Lout4.out.step hb)
    clear Lout4
    have Lwant5 := hid (Lwant4.out.step hb)
    clear Lwant4
    clear hb
    go_wp2_with fail
    go_ret
    exact ⟨rfl, HB5.out⟩

set_option maxRecDepth 100000 in
theorem lifted (os : Os) (started : os.Started) (H : Type) (enc : TypeId × Value → H) :
    ReturnsInHanded {} Try.checked os 5 .any (Rows.fnCountPortsSpec.pre6 enc Try.prog Try.f5 Rows.fnCountPortsRow.domain false) (Rows.fnCountPortsSpec.post enc Try.prog Try.f5 false true false false) := by
  refine returnsInHanded_of_change (C := Try.checked) Try.own started (by kernel_rfl) Try.func5
    (ChangeSpec.witness6 (enc := enc) (C := Try.checked) false ⟨#[], #[.slice none 0 0], []⟩ 8 (by kernel_rfl) (by kernel_rfl) (by kernel_rfl) (by kernel_rfl)) ?_
  intro W base args ds gs before hval0 hW hcnd _
  have hval : ∀ (j : Nat) t v, Try.f5.params[j]? = some t → args[j]? = some v → Value.okWide Try.prog W .any base t v := hval0
  have hW' := hW
  obtain ⟨p, q, hA0, hV, rfl, hfz, hnd⟩ := hW
  have hA : DataW.TrodAll enc Try.prog W 0 (fun _ => true) true Try.f5.params.toList args.toList ds p := hA0
  rw [Try.params5] at hA hval
  obtain ⟨v0, vs0, d0, ds0, p0, q0, hargs, rfl, rfl, h0, r0⟩ := trodAll_cons hA
  obtain ⟨rfl, rfl, rfl⟩ := trodAll_nil r0
  obtain rfl : args = #[v0] := by cases args; simp_all
  obtain ⟨rfl, rfl⟩ := trodVars_none hV
  have k0 := h0
  have lt0 : ∀ x ∈ p0, x.block < W.heap.size := by obtain ⟨m, hm⟩ := k0; exact DataW.trod_lt m _ _ _ hm
  have c0 := cameB_of (hval 0 22 v0 rfl rfl) h0
  clear hA0 hval0
  refine (walk v0 W c0).mono fun e W' ⟨he, bel⟩ => ?_
  subst he
  exact ⟨_, rfl, _, _, _, [], _, [], hW', trodAll_mk1 (shut_bool Try.underlying4 _), (trodAll_cons_mk (Below.trod Try.laidOut (by kernel_rfl) (of_decide_eq_true (by kernel_rfl)) k0 bel lt0) trodAll_mk0), rfl, bel.frame _, fun h => by cases h⟩

theorem closed : joinedFacts Try.pinned.checked.prog 5 Try.f5 Rows.fnCountPortsSpec Rows.fnCountPortsRow = true := by
  unfold joinedFacts
  exact and8 (by as_aux_lemma => kernel_rfl) head_enter head_lifts head_make (by as_aux_lemma => kernel_rfl) (by as_aux_lemma => kernel_rfl) (by as_aux_lemma => kernel_rfl) (by as_aux_lemma => kernel_rfl)

theorem proved : Rows.FnCountPortsSaid :=
  OpenClaim.holds_of_wide 5 Try.f5 rfl rfl rfl rfl rfl rfl rfl ⟨rfl, rfl, rfl, rfl, rfl⟩ rfl rfl rfl rfl rfl (by kernel_rfl) Try.func5 closed
    (of_decide_eq_true (by kernel_rfl)) (by unfold Func.isWrapper; first | (rw [if_pos (by decide +kernel)]; kernel_rfl) | (rw [if_neg (by decide +kernel)]; exact ⟨rfl, rfl⟩))
    (fun os started H enc _ => lifted os started H enc)
#print axioms proved

end Go.Proofs.Ytminailbhgimkaa.lawFnCountPorts
