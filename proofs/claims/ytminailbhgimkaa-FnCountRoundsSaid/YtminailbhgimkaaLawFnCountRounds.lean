/- For every code, the full grids with each number of rounds are as many as for rows and columns exchanged, they add up to all full grids, and the last number is the greatest one; the program's and the specification's answers are the same: the law FnCountRounds returns true, and its argument reads as it did. No condition. -/
import Derived.Test.YtminailbhgimkaaPKE
import Derived.Test.YtminailbhgimkaaPKD
import Derived.Test.YtminailbhgimkaaCountS
import Derived.Test.YtminailbhgimkaaCountP
import Derived.Test.YtminailbhgimkaaDrawCounts
import Derived.Test.YtminailbhgimkaaBunM
namespace Go.Proofs.Ytminailbhgimkaa.lawFnCountRounds
open Go.ChangeShapes Go.WideShapes Go.ChangeAt Go.RowKit
open Go.ChangeMaps (open_string shut_string)

theorem nPow {k S : Nat} {w : World} (hk : k ≤ 9) (hS : 2 ^ k = S) : Calls Try.prog 20 #[.int .i64 2, .int .i64 (k : Int)] w fun e w' => Below w.heap.size w w' ∧ e = .returned (.int .i64 (S : Int)) :=
  (power_any k w hk).mono fun _ _ ⟨he, hw⟩ => ⟨by rw [hw]; exact Below.refl _ _, by rw [he, hS]⟩
theorem mem_bound {l : List Int} {B : Int} (h : ∀ k, 0 ≤ l.getD k 0 ∧ l.getD k 0 ≤ B) : ∀ x ∈ l, 0 ≤ x ∧ x ≤ B := by
  intro x hx
  obtain ⟨i, hi, rfl⟩ := List.getElem_of_mem hx
  have := h i
  rw [List.getD_eq_getElem?_getD, List.getElem?_eq_getElem hi] at this
  exact this

theorem nCountRounds {n m : Nat} {l : List Int} {w : World} (h : MostIn (n : Int) (m : Int) n m) (hv : countsR n m = l) :
    Calls Try.prog 15 #[.int .i64 (n : Int), .int .i64 (m : Int)] w fun e w' => Below w.heap.size w w' ∧ ∃ A c, e = .returned (.tuple #[.slice A l.length c, .bool true]) ∧ LI w' A l :=
  (implCountRounds_any n m w).mono fun _ _ hh => by
    obtain ⟨hb, A, c, l', ok, he, ho, hl⟩ := lend_own hh
    obtain ⟨rfl, rfl⟩ := ho.uniq (.inl ⟨n, m, h, rfl, rfl⟩ : CountOut (n : Int) (m : Int) _ true)
    rw [hv] at he hl
    exact ⟨hb, A, c, he, hl⟩
theorem nRoundMost {n m r : Nat} {w : World} (h : MostIn (n : Int) (m : Int) n m) (hv : mostTo n m (List.finRange (2 ^ (n * m))) = r) :
    Calls Try.prog 18 #[.int .i64 (n : Int), .int .i64 (m : Int)] w (IEnd (r : Int) true w) :=
  (implRoundMost_any n m w).mono fun _ _ ⟨hb, x, ok, he, ho⟩ => ⟨hb, by
    obtain ⟨rfl, rfl⟩ := ho.uniq (.inl ⟨n, m, h, rfl, rfl⟩ : MostOut (n : Int) (m : Int) _ true)
    rw [he, hv]⟩
theorem fold_max (f : Nat → Nat) : ∀ (l : List Nat) (s t : Nat), t = s + 1 → l.foldl (fun s x => max s (f x + 1)) t = l.foldl (fun s x => max s (f x)) s + 1
  | [], s, t, h => h
  | x :: l, s, t, h => by
    rw [List.foldl_cons, List.foldl_cons]
    exact fold_max f l _ _ (by omega)
theorem most_list (n m M : Nat) : mostTo n m (List.finRange M) = (List.range M).foldl (fun s x => max s (cntF n m x)) 0 := by
  have e := upto_val (N := M) (k := M) (Nat.le_refl _)
  rw [upto_all] at e
  rw [← e, List.foldl_map]
  rfl
theorem counts_most {n m : Nat} : (countsR n m).length = mostTo n m (List.finRange (2 ^ (n * m))) + 1 := by
  unfold countsR
  rw [cntL_length, most_list]
  obtain ⟨M, hM⟩ : ∃ M, 2 ^ (n * m) = M + 1 := ⟨2 ^ (n * m) - 1, by have := @Nat.one_le_two_pow (n * m); omega⟩
  rw [hM, List.range_succ_eq_map, List.foldl_cons, List.foldl_cons]
  exact fold_max _ _ _ _ (by omega)
theorem facts {n m : Nat} (h : MostIn (n : Int) (m : Int) n m) : ∃ (l : List Int) (r N S : Nat) (y : Int), countsR n m = l ∧ MostIn (m : Int) (n : Int) m n ∧ countsR m n = l ∧ MostIn (n : Int) (m : Int) n m ∧ mostTo n m (List.finRange (2 ^ (n * m))) = r ∧ r ≤ 36 ∧ l.length = r + 1 ∧ l[r]? = some y ∧ 0 < y ∧ y ≤ 1000 ∧ (n : Int) * (m : Int) = (N : Int) ∧ N ≤ 9 ∧ 2 ^ N = S ∧ S ≤ 512 ∧ l.sum = (S : Int) ∧ ∀ x ∈ l, -1000 ≤ x ∧ x ≤ 1000 := by
  have hin := h
  obtain ⟨_, _, h1, h2, h3, h4, h5⟩ := h
  have h512 : 2 ^ (n * m) ≤ 2 ^ 9 := Nat.pow_le_pow_right (by omega) h5
  have e512 : (2 : Nat) ^ 9 = 512 := rfl
  have hlen := counts_most (n := n) (m := m)
  have hr36 := mostTo_le h5 (List.finRange (2 ^ (n * m)))
  obtain ⟨r, hr⟩ : ∃ r, mostTo n m (List.finRange (2 ^ (n * m))) = r := ⟨_, rfl⟩
  rw [hr] at hlen hr36
  have hy : (countsR n m)[r]? = some ((countsR n m).getD r 0) := by
    rw [List.getD_eq_getElem?_getD, List.getElem?_eq_getElem (by omega)]
    rfl
  have hb := countsR_bound h5
  refine ⟨_, r, n * m, _, _, rfl, ⟨rfl, rfl, h3, h4, h1, h2, by rw [Nat.mul_comm]; exact h5⟩, counts_turn h1 h3 (by omega), hin, hr, hr36, hlen, hy, ?_, ?_, by rw [Int.natCast_mul], h5, rfl, by omega, ?_, fun x hx => ?_⟩
  · have h6 := cntL_trim (cntF n m) (List.range (2 ^ (n * m))) r hlen
    have h7 := (hb r).1
    have h8 : (countsR n m).getD r 0 ≠ 0 := h6
    omega
  · have := (hb r).2
    omega
  · unfold countsR
    rw [cntL_sum, List.length_range]
  · have := mem_bound hb x hx
    omega

set_option maxRecDepth 100000 in
set_option maxHeartbeats 2000000 in
theorem draw_any (A : Option Addr) (len cap : Nat) (w : World) (h : CodeAt w A len) (hl : len ≤ 1048576) (hc : len ≤ cap) (hc2 : cap ≤ 9223372036854775807) :
    Calls Try.prog 14 #[.slice A len cap] w fun e w' => Below w.heap.size w w' ∧ ∃ (n m : Nat), e = .returned (.tuple #[.int .i64 (n : Int), .int .i64 (m : Int)]) ∧ n ≤ 4 ∧ m ≤ 12 := by
  have HP := hid (l92Counts_any A len cap w h hl hc hc2)
  clear h
  go_enter Try.func14, Try.ntmps14
  go_wp2_with fail
  refine HP.out.mono ?_
  rintro e w1 ⟨hb, n, m, rfl, hn, hm⟩
  have HB := hid hb
  clear hb
  go_wp2_with fail
  refine bodyPost_ret (results_tmp2 rfl _ _ _) rfl ?_
  exact ⟨HB.out, n, m, rfl, hn, hm⟩

set_option maxRecDepth 100000 in
set_option maxHeartbeats 4000000 in
theorem walk (v : Value) (w : World) (hc : CameB w v) :
    Calls Try.prog 3 #[v] w fun e w' => e = .returned (.bool true) ∧ Below w.heap.size w w' := by
  obtain ⟨A, len, cap, rfl, hcode, hlc, hcap⟩ := hc
  have HCD := hid hcode
  clear hcode
  go_enter Try.func3, Try.ntmps3
  by_cases hbig : 1048576 < len
  · have hbi : (1048576 : Int) < (len : Int) := by omega
    go_wp2_with fail
    go_ret
    exact ⟨rfl, Below.refl _ _⟩
  have hbi : ¬ (1048576 : Int) < (len : Int) := by omega
  have HDR := hid (draw_any A len cap w HCD.out (by omega) hlc hcap)
  have HC1 := hid (HDR.out)
  go_wp2_with fail
  refine HC1.out.mono ?_
  rintro e w1 ⟨hb, n, m, rfl, hn4, hm12⟩
  have HB1 := hid hb
  clear hb HC1
  have HC2 := hid ((implCountRounds_any n m w1).mono fun _ _ h => lend_own h)
  go_wp2_with fail
  refine HC2.out.mono ?_
  rintro e w2 ⟨hb, A2, c2, out, ok, rfl, hout, hl⟩
  have HB2 := hid (HB1.out.trans (hb.mono HB1.out.size))
  clear HB1
  have Lout2 := hid hl
  clear hl
  clear hb HC2
  have HO := hid hout
  clear hout
  have HC3 := hid ((specCountRounds_any n m w2).mono fun _ _ h => lend_spec h)
  go_wp2_with fail
  refine HC3.out.mono ?_
  rintro e w3 ⟨hb, A3, c3, out2, ok2, rfl, hout2, hl⟩
  have HB3 := hid (HB2.out.trans (hb.mono HB2.out.size))
  clear HB2
  have Lout3 := hid (Lout2.out.step hb)
  clear Lout2
  have Lwant3 := hid hl
  clear hl
  clear hb HC3
  obtain ⟨rfl, rfl⟩ := HO.out.uniq hout2
  clear hout2
  rcases HO.out with ⟨n2, m2, hp, rfl, rfl⟩ | ⟨_, rfl, rfl⟩
  · obtain rfl : n = n2 := by have := hp.1; omega
    obtain rfl : m = m2 := by have := hp.2.1; omega
    obtain ⟨l, r, N, S, y, e1, p2, e2, p3, e3, hr36, hlen, hy, hy0, hy1, hN, hN9, hS, hS512, hsum, hmem⟩ := facts hp
    rw [e1] at Lout3 Lwant3 ⊢
    have HLEN := hid hlen
    clear e1 hp hlen
    have P2 := hid p2
    have E2 := hid e2
    have P3 := hid p3
    have E3 := hid e3
    have HY := hid hy
    have HS := hid hS
    have HSUM := hid hsum
    have HMEM := hid hmem
    clear p2 e2 p3 e3 hy hS hsum hmem
    go_wp2_with fail
    refine (nSameI (Lout3.out) (Lwant3.out) (by have := HLEN.out; omega)).mono ?_
    rintro e w4 ⟨hb, rfl⟩
    have HB4 := hid (HB3.out.trans (hb.mono HB3.out.size))
    clear HB3
    have Lout4 := hid (Lout3.out.step hb)
    clear Lout3
    have Lwant4 := hid (Lwant3.out.step hb)
    clear Lwant3
    clear hb
    clear Lwant4
    go_wp2_with fail
    refine (nCountRounds P2.out E2.out).mono ?_
    rintro e w5 ⟨hb, A4, c4, rfl, hl⟩
    have HB5 := hid (HB4.out.trans (hb.mono HB4.out.size))
    clear HB4
    have Lout5 := hid (Lout4.out.step hb)
    clear Lout4
    have Lx5 := hid hl
    clear hl
    clear hb
    go_wp2_with fail
    refine (nRoundMost P3.out E3.out).mono ?_
    rintro e w6 ⟨hb, rfl⟩
    have HB6 := hid (HB5.out.trans (hb.mono HB5.out.size))
    clear HB5
    have Lout6 := hid (Lout5.out.step hb)
    clear Lout5
    have Lx6 := hid (Lx5.out.step hb)
    clear Lx5
    clear hb
    go_wp2_with fail
    refine (nSameI (Lx6.out) (Lout6.out) (by have := HLEN.out; omega)).mono ?_
    rintro e w7 ⟨hb, rfl⟩
    have HB7 := hid (HB6.out.trans (hb.mono HB6.out.size))
    clear HB6
    have Lout7 := hid (Lout6.out.step hb)
    clear Lout6
    have Lx7 := hid (Lx6.out.step hb)
    clear Lx6
    clear hb
    clear Lx7
    go_wp2_with fail
    refine (nTotal (Lout7.out) (by have := HLEN.out; omega) HMEM.out HSUM.out).mono ?_
    rintro e w8 ⟨hb, rfl⟩
    have HB8 := hid (HB7.out.trans (hb.mono HB7.out.size))
    clear HB7
    have Lout8 := hid (Lout7.out.step hb)
    clear Lout7
    clear hb
    go_wp2_with fail
    refine (nPow hN9 HS.out).mono ?_
    rintro e w9 ⟨hb, rfl⟩
    have HB9 := hid (HB8.out.trans (hb.mono HB8.out.size))
    clear HB8
    have Lout9 := hid (Lout8.out.step hb)
    clear Lout8
    clear hb
    obtain ⟨bo, oo, rfl⟩ := (Lout9.out).addr (by rw [HLEN.out]; omega)
    have hli : ((l.length : Nat) : Int) = (r : Int) + 1 := by rw [HLEN.out]; omega
    have hc := Lout9.out.cellk HY.out
    have hrl : r < l.length := by rw [HLEN.out]; omega
    have hr0 : (0 : Int) ≤ (r : Int) := by omega
    have hri : (r : Int) < (r : Int) + 1 := by omega
    go_wp2_with fail
    go_ret
    exact ⟨rfl, HB9.out⟩
  · skip
    go_wp2_with fail
    refine (nSameI (Lout3.out) (Lwant3.out) (by simp)).mono ?_
    rintro e w4 ⟨hb, rfl⟩
    have HB4 := hid (HB3.out.trans (hb.mono HB3.out.size))
    clear HB3
    have Lout4 := hid (Lout3.out.step hb)
    clear Lout3
    have Lwant4 := hid (Lwant3.out.step hb)
    clear Lwant3
    clear hb
    go_wp2_with fail
    refine (nSameI (Lout4.out) (Lwant4.out) (by simp)).mono ?_
    rintro e w5 ⟨hb, rfl⟩
    have HB5 := hid (HB4.out.trans (hb.mono HB4.out.size))
    clear HB4
    have Lout5 := hid (Lout4.out.step hb)
    clear Lout4
    have Lwant5 := hid (Lwant4.out.step hb)
    clear Lwant4
    clear hb
    go_wp2_with fail
    go_ret
    exact ⟨rfl, HB5.out⟩

set_option maxRecDepth 100000 in
theorem lifted (os : Os) (started : os.Started) (H : Type) (enc : TypeId × Value → H) :
    ReturnsInHanded {} Try.checked os 3 .any (Rows.fnCountRoundsSpec.pre6 enc Try.prog Try.f3 Rows.fnCountRoundsRow.domain false) (Rows.fnCountRoundsSpec.post enc Try.prog Try.f3 false true false false) := by
  refine returnsInHanded_of_change (C := Try.checked) Try.own started (by kernel_rfl) Try.func3
    (ChangeSpec.witness6 (enc := enc) (C := Try.checked) false ⟨#[], #[.slice none 0 0], []⟩ 8 (by kernel_rfl) (by kernel_rfl) (by kernel_rfl) (by kernel_rfl)) ?_
  intro W base args ds gs before hval0 hW hcnd _
  have hval : ∀ (j : Nat) t v, Try.f3.params[j]? = some t → args[j]? = some v → Value.okWide Try.prog W .any base t v := hval0
  have hW' := hW
  obtain ⟨p, q, hA0, hV, rfl, hfz, hnd⟩ := hW
  have hA : DataW.TrodAll enc Try.prog W 0 (fun _ => true) true Try.f3.params.toList args.toList ds p := hA0
  rw [Try.params3] at hA hval
  obtain ⟨v0, vs0, d0, ds0, p0, q0, hargs, rfl, rfl, h0, r0⟩ := trodAll_cons hA
  obtain ⟨rfl, rfl, rfl⟩ := trodAll_nil r0
  obtain rfl : args = #[v0] := by cases args; simp_all
  obtain ⟨rfl, rfl⟩ := trodVars_none hV
  have k0 := h0
  have lt0 : ∀ x ∈ p0, x.block < W.heap.size := by obtain ⟨m, hm⟩ := k0; exact DataW.trod_lt m _ _ _ hm
  have c0 := cameB_of (hval 0 22 v0 rfl rfl) h0
  clear hA0 hval0
  refine (walk v0 W c0).mono fun e W' ⟨he, bel⟩ => ?_
  subst he
  exact ⟨_, rfl, _, _, _, [], _, [], hW', trodAll_mk1 (shut_bool Try.underlying4 _), (trodAll_cons_mk (Below.trod Try.laidOut (by kernel_rfl) (of_decide_eq_true (by kernel_rfl)) k0 bel lt0) trodAll_mk0), rfl, bel.frame _, fun h => by cases h⟩

theorem closed : joinedFacts Try.pinned.checked.prog 3 Try.f3 Rows.fnCountRoundsSpec Rows.fnCountRoundsRow = true := by
  unfold joinedFacts
  exact and8 (by as_aux_lemma => kernel_rfl) head_enter head_lifts head_make (by as_aux_lemma => kernel_rfl) (by as_aux_lemma => kernel_rfl) (by as_aux_lemma => kernel_rfl) (by as_aux_lemma => kernel_rfl)

theorem proved : Rows.FnCountRoundsSaid :=
  OpenClaim.holds_of_wide 3 Try.f3 rfl rfl rfl rfl rfl rfl rfl ⟨rfl, rfl, rfl, rfl, rfl⟩ rfl rfl rfl rfl rfl (by kernel_rfl) Try.func3 closed
    (of_decide_eq_true (by kernel_rfl)) (by unfold Func.isWrapper; first | (rw [if_pos (by decide +kernel)]; kernel_rfl) | (rw [if_neg (by decide +kernel)]; exact ⟨rfl, rfl⟩))
    (fun os started H enc _ => lifted os started H enc)
#print axioms proved

end Go.Proofs.Ytminailbhgimkaa.lawFnCountRounds
