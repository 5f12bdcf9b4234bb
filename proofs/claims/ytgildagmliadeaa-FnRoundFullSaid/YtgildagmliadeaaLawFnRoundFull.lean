/- For every code, the grid in turn of the drawn size is full, all its rounds have four ways, and they are as many as every second inner corner; the program's and the specification's answers are the same: the law FnRoundFull returns true, and its argument reads as it did. No condition. -/
import Derived.Test.YtgildagmliadeaaPKR
import Derived.Test.YtgildagmliadeaaPKG
import Derived.Test.YtgildagmliadeaaMostQ
import Derived.Test.YtgildagmliadeaaLensI
import Derived.Test.YtgildagmliadeaaLenQ
import Derived.Test.YtgildagmliadeaaRoundQ
import Derived.Test.YtgildagmliadeaaPKD
import Derived.Test.YtgildagmliadeaaBunM
namespace Go.Proofs.Ytgildagmliadeaa.lawFnRoundFull
open Go.ChangeShapes Go.WideShapes Go.ChangeAt Go.RowKit
open Go.ChangeMaps (open_string shut_string)

theorem perm_sum {a b : List Int} (h : a.Perm b) : a.sum = b.sum := by
  induction h with
  | nil => rfl
  | cons x _ ih => rw [List.sum_cons, List.sum_cons, ih]
  | swap x y l => rw [List.sum_cons, List.sum_cons, List.sum_cons, List.sum_cons]; omega
  | trans _ _ h1 h2 => exact h1.trans h2
theorem cast_sum (f : Nat → Nat) : ∀ l : List Nat, (l.map fun x => ((f x : Nat) : Int)).sum = (((l.map f).sum : Nat) : Int)
  | [] => rfl
  | x :: l => by rw [List.map_cons, List.sum_cons, List.map_cons, List.sum_cons, cast_sum f l, Int.natCast_add]
theorem lensR_sum {n m : Nat} {t : Int → Int → UInt8} : (lensR n m t).sum = (lensN n m t : Int) := by
  unfold lensR
  rw [perm_sum (sortI_perm _)]
  unfold lensTo
  rw [leadsTo_all, cast_sum]
  rfl
theorem lensR_mem {n m : Nat} {t : Int → Int → UInt8} {x : Int} (h : x ∈ lensR n m t) : ∃ a : Nat, x = (a : Int) ∧ 4 ≤ a ∧ a % 2 = 0 ∧ a ≤ 4 * (n * m) := by
  unfold lensR at h
  rw [(sortI_perm _).mem_iff] at h
  unfold lensTo at h
  rw [leadsTo_all] at h
  obtain ⟨l, hl, rfl⟩ := List.mem_map.1 h
  have hon := (lead_iff.1 (leads_lt hl).2).1
  have h4 := rlen_four (wayN_d l) hon
  exact ⟨_, rfl, h4.1, h4.2, (rlen_facts (wayN_d l) hon).2.1⟩
theorem lensR_len {n m : Nat} {t : Int → Int → UInt8} : (lensR n m t).length ≤ 4 * (n * m) := by
  rw [lensR_length]
  exact lensTo_le _ _ _ _
theorem nRoundLengths {n m c : Nat} {A : Option Addr} {ss : List ByteArray} {w : World} {l : List Int} (h : LS w A ss) (hg : IsGrid n m ss) (hv : lensR n m (lett m (pad (flat ss))) = l) :
    Calls Try.prog 36 #[.slice A ss.length c] w fun e w' => Below w.heap.size w w' ∧ ∃ A c, e = .returned (.tuple #[.slice A l.length c, .bool true]) ∧ LI w' A l :=
  (implRoundLengths_any A c ss w h (gsmall hg).1 (gsmall hg).2).mono fun _ _ h => (lend_own h).yes fun r ok ho => by
    subst hv
    exact (ho.uniq (.inl ⟨n, m, hg, rfl, rfl⟩ : LensOut ss _ true)).imp Eq.symm Eq.symm

theorem nRoundFull {n m : Nat} {w : World} {fl : List ByteArray} (h : FullIn (n : Int) (m : Int) n m) (hv : ruleG n m fullF = fl) :
    Calls Try.prog 46 #[.int .i64 (n : Int), .int .i64 (m : Int)] w fun e w' => Below w.heap.size w w' ∧ ∃ A c, e = .returned (.tuple #[.slice A fl.length c, .bool true]) ∧ LS w' A fl :=
  (implRoundFull_any n m w).mono fun _ _ ⟨hb, A, res, ok, he, ho, hs⟩ => ⟨hb, A, res.length, by
    obtain ⟨rfl, rfl⟩ := ho.uniq (.inl ⟨n, m, h, rfl, rfl⟩ : FullOut (n : Int) (m : Int) true (ruleG n m fullF))
    rw [he, ← hv], by
    obtain ⟨_, rfl⟩ := ho.uniq (.inl ⟨n, m, h, rfl, rfl⟩ : FullOut (n : Int) (m : Int) true (ruleG n m fullF))
    rw [← hv]; exact hs.strs⟩
theorem implRoundFull_end (n m : Nat) (w : World) :
    Calls Try.prog 46 #[.int .i64 (n : Int), .int .i64 (m : Int)] w fun e w' => Below w.heap.size w w' ∧ ∃ A c res ok, e = .returned (.tuple #[.slice A res.length c, .bool ok]) ∧ FullOut n m ok res ∧ LS w' A res :=
  (implRoundFull_any n m w).mono fun _ _ ⟨hb, A, res, ok, he, ho, hs⟩ => ⟨hb, A, res.length, res, ok, he, ho, hs.strs⟩
theorem specRoundFull_end (n m : Nat) (w : World) :
    Calls Try.prog 47 #[.int .i64 (n : Int), .int .i64 (m : Int)] w fun e w' => Below w.heap.size w w' ∧ ∃ A c res ok, e = .returned (.tuple #[.slice A res.length c, .bool ok]) ∧ FullOut n m ok res ∧ LS w' A res :=
  (specRoundFull_any n m w).mono fun _ _ h => h

def fulls (n m : Nat) : List UInt8 := (List.range (n * m)).map fun c => fullF (c / m) (c % m)
theorem fulls_flat {n m : Nat} (hg : IsGrid n m (ruleG n m fullF)) : flat (ruleG n m fullF) = fulls n m := by
  have hl : (flat (ruleG n m fullF)).length = n * m := hg.flen
  refine List.ext_getElem? fun c => ?_
  by_cases hc : c < n * m
  · obtain ⟨h1, h2, h3⟩ := cell_parts hc
    have e := rule_flat (f := fullF) h1 h2
    rw [h3, List.getD_eq_getElem?_getD, List.getElem?_eq_getElem (by rw [hl]; exact hc)] at e
    rw [List.getElem?_eq_getElem (by rw [hl]; exact hc)]
    unfold fulls
    rw [List.getElem?_map, List.getElem?_range hc]
    exact congrArg some e
  · rw [List.getElem?_eq_none (by rw [hl]; omega), List.getElem?_eq_none (by unfold fulls; simp; omega)]
set_option maxRecDepth 100000 in
theorem fulls_all : ∀ n, n < 6 → ∀ m, m < 6 → 1 ≤ n → 1 ≤ m → ((leads n m (lett m (pad (fulls n m)))).map fun l => rlen n m (lett m (pad (fulls n m))) (wayN m l)) = List.replicate (((n - 1) * (m - 1) + 1) / 2) 4 := by decide +kernel
theorem sortI_four (K : Nat) : sortI (List.replicate K 4) = List.replicate K 4 := (sortI_of (List.Perm.refl _) (by
  rw [List.pairwise_iff_getElem]
  intro i j hi hj _
  simp)).symm
theorem facts {n m : Nat} (h : FullIn (n : Int) (m : Int) n m) : ∃ (fl : List ByteArray) (l : List Int) (K N : Nat), ruleG n m fullF = fl ∧ IsGrid n m fl ∧ lensR n m (lett m (pad (flat fl))) = l ∧ l.length = K ∧ K ≤ 20 ∧ (∀ k, k < K → l[k]? = some 4) ∧ fl.length = n ∧ ((n : Int) - 1) * ((m : Int) - 1) = (N : Int) ∧ N ≤ 16 ∧ (N + 1) / 2 = K ∧ (cntOf 46 (flat fl) == 0) = true := by
  obtain ⟨_, _, h1, h2, h3, h4⟩ := h
  have hg := fullF_grid h1 h2 h3 h4
  have h16 : (n - 1) * (m - 1) ≤ 4 * 4 := Nat.mul_le_mul (by omega) (by omega)
  have e := fulls_all n (by omega) m (by omega) h1 h3
  have e2 : lensR n m (lett m (pad (flat (ruleG n m fullF)))) = List.replicate (((n - 1) * (m - 1) + 1) / 2) 4 := by
    rw [fulls_flat hg]
    unfold lensR lensTo
    rw [leadsTo_all]
    have e3 : ((leads n m (lett m (pad (fulls n m)))).map fun l => ((rlen n m (lett m (pad (fulls n m))) (wayN m l) : Nat) : Int)) = List.replicate (((n - 1) * (m - 1) + 1) / 2) 4 := by
      have := congrArg (List.map fun x : Nat => (x : Int)) e
      rw [List.map_map] at this
      rw [List.map_replicate] at this
      exact this
    rw [e3, sortI_four]
  refine ⟨_, _, ((n - 1) * (m - 1) + 1) / 2, (n - 1) * (m - 1), rfl, hg, e2, List.length_replicate, by omega, fun k hk => ?_, hg.1, ?_, by omega, rfl, ?_⟩
  · rw [List.getElem?_replicate, if_pos hk]
  · rw [Int.natCast_mul, Int.natCast_sub h1, Int.natCast_sub h3]; rfl
  · rw [fulls_flat hg]
    unfold cntOf
    rw [beq_iff_eq, List.countP_eq_zero]
    intro b hb
    obtain ⟨c, _, rfl⟩ := List.mem_map.1 hb
    rcases fullF_mir (r := c / m) (q := c % m) with h | h <;> rw [h] <;> decide

set_option maxRecDepth 100000 in
set_option maxHeartbeats 2000000 in
theorem l91Size_any (A : Option Addr) (len cap : Nat) (w : World) (h : CodeAt w A len) (hl : len ≤ 1048576) (hc : len ≤ cap) (hc2 : cap ≤ 9223372036854775807) :
    Calls Try.prog 107 #[.slice A len cap, .int .i64 5] w fun e w' => Below w.heap.size w w' ∧ ∃ (n m : Nat), e = .returned (.tuple #[.int .i64 (n : Int), .int .i64 (m : Int)]) ∧ n ≤ 10 ∧ m ≤ 5 := by
  have HOP := hid (dOpen A len cap w h hl hc hc2)
  clear h
  go_enter Try.func107, Try.ntmps107
  go_wp2_with fail
  refine HOP.out.mono ?_
  rintro e w1 ⟨rfl, hd⟩
  have HD1 := hid hd
  clear hd HOP
  have HC1 := hid (dPick 5 HD1.out (by omega) (by omega) (by omega))
  go_wp2_with fail
  refine HC1.out.mono ?_
  rintro e w2 ⟨hg, hd, v1, hv1, rfl⟩
  have HD2 := hid hd
  clear hg hd HC1 HD1
  have HC2 := hid (dPick 24 HD2.out (by omega) (by omega) (by omega))
  go_wp2_with fail
  refine HC2.out.mono ?_
  rintro e w3 ⟨hg, hd, v2, hv2, rfl⟩
  have HD3 := hid hd
  clear hg hd HC2 HD2
  obtain ⟨q, hq, hq23⟩ := q23 v2 (by omega)
  have HC3 := hid (dPick 24 HD3.out (by omega) (by omega) (by omega))
  go_wp2_with fail
  refine HC3.out.mono ?_
  rintro e w4 ⟨hg, hd, v3, hv3, rfl⟩
  have HD4 := hid hd
  clear hg hd HC3 HD3
  obtain ⟨r, hr, hr23⟩ := q23 v3 (by omega)
  obtain ⟨n, hn⟩ : ∃ n : Nat, 1 + v1 + q * 4 - r = n := ⟨_, rfl⟩
  have hni : (1 : Int) + (v1 : Int) + (q : Int) * 4 - (r : Int) = (n : Int) := by omega
  have hn9 : n ≤ 10 := by omega
  clear hn
  have HC4 := hid (dPick 5 HD4.out (by omega) (by omega) (by omega))
  go_wp2_with fail
  refine HC4.out.mono ?_
  rintro e w5 ⟨hg, hd, v4, hv4, rfl⟩
  have HD5 := hid hd
  clear hg hd HC4 HD4
  obtain ⟨m, em⟩ : ∃ m, 1 + v4 = m := ⟨_, rfl⟩
  have zim : (1 : Int) + (v4 : Int) = (m : Int) := by omega
  have lm : 1 ≤ m := by omega
  have um : m ≤ 5 := by omega
  clear em
  go_wp2_with fail
  refine bodyPost_ret (results_tmp2 rfl _ _ _) rfl ?_
  exact ⟨HD5.out.below, n, m, rfl, hn9, um⟩

set_option maxRecDepth 100000 in
set_option maxHeartbeats 2000000 in
theorem draw_any (A : Option Addr) (len cap : Nat) (w : World) (h : CodeAt w A len) (hl : len ≤ 1048576) (hc : len ≤ cap) (hc2 : cap ≤ 9223372036854775807) :
    Calls Try.prog 45 #[.slice A len cap] w fun e w' => Below w.heap.size w w' ∧ ∃ (n m : Nat), e = .returned (.tuple #[.int .i64 (n : Int), .int .i64 (m : Int)]) ∧ n ≤ 10 ∧ m ≤ 5 := by
  have HP := hid (l91Size_any A len cap w h hl hc hc2)
  clear h
  go_enter Try.func45, Try.ntmps45
  go_wp2_with fail
  refine HP.out.mono ?_
  rintro e w1 ⟨hb, n, m, rfl, hn, hm⟩
  have HB := hid hb
  clear hb
  go_wp2_with fail
  refine bodyPost_ret (results_tmp2 rfl _ _ _) rfl ?_
  exact ⟨HB.out, n, m, rfl, hn, hm⟩

set_option maxRecDepth 100000 in
set_option maxHeartbeats 4000000 in
theorem walk (v : Value) (w : World) (hc : CameB w v) :
    Calls Try.prog 11 #[v] w fun e w' => e = .returned (.bool true) ∧ Below w.heap.size w w' := by
  obtain ⟨A, len, cap, rfl, hcode, hlc, hcap⟩ := hc
  have HCD := hid hcode
  clear hcode
  go_enter Try.func11, Try.ntmps11
  by_cases hbig : 1048576 < len
  · have hbi : (1048576 : Int) < (len : Int) := by omega
    go_wp2_with fail
    go_ret
    exact ⟨rfl, Below.refl _ _⟩
  have hbi : ¬ (1048576 : Int) < (len : Int) := by omega
  have HDR := hid (draw_any A len cap w HCD.out (by omega) hlc hcap)
  have HC1 := hid (HDR.out)
  go_wp2_with fail
  refine HC1.out.mono ?_
  rintro e w1 ⟨hb, n, m, rfl, hn9, hm5⟩
  have HB1 := hid hb
  clear hb HC1
  have HC2 := hid (implRoundFull_end n m w1)
  go_wp2_with fail
  refine HC2.out.mono ?_
  rintro e w2 ⟨hb, A2, c2, out, ok, rfl, hout, hl⟩
  have HB2 := hid (HB1.out.trans (hb.mono HB1.out.size))
  clear HB1
  have Lout2 := hid hl
  clear hl
  clear hb HC2
  have HO := hid hout
  clear hout
  have HC3 := hid (specRoundFull_end n m w2)
  go_wp2_with fail
  refine HC3.out.mono ?_
  rintro e w3 ⟨hb, A3, c3, out2, ok2, rfl, hout2, hl⟩
  have HB3 := hid (HB2.out.trans (hb.mono HB2.out.size))
  clear HB2
  have Lout3 := hid (Lout2.out.step hb)
  clear Lout2
  have Lwant3 := hid hl
  clear hl
  clear hb HC3
  obtain ⟨rfl, rfl⟩ := HO.out.uniq hout2
  clear hout2
  rcases HO.out with ⟨n2, m2, hp, rfl, rfl⟩ | ⟨_, rfl, rfl⟩
  · obtain rfl : n = n2 := by have := hp.1; omega
    obtain rfl : m = m2 := by have := hp.2.1; omega
    obtain ⟨fl, l, K, N, e1, g1, e2, hlK, hK, hF, hfn, hN, hN16, hNK, hfu⟩ := facts hp
    rw [e1] at Lout3 Lwant3 ⊢
    have hfi : ((fl.length : Nat) : Int) = (n : Int) := by rw [hfn]
    have hli : ((l.length : Nat) : Int) = (K : Int) := by rw [hlK]
    have HFN := hid hfn
    have HLK := hid hlK
    have hNKi : ((N : Int) + 1) / 2 = (K : Int) := by omega
    have hq : ((N : Int) + 1).tdiv 2 = (K : Int) := by rw [Int.tdiv_eq_ediv_of_nonneg (by omega)]; exact hNKi
    have hn1 : 1 ≤ n := hp.2.2.1
    have hn5 : n ≤ 5 := hp.2.2.2.1
    have hm1 : 1 ≤ m := hp.2.2.2.2.1
    clear e1 hfn hlK hp hNK hNKi
    have G1 := hid g1
    have E2 := hid e2
    have HF := hid hF
    have HFU := hid hfu
    clear g1 e2 hF hfu
    go_wp2_with fail
    refine (nSameT (Lout3.out) (Lwant3.out) (gsmall G1.out).1).mono ?_
    rintro e w4 ⟨hb, rfl⟩
    have HB4 := hid (HB3.out.trans (hb.mono HB3.out.size))
    clear HB3
    have Lout4 := hid (Lout3.out.step hb)
    clear Lout3
    have Lwant4 := hid (Lwant3.out.step hb)
    clear Lwant3
    clear hb
    clear Lwant4
    go_wp2_with fail
    refine (nRoundLengths (Lout4.out) G1.out E2.out).mono ?_
    rintro e w5 ⟨hb, A5, c5, rfl, hl⟩
    have HB5 := hid (HB4.out.trans (hb.mono HB4.out.size))
    clear HB4
    have Lout5 := hid (Lout4.out.step hb)
    clear Lout4
    have Ll5 := hid hl
    clear hl
    clear hb
    go_wp2_with fail
    go_loopw [11] (fun (iv : Value) (wr : World) => ∃ k : Nat, k ≤ K ∧ iv = .int .i64 k ∧ Below w.heap.size w wr ∧ LS wr A2 fl ∧ LI wr A5 l) (fun iv _ => K - (intOf iv).toNat)
    case atStart => exact ⟨0, by omega, rfl, HB5.out, Lout5.out, Ll5.out⟩
    case round =>
      obtain ⟨k, hk, rfl, hbr, hlr, hir⟩ := hrel
      have HBR := hid hbr
      have HLR := hid hlr
      have HIR := hid hir
      clear hbr hlr hir
      by_cases hlt : k < K
      · obtain ⟨gl, ol, rfl⟩ := HIR.out.addr (by have := HLK.out; omega)
        have hce := HIR.out.cellk (HF.out k hlt)
        have hki : (k : Int) < (K : Int) := by omega
        have hkl : k < l.length := by rw [HLK.out]; exact hlt
        go_wp2_with fail
        go_roundw
        case rel => exact ⟨k + 1, by omega, by go_num, HBR.out, HLR.out, HIR.out⟩
        case measure => simp [intOf]; omega
      · obtain rfl : k = K := by omega
        go_wp2_with fail
        refine (nGridFull (HLR.out) G1.out HFU.out).mono ?_
        rintro e w6 ⟨hb, rfl⟩
        have HB6 := hid (HBR.out.trans (hb.mono HBR.out.size))
        clear HBR
        have Lout6 := hid (HLR.out.step hb)
        clear HLR
        have Ll6 := hid (HIR.out.step hb)
        clear HIR
        clear hb
        go_wp2_with fail
        go_ret
        exact ⟨rfl, HB6.out⟩
  · skip
    go_wp2_with fail
    refine (nSameT (Lout3.out) (Lwant3.out) (by simp)).mono ?_
    rintro e w4 ⟨hb, rfl⟩
    have HB4 := hid (HB3.out.trans (hb.mono HB3.out.size))
    clear HB3
    have Lout4 := hid (Lout3.out.step hb)
    clear Lout3
    have Lwant4 := hid (Lwant3.out.step hb)
    clear Lwant3
    clear hb
    go_wp2_with fail
    refine (nSameT (Lout4.out) (Lwant4.out) (by simp)).mono ?_
    rintro e w5 ⟨hb, rfl⟩
    have HB5 := hid (HB4.out.trans (hb.mono HB4.out.size))
    clear HB4
    have Lout5 := hid (Lout4.out.step hb)
    clear Lout4
    have Lwant5 := hid (Lwant4.out.step hb)
    clear Lwant4
    clear hb
    go_wp2_with fail
    go_ret
    exact ⟨rfl, HB5.out⟩

set_option maxRecDepth 100000 in
theorem lifted (os : Os) (started : os.Started) (H : Type) (enc : TypeId × Value → H) :
    ReturnsInHanded {} Try.checked os 11 .any (Rows.fnRoundFullSpec.pre6 enc Try.prog Try.f11 Rows.fnRoundFullRow.domain false) (Rows.fnRoundFullSpec.post enc Try.prog Try.f11 false true false false) := by
  refine returnsInHanded_of_change (C := Try.checked) Try.own started (by kernel_rfl) Try.func11
    (ChangeSpec.witness6 (enc := enc) (C := Try.checked) false ⟨#[], #[.slice none 0 0], []⟩ 8 (by kernel_rfl) (by kernel_rfl) (by kernel_rfl) (by kernel_rfl)) ?_
  intro W base args ds gs before hval0 hW hcnd _
  have hval : ∀ (j : Nat) t v, Try.f11.params[j]? = some t → args[j]? = some v → Value.okWide Try.prog W .any base t v := hval0
  have hW' := hW
  obtain ⟨p, q, hA0, hV, rfl, hfz, hnd⟩ := hW
  have hA : DataW.TrodAll enc Try.prog W 0 (fun _ => true) true Try.f11.params.toList args.toList ds p := hA0
  rw [Try.params11] at hA hval
  obtain ⟨v0, vs0, d0, ds0, p0, q0, hargs, rfl, rfl, h0, r0⟩ := trodAll_cons hA
  obtain ⟨rfl, rfl, rfl⟩ := trodAll_nil r0
  obtain rfl : args = #[v0] := by cases args; simp_all
  obtain ⟨rfl, rfl⟩ := trodVars_none hV
  have k0 := h0
  have lt0 : ∀ x ∈ p0, x.block < W.heap.size := by obtain ⟨m, hm⟩ := k0; exact DataW.trod_lt m _ _ _ hm
  have c0 := cameB_of (hval 0 22 v0 rfl rfl) h0
  clear hA0 hval0
  refine (walk v0 W c0).mono fun e W' ⟨he, bel⟩ => ?_
  subst he
  exact ⟨_, rfl, _, _, _, [], _, [], hW', trodAll_mk1 (shut_bool Try.underlying4 _), (trodAll_cons_mk (Below.trod Try.laidOut (by kernel_rfl) (of_decide_eq_true (by kernel_rfl)) k0 bel lt0) trodAll_mk0), rfl, bel.frame _, fun h => by cases h⟩

theorem closed : joinedFacts Try.pinned.checked.prog 11 Try.f11 Rows.fnRoundFullSpec Rows.fnRoundFullRow = true := by
  unfold joinedFacts
  exact and8 (by as_aux_lemma => kernel_rfl) head_enter head_lifts head_make (by as_aux_lemma => kernel_rfl) (by as_aux_lemma => kernel_rfl) (by as_aux_lemma => kernel_rfl) (by as_aux_lemma => kernel_rfl)

theorem proved : Rows.FnRoundFullSaid :=
  OpenClaim.holds_of_wide 11 Try.f11 rfl rfl rfl rfl rfl rfl rfl ⟨rfl, rfl, rfl, rfl, rfl⟩ rfl rfl rfl rfl rfl (by kernel_rfl) Try.func11 closed
    (of_decide_eq_true (by kernel_rfl)) (by unfold Func.isWrapper; first | (rw [if_pos (by decide +kernel)]; kernel_rfl) | (rw [if_neg (by decide +kernel)]; exact ⟨rfl, rfl⟩))
    (fun os started H enc _ => lifted os started H enc)
#print axioms proved

end Go.Proofs.Ytgildagmliadeaa.lawFnRoundFull
