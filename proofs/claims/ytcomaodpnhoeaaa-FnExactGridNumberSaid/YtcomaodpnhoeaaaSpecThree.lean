/- GridCount, GridFull, GridNumber of the specification, by their contracts. -/
import Derived.Test.YtcomaodpnhoeaaaImplCount
namespace Go.Proofs.Ytcomaodpnhoeaaa
open Go.RowKit

set_option maxRecDepth 100000 in
set_option maxHeartbeats 1000000 in
theorem specGridCount_any (A : Option Addr) (c B : Nat) (ss : List ByteArray) (w : World) (h : Strs w B A ss) (hn : ss.length ≤ 1048576) (hs : ∀ s ∈ ss, s.size ≤ 1048576) :
    Calls Try.prog 47 #[.slice A ss.length c] w fun e w' => CountEnd ss e ∧ ∃ d, w' = w.drewN d := by
  have HI := hid (specGridIn_any A c B ss w h hn hs)
  have HD := hid (fun d => h.drewN d)
  clear h hs
  go_enter Try.func47, Try.ntmps47
  go_wp2_with fail
  refine HI.out.mono ?_
  rintro e w' ⟨ok, rfl, hok, d, rfl⟩
  have HO := hid hok
  clear hok
  cases ok with
  | false =>
    go_wp2_with fail
    refine bodyPost_ret (results_tmp2 rfl _ _ _) rfl ?_
    exact ⟨.inr ⟨(fun n m hg => by have := HO.out.2 ⟨n, m, hg⟩; cases this), rfl⟩, d, rfl⟩
  | true =>
    obtain ⟨n, m, hg⟩ := HO.out.1 rfl
    have c1 := hid (l1Count_any A c B n m ss 114 (w.drewN d) (HD.out d) hg)
    have c2 := hid (l1Count_any A c B n m ss 102 (w.drewN d) (HD.out d) hg)
    have l1 : cntOf 114 (flat ss) ≤ 25 := Nat.le_trans (cntOf_le _ _) (by rw [hg.flen]; exact hg.le25)
    have l2 : cntOf 102 (flat ss) ≤ 25 := Nat.le_trans (cntOf_le _ _) (by rw [hg.flen]; exact hg.le25)
    have HG := hid hg
    clear hg
    obtain ⟨x1, h1⟩ : ∃ x1, cntOf 114 (flat ss) = x1 := ⟨_, rfl⟩
    obtain ⟨x2, h2⟩ : ∃ x2, cntOf 102 (flat ss) = x2 := ⟨_, rfl⟩
    rw [h1] at c1 l1
    rw [h2] at c2 l2
    have H1 := hid h1
    have H2 := hid h2
    clear h1 h2
    go_wp2_with fail
    refine c1.out.mono ?_
    rintro e w' ⟨rfl, rfl⟩
    go_wp2_with fail
    refine c2.out.mono ?_
    rintro e w' ⟨rfl, rfl⟩
    go_wp2_with fail
    refine bodyPost_ret (results_tmp2 rfl _ _ _) rfl ?_
    exact ⟨.inl ⟨n, m, HG.out, by rw [H1.out, H2.out, Int.natCast_add]; rfl⟩, d, rfl⟩

set_option maxRecDepth 100000 in
set_option maxHeartbeats 1000000 in
theorem specGridFull_any (A : Option Addr) (c B : Nat) (ss : List ByteArray) (w : World) (h : Strs w B A ss) (hn : ss.length ≤ 1048576) (hs : ∀ s ∈ ss, s.size ≤ 1048576) :
    Calls Try.prog 49 #[.slice A ss.length c] w fun e w' => FullEnd ss e ∧ ∃ d, w' = w.drewN d := by
  have HI := hid (specGridIn_any A c B ss w h hn hs)
  have HD := hid (fun d => h.drewN d)
  clear h hs
  go_enter Try.func49, Try.ntmps49
  go_wp2_with fail
  refine HI.out.mono ?_
  rintro e w' ⟨ok, rfl, hok, d, rfl⟩
  have HO := hid hok
  clear hok
  cases ok with
  | false =>
    go_wp2_with fail
    go_ret
    exact ⟨.inr ⟨(fun n m hg => by have := HO.out.2 ⟨n, m, hg⟩; cases this), rfl⟩, d, rfl⟩
  | true =>
    obtain ⟨n, m, hg⟩ := HO.out.1 rfl
    have c1 := hid (l1Count_any A c B n m ss 46 (w.drewN d) (HD.out d) hg)
    have HG := hid hg
    clear hg
    obtain ⟨x1, h1⟩ : ∃ x1, cntOf 46 (flat ss) = x1 := ⟨_, rfl⟩
    rw [h1] at c1
    have H1 := hid h1
    clear h1
    have hz : ((x1 : Int) == 0) = (x1 == 0) := by rw [Bool.eq_iff_iff, beq_iff_eq, beq_iff_eq]; omega
    go_wp2_with fail
    refine c1.out.mono ?_
    rintro e w' ⟨rfl, rfl⟩
    go_wp2_with fail
    go_ret
    exact ⟨.inl ⟨n, m, HG.out, by rw [H1.out, ← hz]; rfl⟩, d, rfl⟩

/-- The cells that are still to come. -/
def NumRel (fl : List UInt8) (N : Nat) (w : World) (x i : Value) (wr : World) : Prop :=
  ∃ q : Nat, q ≤ N ∧ i = .int .i64 ((q : Int) - 1) ∧ x = .int .i64 ((numOf (fl.drop q) : Nat) : Int) ∧ ∃ d, wr = w.drewN d

theorem let3 (b : UInt8) (h : isLet b = true) : (b = 46 ∧ dig b = 0) ∨ (b = 114 ∧ dig b = 1) ∨ (b = 102 ∧ dig b = 2) := by
  simp only [isLet, Bool.or_eq_true, beq_iff_eq] at h
  rcases h with (rfl | rfl) | rfl <;> simp [dig]

set_option maxRecDepth 100000 in
set_option maxHeartbeats 1000000 in
theorem specGridNumber_any (A : Option Addr) (c B : Nat) (ss : List ByteArray) (w : World) (h : Strs w B A ss) (hn : ss.length ≤ 1048576) (hs : ∀ s ∈ ss, s.size ≤ 1048576) :
    Calls Try.prog 55 #[.slice A ss.length c] w fun e w' => NumberEnd ss e ∧ ∃ d, w' = w.drewN d := by
  have HI := hid (specGridIn_any A c B ss w h hn hs)
  have HD := hid h
  clear h hs
  go_enter Try.func55, Try.ntmps55
  go_wp2_with fail
  refine HI.out.mono ?_
  rintro e w' ⟨ok, rfl, hok, d, rfl⟩
  have HO := hid hok
  clear hok
  cases ok with
  | false =>
    go_wp2_with fail
    refine bodyPost_ret (results_tmp2 rfl _ _ _) rfl ?_
    exact ⟨.inr ⟨(fun n m hg => by have := HO.out.2 ⟨n, m, hg⟩; cases this), rfl⟩, d, rfl⟩
  | true =>
    obtain ⟨n, m, hg⟩ := HO.out.1 rfl
    obtain ⟨b, off, s0, rfl, hb, hk0, hc0⟩ := HD.out.at_ (k := 0) (by have := hg.1; have := hg.2.1; omega)
    rw [Nat.add_zero] at hc0
    have hm0 : s0.size = m := (hg.2.2.2.2.2 s0 (List.mem_of_getElem? hk0)).1
    have hmi : ((s0.size : Nat) : Int) = (m : Int) := by rw [hm0]
    have hn5 := hg.2.2.1
    have hm1 := hg.2.2.2.1
    have hm5 := hg.2.2.2.2.1
    have hnl := hg.1
    have hl0 : (0 : Int) < (ss.length : Int) := by have := hg.2.1; omega
    have hle := hg.le25
    have hfl := hg.flen
    obtain ⟨N, hN⟩ : ∃ N, n * m = N := ⟨_, rfl⟩
    have hNi : (ss.length : Int) * (m : Int) = (N : Int) := by rw [hnl, ← Int.natCast_mul, hN]
    rw [hN] at hle hfl
    have HN := hid hN
    have HG := hid hg
    have HK := hid hk0
    have HM0 := hid hm0
    have HNL := hid hnl
    have HFL := hid hfl
    clear hg hk0 hm0 hN hfl hnl
    by_cases h20 : N ≤ 20
    · have h20' : decide ((N : Int) > 20) = false := by simp; omega
      have h2i : (N : Int) ≤ 20 := by omega
      go_wp2_with fail
      go_loopw [4, 5] (NumRel (flat ss) N w) (fun _ i _ => (intOf i + 1).toNat)
      case atStart => exact ⟨N, Nat.le_refl _, rfl, by rw [List.drop_of_length_le (by rw [HFL.out]; exact Nat.le_refl _)]; rfl, d, rfl⟩
      case round =>
        obtain ⟨q, hq, rfl, rfl, d2, rfl⟩ := hrel
        cases q with
        | zero =>
          go_wp2_with fail
          refine bodyPost_ret (results_tmp2 rfl _ _ _) rfl ?_
          exact ⟨.inl ⟨n, m, HG.out, .inl ⟨by rw [HN.out]; exact h20, rfl⟩⟩, d2, rfl⟩
        | succ p =>
          have hpi : (((p + 1 : Nat) : Int) - 1) = (p : Int) := by omega
          rw [hpi]
          obtain ⟨r, hr⟩ : ∃ r, p / m = r := ⟨_, rfl⟩
          obtain ⟨cc, hcc⟩ : ∃ cc, p % m = cc := ⟨_, rfl⟩
          have hdiv : (p : Int) / (m : Int) = (r : Int) := by rw [← hr]; rfl
          have hmod : (p : Int) % (m : Int) = (cc : Int) := by rw [← hcc]; rfl
          have hrm : r * m + cc = p := by rw [← hr, ← hcc, Nat.mul_comm]; exact Nat.div_add_mod p m
          have hrn : r < ss.length := by rw [← hr, HNL.out, Nat.div_lt_iff_lt_mul (by omega), HN.out]; omega
          have hcm : cc < m := by rw [← hcc]; exact Nat.mod_lt _ (by omega)
          clear hr hcc
          obtain ⟨b', off', s, hA, hb', hks, hc⟩ := HD.out.at_ hrn
          obtain ⟨rfl, rfl⟩ : b = b' ∧ off = off' := by cases hA; exact ⟨rfl, rfl⟩
          have hsm : s.size = m := (HG.out.2.2.2.2.2 s (List.mem_of_getElem? hks)).1
          have hcs : cc < s.size := by rw [hsm]; exact hcm
          obtain ⟨bt, hbt⟩ : ∃ bt, s.data.toList[cc]? = some bt := ⟨_, List.getElem?_eq_getElem (by rw [← Lib.size_eq]; exact hcs)⟩
          have hbyte : s[cc] = bt := byte_of hbt hcs
          have hfq : (flat ss)[p]? = some bt := by
            have e := flat_at ss r cc s (fun i t _ ht => (HG.out.2.2.2.2.2 t (List.mem_of_getElem? ht)).1) hks hcs
            rw [hbt, hrm] at e
            exact e
          have hnd := numOf_drop hfq
          have hlt1 := numOf_lt ((flat ss).drop (p + 1))
          have hpw : 3 ^ ((flat ss).drop (p + 1)).length ≤ 3 ^ 20 := Nat.pow_le_pow_right (by omega) (by rw [List.length_drop, HFL.out]; omega)
          have hlb := HG.out.lets bt (List.mem_of_getElem? hfq)
          obtain ⟨xn, hxn⟩ : ∃ xn, numOf ((flat ss).drop (p + 1)) = xn := ⟨_, rfl⟩
          rw [hxn] at hnd hlt1 ⊢
          have hx0 : (0 : Int) ≤ (xn : Int) := Int.natCast_nonneg _
          have hx1 : (xn : Int) < 3486784401 := by
            have : xn < 3 ^ 20 := Nat.lt_of_lt_of_le hlt1 hpw
            have e : (3 : Nat) ^ 20 = 3486784401 := rfl
            omega
          have hmz : ((m : Int) == 0) = false := by simp; omega
          have hmz' : ¬ (m : Int) = 0 := by omega
          have HX := hid hnd
          have HRM := hid hrm
          clear hnd hlt1 hpw hxn hA hks hbt hfq hrm
          rcases let3 bt hlb with ⟨rfl, hdg⟩ | ⟨rfl, hdg⟩ | ⟨rfl, hdg⟩
          · rw [hdg] at HX
            clear hlb hdg
            go_wp2_with fail
            go_quiet (fail)
            go_wp2_with fail
            go_roundw
            case rel => exact ⟨p, by omega, rfl, by rw [HX.out]; simp, d2 + nq, rfl⟩
            case measure => simp [intOf]
          · rw [hdg] at HX
            clear hlb hdg
            go_wp2_with fail
            go_quiet (fail)
            go_wp2_with fail
            go_roundw
            case rel => exact ⟨p, by omega, rfl, by rw [HX.out]; rw [Int.natCast_add, Int.add_comm]; simp, d2 + nq, rfl⟩
            case measure => simp [intOf]
          · rw [hdg] at HX
            clear hlb hdg
            go_wp2_with fail
            go_quiet (fail)
            go_wp2_with fail
            go_roundw
            case rel => exact ⟨p, by omega, rfl, by rw [HX.out]; rw [Int.natCast_add, Int.add_comm]; simp, d2 + nq, rfl⟩
            case measure => simp [intOf]
    · have h2i : (20 : Int) < (N : Int) := by omega
      go_wp2_with fail
      refine bodyPost_ret (results_tmp2 rfl _ _ _) rfl ?_
      exact ⟨.inl ⟨n, m, HG.out, .inr ⟨by rw [HN.out]; omega, rfl⟩⟩, d, rfl⟩

theorem CountEnd_two {ss : List ByteArray} {e : Ending} (h : CountEnd ss e) : ∃ (x : Int) (ok : Bool), e = .returned (.tuple #[.int .i64 x, .bool ok]) := by
  rcases h with ⟨n, m, _, rfl⟩ | ⟨_, rfl⟩ <;> exact ⟨_, _, rfl⟩
theorem CountEnd_one {ss : List ByteArray} {e e' : Ending} (h : CountEnd ss e) (h' : CountEnd ss e') : e' = e := by
  rcases h with ⟨n, m, hg, rfl⟩ | ⟨hn, rfl⟩ <;> rcases h' with ⟨n', m', hg', rfl⟩ | ⟨hn', rfl⟩
  · rfl
  · exact absurd hg (hn' _ _)
  · exact absurd hg' (hn _ _)
  · rfl
theorem FullEnd_two {ss : List ByteArray} {e : Ending} (h : FullEnd ss e) : ∃ (ok : Bool), e = .returned (.bool ok) := by
  rcases h with ⟨n, m, _, rfl⟩ | ⟨_, rfl⟩ <;> exact ⟨_, rfl⟩
theorem FullEnd_one {ss : List ByteArray} {e e' : Ending} (h : FullEnd ss e) (h' : FullEnd ss e') : e' = e := by
  rcases h with ⟨n, m, hg, rfl⟩ | ⟨hn, rfl⟩ <;> rcases h' with ⟨n', m', hg', rfl⟩ | ⟨hn', rfl⟩
  · rfl
  · exact absurd hg (hn' _ _)
  · exact absurd hg' (hn _ _)
  · rfl
theorem NumberEnd_two {ss : List ByteArray} {e : Ending} (h : NumberEnd ss e) : ∃ (x : Int) (ok : Bool), e = .returned (.tuple #[.int .i64 x, .bool ok]) := by
  rcases h with ⟨n, m, _, ⟨_, rfl⟩ | ⟨_, rfl⟩⟩ | ⟨_, rfl⟩ <;> exact ⟨_, _, rfl⟩
theorem NumberEnd_one {ss : List ByteArray} {e e' : Ending} (h : NumberEnd ss e) (h' : NumberEnd ss e') : e' = e := by
  rcases h with ⟨n, m, hg, h1⟩ | ⟨hn, rfl⟩ <;> rcases h' with ⟨n', m', hg', h2⟩ | ⟨hn', rfl⟩
  · have e1 := hg.flen
    have e2 := hg'.flen
    rcases h1 with ⟨h1, rfl⟩ | ⟨h1, rfl⟩ <;> rcases h2 with ⟨h2, rfl⟩ | ⟨h2, rfl⟩
    · rfl
    · omega
    · omega
    · rfl
  · exact absurd hg (hn' _ _)
  · exact absurd hg' (hn _ _)
  · rfl
/-- The block that toStringS has made reads as the strings. -/
theorem madeRow {ss : List ByteArray} {w w' : World} {C : Array Value} (h : Filled ss ss.length C) (hw : w' = w.alloc (.cells C 9)) : Row9 w' w.heap.size ss := by
  subst hw
  exact ⟨C, heap_new0 w _, fun k s hk => h.2.1 k s (List.getElem?_eq_some_iff.1 hk).1 hk⟩

end Go.Proofs.Ytcomaodpnhoeaaa
