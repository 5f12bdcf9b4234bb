/- GridOf of the program and of the specification, by their contracts. -/
import Derived.Test.YtkgjhchgflichaaOfI
import Derived.Test.YtkgjhchgflichaaBunF
namespace Go.Proofs.Ytkgjhchgflichaa
open Go.RowKit Go.Shelf

set_option maxRecDepth 100000 in
set_option maxHeartbeats 1000000 in
theorem implGridOf_any (a b x : Int) (w : World) (hx : x ≤ 9223372036854775807) :
    Calls Try.prog 44 #[.int .i64 a, .int .i64 b, .int .i64 x] w fun e w' => Below w.heap.size w w' ∧ ∃ A res ok, e = .returned (.tuple #[.slice A res.length res.length, .bool ok]) ∧ OfOut a b x ok res ∧ Own2 w' w.heap.size A res := by
  have HR := hid (numberedGrid_any a b x w hx)
  go_enter Try.func44, Try.ntmps44
  go_wp2_with fail
  refine HR.out.mono ?_
  rintro e w1 ⟨hbel, ⟨n, m, k, hg, rfl⟩ | ⟨hno, rfl⟩⟩
  · have HB := hid hbel
    have hpl : (pad (ofL k (n * m))).length = 25 := pad_length (by rw [ofL_length]; exact hg.le25)
    have HGr := hid hg
    have HS := hid (show (Try.prog.info? 57).map (·.size) = some (gcells n m (pad (ofL k (n * m)))).size by rw [gcells_size hpl]; exact Try.size_grid)
    have HZ := hid (show zeroG.size = (gcells n m (pad (ofL k (n * m)))).size by rw [gcells_size hpl]; rfl)
    have HL := hid (setRow_heap (w1.alloc (.cells zeroG 57)) w1.heap.size zeroG (gcells n m (pad (ofL k (n * m)))) 57 (0, 0) (heap_new0 w1 _))
    have HW := hid (HB.out.trans (below_setRow' ((Below.refl _ w1).alloc HB.out.size (.cells zeroG 57)) HB.out.size (gcells n m (pad (ofL k (n * m))))))
    have HT := hid (texts_any n m (pad (ofL k (n * m))) ((w1.alloc (.cells zeroG 57)).setRow w1.heap.size (gcells n m (pad (ofL k (n * m))))) hpl hg.2.2.2.2.1 hg.2.2.2.2.2.2.1)
    clear hbel hg hpl
    go_wp2_with (first
      | refine wpList_store_row rfl 57 _ _ rfl w1.heap.size (gcells n m (pad (ofL k (n * m)))) rfl rfl 57 zeroG (heap_new0 w1 _) HS.out HZ.out (gcells_one _ _ _) ?_
      | refine wpList_load_row rfl 57 _ rfl w1.heap.size rfl 57 (gcells n m (pad (ofL k (n * m)))) (0, 0) _ HL.out Try.underlying57 rfl HS.out ?_)
    generalize World.setRow _ _ _ = W0 at HL HW HT
    refine HT.out.mono ?_
    rintro e w3 ⟨rfl, hrow, hb3⟩
    have HB3 := hid (HW.out.trans (hb3.mono HW.out.size))
    have HRow := hid hrow
    clear hb3 hrow
    go_wp2_with fail
    refine bodyPost_ret (results_tmp2 rfl _ _ _) rfl ?_
    have hlen : (ruleG n m (ofF m k)).length = n := ruleG_length _ _ _
    refine ⟨HB3.out, some ⟨W0.heap.size + 1, 0, none⟩, ruleG n m (ofF m k), true, by rw [hlen]; rfl, .inl ⟨n, m, k, HGr.out, rfl, rfl⟩, .inr ⟨_, rfl, by have := HW.out.size; omega, ?_⟩⟩
    rw [← of_same]; exact HRow.out
  · have HB := hid hbel
    have HGr := hid hno
    clear hbel hno
    go_wp2_with (refine wpList_store_row rfl 57 _ _ rfl w1.heap.size zeroG rfl rfl 57 zeroG (heap_new0 w1 _) Try.size_grid rfl (gcells_one 0 0 (pad [])) ?_)
    refine bodyPost_ret (results_tmp2 rfl _ _ _) rfl ?_
    exact ⟨HB.out.trans (below_setRow' ((Below.refl _ w1).alloc HB.out.size _) HB.out.size _), none, [], false, rfl, .inr ⟨HGr.out, rfl, rfl⟩, .inl ⟨rfl, rfl⟩⟩

def PowRel (K : Nat) (x i : Value) : Prop := ∃ r : Nat, r ≤ K ∧ i = .int .i64 r ∧ x = .int .i64 ((3 ^ r : Nat) : Int)
set_option maxHeartbeats 400000 in
theorem l1Power_any (K : Nat) (w : World) (hK : K ≤ 25) :
    Calls Try.prog 90 #[.int .i64 K] w fun e w' => e = .returned (.int .i64 ((3 ^ K : Nat) : Int)) ∧ w = w' := by
  go_enter Try.func90, Try.ntmps90
  go_wp2
  go_loop [3, 4] (PowRel K) (fun _ i => K - (intOf i).toNat)
  case atStart => exact ⟨0, Nat.zero_le _, rfl, rfl⟩
  case round =>
    obtain ⟨r, hr, rfl, rfl⟩ := hrel
    have hpw : 3 ^ r ≤ 3 ^ 25 := Nat.pow_le_pow_right (by omega) (by omega)
    have hsu : 3 ^ (r + 1) = 3 ^ r * 3 := Nat.pow_succ ..
    obtain ⟨pv, hpv⟩ : ∃ pv, 3 ^ r = pv := ⟨_, rfl⟩
    rw [hpv] at hpw hsu ⊢
    have h1 : (pv : Int) ≤ 847288609443 := by
      have e : (3 : Nat) ^ 25 = 847288609443 := rfl
      omega
    have h0 : 0 ≤ (pv : Int) := Int.natCast_nonneg _
    have HSU := hid hsu
    have HPV := hid hpv
    clear hpw hsu hpv
    by_cases hlt : r < K
    · go_wp2
      go_round
      case rel => exact ⟨r + 1, by omega, by go_num, by rw [HSU.out, Int.natCast_mul]; rfl⟩
      case measure => simp [intOf]; omega
    · obtain rfl : r = K := by omega
      go_wp2
      go_ret
      refine ⟨?_, rfl⟩
      show Ending.returned (Value.int .i64 (pv : Int)) = _
      rw [← HPV.out, Int.natCast_pow]; rfl

def OutOf (n m k : Nat) (w : World) (x v i : Value) (wr : World) : Prop :=
  ∃ r : Nat, r ≤ n ∧ i = .int .i64 r ∧ x = .int .i64 ((k / 3 ^ (r * m) : Nat) : Int) ∧ GrowS wr w.heap.size v ((ruleG n m (ofF m k)).take r) ∧ Below w.heap.size w wr
def InOf (n m k r : Nat) (w wo : World) (ov : Value) (x v i : Value) (wr : World) : Prop :=
  ∃ p : Nat, p ≤ m ∧ i = .int .i64 p ∧ x = .int .i64 ((k / 3 ^ (r * m + p) : Nat) : Int) ∧ GrowB wr wo.heap.size v ((ruleL m (ofF m k r)).take p) ∧ GrowS wr w.heap.size ov ((ruleG n m (ofF m k)).take r) ∧ Below w.heap.size w wr ∧ wo.heap.size ≤ wr.heap.size

set_option maxRecDepth 100000 in
set_option maxHeartbeats 2000000 in
theorem l1Of_any (n m k : Nat) (w : World) (hn5 : n ≤ 5) (hm1 : 1 ≤ m) (hm5 : m ≤ 5) (hk : (k : Int) ≤ 9223372036854775807) :
    Calls Try.prog 91 #[.int .i64 n, .int .i64 m, .int .i64 k] w fun e w' => (∃ v, e = .returned v ∧ GrowS w' w.heap.size v (ruleG n m (ofF m k))) ∧ Below w.heap.size w w' := by
  go_enter Try.func91, Try.ntmps91
  go_wp2
  go_loopw [2, 7, 8] (OutOf n m k w) (fun _ _ i _ => n - (intOf i).toNat)
  case atStart => exact ⟨0, Nat.zero_le _, rfl, by simp, growS_new w _ (Nat.le_refl _), (Below.refl _ w).alloc (Nat.le_refl _) _⟩
  case round =>
    obtain ⟨r, hr, rfl, rfl, hgs, hbel⟩ := hrel
    have HS := hid hgs
    have HB := hid hbel
    clear hgs hbel
    by_cases hlt : r < n
    · obtain ⟨wo, rfl⟩ : ∃ wo : World, wo = wr := ⟨_, rfl⟩
      obtain ⟨ov, rfl⟩ : ∃ ov : Value, ov = u7 := ⟨_, rfl⟩
      obtain ⟨kr, hkr⟩ : ∃ kr, k / 3 ^ (r * m) = kr := ⟨_, rfl⟩
      have HKR := hid hkr
      rw [hkr]
      clear hkr
      go_wp2_with fail
      go_loopw [2, 9, 10] (InOf n m k r w wo ov) (fun _ _ i _ => m - (intOf i).toNat)
      case atStart =>
        exact ⟨0, Nat.zero_le _, rfl, by rw [Nat.add_zero, HKR.out], by rw [List.take_zero]; exact growB_new wo _ (Nat.le_refl _), HS.out.alloc _, HB.out.alloc HB.out.size _, by simp⟩
      case round =>
        obtain ⟨p, hp, rfl, rfl, hgB, hgS, hbel, hsz⟩ := hrel
        have HGB := hid hgB
        have HGS := hid hgS
        have HB2 := hid hbel
        have HZ := hid hsz
        clear hgB hgS hbel hsz
        by_cases hlp : p < m
        · obtain ⟨kc, hkc⟩ : ∃ kc, k / 3 ^ (r * m + p) = kc := ⟨_, rfl⟩
          have hkk : kc ≤ k := by rw [← hkc]; exact Nat.div_le_self _ _
          have HKC := hid hkc
          rw [hkc]
          clear hkc
          obtain ⟨kd, hkdd⟩ : ∃ kd, kc / 3 = kd := ⟨_, rfl⟩
          have hki : (kc : Int) / 3 = (kd : Int) := by omega
          have HKD := hid (show k / 3 ^ (r * m + (p + 1)) = kd by rw [← Nat.add_assoc, div_pow, HKC.out, hkdd])
          clear hkdd
          obtain ⟨dd, hdd⟩ : ∃ dd, kc % 3 = dd := ⟨_, rfl⟩
          have hd3 : dd = 0 ∨ dd = 1 ∨ dd = 2 := by omega
          have hdi : (kc : Int) % 3 = (dd : Int) := by omega
          have HDD := hid (show ofF m k r p = letD dd by unfold ofF; rw [HKC.out, hdd])
          clear hdd
          rcases hd3 with rfl | rfl | rfl
          all_goals
            obtain ⟨bt, hbt⟩ : ∃ bt, ofF m k r p = bt := ⟨_, rfl⟩
            have HBT := hid hbt
            have hbv := HDD.out
            rw [hbt] at hbv
            first | rw [show letD 0 = 46 from rfl] at hbv | rw [show letD 1 = 114 from rfl] at hbv | rw [show letD 2 = 102 from rfl] at hbv
            subst hbv
            clear hbt
            go_wp2_with (at_builtin; refine wpList_appendB rfl _ _ rfl wo.heap.size u9 ((ruleL m (ofF m k r)).take p) rfl (HGB.out.alloc _) wr.heap.size 1 rfl _ (cell_newB wr _) ?c3 (Nat.le_trans HZ.out (by simp)) ?_)
            case c3 => rw [List.length_take, ruleL_length]; omega
            intro v' w' hgr hgw
            have HGR := hid hgr
            have HGW := hid hgw
            clear hgr hgw
            go_wp2
            go_roundw
            case rel =>
              refine ⟨p + 1, by omega, by go_num, by rw [HKD.out], ?_, ?_, ?_, ?_⟩
              · rw [ruleL, range_take m p _ hlp, HBT.out]
                exact HGR.out
              · exact grown_other (World.ownsRow.alloc HGS.out _) (World.ownsRow.alloc HGB.out _) (fun k e => (ownBlock_lt HS.out k e).2) (Nat.le_refl _) HGW.out
              · exact (HB2.out.alloc HB2.out.size _).grown HGW.out (Nat.le_trans HB2.out.size (by simp)) (fun k e => Nat.le_trans HB.out.size (World.ownsRow.lt HGB.out k e).1)
              · exact Nat.le_trans (Nat.le_trans HZ.out (by simp)) HGW.out.size
            case measure => simp [intOf]; omega
        · obtain rfl : p = m := by omega
          have hcv := growB_text HGB.out (by rw [List.take_of_length_le (by rw [ruleL_length]; exact Nat.le_refl _), ruleL_length]; exact hm1)
          rw [List.take_of_length_le (by rw [ruleL_length]; exact Nat.le_refl _)] at hcv
          obtain ⟨tx, htx⟩ : ∃ tx : ByteArray, (⟨(ruleL p (ofF p k r)).toArray⟩ : ByteArray) = tx := ⟨_, rfl⟩
          rw [htx] at hcv
          have HTX := hid htx
          clear htx
          obtain ⟨kc, hkc⟩ : ∃ kc, k / 3 ^ (r * p + p) = kc := ⟨_, rfl⟩
          have HKC := hid hkc
          rw [hkc]
          clear hkc
          go_wp2_with (at_builtin; refine wpList_appendS rfl _ _ rfl w.heap.size ov ((ruleG n p (ofF p k)).take r) rfl (HGS.out.alloc _) wr.heap.size 1 rfl tx (cell_new wr tx) ?c3 (Nat.le_trans HB2.out.size (by simp)) ?_)
          case c3 => rw [List.length_take, ruleG_length]; omega
          intro v' w' hgr hgw
          have HGR := hid hgr
          have HGW := hid hgw
          clear hgr hgw
          go_wp2
          go_roundw
          case rel =>
            refine ⟨r + 1, by omega, by go_num, by rw [Nat.add_mul, Nat.one_mul, HKC.out], ?_, (HB2.out.alloc HB2.out.size _).grown HGW.out (Nat.le_trans HB2.out.size (by simp)) (fun k e => (ownBlock_lt HGS.out k e).1)⟩
            rw [ruleG, range_take n r _ hlt, HTX.out]
            exact HGR.out
          case measure => simp [intOf]; omega
    · obtain rfl : r = n := by omega
      have HS' := HS.out
      rw [List.take_of_length_le (by rw [ruleG_length]; exact Nat.le_refl _)] at HS'
      have HSS := hid HS'
      clear HS'
      go_wp2_with fail
      go_ret
      exact ⟨⟨_, rfl, HSS.out⟩, HB.out⟩
set_option maxRecDepth 100000 in
set_option maxHeartbeats 1000000 in
theorem specGridOf_any (a b x : Int) (w : World) (hx : x ≤ 9223372036854775807) :
    Calls Try.prog 45 #[.int .i64 a, .int .i64 b, .int .i64 x] w fun e w' => Below w.heap.size w w' ∧ ∃ A c res ok, e = .returned (.tuple #[.slice A res.length c, .bool ok]) ∧ OfOut a b x ok res ∧ Strs w' w'.heap.size A res := by
  have g1 := hid (l6In_any a 1 5)
  have g2 := hid (l6In_any b 1 5)
  have hnone : ∀ {w' : World} {A : Option Addr}, Strs w' w'.heap.size A [] := fun {w' A} => Strs.nil_ w' _ A
  have HNIL := hid (fun (w' : World) (A : Option Addr) => Strs.nil_ w' w'.heap.size A)
  clear hnone
  go_enter Try.func45, Try.ntmps45
  go_wp2_with fail
  refine (g1.out _).mono ?_
  rintro e w' ⟨rfl, rfl⟩
  by_cases ha : 1 ≤ a ∧ a ≤ 5
  · rw [show decide (1 ≤ a ∧ a ≤ 5) = true by simpa using ha]
    have HA := hid ha
    clear ha
    go_wp2_with fail
    refine (g2.out _).mono ?_
    rintro e w' ⟨rfl, rfl⟩
    by_cases hb : 1 ≤ b ∧ b ≤ 5
    · rw [show decide (1 ≤ b ∧ b ≤ 5) = true by simpa using hb]
      have HB := hid hb
      clear hb
      obtain ⟨n, rfl⟩ : ∃ n : Nat, a = n := ⟨a.toNat, by have := HA.out.1; omega⟩
      obtain ⟨m, rfl⟩ : ∃ m : Nat, b = m := ⟨b.toNat, by have := HB.out.1; omega⟩
      have hn1 : 1 ≤ n := by have := HA.out.1; omega
      have hn5 : n ≤ 5 := by have := HA.out.2; omega
      have hm1 : 1 ≤ m := by have := HB.out.1; omega
      have hm5 : m ≤ 5 := by have := HB.out.2; omega
      obtain ⟨N, hN⟩ : ∃ N, n * m = N := ⟨_, rfl⟩
      have hN25 : N ≤ 5 * 5 := by rw [← hN]; exact Nat.mul_le_mul hn5 hm5
      have hNi : (n : Int) * (m : Int) = (N : Int) := by rw [← hN, Int.natCast_mul]
      have hNN : (N : Int) ≤ 25 := by omega
      have HN := hid hN
      have HP := hid (fun w => l1Power_any N w (by omega))
      have hpw : 3 ^ N ≤ 3 ^ 25 := Nat.pow_le_pow_right (by omega) (by omega)
      obtain ⟨pv, hpv⟩ : ∃ pv, 3 ^ N = pv := ⟨_, rfl⟩
      rw [hpv] at HP hpw
      have h1 : (pv : Int) ≤ 847288609443 := by
        have e : (3 : Nat) ^ 25 = 847288609443 := rfl
        omega
      have h0 : 0 ≤ (pv : Int) := Int.natCast_nonneg _
      have HPV := hid hpv
      clear hN hpw hpv
      go_wp2_with fail
      refine (HP.out _).mono ?_
      rintro e w' ⟨rfl, rfl⟩
      have g3 := hid (l6In_any x 0 ((pv : Int) - 1))
      go_wp2_with fail
      refine (g3.out _).mono ?_
      rintro e w' ⟨rfl, rfl⟩
      by_cases hin : 0 ≤ x ∧ x ≤ (pv : Int) - 1
      · rw [show decide (0 ≤ x ∧ x ≤ (pv : Int) - 1) = true by simpa using hin]
        obtain ⟨k, rfl⟩ : ∃ k : Nat, x = k := ⟨x.toNat, by omega⟩
        have HYes := hid (show OfIn n m k n m k from ⟨rfl, rfl, rfl, hn1, hn5, hm1, hm5, by rw [HN.out, HPV.out]; omega⟩)
        have HOf := hid (l1Of_any n m k w hn5 hm1 hm5 hx)
        clear hin
        go_wp2_with fail
        refine HOf.out.mono ?_
        rintro e w1 ⟨⟨v, rfl, hgr⟩, hb1⟩
        obtain ⟨A1, cc, rfl, hst⟩ := hgr.strs
        have HB1 := hid hb1
        have HST := hid hst
        clear hb1 hgr hst
        go_wp2_with fail
        refine bodyPost_ret (results_tmp2 rfl _ _ _) rfl ?_
        exact ⟨HB1.out, A1, cc, _, true, rfl, .inl ⟨n, m, k, HYes.out, rfl, rfl⟩, HST.out⟩
      · rw [show decide (0 ≤ x ∧ x ≤ (pv : Int) - 1) = false by simpa using hin]
        have HNo := hid (show OfNone n m x from fun n' m' k' h => by
          obtain ⟨h1, h2, h3, _, _, _, _, h8⟩ := h
          obtain rfl : n' = n := by omega
          obtain rfl : m' = m := by omega
          rw [HN.out, HPV.out] at h8
          omega)
        clear hin
        go_wp2_with fail
        refine (l1None_any _).mono ?_
        rintro e w1 ⟨⟨A1, c1, rfl⟩, hb1⟩
        have HB1 := hid hb1
        clear hb1
        go_wp2_with fail
        refine bodyPost_ret (results_tmp2 rfl _ _ _) rfl ?_
        exact ⟨HB1.out, A1, c1, [], false, rfl, .inr ⟨HNo.out, rfl, rfl⟩, HNIL.out _ _⟩
    · rw [show decide (1 ≤ b ∧ b ≤ 5) = false by simpa using hb]
      have HNo := hid (show OfNone a b x from fun n m k h => by have := h.2.1; have := h.2.2.2.2.2.1; have := h.2.2.2.2.2.2.1; omega)
      clear hb
      go_wp2_with fail
      refine (l1None_any _).mono ?_
      rintro e w1 ⟨⟨A1, c1, rfl⟩, hb1⟩
      have HB1 := hid hb1
      clear hb1
      go_wp2_with fail
      refine bodyPost_ret (results_tmp2 rfl _ _ _) rfl ?_
      exact ⟨HB1.out, A1, c1, [], false, rfl, .inr ⟨HNo.out, rfl, rfl⟩, HNIL.out _ _⟩
  · rw [show decide (1 ≤ a ∧ a ≤ 5) = false by simpa using ha]
    have HNo := hid (show OfNone a b x from fun n m k h => by have := h.1; have := h.2.2.2.1; have := h.2.2.2.2.1; omega)
    clear ha
    go_wp2_with fail
    refine (l1None_any _).mono ?_
    rintro e w1 ⟨⟨A1, c1, rfl⟩, hb1⟩
    have HB1 := hid hb1
    clear hb1
    go_wp2_with fail
    refine bodyPost_ret (results_tmp2 rfl _ _ _) rfl ?_
    exact ⟨HB1.out, A1, c1, [], false, rfl, .inr ⟨HNo.out, rfl, rfl⟩, HNIL.out _ _⟩

end Go.Proofs.Ytkgjhchgflichaa
