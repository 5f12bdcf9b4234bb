/- Pairings of the specification: l5In, by its contract; CrossIn of both. -/
import Derived.Test.YtkkifpjeafchnaaPairR
namespace Go.Proofs.Ytkkifpjeafchnaa
open Go.RowKit Go.Shelf

/-- Whether the list is a pairing, as a bool. -/
noncomputable def isPairB (l : List Int) : Bool := @decide (IsPair l) (Classical.propDecidable _)
theorem isPairB_true {l : List Int} (h : IsPair l) : isPairB l = true := by unfold isPairB; exact @decide_eq_true _ (Classical.propDecidable _) h
theorem isPairB_false {l : List Int} (h : ¬ IsPair l) : isPairB l = false := by unfold isPairB; exact @decide_eq_false _ (Classical.propDecidable _) h

set_option maxRecDepth 100000 in
set_option maxHeartbeats 2000000 in
theorem l5In_any (A : Option Addr) (c B : Nat) (l : List Int) (w : World) (h : Ints w B A l) (hn : l.length ≤ 1048576) :
    Calls Try.prog 128 #[.slice A l.length c] w fun e w' => e = .returned (.bool (isPairB l)) ∧ ∃ d, w' = w.drewN d := by
  have HI := hid h
  obtain ⟨n, hnl⟩ : ∃ n, l.length = n := ⟨_, rfl⟩
  rw [hnl]
  have HNL := hid hnl
  have g1 := hid (fun (x : Int) (w : World) => l6In_any x 0 ((n : Int) - 1) w)
  have g2 := hid (fun (w : World) => l6In_any (n : Int) 4 20 w)
  have HBAD := hid (show ∀ (p : Nat) (x : Int), p < n → l[p]? = some x → (x < 0 ∨ (n : Int) ≤ x ∨ x = (p : Int)) → isPairB l = false from fun p x hp hx hbad => isPairB_false fun hpr => by
    obtain ⟨q, h1, h2, h3, _⟩ := hpr.2.2 p (by rw [hnl]; exact hp)
    rw [hx] at h3
    have := Option.some.inj h3
    rw [hnl] at h1
    omega)
  have HBAD2 := hid (show ∀ (p q : Nat) (y : Int), p < n → l[p]? = some (q : Int) → l[q]? = some y → y ≠ (p : Int) → isPairB l = false from fun p q y hp hx hy hne => isPairB_false fun hpr => by
    obtain ⟨q', h1, h2, h3, h4⟩ := hpr.2.2 p (by rw [hnl]; exact hp)
    rw [hx] at h3
    obtain rfl : q = q' := by have := Option.some.inj h3; omega
    rw [hy] at h4
    exact hne (Option.some.inj h4))
  clear h
  go_enter Try.func128, Try.ntmps128
  go_wp2_with fail
  go_loopw [3] (fun (iv : Value) (wr : World) => ∃ k : Nat, k ≤ n ∧ iv = .int .i64 k ∧ Hid (∀ p, p < k → ∃ q, q < l.length ∧ q ≠ p ∧ l[p]? = some (q : Int) ∧ l[q]? = some (p : Int)) ∧ ∃ d, wr = w.drewN d) (fun i _ => n - (intOf i).toNat)
  case atStart => exact ⟨0, by omega, rfl, hid (fun p hp => absurd hp (by omega)), 0, rfl⟩
  case round =>
    obtain ⟨k, hk, rfl, hall, d, rfl⟩ := hrel
    have HALL := hall
    clear hall
    by_cases hlt : k < n
    · obtain ⟨b, off, x, rfl, hbw, hks, hc⟩ := HI.out.at_ (k := k) (by rw [HNL.out]; exact hlt)
      have hcd : (w.drewN d).cell? ⟨b, off + k, none⟩ = some (.int .i64 x) := hc
      have HKS := hid hks
      clear hks hbw hc
      go_wp2_with fail
      refine (g1.out x _).mono ?_
      rintro e w1 ⟨rfl, rfl⟩
      by_cases hin : 0 ≤ x ∧ x ≤ (n : Int) - 1
      · rw [decide_eq_true hin]
        obtain ⟨hx0, hxn⟩ := hin
        obtain ⟨q, rfl⟩ : ∃ q : Nat, x = (q : Int) := ⟨x.toNat, by omega⟩
        have hqn : q < n := by omega
        by_cases hxk : q = k
        · have HF := hid (HBAD.out k (q : Int) hlt HKS.out (.inr (.inr (by omega))))
          subst hxk
          go_wp2_with fail
          go_ret
          exact ⟨by rw [HF.out]; rfl, _, rfl⟩
        · have hxki : ¬ (q : Int) = (k : Int) := by omega
          obtain ⟨b', off', y, hA, hbw', hks', hc'⟩ := HI.out.at_ (k := q) (by rw [HNL.out]; exact hqn)
          have hcd' : (w.drewN d).cell? ⟨b, off + q, none⟩ = some (.int .i64 y) := by
            have e := Option.some.inj hA
            have e1 := congrArg Addr.block e
            have e2 := congrArg Addr.off e
            simp only at e1 e2
            rw [e1, e2]
            exact hc'
          have HKS' := hid hks'
          clear hA hbw' hks' hc'
          by_cases hyk : y = (k : Int)
          · have HKS2 := hid (show l[q]? = some (k : Int) by rw [HKS'.out, hyk])
            rw [hyk] at hcd'
            clear HKS' hyk
            go_wp2_with fail
            go_roundw
            case rel => exact ⟨k + 1, by omega, by go_num, hid (fun p hp => by
              by_cases hpk : p = k
              · subst hpk
                exact ⟨q, by rw [HNL.out]; exact hqn, hxk, HKS.out, HKS2.out⟩
              · exact HALL.out p (by omega)), _, rfl⟩
            case measure => simp [intOf]; omega
          · have HF := hid (HBAD2.out k q y hlt HKS.out HKS'.out hyk)
            have hyb : (y != (k : Int)) = true := by simpa using hyk
            go_wp2_with fail
            go_ret
            exact ⟨by rw [HF.out]; rfl, _, rfl⟩
      · have HF := hid (HBAD.out k x hlt HKS.out (by omega))
        rw [decide_eq_false hin]
        go_wp2_with fail
        go_ret
        exact ⟨by rw [HF.out]; rfl, _, rfl⟩
    · obtain rfl : k = n := by omega
      go_wp2_with fail
      refine (g2.out _).mono ?_
      rintro e w1 ⟨rfl, rfl⟩
      by_cases hin : 4 ≤ k ∧ k ≤ 20
      · have HF := hid (isPairB_true (l := l) ⟨by rw [HNL.out]; exact hin.1, by rw [HNL.out]; exact hin.2, fun p hp => HALL.out p (by rw [← HNL.out]; exact hp)⟩)
        rw [decide_eq_true (show (4 : Int) ≤ (k : Int) ∧ (k : Int) ≤ 20 by omega)]
        go_wp2_with fail
        go_ret
        exact ⟨by rw [HF.out]; rfl, _, rfl⟩
      · have HF := hid (isPairB_false (l := l) fun h => hin ⟨by have := h.1; rw [HNL.out] at this; exact this, by have := h.2.1; rw [HNL.out] at this; exact this⟩)
        rw [decide_eq_false (show ¬ ((4 : Int) ≤ (k : Int) ∧ (k : Int) ≤ 20) by omega)]
        go_wp2_with fail
        go_ret
        exact ⟨by rw [HF.out]; rfl, _, rfl⟩

end Go.Proofs.Ytkkifpjeafchnaa
