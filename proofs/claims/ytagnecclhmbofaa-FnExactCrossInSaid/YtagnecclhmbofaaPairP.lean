/- Pairings in plain words: lists whose partners are partners; their length is even; turned. No program is named. -/
import Derived.Test.YtagnecclhmbofaaPairI
namespace Go.Proofs.Ytagnecclhmbofaa

theorem sumN_swap (F : Nat → Nat → Nat) (M : Nat) : ∀ N, sumN (fun p => sumN (fun q => F p q) M) N = sumN (fun q => sumN (fun p => F p q) N) M
  | 0 => by
    have : ∀ M, sumN (fun _ => 0) M = 0 := fun M => by induction M with
      | zero => rfl
      | succ M ih => rw [sumN, ih]
    exact (this M).symm
  | N + 1 => by
    rw [sumN, sumN_swap F M N, ← sumN_add]
    rfl
theorem sumN_cnt (p : Nat → Bool) : ∀ N, sumN (fun c => if p c = true then 1 else 0) N = (List.range N).countP p
  | 0 => rfl
  | N + 1 => by
    rw [sumN, sumN_cnt p N, List.range_succ, List.countP_append, List.countP_cons, List.countP_nil]
    omega

/-- The list is a pairing: each place has another one, whose own one is it. -/
def IsPair (l : List Int) : Prop := 4 ≤ l.length ∧ l.length ≤ 20 ∧ ∀ p, p < l.length → ∃ q, q < l.length ∧ q ≠ p ∧ l[p]? = some (q : Int) ∧ l[q]? = some (p : Int)
/-- The partner of a place. -/
def mateN (l : List Int) (p : Nat) : Nat := (l.getD p 0).toNat
theorem IsPair.mates {l : List Int} (h : IsPair l) {p : Nat} (hp : p < l.length) : mateN l p < l.length ∧ mateN l p ≠ p ∧ l[p]? = some (mateN l p : Int) ∧ mateN l (mateN l p) = p := by
  obtain ⟨q, h1, h2, h3, h4⟩ := h.2.2 p hp
  have e : mateN l p = q := by
    unfold mateN
    rw [List.getD_eq_getElem?_getD, h3]
    rfl
  rw [e]
  refine ⟨h1, h2, h3, ?_⟩
  unfold mateN
  rw [List.getD_eq_getElem?_getD, h4]
  rfl
theorem IsPair.even {l : List Int} (h : IsPair l) : l.length % 2 = 0 := by
  obtain ⟨n, hn⟩ : ∃ n, l.length = n := ⟨_, rfl⟩
  have hm : ∀ p, p < n → mateN l p < n ∧ mateN l p ≠ p ∧ mateN l (mateN l p) = p := fun p hp => by
    have := h.mates (p := p) (by omega)
    rw [hn] at this
    exact ⟨this.1, this.2.1, this.2.2.2⟩
  rw [hn]
  generalize mateN l = s at hm
  have hA : sumN (fun p => if p < s p then 1 else 0) n = sumN (fun p => sumN (fun q => if s p = q then (if p < q then 1 else 0) else 0) n) n := by
    refine sumN_congr n fun p hp => ?_
    have e : sumN (fun q => if s p = q then (if p < q then 1 else 0) else 0) n = sumN (fun q => if s p = q then (if p < s p then 1 else 0) else 0) n := sumN_congr n fun q _ => by
      by_cases e : s p = q
      · rw [if_pos e, if_pos e, e]
      · rw [if_neg e, if_neg e]
    rw [e, sumN_one, if_pos (hm p hp).1]
  have hB : sumN (fun q => if s q < q then 1 else 0) n = sumN (fun q => sumN (fun p => if s p = q then (if p < q then 1 else 0) else 0) n) n := by
    refine sumN_congr n fun q hq => ?_
    have e : sumN (fun p => if s p = q then (if p < q then 1 else 0) else 0) n = sumN (fun p => if s q = p then (if s q < q then 1 else 0) else 0) n := sumN_congr n fun p hp => by
      by_cases e : s p = q
      · have e2 : s q = p := by rw [← e]; exact (hm p hp).2.2
        rw [if_pos e, if_pos e2, e2]
      · have e2 : ¬ s q = p := fun e2 => e (by rw [← e2]; exact (hm q hq).2.2)
        rw [if_neg e, if_neg e2]
    rw [e, sumN_one, if_pos (hm q hq).1]
  have hAB : sumN (fun p => (if p < s p then 1 else 0) + (if s p < p then 1 else 0)) n = n := by
    have e : sumN (fun p => (if p < s p then 1 else 0) + (if s p < p then 1 else 0)) n = sumN (fun _ => 1) n := sumN_congr n fun p hp => by
      have := (hm p hp).2.1
      by_cases h1 : p < s p
      · rw [if_pos h1, if_neg (by omega)]
      · rw [if_neg h1, if_pos (by omega)]
    have e1 : ∀ N, sumN (fun _ => 1) N = N := fun N => by induction N with
      | zero => rfl
      | succ N ih => rw [sumN, ih]
    rw [e, e1]
  rw [sumN_add, hA, hB, sumN_swap] at hAB
  omega

/-- All ports are counted. -/
def portsN (l : List Int) : Nat := (List.range 20).countP fun k : Nat => l[k]? != some (k : Int)
theorem portsN_pad {l : List Int} (hl : l.length ≤ 20) (h : ∀ p, p < l.length → l[p]? ≠ some (p : Int)) : portsN (padTo l) = l.length := by
  have main : ∀ N, N ≤ 20 → ((List.range N).countP fun k : Nat => (padTo l)[k]? != some (k : Int)) = min N l.length := fun N => by
    induction N with
    | zero => intro _; simp
    | succ N ih =>
      intro hN
      rw [List.range_succ, List.countP_append, ih (by omega), List.countP_cons, List.countP_nil]
      by_cases hk : N < l.length
      · have e : ((padTo l)[N]? != some (N : Int)) = true := by
          rw [padTo_at (List.getElem?_eq_getElem hk), bne_iff_ne]
          have := h N hk
          rwa [List.getElem?_eq_getElem hk] at this
        rw [if_pos e]
        omega
      · have e : ((padTo l)[N]? != some (N : Int)) = false := by
          rw [padTo_behind (by omega) (by omega)]
          simp
        rw [e, if_neg (by decide)]
        omega
  unfold portsN
  rw [main 20 (Nat.le_refl _)]
  omega
theorem IsPair.ports {l : List Int} (h : IsPair l) : portsN (padTo l) = l.length := portsN_pad h.2.1 fun p hp e => by
  have := (h.mates hp)
  rw [e] at this
  have h2 := Option.some.inj this.2.2.1
  omega
/-- Back is where it began just for pairings. -/
theorem back_pair {l : List Int} (h4 : 4 ≤ l.length) (h20 : l.length ≤ 20) (h : ∀ p, p < l.length → ∃ q, q < l.length ∧ q ≠ p ∧ l[p]? = some (q : Int)) : backL (padTo l) = idL ↔ IsPair l := by
  constructor
  · intro e
    refine ⟨h4, h20, fun p hp => ?_⟩
    obtain ⟨q, h1, h2, h3⟩ := h p hp
    refine ⟨q, h1, h2, h3, ?_⟩
    have e1 := backL_at (padTo_at h3) (padTo_at (List.getElem?_eq_getElem h1))
    rw [e, idL_at (by omega)] at e1
    rw [List.getElem?_eq_getElem h1, ← e1]
  · intro hp
    refine List.ext_getElem? fun k => ?_
    by_cases hk : k < 20
    · rw [idL_at hk]
      by_cases hkl : k < l.length
      · obtain ⟨q, h1, h2, h3, h5⟩ := hp.2.2 k hkl
        exact backL_at (padTo_at h3) (padTo_at h5)
      · have e := padTo_behind (l := l) (by omega) hk
        exact backL_at e e
    · rw [List.getElem?_eq_none (by rw [backL_length, padTo_length h20]; omega), List.getElem?_eq_none (by rw [idL_length]; omega)]
theorem pad_in {l : List Int} (h20 : l.length ≤ 20) (h : ∀ p, p < l.length → ∃ q, q < l.length ∧ q ≠ p ∧ l[p]? = some (q : Int)) : ∀ k : Nat, k < 20 → ∃ q : Nat, q < 20 ∧ (padTo l)[k]? = some (q : Int) := fun k hk => by
  by_cases hkl : k < l.length
  · obtain ⟨q, h1, _, h3⟩ := h k hkl
    exact ⟨q, by omega, padTo_at h3⟩
  · exact ⟨k, hk, padTo_behind (by omega) hk⟩
end Go.Proofs.Ytagnecclhmbofaa
