/- Pairings with numbers moved on: pairings, back again, as many crossings. No program is named. -/
import Derived.Test.YtonhnmpgikmlpaaBunS
import Derived.Test.YtonhnmpgikmlpaaBunV
import Derived.Test.YtonhnmpgikmlpaaGridQ
import Derived.Test.YtonhnmpgikmlpaaBeamP
namespace Go.Proofs.Ytonhnmpgikmlpaa

theorem isPairB_iff {l : List Int} : isPairB l = true ↔ IsPair l := by
  constructor
  · intro h
    apply Classical.byContradiction
    intro h2
    rw [isPairB_false h2] at h
    cases h
  · exact isPairB_true
theorem turnL_mate {l : List Int} {k q : Nat} (_h : IsPair l) (hq : q < l.length) : mateN (turnL l k) ((q + k) % l.length) = (mateN l q + k) % l.length := by
  have hn := turn_names (p := l.length) (k := k)
  rw [turnL_ren, listS_mate (Nat.mod_lt _ (by omega))]
  exact renS_at hn hq
/-- Do the chords of two ports cross? -/
def inB (lo hi q : Nat) : Bool := decide (min lo hi < q ∧ q < max lo hi)
def crX (s : Nat → Nat) (p q : Nat) : Bool := decide (q ≠ p ∧ q ≠ s p) && (inB p (s p) q != inB p (s p) (s q))
def crN (s : Nat → Nat) (p q : Nat) : Nat := if p < q ∧ q < s p ∧ s p < s q then 1 else 0
theorem ite_or (P : Prop) [Decidable P] : (P ∧ (if P then 1 else 0) = 1) ∨ (¬ P ∧ (if P then 1 else 0) = 0) := by
  by_cases h : P
  · exact .inl ⟨h, if_pos h⟩
  · exact .inr ⟨h, if_neg h⟩
set_option maxHeartbeats 4000000 in
theorem cr_eight {N : Nat} {s : Nat → Nat} (h : Mates N s) {p q : Nat} (hp : p < N) (hq : q < N) :
    (if crX s p q = true then 1 else 0) = crN s p q + crN s p (s q) + crN s (s p) q + crN s (s p) (s q) + (crN s q p + crN s q (s p) + crN s (s q) p + crN s (s q) (s p)) := by
  have a1 := h.ne p hp
  have a2 := h.ne q hq
  have b1 := h.back p hp
  have b2 := h.back q hq
  unfold crX crN inB
  rw [b1, b2]
  by_cases e1 : q = p
  · subst e1
    simp only [ne_eq, not_true, false_and, decide_false, Bool.false_and, Bool.false_eq_true, if_false]
    repeat rw [if_neg (by omega)]
  by_cases e2 : q = s p
  · subst e2
    rw [b1]
    simp only [ne_eq, not_true, and_false, decide_false, Bool.false_and, Bool.false_eq_true, if_false]
    repeat rw [if_neg (by omega)]
  have e3 : s q ≠ p := fun e => e2 (by rw [← e, b2])
  have e4 : s q ≠ s p := fun e => e1 (by have := congrArg s e; rwa [b2, b1] at this)
  have ob : ∀ lo hi q : Nat, (min lo hi < q ∧ q < max lo hi) = ((lo < q ∧ q < hi) ∨ (hi < q ∧ q < lo)) := fun lo hi q => propext (by omega)
  simp only [ob]
  clear b1 b2 ob h hp hq
  generalize s p = p' at *
  generalize s q = q' at *
  rcases Nat.lt_or_gt_of_ne a1 with h1 | h1 <;> rcases Nat.lt_or_gt_of_ne a2 with h2 | h2 <;> rcases Nat.lt_or_gt_of_ne e1 with h3 | h3 <;> rcases Nat.lt_or_gt_of_ne e2 with h4 | h4 <;> rcases Nat.lt_or_gt_of_ne e3 with h5 | h5 <;> rcases Nat.lt_or_gt_of_ne e4 with h6 | h6 <;> first
    | (exfalso; omega)
    | simp [h3, h4, h5, h6, Nat.lt_asymm h3, Nat.lt_asymm h4, Nat.lt_asymm h5, Nat.lt_asymm h6, e1, e2]
/-- Sums over all ports, by partners. -/
theorem sumN_mates {N : Nat} {s : Nat → Nat} (h : Mates N s) (F : Nat → Nat) : sumN (fun p => F (s p)) N = sumN F N := by
  have e : sumN (fun p => F (s p)) N = ((List.range N).map fun p => F (s p)).sum := by
    clear h
    induction N with
    | zero => rfl
    | succ N ih => rw [sumN, ih, List.range_succ, List.map_append, List.sum_append]; simp
  have e2 : sumN (fun c => ((List.range N).map s).count c * F c) N = (((List.range N).map s).map F).sum := (sum_swap F N _ (fun x hx => by
    obtain ⟨p, hp, rfl⟩ := List.mem_map.1 hx
    exact h.lt p (List.mem_range.1 hp))).symm
  have e3 : ((List.range N).map fun p => F (s p)) = ((List.range N).map s).map F := by rw [List.map_map]; rfl
  rw [e, e3, ← e2]
  refine sumN_congr N fun c hc => ?_
  have h1 : ((List.range N).map s).count c = 1 := by
    rw [List.count, List.countP_map]
    have : (List.range N).countP ((fun x => x == c) ∘ s) = (List.range N).countP fun p => p == s c := by
      refine List.countP_congr fun p hp => ?_
      have hp := List.mem_range.1 hp
      simp only [Function.comp, beq_iff_eq]
      constructor
      · intro h2; rw [← h2, h.back p hp]
      · intro h2; rw [h2, h.back c hc]
    rw [this]
    show (List.range N).count (s c) = 1
    rw [List.Nodup.count List.nodup_range, if_pos (List.mem_range.2 (h.lt c hc))]
  rw [h1, Nat.one_mul]
theorem sumN_add4 (a b c d : Nat → Nat) (N : Nat) : sumN (fun q => a q + b q + c q + d q) N = sumN a N + sumN b N + sumN c N + sumN d N := by
  rw [sumN_add (fun q => a q + b q + c q) d, sumN_add (fun q => a q + b q) c, sumN_add a b]
/-- All crossings, counted by ports: eight times each. -/
def crAll (N : Nat) (s : Nat → Nat) : Nat := sumN (fun p => sumN (fun q => if crX s p q = true then 1 else 0) N) N
theorem cr_all {N : Nat} {s : Nat → Nat} (h : Mates N s) : crAll N s = 8 * sumN (fun p => sumN (fun q => crN s p q) N) N := by
  have e1 : crAll N s = sumN (fun p => sumN (fun q => crN s p q + crN s p (s q) + crN s (s p) q + crN s (s p) (s q) + (crN s q p + crN s q (s p) + crN s (s q) p + crN s (s q) (s p))) N) N :=
    sumN_congr N fun p hp => sumN_congr N fun q hq => cr_eight h hp hq
  rw [e1]
  have a : ∀ p, sumN (fun q => crN s p (s q)) N = sumN (fun q => crN s p q) N := fun p => sumN_mates h (fun q => crN s p q)
  have b : ∀ (F : Nat → Nat → Nat), (∀ p, F p = F p) → sumN (fun p => sumN (fun q => F (s p) q) N) N = sumN (fun p => sumN (fun q => F p q) N) N := fun F _ => sumN_mates h (fun p => sumN (fun q => F p q) N)
  have c : ∀ p, sumN (fun q => crN s (s q) p) N = sumN (fun q => crN s q p) N := fun p => sumN_mates h (fun q => crN s q p)
  have e2 : sumN (fun p => sumN (fun q => crN s p q + crN s p (s q) + crN s (s p) q + crN s (s p) (s q) + (crN s q p + crN s q (s p) + crN s (s q) p + crN s (s q) (s p))) N) N =
      sumN (fun p => 2 * sumN (fun q => crN s p q) N + 2 * sumN (fun q => crN s (s p) q) N + 2 * sumN (fun q => crN s q p) N + 2 * sumN (fun q => crN s q (s p)) N) N := by
    refine sumN_congr N fun p _ => ?_
    rw [sumN_add (fun q => crN s p q + crN s p (s q) + crN s (s p) q + crN s (s p) (s q)) (fun q => crN s q p + crN s q (s p) + crN s (s q) p + crN s (s q) (s p)), sumN_add4 (fun q => crN s p q) (fun q => crN s p (s q)) (fun q => crN s (s p) q) (fun q => crN s (s p) (s q)), sumN_add4 (fun q => crN s q p) (fun q => crN s q (s p)) (fun q => crN s (s q) p) (fun q => crN s (s q) (s p)), a p, a (s p), c p, c (s p)]
    show _ + _ + _ + _ + (_ + _ + _ + _) = 2 * _ + 2 * _ + 2 * _ + 2 * _
    generalize sumN (fun q => crN s p q) N = x1
    generalize sumN (fun q => crN s (s p) q) N = x2
    generalize sumN (fun q => crN s q p) N = x3
    generalize sumN (fun q => crN s q (s p)) N = x4
    omega
  rw [e2, sumN_add4, sumN_mul, sumN_mul, sumN_mul, sumN_mul, b (fun p q => crN s p q) (fun _ => rfl), b (fun p q => crN s q p) (fun _ => rfl), sumN_swap2 (fun p q => crN s q p)]
  omega
theorem cr_chords {l : List Int} (h : IsPair l) : crAll l.length (mateN l) = 8 * chordsC (intAt l) l.length l.length := by
  rw [cr_all h.mates_of]
  congr 1
  unfold chordsC
  refine sumN_congr _ fun p hp => ?_
  unfold rowC
  rw [countP_range]
  refine sumN_congr _ fun q hq => ?_
  unfold crN crossB
  have e : ∀ x, x < l.length → intAt l x = (mateN l x : Int) := fun x hx => by
    unfold intAt
    have := (h.mates hx).2.2.1
    rw [List.getD_eq_getElem?_getD, this]; rfl
  rw [e p hp, e q hq]
  by_cases hc : p < q ∧ q < mateN l p ∧ mateN l p < mateN l q
  · rw [if_pos hc, if_pos (by simp; omega)]
  · rw [if_neg hc, if_neg (by simp; omega)]
/-- Moved on by one. -/
theorem crX_step {N : Nat} {s s' : Nat → Nat} (h : Mates N s) (h' : ∀ q, q < N → s' ((q + 1) % N) = (s q + 1) % N) {p q : Nat} (hp : p < N) (hq : q < N) : crX s' ((p + 1) % N) ((q + 1) % N) = crX s p q := by
  have a1 := h.lt p hp
  have a2 := h.lt q hq
  have n1 := h.ne p hp
  have n2 := h.ne q hq
  have n3 : q ≠ p → q ≠ s p → s q ≠ p ∧ s q ≠ s p := fun x y => ⟨fun e => y (by rw [← e, h.back q hq]), fun e => x (by have := congrArg s e; rwa [h.back q hq, h.back p hp] at this)⟩
  unfold crX
  rw [h' p hp, h' q hq]
  have e : ∀ x, x < N → (x + 1) % N = if x = N - 1 then 0 else x + 1 := fun x hx => by
    split
    · rename_i hx2
      rw [show x + 1 = N by omega, Nat.mod_self]
    · exact Nat.mod_eq_of_lt (by omega)
  rw [e p hp, e q hq, e _ a1, e _ a2]
  generalize s p = p' at *
  generalize s q = q' at *
  clear h' h e
  unfold inB
  by_cases e1 : q = p
  · subst e1
    have hl : decide ((if q = N - 1 then 0 else q + 1) ≠ (if q = N - 1 then 0 else q + 1) ∧ (if q = N - 1 then 0 else q + 1) ≠ (if p' = N - 1 then 0 else p' + 1)) = false := by simp
    have hr : decide (q ≠ q ∧ q ≠ p') = false := by simp
    rw [hl, hr]; rfl
  by_cases e2 : q = p'
  · subst e2
    have hl : decide ((if q = N - 1 then 0 else q + 1) ≠ (if p = N - 1 then 0 else p + 1) ∧ (if q = N - 1 then 0 else q + 1) ≠ (if q = N - 1 then 0 else q + 1)) = false := by simp
    have hr : decide (q ≠ p ∧ q ≠ q) = false := by simp
    rw [hl, hr]; rfl
  obtain ⟨n4, n5⟩ := n3 e1 e2
  have hl : decide ((if q = N - 1 then 0 else q + 1) ≠ (if p = N - 1 then 0 else p + 1) ∧ (if q = N - 1 then 0 else q + 1) ≠ (if p' = N - 1 then 0 else p' + 1)) = true := by
    rw [decide_eq_true_iff]
    constructor <;> (split <;> split <;> omega)
  have hr : decide (q ≠ p ∧ q ≠ p') = true := decide_eq_true ⟨e1, e2⟩
  rw [hl, hr, Bool.true_and, Bool.true_and, Bool.eq_iff_iff, bne_iff_ne, bne_iff_ne, ne_eq, ne_eq, decide_eq_decide, decide_eq_decide]
  clear hl hr n3
  by_cases hpN : p = N - 1
  · rw [if_pos hpN, if_neg (show ¬ p' = N - 1 by omega), if_neg (show ¬ q = N - 1 by omega), if_neg (show ¬ q' = N - 1 by omega)]
    constructor <;> (intro h1 h2; apply h1; omega)
  rw [if_neg hpN]
  by_cases hpN2 : p' = N - 1
  · rw [if_pos hpN2, if_neg (show ¬ q = N - 1 by omega), if_neg (show ¬ q' = N - 1 by omega)]
    constructor <;> (intro h1 h2; apply h1; omega)
  rw [if_neg hpN2]
  by_cases hqN : q = N - 1
  · rw [if_pos hqN, if_neg (show ¬ q' = N - 1 by omega)]
    constructor <;> (intro h1 h2; apply h1; omega)
  rw [if_neg hqN]
  by_cases hqN2 : q' = N - 1
  · rw [if_pos hqN2]
    constructor <;> (intro h1 h2; apply h1; omega)
  rw [if_neg hqN2]
  constructor <;> (intro h1 h2; apply h1; omega)
theorem sumN_rot (F : Nat → Nat) : ∀ N, sumN (fun p => F ((p + 1) % N)) N = sumN F N
  | 0 => rfl
  | M + 1 => by
    rw [sumN_head F M, sumN, Nat.mod_self, Nat.add_comm]
    congr 1
    exact sumN_congr M fun p hp => by rw [Nat.mod_eq_of_lt (by omega)]
theorem chords_one {l : List Int} (h : IsPair l) : chordsC (intAt (turnL l 1)) l.length l.length = chordsC (intAt l) l.length l.length := by
  have h2 := turnL_pair 1 h
  have e1 := cr_chords h
  have e2 := cr_chords h2
  rw [turnL_length] at e2
  have e3 : crAll l.length (mateN (turnL l 1)) = crAll l.length (mateN l) := by
    unfold crAll
    rw [← sumN_rot (fun p => sumN (fun q => if crX (mateN (turnL l 1)) p q = true then 1 else 0) l.length)]
    refine sumN_congr _ fun p hp => ?_
    rw [← sumN_rot (fun q => if crX (mateN (turnL l 1)) ((p + 1) % l.length) q = true then 1 else 0)]
    refine sumN_congr _ fun q hq => ?_
    rw [crX_step h.mates_of (fun q hq => turnL_mate h hq) hp hq]
  omega
theorem lists_mates {l l' : List Int} {k : Nat} (h : IsPair l) (h' : IsPair l') (hl : l'.length = l.length) (he : ∀ q, q < l.length → mateN l' ((q + k) % l.length) = mateN l ((q + k) % l.length)) : l' = l := by
  rw [← pair_list h, ← pair_list h', hl]
  unfold listS
  refine List.map_congr_left fun x hx => ?_
  have hx := List.mem_range.1 hx
  have e := turn_inv (k := k) hx
  have e2 := he ((x + (l.length - k % l.length)) % l.length) (Nat.mod_lt _ (by omega))
  rw [e] at e2
  rw [e2]
theorem turnL_succ {l : List Int} {k : Nat} (h : IsPair l) : turnL (turnL l k) 1 = turnL l (k + 1) := by
  have h2 := turnL_pair k h
  have hpos : 0 < l.length := by have := h.1; omega
  refine lists_mates (k := k + 1) (turnL_pair (k + 1) h) (turnL_pair 1 h2) (by rw [turnL_length, turnL_length, turnL_length]) fun q hq => ?_
  rw [turnL_length] at hq ⊢
  have h4 := turnL_mate (l := turnL l k) (k := 1) (q := (q + k) % l.length) h2 (by rw [turnL_length]; exact Nat.mod_lt _ hpos)
  rw [turnL_length, Nat.mod_add_mod, turnL_mate h hq, Nat.mod_add_mod] at h4
  rw [turnL_mate h hq, ← Nat.add_assoc, h4, Nat.add_assoc]
theorem turnL_add {l : List Int} {k j : Nat} (h : IsPair l) : turnL (turnL l k) j = turnL l (k + j) := by
  have h2 := turnL_pair k h
  have hpos : 0 < l.length := by have := h.1; omega
  refine lists_mates (k := k + j) (turnL_pair (k + j) h) (turnL_pair j h2) (by rw [turnL_length, turnL_length, turnL_length]) fun q hq => ?_
  rw [turnL_length] at hq ⊢
  have h4 := turnL_mate (l := turnL l k) (k := j) (q := (q + k) % l.length) h2 (by rw [turnL_length]; exact Nat.mod_lt _ hpos)
  rw [turnL_length, Nat.mod_add_mod, turnL_mate h hq, Nat.mod_add_mod] at h4
  rw [turnL_mate h hq, ← Nat.add_assoc, h4, Nat.add_assoc]
theorem turnL_round {l : List Int} {c : Nat} (h : IsPair l) : turnL l (c * l.length) = l := by
  refine lists_mates (k := c * l.length) h (turnL_pair _ h) (turnL_length _ _) fun q hq => ?_
  rw [turnL_mate h hq, Nat.add_mul_mod_self_right, Nat.add_mul_mod_self_right, Nat.mod_eq_of_lt (h.mates hq).1, Nat.mod_eq_of_lt hq]
/-- Moved on by k and by j, all round. -/
theorem turnL_undo {l : List Int} {k j : Nat} (h : IsPair l) (hj : ∃ c, k + j = c * l.length) : turnL (turnL l k) j = l := by
  obtain ⟨c, hc⟩ := hj
  rw [turnL_add h, hc, turnL_round h]
theorem turnL_zero {l : List Int} (h : IsPair l) : turnL l 0 = l := by
  refine lists_mates (k := 0) h (turnL_pair 0 h) (turnL_length _ _) fun q hq => ?_
  rw [turnL_mate h hq, Nat.add_zero, Nat.add_zero, Nat.mod_eq_of_lt hq, Nat.mod_eq_of_lt (h.mates hq).1]
theorem chords_turn {l : List Int} (h : IsPair l) : ∀ k, chordsC (intAt (turnL l k)) l.length l.length = chordsC (intAt l) l.length l.length
  | 0 => by rw [turnL_zero h]
  | k + 1 => by
    have h2 := chords_one (turnL_pair k h)
    rw [turnL_length] at h2
    rw [← turnL_succ h, h2, chords_turn h k]
theorem chords_few {l : List Int} {k : Nat} (h : IsPair l) (hk : l.length = 2 * k) : 2 * chordsC (intAt l) l.length l.length ≤ k * (k - 1) := by
  have e1 := cr_chords h
  have hm := h.mates_of
  have hrow : ∀ p, p < l.length → sumN (fun q => if crX (mateN l) p q = true then 1 else 0) l.length ≤ l.length - 2 := fun p hp => by
    have h1 := sumN_one p 1 l.length
    have h2 := sumN_one (mateN l p) 1 l.length
    rw [if_pos hp] at h1
    rw [if_pos (hm.lt p hp)] at h2
    have h3 : sumN (fun q => (if crX (mateN l) p q = true then 1 else 0) + (if p = q then 1 else 0) + (if mateN l p = q then 1 else 0)) l.length ≤ sumN (fun _ => 1) l.length := by
      have hle : ∀ (F G : Nat → Nat) N, (∀ c, c < N → F c ≤ G c) → sumN F N ≤ sumN G N := fun F G N => by
        induction N with
        | zero => intro _; exact Nat.le_refl _
        | succ N ih =>
          intro h4
          have h5 := ih fun c hc => h4 c (by omega)
          have h6 := h4 N (by omega)
          rw [sumN, sumN]; omega
      refine hle _ _ _ fun q hq => ?_
      have hne := hm.ne p hp
      by_cases a1 : p = q
      · subst a1
        have : crX (mateN l) p p = false := by unfold crX; simp
        rw [this, if_neg (by simp), if_pos rfl, if_neg hne]
        omega
      · by_cases a2 : mateN l p = q
        · have : crX (mateN l) p q = false := by unfold crX; rw [← a2]; simp
          rw [this, if_neg (by simp), if_neg a1, if_pos a2]
          omega
        · rw [if_neg a1, if_neg a2]
          split <;> omega
    rw [sumN_add (fun q => (if crX (mateN l) p q = true then 1 else 0) + (if p = q then 1 else 0)) (fun q => if mateN l p = q then 1 else 0), sumN_add (fun q => if crX (mateN l) p q = true then 1 else 0) (fun q => if p = q then 1 else 0), h1, h2] at h3
    have h4 : ∀ N, sumN (fun _ => 1) N = N := fun N => by
      induction N with
      | zero => rfl
      | succ N ih => rw [sumN, ih]
    rw [h4] at h3
    omega
  have hsum : crAll l.length (mateN l) ≤ l.length * (l.length - 2) := by
    unfold crAll
    have : ∀ N, N ≤ l.length → sumN (fun p => sumN (fun q => if crX (mateN l) p q = true then 1 else 0) l.length) N ≤ N * (l.length - 2) := fun N => by
      induction N with
      | zero => intro _; exact Nat.zero_le _
      | succ N ih =>
        intro hN
        have h5 := ih (by omega)
        have h6 := hrow N (by omega)
        rw [sumN, Nat.succ_mul]; omega
    exact this _ (Nat.le_refl _)
  rw [e1, hk] at hsum
  rw [hk]
  have e3 : 2 * k * (2 * k - 2) = 4 * (k * (k - 1)) := by
    rw [show 2 * k - 2 = 2 * (k - 1) by omega, Nat.mul_assoc, Nat.mul_left_comm k 2 (k - 1), ← Nat.mul_assoc]
  omega
end Go.Proofs.Ytonhnmpgikmlpaa
