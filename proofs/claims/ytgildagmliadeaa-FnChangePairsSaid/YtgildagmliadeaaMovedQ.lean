/- Ports whose partners change when a mirror is exchanged: none, or four. No program is named. -/
import Derived.Test.YtgildagmliadeaaCntQ
import Derived.Test.YtgildagmliadeaaLenQ
namespace Go.Proofs.Ytgildagmliadeaa

/-- The heading with which light leaves the cell for good, that comes in with a heading; 9 if not so soon. -/
def outH (b : UInt8) (s : Nat → Nat) : Nat → Nat → Nat
  | 0, _ => 9
  | f + 1, d => if s (bend b d) < 4 then outH b s f (s (bend b d)) else bend b d
/-- From arm to arm. -/
def armF (b : UInt8) (s : Nat → Nat) (h : Nat) : Nat := outH b s 5 (opp h)
def movedS (b b' : UInt8) (s : Nat → Nat) (h : Nat) : Bool := s h == 4 && armF b s h != armF b' s h
def checkMoved : Bool := (List.range 5).all fun a => (List.range 5).all fun b => (List.range 5).all fun c => (List.range 5).all fun d =>
  !symm4 (four4 a b c d) || !none4 (four4 a b c d) || (((List.range 4).countP (movedS 114 102 (four4 a b c d)) == 0 || (List.range 4).countP (movedS 114 102 (four4 a b c d)) == 4 && viaN 114 (four4 a b c d) == viaN 102 (four4 a b c d)) &&
    ((List.range 4).all fun h => (!(fit 114 (four4 a b c d) h 4 == 4) || outH 114 (four4 a b c d) 5 h != 9) && (!(fit 102 (four4 a b c d) h 4 == 4) || outH 102 (four4 a b c d) 5 h != 9)))
theorem checked_moved : checkMoved = true := by decide +kernel
section
variable {n m : Nat} {t t' : Int → Int → UInt8} {i k : Int}
theorem outH_more (b : UInt8) (s : Nat → Nat) : ∀ f d, outH b s f d ≠ 9 → outH b s (f + 1) d = outH b s f d
  | 0, d, h => absurd rfl h
  | f + 1, d, h => by
    unfold outH at h ⊢
    by_cases h1 : s (bend b d) < 4
    · rw [if_pos h1] at h ⊢
      rw [if_pos h1, outH_more b s f _ h]
    · rw [if_neg h1, if_neg h1]
theorem outH_ge (b : UInt8) (s : Nat → Nat) (d f : Nat) (h : outH b s f d ≠ 9) : ∀ e, outH b s (f + e) d = outH b s f d
  | 0 => rfl
  | e + 1 => by
    have ih := outH_ge b s d f h e
    rw [← Nat.add_assoc, outH_more b s _ d (by rw [ih]; exact h), ih]
theorem outH_fit (b : UInt8) (s : Nat → Nat) : ∀ f d, d < 4 → (∀ q, fit b s d q < 4) → outH b s f d = 9
  | 0, _, _, _ => rfl
  | f + 1, d, hd, h => by
    have h1 : fit b s d 1 = s (bend b d) := by
      show (if fit b s d 0 < 4 then s (bend b (fit b s d 0)) else 4) = _
      rw [show fit b s d 0 = d from rfl, if_pos hd]
    have h4 : s (bend b d) < 4 := by rw [← h1]; exact h 1
    unfold outH
    rw [if_pos h4]
    refine outH_fit b s f _ h4 fun q => ?_
    have := h (q + 1)
    rwa [fit_succ' b s d hd q, h1] at this
theorem cnt_inj3 (p q : Nat → Bool) (f : Nat → Nat) (N M : Nat) (h : ∀ a, a < N → p a = true → f a < M ∧ q (f a) = true) (hi : ∀ a b, a < N → b < N → p a = true → p b = true → f a = f b → a = b) : (List.range N).countP p ≤ (List.range M).countP q := by
  rw [List.countP_eq_length_filter, List.countP_eq_length_filter]
  refine inj_le (fun a b => b = f a) _ _ (List.nodup_range.filter _) (fun a ha => ?_) fun a a' b ha ha' h1 h2 => ?_
  · obtain ⟨h1, h2⟩ := List.mem_filter.1 ha
    obtain ⟨h3, h4⟩ := h a (List.mem_range.1 h1) h2
    exact ⟨f a, List.mem_filter.2 ⟨List.mem_range.2 h3, h4⟩, rfl⟩
  · exact hi a a' (List.mem_range.1 (List.mem_filter.1 ha).1) (List.mem_range.1 (List.mem_filter.1 ha').1) (List.mem_filter.1 ha).2 (List.mem_filter.1 ha').2 (h1.symm.trans h2)
/-- Where a beam leaves the cell for good. -/
def armOf (n m : Nat) (t : Int → Int → UInt8) (i k : Int) (p h : Nat) : Prop := ∃ j, j < blen n m t p ∧ bway n m t p j = ⟨i, k, opp h⟩ ∧ ∀ a, a < j → ¬ atC i k (bway n m t p a)
theorem arm_inj {p q h : Nat} (hp : p < 2 * (n + m)) (hq : q < 2 * (n + m)) (h1 : armOf n m t i k p h) (h2 : armOf n m t i k q h) : p = q := by
  obtain ⟨a, ha, e1, _⟩ := h1
  obtain ⟨b, hb, e2, _⟩ := h2
  rcases Nat.le_total a b with hab | hab
  · exact beam_one hp hq a b hab hb (e1.trans e2.symm)
  · exact (beam_one hq hp b a hab ha (e2.trans e1.symm)).symm
theorem arm_one {p h h' : Nat} (hh : h < 4) (hh' : h' < 4) (h1 : armOf n m t i k p h) (h2 : armOf n m t i k p h') : h = h' := by
  obtain ⟨a, _, e1, l1⟩ := h1
  obtain ⟨b, _, e2, l2⟩ := h2
  have hab : a = b := by
    rcases Nat.lt_trichotomy a b with h | h | h
    · exact absurd (by rw [e1]; exact atC_mk _) (l2 a h)
    · exact h
    · exact absurd (by rw [e2]; exact atC_mk _) (l1 b h)
  subst hab
  have e := congrArg Wy.d (e1.symm.trans e2)
  have e' : opp h = opp h' := e
  rw [← opp_opp hh, e', opp_opp hh']
/-- The beam's last way in the cell. -/
theorem arm_end {p j d : Nat} (hn : 1 ≤ n) (hm : 1 ≤ m) (hp : p < 2 * (n + m)) (_hd : d < 4) (hj : j < blen n m t p) (e : bway n m t p j = ⟨i, k, d⟩) (hlast : ∀ a, j < a → a < blen n m t p → ¬ atC i k (bway n m t p a)) : armOf n m t i k (bend_ n m t p) (bend (t i k) d) := by
  have hl := (back_facts (t := t) hn hm hp).1
  refine ⟨blen n m t p - 1 - j, by omega, ?_, fun a ha hc => ?_⟩
  · rw [bway_back hn hm hp _ (by omega), show blen n m t p - 1 - (blen n m t p - 1 - j) = j by omega, e]
    rfl
  · rw [bway_back hn hm hp _ (by omega)] at hc
    exact hlast (blen n m t p - 1 - a) (by omega) (by omega) hc
theorem strand_at {s : Nat → Nat} (hs : StrandsAt n m t i k s) {p j d : Nat} (hp : p < 2 * (n + m)) (hd : d < 4) (hj : j < blen n m t p) (e : bway n m t p j = ⟨i, k, d⟩) :
    (s (bend (t i k) d) < 4 → ∃ j', j < j' ∧ j' < blen n m t p ∧ bway n m t p j' = ⟨i, k, s (bend (t i k) d)⟩) ∧ (¬ s (bend (t i k) d) < 4 → ∀ a, j < a → a < blen n m t p → ¬ atC i k (bway n m t p a)) := by
  have hb := bend_lt (t i k) hd
  have hout : bway n m t p (j + 1) = outW i k (bend (t i k) d) := by
    show nxt t (bway n m t p j) = _
    rw [e, nxt_at]
  have hadd : ∀ a, bway n m t p (j + 1 + a) = iter t (outW i k (bend (t i k) d)) a := fun a => by
    rw [← hout]
    exact iter_add _ _ _
  constructor
  · intro h
    obtain ⟨a, h1, h2⟩ := (hs _ hb).2.1 h
    by_cases h3 : j + 1 + a < blen n m t p
    · exact ⟨j + 1 + a, by omega, h3, by rw [hadd, h1]⟩
    · exfalso
      obtain ⟨b, hb2⟩ : ∃ b, blen n m t p = j + 1 + b := ⟨blen n m t p - (j + 1), by omega⟩
      have h5 := blen_out (t := t) hp
      rw [hb2, hadd] at h5
      by_cases h6 : b = a
      · subst h6
        rw [h1] at h5
        have := blen_in (t := t) hj
        rw [e] at this
        exact h5 this
      · exact h5 (h2 b (by omega)).1
  · intro h a ha hal hc
    obtain ⟨c, hc1, hlow⟩ := least_at (fun c => decide (atC i k (bway n m t p (j + 1 + c)))) (a - (j + 1)) (decide_eq_true (by rw [show j + 1 + (a - (j + 1)) = a by omega]; exact hc))
    have hc1 := of_decide_eq_true hc1
    have hca : c ≤ a - (j + 1) := Nat.le_of_not_lt fun hlt => by
      have := hlow (a - (j + 1)) hlt
      rw [decide_eq_true (by rw [show j + 1 + (a - (j + 1)) = a by omega]; exact hc)] at this
      cases this
    have h1 := hs _ hb
    refine h1.2.2 (by omega) (bway n m t p (j + 1 + c)).d ⟨c, by rw [← hadd]; exact atC_eq hc1, fun q hq => ?_⟩
    rw [← hadd]
    refine ⟨blen_in (by omega), fun h2 => ?_⟩
    have := hlow q hq
    rw [decide_eq_true h2] at this
    cases this
theorem arm_path {s : Nat → Nat} (hs : StrandsAt n m t i k s) (hn : 1 ≤ n) (hm : 1 ≤ m) {p : Nat} (hp : p < 2 * (n + m)) : ∀ (r j d : Nat), blen n m t p - j = r → j < blen n m t p → d < 4 → bway n m t p j = ⟨i, k, d⟩ → ∃ f h, h < 4 ∧ outH (t i k) s f d = h ∧ armOf n m t i k (bend_ n m t p) h := by
  intro r
  induction r using Nat.strongRecOn with
  | _ r ih =>
    intro j d hr hj hd e
    have hb := bend_lt (t i k) hd
    obtain ⟨s1, s2⟩ := strand_at hs hp hd hj e
    by_cases h : s (bend (t i k) d) < 4
    · obtain ⟨j', h1, h2, h3⟩ := s1 h
      have hlt : blen n m t p - j' < r := by clear s1 s2 ih; omega
      obtain ⟨f, x, hx, hf, ha⟩ := ih (blen n m t p - j') hlt j' _ rfl h2 h h3
      refine ⟨f + 1, x, hx, ?_, ha⟩
      unfold outH
      rw [if_pos h]
      exact hf
    · refine ⟨1, bend (t i k) d, hb, ?_, arm_end hn hm hp hd hj e (s2 h)⟩
      unfold outH
      rw [if_neg h]
theorem fit_four {b : UInt8} {s : Nat → Nat} {d : Nat} (hs : ∀ h, h < 4 → s h ≤ 4) (hb : ∀ x, x < 4 → bend b x < 4) (h : ¬ fit b s d 4 < 4) : fit b s d 4 = 4 := by
  have h1 : fit b s d 4 = if fit b s d 3 < 4 then s (bend b (fit b s d 3)) else 4 := rfl
  rw [h1] at h ⊢
  by_cases h2 : fit b s d 3 < 4
  · rw [if_pos h2] at h ⊢
    have := hs _ (hb _ h2)
    omega
  · rw [if_neg h2]
theorem out_five {b : UInt8} {s : Nat → Nat} {d f h : Nat} (hs : ∀ h, h < 4 → s h ≤ 4) (hd : d < 4) (h4 : h < 4) (ho : outH b s f d = h) (hc : fit b s d 4 = 4 → outH b s 5 d ≠ 9) : outH b s 5 d = h := by
  have hne : outH b s f d ≠ 9 := by omega
  have hf : fit b s d 4 = 4 := fit_four hs (fun x hx => bend_lt b hx) fun hlt => hne (outH_fit b s f d hd fun q => by
    obtain ⟨p, hp, e⟩ := fit_all hlt q
    rw [e]
    exact fit_down hlt (by omega))
  have h5 := hc hf
  have e1 := outH_ge b s d f hne 5
  have e2 := outH_ge b s d 5 h5 f
  rw [show 5 + f = f + 5 by omega] at e2
  omega
theorem arm_next {s : Nat → Nat} (hs : StrandsAt n m t i k s) (hn : 1 ≤ n) (hm : 1 ≤ m) (hc : ∀ d, d < 4 → fit (t i k) s d 4 = 4 → outH (t i k) s 5 d ≠ 9) {p h : Nat} (hp : p < 2 * (n + m)) (ha : armOf n m t i k p h) : armOf n m t i k (bend_ n m t p) (armF (t i k) s h) ∧ armF (t i k) s h < 4 := by
  obtain ⟨j, hj, e, _⟩ := ha
  obtain ⟨f, x, hx, hf, hax⟩ := arm_path hs hn hm hp _ j (opp h) rfl hj (opp_lt h) e
  have e5 := out_five (fun a ha => (hs a ha).1) (opp_lt h) hx hf (hc _ (opp_lt h))
  unfold armF
  rw [e5]
  exact ⟨hax, hx⟩
theorem arm_four {s : Nat → Nat} (hs : StrandsAt n m t i k s) (hn : 1 ≤ n) (hm : 1 ≤ m) {p h : Nat} (hp : p < 2 * (n + m)) (hh : h < 4) (ha : armOf n m t i k p h) : s h = 4 := by
  obtain ⟨j, hj, e, hlow⟩ := ha
  have hle := (hs h hh).1
  by_cases h4 : s h < 4
  · exfalso
    have hq := (bend_facts (t := t) hn hm hp).2.1
    have hl := (back_facts (t := t) hn hm hp).1
    have e2 : bway n m t (bend_ n m t p) (blen n m t p - 1 - j) = ⟨i, k, opp (bend (t i k) (opp h))⟩ := by
      rw [bway_back hn hm hp _ (by omega), show blen n m t p - 1 - (blen n m t p - 1 - j) = j by omega, e]
      rfl
    have hbb : bend (t i k) (opp (bend (t i k) (opp h))) = h := by rw [bend_opp _ (opp_lt h), opp_opp hh]
    obtain ⟨s1, _⟩ := strand_at hs hq (opp_lt _) (by omega) e2
    rw [hbb] at s1
    obtain ⟨j', h1, h2, h3⟩ := s1 h4
    rw [bway_back hn hm hp _ (by omega)] at h3
    refine hlow (blen n m t p - 1 - j') (by omega) ?_
    have := congrArg (fun x : Wy => (x.i, x.k)) h3
    simp only [Prod.mk.injEq] at this
    exact this
  · omega
theorem arm_ex {s : Nat → Nat} (hs : StrandsAt n m t i k s) (hn : 1 ≤ n) (hm : 1 ≤ m) (hc : inG n m ⟨i, k, 0⟩) {h : Nat} (hh : h < 4) (h4 : s h = 4) : ∃ p, p < 2 * (n + m) ∧ armOf n m t i k p h := by
  have hd : (⟨i, k, opp (bend (t i k) (opp h))⟩ : Wy).d < 4 := opp_lt _
  have hbb : bend (t i k) (opp (bend (t i k) (opp h))) = h := by rw [bend_opp _ (opp_lt h), opp_opp hh]
  have hoff : onR n m t ⟨i, k, opp (bend (t i k) (opp h))⟩ = false := by
    rw [Bool.eq_false_iff]
    intro hon
    obtain ⟨e, h1, _⟩ := strand_on (opp_lt _) hon
    rw [hbb] at h1
    exact (hs h hh).2.2 h4 e h1
  obtain ⟨p, j, hp, hj, e⟩ := not_beam hn hm (show inG n m ⟨i, k, opp (bend (t i k) (opp h))⟩ from hc) hd hoff
  have ha := arm_end hn hm hp (opp_lt _) hj e ((strand_at hs hp (opp_lt _) hj e).2 (by rw [hbb]; omega))
  rw [hbb] at ha
  exact ⟨_, (bend_facts hn hm hp).2.1, ha⟩
theorem arm_same (ho : OffSame n m t t' i k) {p h : Nat} (hp : p < 2 * (n + m)) (ha : armOf n m t i k p h) : armOf n m t' i k p h := by
  obtain ⟨j, hj, e, hlow⟩ := ha
  have hsame : ∀ a, a ≤ j → bway n m t p a = bway n m t' p a := fun a ha => iter_same ho a fun c hc => ⟨blen_in (t := t) (show c < blen n m t p by omega), hlow c (by omega)⟩
  refine ⟨j, ?_, by rw [← hsame j (Nat.le_refl _)]; exact e, fun a ha => by rw [← hsame a (by omega)]; exact hlow a ha⟩
  refine Nat.lt_of_not_le fun hle => ?_
  have h1 := blen_out (t := t') hp
  rw [← hsame _ hle] at h1
  exact h1 (blen_in (by omega))
/-- A beam that does not meet the cell. -/
theorem miss_same (ho : OffSame n m t t' i k) (hn : 1 ≤ n) (hm : 1 ≤ m) {p : Nat} (hp : p < 2 * (n + m)) (hno : ∀ a, a < blen n m t p → ¬ atC i k (bway n m t p a)) : bend_ n m t' p = bend_ n m t p := by
  have hsame : ∀ a, a ≤ blen n m t p → bway n m t p a = bway n m t' p a := fun a ha => iter_same ho a fun c hc => ⟨blen_in (t := t) (show c < blen n m t p by omega), hno c (by omega)⟩
  have hL : blen n m t' p = blen n m t p := blen_of hp (fun a ha => by rw [← hsame a (by omega)]; exact blen_in ha) (by rw [← hsame _ (Nat.le_refl _)]; exact blen_out hp)
  have f1 := (bend_facts (t := t) hn hm hp).1
  have f2 := (bend_facts (t := t') hn hm hp).1
  rw [hL, ← hsame _ (Nat.le_refl _)] at f2
  omega
theorem arm_or {p : Nat} (hc : ¬ ∀ a, a < blen n m t p → ¬ atC i k (bway n m t p a)) : ∃ h, h < 4 ∧ armOf n m t i k p h := by
  obtain ⟨a, ha⟩ := Classical.not_forall.1 hc
  obtain ⟨h1, h2⟩ := Classical.not_imp.1 ha
  have h2 := Classical.not_not.1 h2
  obtain ⟨j, hj, hlow⟩ := least_at (fun j => decide (atC i k (bway n m t p j))) a (decide_eq_true h2)
  have hja : j ≤ a := Nat.le_of_not_lt fun hlt => by
    have := hlow a hlt
    rw [decide_eq_true h2] at this
    cases this
  have hd := bway_d (n := n) (m := m) (t := t) p j
  refine ⟨opp (bway n m t p j).d, opp_lt _, j, by omega, ?_, fun b hb hcb => ?_⟩
  · rw [opp_opp hd]; exact atC_eq (of_decide_eq_true hj)
  · have := hlow b hb
    rw [decide_eq_true hcb] at this
    cases this
/-- The ports whose partners change, and the arms. -/
theorem moved_count {s : Nat → Nat} (hs : StrandsAt n m t i k s) (ho : OffSame n m t t' i k) (hn : 1 ≤ n) (hm : 1 ≤ m) (hc : inG n m ⟨i, k, 0⟩) (h5 : ∀ d, d < 4 → fit (t i k) s d 4 = 4 → outH (t i k) s 5 d ≠ 9) (h5' : ∀ d, d < 4 → fit (t' i k) s d 4 = 4 → outH (t' i k) s 5 d ≠ 9) :
    ((List.range (2 * (n + m))).countP fun p => bend_ n m t p != bend_ n m t' p) = (List.range 4).countP (movedS (t i k) (t' i k) s) := by
  have hs' := hs.same ho
  have hpick : ∀ p : Nat, ∃ h, (¬ ∀ a, a < blen n m t p → ¬ atC i k (bway n m t p a)) → h < 4 ∧ armOf n m t i k p h := fun p => by
    by_cases hx : ∀ a, a < blen n m t p → ¬ atC i k (bway n m t p a)
    · exact ⟨0, fun h => absurd hx h⟩
    · obtain ⟨h, h1, h2⟩ := arm_or hx
      exact ⟨h, fun _ => ⟨h1, h2⟩⟩
  have hex : ∀ h : Nat, ∃ p, h < 4 → s h = 4 → p < 2 * (n + m) ∧ armOf n m t i k p h := fun h => by
    by_cases hx : h < 4 ∧ s h = 4
    · obtain ⟨p, h1, h2⟩ := arm_ex hs hn hm hc hx.1 hx.2
      exact ⟨p, fun _ _ => ⟨h1, h2⟩⟩
    · exact ⟨0, fun h1 h2 => absurd ⟨h1, h2⟩ hx⟩
  have hmv : ∀ p, p < 2 * (n + m) → (bend_ n m t p != bend_ n m t' p) = true → ¬ ∀ a, a < blen n m t p → ¬ atC i k (bway n m t p a) := fun p hp h hno => by
    rw [bne_iff_ne] at h
    exact h (miss_same ho hn hm hp hno).symm
  refine Nat.le_antisymm (cnt_inj3 _ _ (fun p => Classical.choose (hpick p)) _ _ (fun p hp h => ?_) fun p q hp hq h h' e => ?_) (cnt_inj3 _ _ (fun h => Classical.choose (hex h)) _ _ (fun h hh hm4 => ?_) fun h h' hh hh' hm4 hm4' e => ?_)
  · obtain ⟨g1, g2⟩ := Classical.choose_spec (hpick p) (hmv p hp h)
    generalize Classical.choose (hpick p) = x at *
    refine ⟨g1, ?_⟩
    unfold movedS
    rw [Bool.and_eq_true, beq_iff_eq, bne_iff_ne]
    refine ⟨arm_four hs hn hm hp g1 g2, fun e => ?_⟩
    obtain ⟨a1, _⟩ := arm_next hs hn hm h5 hp g2
    obtain ⟨a2, _⟩ := arm_next hs' hn hm h5' hp (arm_same ho hp g2)
    rw [← e] at a2
    have hq := (bend_facts (t := t) hn hm hp).2.1
    have hq' := (bend_facts (t := t') hn hm hp).2.1
    rw [bne_iff_ne] at h
    exact h (arm_inj hq hq' a1 (arm_same ho.symm hq' a2))
  · obtain ⟨_, g1⟩ := Classical.choose_spec (hpick p) (hmv p hp h)
    obtain ⟨_, g2⟩ := Classical.choose_spec (hpick q) (hmv q hq h')
    have e : Classical.choose (hpick p) = Classical.choose (hpick q) := e
    rw [e] at g1
    exact arm_inj hp hq g1 g2
  · unfold movedS at hm4
    rw [Bool.and_eq_true, beq_iff_eq, bne_iff_ne] at hm4
    obtain ⟨g1, g2⟩ := Classical.choose_spec (hex h) hh hm4.1
    show Classical.choose (hex h) < _ ∧ (bend_ n m t (Classical.choose (hex h)) != bend_ n m t' (Classical.choose (hex h))) = true
    generalize Classical.choose (hex h) = p at *
    refine ⟨g1, ?_⟩
    rw [bne_iff_ne]
    intro e
    obtain ⟨a1, b1⟩ := arm_next hs hn hm h5 g1 g2
    obtain ⟨a2, b2⟩ := arm_next hs' hn hm h5' g1 (arm_same ho g1 g2)
    rw [← e] at a2
    exact hm4.2 (arm_one b1 b2 a1 (arm_same ho.symm (bend_facts (t := t) hn hm g1).2.1 a2))
  · unfold movedS at hm4 hm4'
    rw [Bool.and_eq_true, beq_iff_eq, bne_iff_ne] at hm4 hm4'
    obtain ⟨_, g1⟩ := Classical.choose_spec (hex h) hh hm4.1
    obtain ⟨_, g2⟩ := Classical.choose_spec (hex h') hh' hm4'.1
    have e : Classical.choose (hex h) = Classical.choose (hex h') := e
    rw [e] at g1
    exact arm_one hh hh' g1 g2
/-- None, or four; then as many rounds. -/
theorem moved_four (hx : inG n m ⟨i, k, 0⟩) (hn : 1 ≤ n) (hm : 1 ≤ m) (h1 : OffSame n m t t' i k) (h : (t i k = 114 ∧ t' i k = 102) ∨ (t i k = 102 ∧ t' i k = 114)) :
    ((List.range (2 * (n + m))).countP fun p => bend_ n m t p != bend_ n m t' p) = 0 ∨ (((List.range (2 * (n + m))).countP fun p => bend_ n m t p != bend_ n m t' p) = 4 ∧ (leads n m t').length = (leads n m t).length) := by
  obtain ⟨a, b, c, d, hs⟩ := strands_ex n m t i k
  have l0 := leads_count hs hx
  have l1 := leads_count (hs.same h1) hx
  rw [← avoid_count h1] at l1
  have ha := (hs 0 (by decide)).1
  have hb := (hs 1 (by decide)).1
  have hcc := (hs 2 (by decide)).1
  have hd := (hs 3 (by decide)).1
  have hsym : symm4 (four4 a b c d) = true := by
    unfold symm4
    rw [List.all_eq_true]
    intro h hh
    have hh := List.mem_range.1 hh
    rw [Bool.or_eq_true, beq_iff_eq, beq_iff_eq]
    by_cases e : four4 a b c d h = 4
    · exact .inl e
    · exact .inr (hs.back hh (by have := (hs h hh).1; omega) rfl)
  have hnone : none4 (four4 a b c d) = true := by
    unfold none4
    rw [List.all_eq_true]
    intro h hh
    have hh := List.mem_range.1 hh
    rw [bne_iff_ne]
    intro e
    have h1 := (hs h hh).2.1 (by rw [e]; exact opp_lt _)
    rw [e] at h1
    exact strand_no hh h1
  have hall := checked_moved
  unfold checkMoved at hall
  have p1 := List.all_eq_true.1 hall a (List.mem_range.2 (by have : a ≤ 4 := ha; omega))
  have p2 := List.all_eq_true.1 p1 b (List.mem_range.2 (by have : b ≤ 4 := hb; omega))
  have p3 := List.all_eq_true.1 p2 c (List.mem_range.2 (by have : c ≤ 4 := hcc; omega))
  have p4 := List.all_eq_true.1 p3 d (List.mem_range.2 (by have : d ≤ 4 := hd; omega))
  rw [hsym, hnone, Bool.not_true, Bool.false_or, Bool.false_or, Bool.and_eq_true, List.all_eq_true] at p4
  obtain ⟨q1, q2⟩ := p4
  have f114 : ∀ e, e < 4 → fit 114 (four4 a b c d) e 4 = 4 → outH 114 (four4 a b c d) 5 e ≠ 9 := fun e he h4 => by
    have := q2 e (List.mem_range.2 he)
    rw [Bool.and_eq_true, h4] at this
    simpa using this.1
  have f102 : ∀ e, e < 4 → fit 102 (four4 a b c d) e 4 = 4 → outH 102 (four4 a b c d) 5 e ≠ 9 := fun e he h4 => by
    have := q2 e (List.mem_range.2 he)
    rw [Bool.and_eq_true, h4] at this
    simpa using this.2
  have hswap : ∀ (x y : UInt8), (List.range 4).countP (movedS x y (four4 a b c d)) = (List.range 4).countP (movedS y x (four4 a b c d)) := fun x y => by
    refine List.countP_congr fun h _ => ?_
    unfold movedS
    rw [Bool.and_eq_true, Bool.and_eq_true, bne_iff_ne, bne_iff_ne]
    exact ⟨fun h => ⟨h.1, fun e => h.2 e.symm⟩, fun h => ⟨h.1, fun e => h.2 e.symm⟩⟩
  rw [Bool.or_eq_true, Bool.and_eq_true, beq_iff_eq, beq_iff_eq, beq_iff_eq] at q1
  rcases h with ⟨e, e'⟩ | ⟨e, e'⟩
  · have hmc := moved_count hs h1 hn hm hx (by rw [e]; exact f114) (by rw [e']; exact f102)
    rw [e, e'] at hmc
    rw [e] at l0
    rw [e'] at l1
    rw [hmc]
    rcases q1 with q | ⟨q, q'⟩
    · exact .inl q
    · exact .inr ⟨q, by omega⟩
  · have hmc := moved_count hs h1 hn hm hx (by rw [e]; exact f102) (by rw [e']; exact f114)
    rw [e, e', hswap] at hmc
    rw [e] at l0
    rw [e'] at l1
    rw [hmc]
    rcases q1 with q | ⟨q, q'⟩
    · exact .inl q
    · exact .inr ⟨q, by omega⟩
end
end Go.Proofs.Ytgildagmliadeaa
