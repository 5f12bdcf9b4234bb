/- The grids that terms tell, in plain words. -/
import Derived.Test.YtongjijkdjagdaaDoorTermM
import Derived.Test.YtongjijkdjagdaaDoorGridQ
import Derived.Test.YtongjijkdjagdaaDoorTwice
import Derived.Test.YtongjijkdjagdaaDoorBunW
namespace Go.Proofs.YtongjijkdjagdaaDoor

/-- The grid that a term tells. -/
def turnT (p : Nat × Nat) (ss : List ByteArray) : List ByteArray := ruleG p.2 p.1 (turnF p.1 p.2 (flat ss))
def flipT (p : Nat × Nat) (ss : List ByteArray) : List ByteArray := ruleG p.1 p.2 (flipF p.2 (flat ss))
def otherT (p : Nat × Nat) (ss : List ByteArray) : List ByteArray := ruleG p.1 p.2 (otherF p.2 (flat ss))
def besideT (p q : Nat × Nat) (ss tt : List ByteArray) : List ByteArray := ruleG p.1 (p.2 + q.2) (besideF p.2 q.2 (flat ss) (flat tt))
def underT (p q : Nat × Nat) (ss tt : List ByteArray) : List ByteArray := ruleG (p.1 + q.1) p.2 (underF p.1 p.2 (flat ss) (flat tt))
def Tm.G : Tm → List ByteArray
  | .lone c => ruleG 1 1 fun _ _ => c
  | .sig s t => if s = 62 then turnT t.dim t.G else if s = 94 then flipT t.dim t.G else otherT t.dim t.G
  | .cpl a s b => if s = 45 then underT a.dim b.dim a.G b.G else besideT a.dim b.dim a.G b.G
theorem tbeside_grid {n m m' : Nat} {ss tt : List ByteArray} (h : IsGrid n m ss) (h' : IsGrid n m' tt) (h5 : m + m' ≤ 5) : IsGrid n (m + m') (ruleG n (m + m') (besideF m m' (flat ss) (flat tt))) := by
  refine rule_grid h.2.1 h.2.2.1 (by have := h.2.2.2.1; omega) h5 fun r hr q hq => ?_
  unfold besideF
  split
  · exact flat_let h hr (by omega)
  · exact flat_let h' hr (by omega)
theorem tunder_grid {n n' m : Nat} {ss tt : List ByteArray} (h : IsGrid n m ss) (h' : IsGrid n' m tt) (h5 : n + n' ≤ 5) : IsGrid (n + n') m (ruleG (n + n') m (underF n m (flat ss) (flat tt))) := by
  refine rule_grid (by have := h.2.1; omega) h5 h.2.2.2.1 h.2.2.2.2.1 fun r hr q hq => ?_
  unfold underF
  split
  · exact flat_let h (by omega) hq
  · exact flat_let h' (by omega) hq
abbrev GridT (p : Nat × Nat) (ss : List ByteArray) : Prop := IsGrid p.1 p.2 ss
theorem turnT_grid {p : Nat × Nat} {ss : List ByteArray} (h : GridT p ss) : GridT (p.2, p.1) (turnT p ss) := turn_grid h
theorem flipT_grid {p : Nat × Nat} {ss : List ByteArray} (h : GridT p ss) : GridT p (flipT p ss) := flip_grid h
theorem otherT_grid {p : Nat × Nat} {ss : List ByteArray} (h : GridT p ss) : GridT p (otherT p ss) := other_grid h
theorem fit_under {s : UInt8} {p q : Nat × Nat} (h : fit2 s p q = true) (hs : s = 45) : p.2 = q.2 ∧ p.1 + q.1 ≤ 5 := by
  unfold fit2 at h
  rw [if_pos hs] at h
  simpa only [Bool.and_eq_true, decide_eq_true_eq] using h
theorem fit_beside {s : UInt8} {p q : Nat × Nat} (h : fit2 s p q = true) (hs : s ≠ 45) : p.1 = q.1 ∧ p.2 + q.2 ≤ 5 := by
  unfold fit2 at h
  rw [if_neg hs] at h
  simpa only [Bool.and_eq_true, decide_eq_true_eq] using h
theorem underT_grid {p q : Nat × Nat} {ss tt : List ByteArray} (h : GridT p ss) (h' : GridT q tt) (e : p.2 = q.2) (h5 : p.1 + q.1 ≤ 5) : GridT (p.1 + q.1, p.2) (underT p q ss tt) := by
  obtain ⟨a, b⟩ := p
  obtain ⟨c, d⟩ := q
  obtain rfl : b = d := e
  exact tunder_grid h h' h5
theorem besideT_grid {p q : Nat × Nat} {ss tt : List ByteArray} (h : GridT p ss) (h' : GridT q tt) (e : p.1 = q.1) (h5 : p.2 + q.2 ≤ 5) : GridT (p.1, p.2 + q.2) (besideT p q ss tt) := by
  obtain ⟨a, b⟩ := p
  obtain ⟨c, d⟩ := q
  obtain rfl : a = c := e
  exact tbeside_grid h h' h5
theorem Tm.grid : ∀ t : Tm, t.wf = true → t.fits = true → GridT t.dim t.G
  | .lone c, hw, _ => rule_grid (Nat.le_refl _) (show 1 ≤ 5 by omega) (Nat.le_refl _) (show 1 ≤ 5 by omega) fun _ _ _ _ => hw
  | .sig s t, hw, hf => by
    simp only [Tm.wf, Bool.and_eq_true] at hw
    have ih := t.grid hw.2 hf
    unfold Tm.dim Tm.G
    by_cases h1 : s = 62
    · rw [if_pos h1, if_pos h1]; exact turnT_grid ih
    · rw [if_neg h1, if_neg h1]
      split
      · exact flipT_grid ih
      · exact otherT_grid ih
  | .cpl a s b, hw, hf => by
    simp only [Tm.wf, Bool.and_eq_true] at hw
    simp only [Tm.fits, Bool.and_eq_true] at hf
    have iha := a.grid hw.1.1 hf.1.1
    have ihb := b.grid hw.2 hf.1.2
    unfold Tm.dim Tm.G
    by_cases h1 : s = 45
    · rw [if_pos h1, if_pos h1]
      exact underT_grid iha ihb (fit_under hf.2 h1).1 (fit_under hf.2 h1).2
    · rw [if_neg h1, if_neg h1]
      exact besideT_grid iha ihb (fit_beside hf.2 h1).1 (fit_beside hf.2 h1).2

/-! ### Signs moved to both. -/
theorem turn_beside {n m k : Nat} {ss tt : List ByteArray} : ruleG (m + k) n (turnF n (m + k) (flat (ruleG n (m + k) (besideF m k (flat ss) (flat tt))))) = ruleG (m + k) n (underF m n (flat (ruleG m n (turnF n m (flat ss)))) (flat (ruleG k n (turnF n k (flat tt))))) := by
  refine rule_eq fun r hr q hq => ?_
  unfold turnF underF
  rw [rule_flat (by omega) hr]
  unfold besideF
  by_cases h : r < m
  · rw [if_pos h, if_pos h, rule_flat h hq]
  · rw [if_neg h, if_neg h, rule_flat (by omega) hq]
theorem turn_under {n k m : Nat} {ss tt : List ByteArray} : ruleG m (n + k) (turnF (n + k) m (flat (ruleG (n + k) m (underF n m (flat ss) (flat tt))))) = ruleG m (k + n) (besideF k n (flat (ruleG m k (turnF k m (flat tt)))) (flat (ruleG m n (turnF n m (flat ss))))) := by
  rw [Nat.add_comm k n]
  refine rule_eq fun r hr q hq => ?_
  unfold turnF besideF
  rw [rule_flat (by omega) hr]
  unfold underF
  by_cases h : q < k
  · rw [if_neg (by omega), if_pos h, rule_flat hr h, show n + k - 1 - q - n = k - 1 - q by omega]
  · rw [if_pos (by omega), if_neg h, rule_flat hr (by omega), show n + k - 1 - q = n - 1 - (q - k) by omega]
theorem flip_beside {n m k : Nat} {ss tt : List ByteArray} : ruleG n (m + k) (flipF (m + k) (flat (ruleG n (m + k) (besideF m k (flat ss) (flat tt))))) = ruleG n (k + m) (besideF k m (flat (ruleG n k (flipF k (flat tt)))) (flat (ruleG n m (flipF m (flat ss))))) := by
  rw [Nat.add_comm k m]
  refine rule_eq fun r hr q hq => ?_
  unfold flipF besideF
  rw [rule_flat hr (by omega)]
  by_cases h : q < k
  · rw [if_neg (by omega), if_pos h, rule_flat hr h, show m + k - 1 - q - m = k - 1 - q by omega]
  · rw [if_pos (by omega), if_neg h, rule_flat hr (by omega), show m + k - 1 - q = m - 1 - (q - k) by omega]
theorem flip_under {n k m : Nat} {ss tt : List ByteArray} : ruleG (n + k) m (flipF m (flat (ruleG (n + k) m (underF n m (flat ss) (flat tt))))) = ruleG (n + k) m (underF n m (flat (ruleG n m (flipF m (flat ss)))) (flat (ruleG k m (flipF m (flat tt))))) := by
  refine rule_eq fun r hr q hq => ?_
  unfold flipF underF
  rw [rule_flat hr (by omega)]
  by_cases h : r < n
  · rw [if_pos h, if_pos h, rule_flat h hq]
  · rw [if_neg h, if_neg h, rule_flat (by omega) hq]
theorem other_beside {n m k : Nat} {ss tt : List ByteArray} : ruleG n (m + k) (otherF (m + k) (flat (ruleG n (m + k) (besideF m k (flat ss) (flat tt))))) = ruleG n (m + k) (besideF m k (flat (ruleG n m (otherF m (flat ss)))) (flat (ruleG n k (otherF k (flat tt))))) := by
  refine rule_eq fun r hr q hq => ?_
  unfold otherF besideF
  rw [rule_flat hr hq]
  by_cases h : q < m
  · rw [if_pos h, if_pos h, rule_flat hr h]
  · rw [if_neg h, if_neg h, rule_flat hr (by omega)]
theorem other_under {n k m : Nat} {ss tt : List ByteArray} : ruleG (n + k) m (otherF m (flat (ruleG (n + k) m (underF n m (flat ss) (flat tt))))) = ruleG (n + k) m (underF n m (flat (ruleG n m (otherF m (flat ss)))) (flat (ruleG k m (otherF m (flat tt))))) := by
  refine rule_eq fun r hr q hq => ?_
  unfold otherF underF
  rw [rule_flat hr hq]
  by_cases h : r < n
  · rw [if_pos h, if_pos h, rule_flat h hq]
  · rw [if_neg h, if_neg h, rule_flat (by omega) hq]
theorem turn_flip2 {n m : Nat} {ss : List ByteArray} : ruleG n m (otherF m (flat (ruleG n m (flipF m (flat ss))))) = ruleG n m (flipF m (flat (ruleG n m (otherF m (flat ss))))) := by
  refine rule_eq fun r hr q hq => ?_
  unfold otherF flipF
  rw [rule_flat hr hq, rule_flat hr (by omega)]

/-- A tidy term with a sign moved in. -/
theorem Tm.app_facts : ∀ (u : Tm) (x : UInt8), u.tidy = true → isSig x = true → u.fits = true → (u.app x).dim = (Tm.sig x u).dim ∧ (u.app x).fits = true ∧ (u.app x).G = (Tm.sig x u).G
  | .lone c, x, _, hx, _ => by
    refine ⟨by unfold Tm.app Tm.dim; split <;> rfl, rfl, ?_⟩
    have e1 : ruleG 1 1 (turnF 1 1 (flat (ruleG 1 1 fun _ _ => c))) = ruleG 1 1 fun _ _ => othB c := rule_eq fun r hr q hq => by
      unfold turnF
      rw [rule_flat (f := fun _ _ => c) (by omega) hr]
      rfl
    have e2 : ruleG 1 1 (flipF 1 (flat (ruleG 1 1 fun _ _ => c))) = ruleG 1 1 fun _ _ => othB c := rule_eq fun r hr q hq => by
      unfold flipF
      rw [rule_flat (f := fun _ _ => c) hr (by omega)]
      rfl
    have e3 : ruleG 1 1 (otherF 1 (flat (ruleG 1 1 fun _ _ => c))) = ruleG 1 1 fun _ _ => othB c := rule_eq fun r hr q hq => by
      unfold otherF
      rw [rule_flat (f := fun _ _ => c) hr hq]
      rfl
    show ruleG 1 1 (fun _ _ => othB c) = if x = 62 then ruleG 1 1 (turnF 1 1 (flat (ruleG 1 1 fun _ _ => c))) else if x = 94 then ruleG 1 1 (flipF 1 (flat (ruleG 1 1 fun _ _ => c))) else ruleG 1 1 (otherF 1 (flat (ruleG 1 1 fun _ _ => c)))
    rw [e1, e2, e3]
    split
    · rfl
    · split <;> rfl
  | .sig _ _, _, h, _, _ => by cases h
  | .cpl a s b, x, h, hx, hf => by
    simp only [Tm.tidy, Bool.and_eq_true] at h
    simp only [Tm.fits, Bool.and_eq_true] at hf
    obtain ⟨da, fa, ga⟩ := Tm.app_facts a x h.1.1 hx hf.1.1
    obtain ⟨db, fb, gb⟩ := Tm.app_facts b x h.2 hx hf.1.2
    have hf2 := hf.2
    obtain ⟨⟨n, m⟩, hp⟩ : ∃ p, a.dim = p := ⟨_, rfl⟩
    obtain ⟨⟨k, l⟩, hq⟩ : ∃ p, b.dim = p := ⟨_, rfl⟩
    simp only [Tm.dim, Tm.G, hp, hq] at da db ga gb
    rw [hp, hq] at hf2
    show (movedT x s (a.app x) (b.app x)).dim = _ ∧ (movedT x s (a.app x) (b.app x)).fits = true ∧ (movedT x s (a.app x) (b.app x)).G = _
    generalize a.app x = a' at *
    generalize b.app x = b' at *
    have n1 : ((124 : UInt8) = 45) = False := by decide
    have n2 : ((45 : UInt8) = 124) = False := by decide
    have n3 : ((94 : UInt8) = 62) = False := by decide
    have n4 : ((42 : UInt8) = 62) = False := by decide
    have n5 : ((42 : UInt8) = 94) = False := by decide
    have n6 : ((62 : UInt8) = 94) = False := by decide
    rcases sig_three hx with rfl | rfl | rfl <;> rcases mid_two h.1.2 with rfl | rfl <;>
      simp only [n1, n2, n3, n4, n5, n6, movedT, Tm.dim, Tm.G, Tm.fits, hp, hq, da, db, ga, gb, fa, fb, and_true, true_and, and_false, and_self, if_true, if_false, Bool.true_and] at hf2 ⊢
    · -- turned, beside
      obtain ⟨e, h5⟩ := fit_beside hf2 (by decide)
      simp only at e h5
      subst e
      exact ⟨by simp [fit2, h5], turn_beside.symm⟩
    · obtain ⟨e, h5⟩ := fit_under hf2 rfl
      simp only at e h5
      subst e
      exact ⟨by rw [Nat.add_comm], by simp [fit2]; omega, turn_under.symm⟩
    · obtain ⟨e, h5⟩ := fit_beside hf2 (by decide)
      simp only at e h5
      subst e
      exact ⟨by rw [Nat.add_comm], by simp [fit2]; omega, flip_beside.symm⟩
    · obtain ⟨e, h5⟩ := fit_under hf2 rfl
      simp only at e h5
      subst e
      exact ⟨by simp [fit2, h5], flip_under.symm⟩
    · obtain ⟨e, h5⟩ := fit_beside hf2 (by decide)
      simp only at e h5
      subst e
      exact ⟨by simp [fit2, h5], other_beside.symm⟩
    · obtain ⟨e, h5⟩ := fit_under hf2 rfl
      simp only at e h5
      subst e
      exact ⟨by simp [fit2, h5], other_under.symm⟩
/-- A term and its tidy one tell the same. -/
theorem Tm.tid_facts : ∀ t : Tm, t.wf = true → t.fits = true → t.tid.dim = t.dim ∧ t.tid.fits = true ∧ t.tid.G = t.G
  | .lone _, _, _ => ⟨rfl, rfl, rfl⟩
  | .sig s t, hw, hf => by
    simp only [Tm.wf, Bool.and_eq_true] at hw
    obtain ⟨d, f, g⟩ := t.tid_facts hw.2 hf
    obtain ⟨d2, f2, g2⟩ := Tm.app_facts t.tid s (t.tid_ok hw.2).1 hw.1 f
    refine ⟨d2.trans ?_, f2, g2.trans ?_⟩
    · simp only [Tm.dim, d]
    · simp only [Tm.G, d, g]
  | .cpl a s b, hw, hf => by
    simp only [Tm.wf, Bool.and_eq_true] at hw
    simp only [Tm.fits, Bool.and_eq_true] at hf
    obtain ⟨d, f, g⟩ := a.tid_facts hw.1.1 hf.1.1
    obtain ⟨d2, f2, g2⟩ := b.tid_facts hw.2 hf.1.2
    refine ⟨?_, ?_, ?_⟩
    · simp only [Tm.tid, Tm.dim, d, d2]
    · simp only [Tm.tid, Tm.fits, f, f2, d, d2, hf.2, Bool.and_self]
    · simp only [Tm.tid, Tm.G, d, d2, g, g2]
/-- The grid, with mirrors exchanged or not. -/
def Tm.Go (t : Tm) (o : Bool) : List ByteArray := if o = true then otherT t.dim t.G else t.G
theorem Tm.Go_grid {t : Tm} (o : Bool) (hw : t.wf = true) (hf : t.fits = true) : GridT t.dim (t.Go o) := by
  cases o
  · exact t.grid hw hf
  · exact otherT_grid (t.grid hw hf)
theorem Tm.Go_turn {t : Tm} (o : Bool) (hw : t.wf = true) (hf : t.fits = true) : (Tm.sig 62 t).Go o = turnT t.dim (t.Go o) := by
  cases o
  · rfl
  · exact turn_other (t.grid hw hf)
theorem Tm.Go_flip {t : Tm} (o : Bool) : (Tm.sig 94 t).Go o = flipT t.dim (t.Go o) := by
  cases o
  · rfl
  · exact turn_flip2
theorem Tm.Go_other {t : Tm} (o : Bool) (hw : t.wf = true) (hf : t.fits = true) : (Tm.sig 42 t).Go o = t.Go (!o) := by
  cases o
  · rfl
  · exact other_other (t.grid hw hf)
theorem Tm.Go_under {a b : Tm} (o : Bool) (e : a.dim.2 = b.dim.2) : (Tm.cpl a 45 b).Go o = underT a.dim b.dim (a.Go o) (b.Go o) := by
  cases o
  · rfl
  · refine (other_under (n := a.dim.1) (k := b.dim.1) (m := a.dim.2)).trans ?_
    show _ = underT a.dim b.dim (otherT a.dim a.G) (otherT b.dim b.G)
    unfold underT otherT
    rw [← e]
theorem Tm.Go_beside {a b : Tm} (o : Bool) (e : a.dim.1 = b.dim.1) : (Tm.cpl a 124 b).Go o = besideT a.dim b.dim (a.Go o) (b.Go o) := by
  cases o
  · rfl
  · refine (other_beside (n := a.dim.1) (m := a.dim.2) (k := b.dim.2)).trans ?_
    show _ = besideT a.dim b.dim (otherT a.dim a.G) (otherT b.dim b.G)
    unfold besideT otherT
    rw [← e]
end Go.Proofs.YtongjijkdjagdaaDoor
