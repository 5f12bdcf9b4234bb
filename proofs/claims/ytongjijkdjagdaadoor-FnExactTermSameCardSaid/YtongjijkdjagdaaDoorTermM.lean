/- Terms in plain words: trees, their texts, what is read, what they tell, tidied. No program is named. -/
import Derived.Test.YtongjijkdjagdaaDoorBunA
namespace Go.Proofs.YtongjijkdjagdaaDoor

/-- A term: a letter, a sign and a term, two terms with a sign between. -/
inductive Tm where
  | lone (c : UInt8)
  | sig (s : UInt8) (t : Tm)
  | cpl (a : Tm) (s : UInt8) (b : Tm)

def isSig (b : UInt8) : Bool := b == 62 || b == 94 || b == 42
def isMid (b : UInt8) : Bool := b == 124 || b == 45

/-- Its text. -/
def Tm.text : Tm → List UInt8
  | .lone c => [c]
  | .sig s t => s :: t.text
  | .cpl a s b => 40 :: (a.text ++ s :: (b.text ++ [41]))
def Tm.wf : Tm → Bool
  | .lone c => isLet c
  | .sig s t => isSig s && t.wf
  | .cpl a s b => a.wf && isMid s && b.wf
/-- Rows and columns. -/
def Tm.dim : Tm → Nat × Nat
  | .lone _ => (1, 1)
  | .sig s t => if s = 62 then (t.dim.2, t.dim.1) else t.dim
  | .cpl a s b => if s = 45 then (a.dim.1 + b.dim.1, a.dim.2) else (a.dim.1, a.dim.2 + b.dim.2)
/-- Whether two fit. -/
def fit2 (s : UInt8) (p q : Nat × Nat) : Bool := if s = 45 then decide (p.2 = q.2) && decide (p.1 + q.1 ≤ 5) else decide (p.1 = q.1) && decide (p.2 + q.2 ≤ 5)
def Tm.fits : Tm → Bool
  | .lone _ => true
  | .sig _ t => t.fits
  | .cpl a s b => a.fits && b.fits && fit2 s a.dim b.dim

/-- What is read from letters: a term, and what is left. -/
def rd : Nat → List UInt8 → Option (Tm × List UInt8)
  | 0, _ => none
  | _ + 1, [] => none
  | k + 1, c :: l =>
    if c = 40 then
      match rd k l with
      | some (a, s :: l1) =>
        if isMid s = true then
          match rd k l1 with
          | some (b, z :: l3) => if z = 41 then some (.cpl a s b, l3) else none
          | _ => none
        else none
      | _ => none
    else if isLet c = true then some (.lone c, l)
    else if isSig c = true then
      match rd k l with
      | some (t, r) => some (.sig c t, r)
      | none => none
    else none

theorem rd_ok : ∀ (k : Nat) (l : List UInt8) (t : Tm) (r : List UInt8), rd k l = some (t, r) → l = t.text ++ r ∧ t.wf = true
  | 0, l, t, r, h => by simp [rd] at h
  | k + 1, [], t, r, h => by simp [rd] at h
  | k + 1, c :: l, t, r, h => by
    unfold rd at h
    by_cases h1 : c = 40
    · rw [if_pos h1] at h
      split at h
      · rename_i a s l1 ha
        by_cases hm : isMid s = true
        · rw [if_pos hm] at h
          split at h
          · rename_i b z l3 hb
            by_cases hz : z = 41
            · rw [if_pos hz] at h
              simp only [Option.some.injEq, Prod.mk.injEq] at h
              obtain ⟨rfl, rfl⟩ := h
              obtain ⟨e1, w1⟩ := rd_ok k _ _ _ ha
              obtain ⟨e2, w2⟩ := rd_ok k _ _ _ hb
              subst h1 hz
              refine ⟨?_, by simp [Tm.wf, w1, w2, hm]⟩
              rw [e1, e2]
              simp [Tm.text]
            · rw [if_neg hz] at h; cases h
          · cases h
        · rw [if_neg hm] at h; cases h
      · cases h
    · rw [if_neg h1] at h
      by_cases h2 : isLet c = true
      · rw [if_pos h2] at h
        simp only [Option.some.injEq, Prod.mk.injEq] at h
        obtain ⟨rfl, rfl⟩ := h
        exact ⟨rfl, h2⟩
      · rw [if_neg h2] at h
        by_cases h3 : isSig c = true
        · rw [if_pos h3] at h
          split at h
          · rename_i t' r' ht
            simp only [Option.some.injEq, Prod.mk.injEq] at h
            obtain ⟨rfl, rfl⟩ := h
            obtain ⟨e1, w1⟩ := rd_ok k _ _ _ ht
            refine ⟨by rw [e1]; rfl, by simp [Tm.wf, w1, h3]⟩
          · cases h
        · rw [if_neg h3] at h; cases h
theorem Tm.text_pos : ∀ t : Tm, 0 < t.text.length
  | .lone _ => by simp [Tm.text]
  | .sig _ _ => by simp [Tm.text]
  | .cpl _ _ _ => by simp [Tm.text]
theorem rd_len {k : Nat} {l r : List UInt8} {t : Tm} (h : rd k l = some (t, r)) : r.length < l.length := by
  have e := (rd_ok k l t r h).1
  have := t.text_pos
  rw [e, List.length_append]; omega
theorem sig_not {s : UInt8} (h : isSig s = true) : s ≠ 40 ∧ isLet s = false := by
  unfold isSig at h
  simp only [Bool.or_eq_true, beq_iff_eq] at h
  rcases h with (h | h) | h <;> subst h <;> exact ⟨by decide, by decide⟩
theorem let_not {c : UInt8} (h : isLet c = true) : c ≠ 40 := fun e => by subst e; revert h; decide
/-- A text is read as its term. -/
theorem rd_text : ∀ (t : Tm) (k : Nat) (r : List UInt8), t.wf = true → t.text.length ≤ k → rd k (t.text ++ r) = some (t, r)
  | .lone c, k, r, hw, hk => by
    cases k with
    | zero => simp [Tm.text] at hk
    | succ k =>
      show rd (k + 1) (c :: r) = _
      unfold rd
      rw [if_neg (let_not hw), if_pos (show isLet c = true from hw)]
  | .sig s t, k, r, hw, hk => by
    cases k with
    | zero => simp [Tm.text] at hk
    | succ k =>
      simp only [Tm.wf, Bool.and_eq_true] at hw
      have ih := rd_text t k r hw.2 (by simp [Tm.text] at hk; omega)
      show rd (k + 1) (s :: (t.text ++ r)) = _
      unfold rd
      obtain ⟨h1, h2⟩ := sig_not hw.1
      rw [if_neg h1, if_neg (by rw [h2]; decide), if_pos hw.1, ih]
  | .cpl a s b, k, r, hw, hk => by
    cases k with
    | zero => simp [Tm.text] at hk
    | succ k =>
      simp only [Tm.wf, Bool.and_eq_true] at hw
      have hl : a.text.length + b.text.length + 2 ≤ k := by simp [Tm.text] at hk; omega
      have ih1 := rd_text a k (s :: (b.text ++ 41 :: r)) hw.1.1 (by omega)
      have ih2 := rd_text b k (41 :: r) hw.2 (by omega)
      have e : (Tm.cpl a s b).text ++ r = 40 :: (a.text ++ s :: (b.text ++ 41 :: r)) := by simp [Tm.text]
      rw [e]
      unfold rd
      rw [if_pos rfl, ih1]
      simp only [hw.1.2, if_true, ih2]
/-- A whole text is read so. -/
def rdAll (l : List UInt8) : Option Tm :=
  match rd (l.length + 1) l with
  | some (t, []) => some t
  | _ => none
theorem rdAll_ok {l : List UInt8} {t : Tm} (h : rdAll l = some t) : l = t.text ∧ t.wf = true := by
  unfold rdAll at h
  split at h
  · rename_i t' h'
    cases h
    have := rd_ok _ _ _ _ h'
    rw [List.append_nil] at this
    exact this
  · cases h
theorem rdAll_text {t : Tm} (h : t.wf = true) : rdAll t.text = some t := by
  unfold rdAll
  have := rd_text t (t.text.length + 1) [] h (by omega)
  rw [List.append_nil] at this
  rw [this]

/-! ### What is told: rows and columns. -/
theorem Tm.dim_pos : ∀ t : Tm, 1 ≤ t.dim.1 ∧ 1 ≤ t.dim.2
  | .lone _ => ⟨Nat.le_refl _, Nat.le_refl _⟩
  | .sig s t => by
    have := t.dim_pos
    unfold Tm.dim
    split <;> exact ⟨by omega, by omega⟩
  | .cpl a s b => by
    have := a.dim_pos
    have := b.dim_pos
    unfold Tm.dim
    split <;> exact ⟨by simp only; omega, by simp only; omega⟩
theorem Tm.dim_le : ∀ t : Tm, t.fits = true → t.dim.1 ≤ 5 ∧ t.dim.2 ≤ 5
  | .lone _, _ => ⟨show 1 ≤ 5 by omega, show 1 ≤ 5 by omega⟩
  | .sig s t, h => by
    have := t.dim_le h
    unfold Tm.dim
    split <;> exact ⟨by omega, by omega⟩
  | .cpl a s b, h => by
    simp only [Tm.fits, Bool.and_eq_true] at h
    have h1 := a.dim_le h.1.1
    have h2 := h.2
    unfold fit2 at h2
    unfold Tm.dim
    by_cases hs : s = 45
    · rw [if_pos hs] at h2 ⊢
      simp only [Bool.and_eq_true, decide_eq_true_eq] at h2
      exact ⟨h2.2, h1.2⟩
    · rw [if_neg hs] at h2 ⊢
      simp only [Bool.and_eq_true, decide_eq_true_eq] at h2
      exact ⟨h1.1, h2.2⟩

/-! ### Tidied. -/
def othB (b : UInt8) : UInt8 := if b = 114 then 102 else if b = 102 then 114 else b
def Tm.tidy : Tm → Bool
  | .lone _ => true
  | .sig _ _ => false
  | .cpl a s b => a.tidy && isMid s && b.tidy
/-- A sign in front of a couple, moved to both. -/
def movedT (x s : UInt8) (a b : Tm) : Tm :=
  if x = 62 ∧ s = 124 then .cpl a 45 b
  else if x = 62 ∧ s = 45 then .cpl b 124 a
  else if x = 94 ∧ s = 124 then .cpl b 124 a
  else .cpl a s b
/-- A sign, moved into a tidy term. -/
def Tm.app (x : UInt8) : Tm → Tm
  | .lone c => .lone (othB c)
  | .sig _ t => t
  | .cpl a s b => movedT x s (a.app x) (b.app x)
def Tm.tid : Tm → Tm
  | .lone c => .lone c
  | .sig s t => t.tid.app s
  | .cpl a s b => .cpl a.tid s b.tid
/-- The specification's way: turns, whether it is flipped, whether mirrors are exchanged. -/
def midN : Nat → UInt8 → Bool → UInt8 × Bool
  | 0, s, w => (s, w)
  | k + 1, s, w => if s = 124 then midN k 45 w else midN k 124 (!w)
def Tm.tidS : Tm → Nat → Bool → Bool → Tm
  | .lone c, k, f, o => .lone (if ((decide (k % 2 = 1) != f) != o) = true then othB c else c)
  | .sig s t, k, f, o => if s = 62 then (if f = true then t.tidS ((k + 3) % 4) f o else t.tidS ((k + 1) % 4) f o) else if s = 94 then t.tidS k (!f) o else t.tidS k f (!o)
  | .cpl a s b, k, f, o =>
    let x := midN k s (f && s == 124)
    if x.2 = true then .cpl (b.tidS k f o) x.1 (a.tidS k f o) else .cpl (a.tidS k f o) x.1 (b.tidS k f o)
theorem othB_othB (b : UInt8) : othB (othB b) = b := by
  unfold othB
  by_cases h1 : b = 114
  · subst h1; decide
  · by_cases h2 : b = 102
    · subst h2; decide
    · rw [if_neg h1, if_neg h2, if_neg h1, if_neg h2]
theorem othB_let (b : UInt8) (h : isLet b = true) : isLet (othB b) = true := by
  unfold isLet at h ⊢
  simp only [Bool.or_eq_true, beq_iff_eq] at h
  rcases h with (h | h) | h <;> subst h <;> decide
theorem moved_tidy {x s : UInt8} {a b : Tm} (ha : a.tidy = true) (hb : b.tidy = true) (hs : isMid s = true) : (movedT x s a b).tidy = true := by
  unfold movedT
  split
  · simp [Tm.tidy, ha, hb, isMid]
  · split
    · simp [Tm.tidy, ha, hb, isMid]
    · split
      · simp [Tm.tidy, ha, hb, isMid]
      · simp [Tm.tidy, ha, hb, hs]
theorem moved_wf {x s : UInt8} {a b : Tm} (ha : a.wf = true) (hb : b.wf = true) (hs : isMid s = true) : (movedT x s a b).wf = true := by
  unfold movedT
  split
  · simp [Tm.wf, ha, hb, isMid]
  · split
    · simp [Tm.wf, ha, hb, isMid]
    · split
      · simp [Tm.wf, ha, hb, isMid]
      · simp [Tm.wf, ha, hb, hs]
theorem Tm.app_tidy (x : UInt8) : ∀ t : Tm, t.tidy = true → (t.app x).tidy = true
  | .lone _, _ => rfl
  | .sig _ _, h => by cases h
  | .cpl a s b, h => by
    simp only [Tm.tidy, Bool.and_eq_true] at h
    exact moved_tidy (a.app_tidy x h.1.1) (b.app_tidy x h.2) h.1.2
theorem Tm.app_wf (x : UInt8) : ∀ t : Tm, t.tidy = true → t.wf = true → (t.app x).wf = true
  | .lone c, _, h => othB_let c h
  | .sig _ _, h, _ => by cases h
  | .cpl a s b, h, h2 => by
    simp only [Tm.tidy, Bool.and_eq_true] at h
    simp only [Tm.wf, Bool.and_eq_true] at h2
    exact moved_wf (a.app_wf x h.1.1 h2.1.1) (b.app_wf x h.2 h2.2) h.1.2
theorem Tm.tid_ok : ∀ t : Tm, t.wf = true → t.tid.tidy = true ∧ t.tid.wf = true
  | .lone _, h => ⟨rfl, h⟩
  | .sig s t, h => by
    simp only [Tm.wf, Bool.and_eq_true] at h
    obtain ⟨h1, h2⟩ := t.tid_ok h.2
    exact ⟨Tm.app_tidy s _ h1, Tm.app_wf s _ h1 h2⟩
  | .cpl a s b, h => by
    simp only [Tm.wf, Bool.and_eq_true] at h
    obtain ⟨h1, h2⟩ := a.tid_ok h.1.1
    obtain ⟨h3, h4⟩ := b.tid_ok h.2
    exact ⟨by simp [Tm.tid, Tm.tidy, h1, h3, h.1.2], by simp [Tm.tid, Tm.wf, h2, h4, h.1.2]⟩
theorem mid_two {s : UInt8} (h : isMid s = true) : s = 124 ∨ s = 45 := by
  unfold isMid at h
  simpa only [Bool.or_eq_true, beq_iff_eq] using h
theorem sig_three {s : UInt8} (h : isSig s = true) : s = 62 ∨ s = 94 ∨ s = 42 := by
  unfold isSig at h
  simpa only [Bool.or_eq_true, beq_iff_eq, or_assoc] using h
theorem tfour {k : Nat} (h : k < 4) : k = 0 ∨ k = 1 ∨ k = 2 ∨ k = 3 := by omega
/-- A tidy term is moved as its sign says. -/
theorem Tm.tidS_app : ∀ (u : Tm) (x : UInt8) (k : Nat) (f o : Bool), u.tidy = true → isSig x = true → k < 4 → (u.app x).tidS k f o = (Tm.sig x u).tidS k f o
  | .lone c, x, k, f, o, _, hx, hk => by
    rcases sig_three hx with rfl | rfl | rfl <;> rcases tfour hk with rfl | rfl | rfl | rfl <;> cases f <;> cases o <;> simp [Tm.app, Tm.tidS, othB_othB]
  | .sig _ _, _, _, _, _, h, _, _ => by cases h
  | .cpl a s b, x, k, f, o, h, hx, hk => by
    simp only [Tm.tidy, Bool.and_eq_true] at h
    have iha := fun k f o hk => Tm.tidS_app a x k f o h.1.1 hx hk
    have ihb := fun k f o hk => Tm.tidS_app b x k f o h.2 hx hk
    have ha := iha k f o hk
    have hb := ihb k f o hk
    rcases sig_three hx with rfl | rfl | rfl <;> rcases mid_two h.1.2 with rfl | rfl <;> rcases tfour hk with rfl | rfl | rfl | rfl <;> cases f <;> cases o <;>
      simp [Tm.app, movedT, Tm.tidS, midN] at ha hb ⊢ <;> simp [ha, hb]
theorem Tm.tidS_none : ∀ u : Tm, u.tidy = true → u.tidS 0 false false = u
  | .lone c, _ => by simp [Tm.tidS]
  | .sig _ _, h => by cases h
  | .cpl a s b, h => by
    simp only [Tm.tidy, Bool.and_eq_true] at h
    simp [Tm.tidS, midN, a.tidS_none h.1.1, b.tidS_none h.2]
theorem Tm.tidS_tid : ∀ (t : Tm) (k : Nat) (f o : Bool), t.wf = true → k < 4 → t.tidS k f o = t.tid.tidS k f o
  | .lone c, k, f, o, _, _ => rfl
  | .sig s t, k, f, o, h, hk => by
    simp only [Tm.wf, Bool.and_eq_true] at h
    have ih := fun k f o hk => Tm.tidS_tid t k f o h.2 hk
    show _ = (t.tid.app s).tidS k f o
    rw [Tm.tidS_app _ s k f o (t.tid_ok h.2).1 h.1 hk]
    show (if s = 62 then (if f = true then t.tidS ((k + 3) % 4) f o else t.tidS ((k + 1) % 4) f o) else if s = 94 then t.tidS k (!f) o else t.tidS k f (!o)) = (if s = 62 then (if f = true then t.tid.tidS ((k + 3) % 4) f o else t.tid.tidS ((k + 1) % 4) f o) else if s = 94 then t.tid.tidS k (!f) o else t.tid.tidS k f (!o))
    rw [ih _ f o (Nat.mod_lt _ (by omega)), ih _ f o (Nat.mod_lt _ (by omega)), ih k (!f) o hk, ih k f (!o) hk]
  | .cpl a s b, k, f, o, h, hk => by
    simp only [Tm.wf, Bool.and_eq_true] at h
    show _ = (Tm.cpl a.tid s b.tid).tidS k f o
    simp only [Tm.tidS]
    rw [Tm.tidS_tid a k f o h.1.1 hk, Tm.tidS_tid b k f o h.2 hk]
/-- Both ways are the same. -/
theorem Tm.tid_same (t : Tm) (h : t.wf = true) : t.tidS 0 false false = t.tid := by
  rw [Tm.tidS_tid t 0 false false h (by omega), Tm.tidS_none _ (t.tid_ok h).1]
end Go.Proofs.YtongjijkdjagdaaDoor
