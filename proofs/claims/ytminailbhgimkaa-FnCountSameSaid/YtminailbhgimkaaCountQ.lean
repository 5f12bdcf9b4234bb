/- A list of counts by numbers: one place added to, the list made longer where it is too short. Pure. -/
namespace Go.Proofs.Ytminailbhgimkaa

/-- A place of a list is added to; the list is made longer where it is too short. -/
def addAt (l : List Int) (r : Nat) (g : Int) : List Int := (l ++ List.replicate (r + 1 - l.length) 0).set r (l.getD r 0 + g)
theorem addAt_length (l : List Int) (r : Nat) (g : Int) : (addAt l r g).length = max l.length (r + 1) := by
  unfold addAt
  rw [List.length_set, List.length_append, List.length_replicate]
  omega
theorem padded_getD (l : List Int) (j k : Nat) : (l ++ List.replicate j 0).getD k 0 = l.getD k 0 := by
  rw [List.getD_eq_getElem?_getD, List.getD_eq_getElem?_getD]
  by_cases h : k < l.length
  · rw [List.getElem?_append_left h]
  · rw [List.getElem?_append_right (by omega), List.getElem?_replicate, List.getElem?_eq_none (by omega)]
    split <;> rfl
theorem addAt_getD (l : List Int) (r : Nat) (g : Int) (k : Nat) : (addAt l r g).getD k 0 = l.getD k 0 + if k = r then g else 0 := by
  have hl : r < (l ++ List.replicate (r + 1 - l.length) (0 : Int)).length := by rw [List.length_append, List.length_replicate]; omega
  by_cases h : k = r
  · subst h
    rw [if_pos rfl, List.getD_eq_getElem?_getD]
    unfold addAt
    rw [List.getElem?_set_self hl]
    rfl
  · rw [if_neg h, Int.add_zero, ← padded_getD l (r + 1 - l.length) k, List.getD_eq_getElem?_getD, List.getD_eq_getElem?_getD]
    unfold addAt
    rw [List.getElem?_set_ne (fun e => h e.symm)]
/-- The list made longer, place by place. -/
def growZ (l : List Int) (j : Nat) : List Int := l ++ List.replicate j 0
theorem growZ_zero (l : List Int) : growZ l 0 = l := by simp [growZ]
theorem growZ_succ (l : List Int) (j : Nat) : growZ l (j + 1) = growZ l j ++ [0] := by
  unfold growZ
  rw [List.replicate_succ', List.append_assoc]
theorem growZ_length (l : List Int) (j : Nat) : (growZ l j).length = l.length + j := by simp [growZ]
theorem growZ_set (l : List Int) (r : Nat) (g : Int) : (growZ l (r + 1 - l.length)).set r ((growZ l (r + 1 - l.length)).getD r 0 + g) = addAt l r g := by
  unfold growZ addAt
  rw [padded_getD]
/-- Numbers counted: how often each one comes, up to the greatest that comes. -/
def cntL (f : Nat → Nat) (pre : List Nat) : List Int := pre.foldl (fun l x => addAt l (f x) 1) []
theorem cntL_snoc (f : Nat → Nat) (pre : List Nat) (x : Nat) : cntL f (pre ++ [x]) = addAt (cntL f pre) (f x) 1 := by simp [cntL]
theorem cntL_getD (f : Nat → Nat) (k : Nat) (pre : List Nat) : (cntL f pre).getD k 0 = ((pre.countP fun x => f x == k : Nat) : Int) := by
  have key : ∀ (pre : List Nat) (l : List Int), (pre.foldl (fun l x => addAt l (f x) 1) l).getD k 0 = l.getD k 0 + ((pre.countP fun x => f x == k : Nat) : Int) := by
    intro pre
    induction pre with
    | nil => intro l; simp
    | cons x pre ih =>
      intro l
      rw [List.foldl_cons, ih, addAt_getD, List.countP_cons]
      by_cases h : k = f x
      · rw [if_pos h, if_pos (by simp [h])]; omega
      · rw [if_neg h, if_neg (by simpa using fun e => h e.symm)]; omega
  have := key pre []
  rw [show ([] : List Int).getD k 0 = 0 by simp, Int.zero_add] at this
  exact this
theorem cntL_len (f : Nat → Nat) {B : Nat} (hB : ∀ x, f x ≤ B) (pre : List Nat) : (cntL f pre).length ≤ B + 1 := by
  have key : ∀ (pre : List Nat) (l : List Int), l.length ≤ B + 1 → (pre.foldl (fun l x => addAt l (f x) 1) l).length ≤ B + 1 := by
    intro pre
    induction pre with
    | nil => exact fun l h => h
    | cons x pre ih =>
      intro l h
      rw [List.foldl_cons]
      refine ih _ ?_
      rw [addAt_length]
      have := hB x
      omega
  exact key pre [] (by simp)
theorem cntL_bound (f : Nat → Nat) (k : Nat) (pre : List Nat) : 0 ≤ (cntL f pre).getD k 0 ∧ (cntL f pre).getD k 0 ≤ pre.length := by
  rw [cntL_getD]
  have := List.countP_le_length (p := fun x => f x == k) (l := pre)
  omega
/-- The last place of the list is the greatest number that came. -/
theorem cntL_length (f : Nat → Nat) (pre : List Nat) : (cntL f pre).length = pre.foldl (fun s x => max s (f x + 1)) 0 := by
  have key : ∀ (pre : List Nat) (l : List Int), (pre.foldl (fun l x => addAt l (f x) 1) l).length = pre.foldl (fun s x => max s (f x + 1)) l.length := by
    intro pre
    induction pre with
    | nil => exact fun l => rfl
    | cons x pre ih =>
      intro l
      rw [List.foldl_cons, ih, addAt_length, List.foldl_cons]
  exact key pre []
/-- A list of counts has no place too many if its last one is not 0. -/
def Trim (l : List Int) : Prop := ∀ k, l.length = k + 1 → l.getD k 0 ≠ 0
theorem Trim.ext {l l' : List Int} (h : Trim l) (h' : Trim l') (he : ∀ k, l.getD k 0 = l'.getD k 0) : l = l' := by
  have hlen : l.length = l'.length := by
    rcases Nat.lt_trichotomy l.length l'.length with hl | hl | hl
    · exfalso
      obtain ⟨k, hk⟩ : ∃ k, l'.length = k + 1 := ⟨l'.length - 1, by omega⟩
      refine h' k hk ?_
      rw [← he, List.getD_eq_getElem?_getD, List.getElem?_eq_none (by omega)]
      rfl
    · exact hl
    · exfalso
      obtain ⟨k, hk⟩ : ∃ k, l.length = k + 1 := ⟨l.length - 1, by omega⟩
      refine h k hk ?_
      rw [he, List.getD_eq_getElem?_getD, List.getElem?_eq_none (by omega)]
      rfl
  refine List.ext_getElem hlen fun i h1 h2 => ?_
  have := he i
  rw [List.getD_eq_getElem?_getD, List.getD_eq_getElem?_getD, List.getElem?_eq_getElem h1, List.getElem?_eq_getElem h2] at this
  exact this
theorem Trim.addAt {l : List Int} (h : Trim l) (h0 : ∀ k, 0 ≤ l.getD k 0) (r : Nat) {g : Int} (hg : 0 < g) : Trim (addAt l r g) := by
  intro k hk
  rw [addAt_length] at hk
  rw [addAt_getD]
  have := h0 k
  by_cases e : k = r
  · rw [if_pos e]; omega
  · rw [if_neg e, Int.add_zero]
    exact h k (by omega)
theorem addAt_nonneg {l : List Int} (h0 : ∀ k, 0 ≤ l.getD k 0) (r : Nat) {g : Int} (hg : 0 ≤ g) (k : Nat) : 0 ≤ (addAt l r g).getD k 0 := by
  rw [addAt_getD]
  have := h0 k
  split <;> omega
theorem cntL_nonneg (f : Nat → Nat) (pre : List Nat) (k : Nat) : 0 ≤ (cntL f pre).getD k 0 := (cntL_bound f k pre).1
theorem cntL_trim (f : Nat → Nat) (pre : List Nat) : Trim (cntL f pre) := by
  have key : ∀ (pre : List Nat) (l : List Int), Trim l → (∀ k, 0 ≤ l.getD k 0) → Trim (pre.foldl (fun l x => addAt l (f x) 1) l) := by
    intro pre
    induction pre with
    | nil => exact fun l h _ => h
    | cons x pre ih => exact fun l h h0 => ih _ (h.addAt h0 _ (by omega)) (addAt_nonneg h0 _ (by omega))
  exact key pre [] (fun k hk => by simp at hk) (fun k => by simp)
/-- All numbers of a list added, each one as often as told by its place. -/
def weigh (l : List Int) : Int := (List.range l.length).foldl (fun (s : Int) (r : Nat) => s + (r : Int) * l.getD r 0) 0
def weighTo (l : List Int) (k : Nat) : Int := (List.range k).foldl (fun (s : Int) (r : Nat) => s + (r : Int) * l.getD r 0) 0
theorem weighTo_zero (l : List Int) : weighTo l 0 = 0 := rfl
theorem weighTo_succ (l : List Int) (k : Nat) : weighTo l (k + 1) = weighTo l k + (k : Int) * l.getD k 0 := by
  unfold weighTo
  rw [List.range_succ, List.foldl_append]
  rfl
theorem weighTo_bound {l : List Int} {B : Nat} (h : ∀ k, 0 ≤ l.getD k 0 ∧ l.getD k 0 ≤ B) : ∀ k, 0 ≤ weighTo l k ∧ weighTo l k ≤ (k * k * B : Nat)
  | 0 => ⟨Int.le_refl _, by rw [weighTo_zero]; omega⟩
  | k + 1 => by
    rw [weighTo_succ]
    obtain ⟨h1, h2⟩ := weighTo_bound h k
    obtain ⟨h3, h4⟩ := h k
    have h5 : (0 : Int) ≤ (k : Int) * l.getD k 0 := Int.mul_nonneg (by omega) h3
    have h6 : (k : Int) * l.getD k 0 ≤ (k : Int) * (B : Int) := Int.mul_le_mul_of_nonneg_left h4 (by omega)
    refine ⟨by omega, ?_⟩
    have h7 : k * k * B + k * B ≤ (k + 1) * (k + 1) * B := by
      rw [← Nat.add_mul]
      exact Nat.mul_le_mul_right B (by rw [Nat.add_mul, Nat.mul_add]; omega)
    have h8 : ((k * k * B + k * B : Nat) : Int) = ((k * k * B : Nat) : Int) + (k : Int) * (B : Int) := by push_cast; rfl
    omega
theorem addAt_in {l : List Int} {r : Nat} (h : r < l.length) (g : Int) : addAt l r g = l.set r (l.getD r 0 + g) := by
  unfold addAt
  rw [show r + 1 - l.length = 0 by omega, List.replicate_zero, List.append_nil]
/-- Numbers below a bound counted, with a place for each one. -/
def portsL (P : Nat) (f : Nat → Nat) (pre : List Nat) : List Int := pre.foldl (fun l x => addAt l (f x) 1) (List.replicate P 0)
theorem portsL_nil (P : Nat) (f : Nat → Nat) : portsL P f [] = List.replicate P 0 := rfl
theorem portsL_length {P : Nat} {f : Nat → Nat} (hf : ∀ x, f x < P) (pre : List Nat) : (portsL P f pre).length = P := by
  have key : ∀ (pre : List Nat) (l : List Int), l.length = P → (pre.foldl (fun l x => addAt l (f x) 1) l).length = P := by
    intro pre
    induction pre with
    | nil => exact fun l h => h
    | cons x pre ih =>
      intro l h
      rw [List.foldl_cons]
      refine ih _ ?_
      rw [addAt_length]
      have := hf x
      omega
  exact key pre _ (by simp)
theorem portsL_snoc {P : Nat} {f : Nat → Nat} (hf : ∀ x, f x < P) (pre : List Nat) (x : Nat) : portsL P f (pre ++ [x]) = (portsL P f pre).set (f x) ((portsL P f pre).getD (f x) 0 + 1) := by
  rw [← addAt_in (by rw [portsL_length hf]; exact hf x)]
  simp [portsL]
theorem portsL_getD (P : Nat) (f : Nat → Nat) (k : Nat) (pre : List Nat) : (portsL P f pre).getD k 0 = ((pre.countP fun x => f x == k : Nat) : Int) := by
  have key : ∀ (pre : List Nat) (l : List Int), (pre.foldl (fun l x => addAt l (f x) 1) l).getD k 0 = l.getD k 0 + ((pre.countP fun x => f x == k : Nat) : Int) := by
    intro pre
    induction pre with
    | nil => intro l; simp
    | cons x pre ih =>
      intro l
      rw [List.foldl_cons, ih, addAt_getD, List.countP_cons]
      by_cases h : k = f x
      · rw [if_pos h, if_pos (by simp [h])]; omega
      · rw [if_neg h, if_neg (by simpa using fun e => h e.symm)]; omega
  have := key pre (List.replicate P 0)
  rw [show (List.replicate P (0 : Int)).getD k 0 = 0 by rw [List.getD_eq_getElem?_getD, List.getElem?_replicate]; split <;> rfl, Int.zero_add] at this
  exact this
theorem portsL_bound (P : Nat) (f : Nat → Nat) (k : Nat) (pre : List Nat) : 0 ≤ (portsL P f pre).getD k 0 ∧ (portsL P f pre).getD k 0 ≤ pre.length := by
  rw [portsL_getD]
  have := List.countP_le_length (p := fun x => f x == k) (l := pre)
  omega
end Go.Proofs.Ytminailbhgimkaa
