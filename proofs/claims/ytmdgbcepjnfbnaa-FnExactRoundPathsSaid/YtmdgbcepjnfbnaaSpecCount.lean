/- Counting letters, in the specification; plain words on counts and numbers. -/
import Derived.Test.YtmdgbcepjnfbnaaSpecIn
import Derived.Test.YtmdgbcepjnfbnaaNumber
namespace Go.Proofs.Ytmdgbcepjnfbnaa
open Go.RowKit

/-- How often a letter comes. -/
def cntOf (b : UInt8) (l : List UInt8) : Nat := l.countP fun x => x == b
theorem cntOf_step {fl : List UInt8} {q : Nat} {b x : UInt8} (h : fl[q]? = some x) : cntOf b (fl.take (q + 1)) = cntOf b (fl.take q) + (if (x == b) = true then 1 else 0) := by
  obtain ⟨hlt, rfl⟩ := List.getElem?_eq_some_iff.1 h
  unfold cntOf
  rw [List.take_succ_eq_append_getElem hlt, List.countP_append, List.countP_cons, List.countP_nil, Nat.zero_add]
theorem cntOf_le (b : UInt8) (l : List UInt8) : cntOf b l ≤ l.length := List.countP_le_length

def CntRel (ss : List ByteArray) (m : Nat) (b : UInt8) (x i : Value) : Prop :=
  ∃ r : Nat, r ≤ ss.length ∧ i = .int .i64 r ∧ x = .int .i64 ((cntOf b ((flat ss).take (r * m)) : Nat) : Int)
def CntIn (ss : List ByteArray) (m r : Nat) (b : UInt8) (x i : Value) : Prop :=
  ∃ k : Nat, k ≤ m ∧ i = .int .i64 k ∧ x = .int .i64 ((cntOf b ((flat ss).take (r * m + k)) : Nat) : Int)

/-- The cells of a full list, one by one. -/
theorem cells_map (fl : List UInt8) (N : Nat) (hN : fl.length = N) : (List.finRange N).map (fun x => (pad fl).getD x.val 0) = fl := by
  apply List.ext_getElem
  · simp [hN]
  · intro i h1 h2
    simp [pad, List.getElem?_append_left h2, List.getElem?_eq_getElem h2]
theorem mirr_flat (fl : List UInt8) (N : Nat) (hN : fl.length = N) : mirr (pad fl) (List.finRange N) = fl.countP (fun b => b != 46) := by
  conv => rhs; rw [← cells_map fl N hN]
  rw [List.countP_map]
  rfl
theorem mirr_two (fl : List UInt8) (h : ∀ b ∈ fl, isLet b = true) : fl.countP (fun b => b != 46) = cntOf 114 fl + cntOf 102 fl := by
  induction fl with
  | nil => rfl
  | cons b fl ih =>
    have ih' := ih (fun x hx => h x (by simp [hx]))
    have hb := h b (by simp)
    simp only [isLet, Bool.or_eq_true, beq_iff_eq] at hb
    unfold cntOf at ih' ⊢
    rcases hb with (rfl | rfl) | rfl <;> simp only [List.countP_cons] <;> rw [ih'] <;> simp <;> omega
theorem mirr_all (fl : List UInt8) : fl.countP (fun b => b != 46) + cntOf 46 fl = fl.length := by
  induction fl with
  | nil => rfl
  | cons b fl ih =>
    unfold cntOf at ih ⊢
    by_cases hb : b = 46
    · subst hb; simp; omega
    · simp [hb]; omega
theorem IsGrid.lets {n m : Nat} {ss : List ByteArray} (h : IsGrid n m ss) : ∀ b ∈ flat ss, isLet b = true := fun b hb => by
  unfold flat at hb
  obtain ⟨s, hs, hb⟩ := List.mem_flatMap.1 hb
  exact (h.2.2.2.2.2 s hs).2 b hb
theorem IsGrid.mirrors {n m : Nat} {ss : List ByteArray} (h : IsGrid n m ss) : mirr (pad (flat ss)) (List.finRange (n * m)) = cntOf 114 (flat ss) + cntOf 102 (flat ss) := by
  rw [mirr_flat _ _ h.flen, mirr_two _ h.lets]
theorem IsGrid.full {n m : Nat} {ss : List ByteArray} (h : IsGrid n m ss) : (mirr (pad (flat ss)) (List.finRange (n * m)) == n * m) = (cntOf 46 (flat ss) == 0) := by
  have h1 := mirr_all (flat ss)
  rw [← mirr_flat _ _ h.flen, h.flen] at h1
  rw [Bool.eq_iff_iff, beq_iff_eq, beq_iff_eq]; omega
/-- The number of a list of letters. -/
def numOf (fl : List UInt8) : Nat := fl.foldr (fun b a => dig b + 3 * a) 0
theorem numOf_fold (fl : List UInt8) : ∀ (s v : Nat), (fl.foldl (fun (a : Nat × Nat) b => (a.1 + a.2 * dig b, a.2 * 3)) (s, v)).1 = s + v * numOf fl := by
  induction fl with
  | nil => intro s v; simp [numOf]
  | cons b fl ih =>
    intro s v
    rw [List.foldl_cons, ih]
    show s + v * dig b + v * 3 * numOf fl = s + v * (dig b + 3 * numOf fl)
    rw [Nat.mul_add, Nat.mul_assoc]; omega
theorem IsGrid.number {n m : Nat} {ss : List ByteArray} (h : IsGrid n m ss) : (numP (pad (flat ss)) (List.finRange (n * m))).1 = numOf (flat ss) := by
  have e := numOf_fold (flat ss) 0 1
  rw [Nat.zero_add, Nat.one_mul] at e
  rw [← e]
  conv => rhs; rw [← cells_map (flat ss) (n * m) h.flen, List.foldl_map]
  rfl
theorem numOf_drop {fl : List UInt8} {q : Nat} {b : UInt8} (h : fl[q]? = some b) : numOf (fl.drop q) = dig b + 3 * numOf (fl.drop (q + 1)) := by
  obtain ⟨hlt, rfl⟩ := List.getElem?_eq_some_iff.1 h
  rw [List.drop_eq_getElem_cons hlt]
  rfl
theorem numOf_lt (fl : List UInt8) : numOf fl < 3 ^ fl.length := by
  induction fl with
  | nil => decide
  | cons b fl ih =>
    have := dig_le b
    show dig b + 3 * numOf fl < 3 ^ (fl.length + 1)
    rw [Nat.pow_succ]; omega

end Go.Proofs.Ytmdgbcepjnfbnaa
