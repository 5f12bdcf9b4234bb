/- The grid that a number tells: plain words. -/
import Derived.Test.YtkgjhchgflichaaBunD
namespace Go.Proofs.Ytkgjhchgflichaa
open Go.RowKit

/-- The letter of a digit. -/
def letD (d : Nat) : UInt8 := if d = 0 then 46 else if d = 1 then 114 else 102
/-- The letters of the cells below c. -/
def ofL (k c : Nat) : List UInt8 := (List.range c).map fun j => letD (k / 3 ^ j % 3)
def ofF (m k : Nat) (r q : Nat) : UInt8 := letD (k / 3 ^ (r * m + q) % 3)
theorem ofL_length (k c : Nat) : (ofL k c).length = c := by simp [ofL]
theorem ofL_succ (k c : Nat) : ofL k (c + 1) = ofL k c ++ [letD (k / 3 ^ c % 3)] := by simp [ofL, List.range_succ]
theorem pad_ofL (k c : Nat) (hc : c < 25) : (pad (ofL k c)).set c (letD (k / 3 ^ c % 3)) = pad (ofL k (c + 1)) := by
  have h := pad_set (l := ofL k c) (b := letD (k / 3 ^ c % 3)) (by rw [ofL_length]; exact hc)
  rw [ofL_length] at h
  rw [h, ofL_succ]
theorem of_same (n m k : Nat) : textsOf n m (pad (ofL k (n * m))) = ruleG n m (ofF m k) := by
  refine rows_eq _ _ _ _ fun r hr q hq => ?_
  have hp := lt_of_parts hr hq
  rw [pad, List.getElem?_append_left (by rw [ofL_length]; exact hp)]
  simp [ofL, ofF, hp]
theorem div_pow (k c : Nat) : k / 3 ^ (c + 1) = k / 3 ^ c / 3 := by rw [Nat.pow_succ, Nat.div_div_eq_div_mul]
theorem digit3 (x : Nat) : x % 3 = 0 ∨ x % 3 = 1 ∨ x % 3 = 2 := by omega
/-- What the program and the specification take. -/
def OfIn (a b x : Int) (n m k : Nat) : Prop := a = n ∧ b = m ∧ x = k ∧ 1 ≤ n ∧ n ≤ 5 ∧ 1 ≤ m ∧ m ≤ 5 ∧ k < 3 ^ (n * m)
theorem OfIn.le25 {a b x : Int} {n m k : Nat} (h : OfIn a b x n m k) : n * m ≤ 25 := Nat.mul_le_mul h.2.2.2.2.1 h.2.2.2.2.2.2.1
def OfNone (a b x : Int) : Prop := ∀ n m k, ¬ OfIn a b x n m k
theorem OfIn.uniq {a b x : Int} {n m k n' m' k' : Nat} (h : OfIn a b x n m k) (h' : OfIn a b x n' m' k') : n = n' ∧ m = m' ∧ k = k' := by
  obtain ⟨rfl, rfl, rfl, _⟩ := h
  obtain ⟨h1, h2, h3, _⟩ := h'
  exact ⟨by omega, by omega, by omega⟩
/-- The outcome and the list. -/
def OfOut (a b x : Int) (ok : Bool) (res : List ByteArray) : Prop :=
  (∃ n m k, OfIn a b x n m k ∧ ok = true ∧ res = ruleG n m (ofF m k)) ∨ (OfNone a b x ∧ ok = false ∧ res = [])
theorem OfOut.uniq {a b x : Int} {ok ok' : Bool} {res res' : List ByteArray} (h : OfOut a b x ok res) (h' : OfOut a b x ok' res') : ok' = ok ∧ res' = res := by
  rcases h with ⟨n, m, k, hg, rfl, rfl⟩ | ⟨hn, rfl, rfl⟩ <;> rcases h' with ⟨n', m', k', hg', rfl, rfl⟩ | ⟨hn', rfl, rfl⟩
  · obtain ⟨rfl, rfl, rfl⟩ := hg.uniq hg'
    exact ⟨rfl, rfl⟩
  · exact absurd hg (hn' _ _ _)
  · exact absurd hg' (hn _ _ _)
  · exact ⟨rfl, rfl⟩
theorem OfOut.len {a b x : Int} {ok : Bool} {res : List ByteArray} (h : OfOut a b x ok res) : res.length ≤ 1048576 := by
  rcases h with ⟨n, m, k, hg, _, rfl⟩ | ⟨_, _, rfl⟩
  · have h1 := hg.2.2.2.2.1
    rw [ruleG_length]; omega
  · simp

end Go.Proofs.Ytkgjhchgflichaa
