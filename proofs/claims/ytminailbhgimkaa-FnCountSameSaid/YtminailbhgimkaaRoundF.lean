/- RoundFull of the specification and of the program, by their contracts. -/
import Derived.Test.YtminailbhgimkaaBunD
import Derived.Test.YtminailbhgimkaaBunF
namespace Go.Proofs.Ytminailbhgimkaa
open Go.RowKit Go.Shelf

def fullF (r q : Nat) : UInt8 := if (r + q) % 2 = 0 then 114 else 102
def fullVal (m k : Nat) : UInt8 := if k / m % 2 = k % m % 2 then 114 else 102
def FullIn (a b : Int) (n m : Nat) : Prop := a = n ∧ b = m ∧ 1 ≤ n ∧ n ≤ 5 ∧ 1 ≤ m ∧ m ≤ 5
def FullNone (a b : Int) : Prop := ∀ n m, ¬ FullIn a b n m
def FullOut (a b : Int) (ok : Bool) (res : List ByteArray) : Prop :=
  (∃ n m, FullIn a b n m ∧ ok = true ∧ res = ruleG n m fullF) ∨ (FullNone a b ∧ ok = false ∧ res = [])
theorem FullOut.uniq {a b : Int} {ok ok' : Bool} {res res' : List ByteArray} (h : FullOut a b ok res) (h' : FullOut a b ok' res') : ok' = ok ∧ res' = res := by
  rcases h with ⟨n, m, hg, rfl, rfl⟩ | ⟨hn, rfl, rfl⟩ <;> rcases h' with ⟨n', m', hg', rfl, rfl⟩ | ⟨hn', rfl, rfl⟩
  · obtain rfl : n' = n := by have := hg.1; have := hg'.1; omega
    obtain rfl : m' = m := by have := hg.2.1; have := hg'.2.1; omega
    exact ⟨rfl, rfl⟩
  · exact absurd hg (hn' _ _)
  · exact absurd hg' (hn _ _)
  · exact ⟨rfl, rfl⟩
theorem FullOut.len {a b : Int} {ok : Bool} {res : List ByteArray} (h : FullOut a b ok res) : res.length ≤ 1048576 := by
  rcases h with ⟨n, m, hg, _, rfl⟩ | ⟨_, _, rfl⟩
  · have h1 := hg.2.2.2.1
    rw [ruleG_length]; omega
  · simp
theorem full_same (n m : Nat) (hn : n ≤ 5) (hm : m ≤ 5) : textsOf n m (putAll samePos (fullVal m) (List.finRange (n * m)) (pad [])) = ruleG n m fullF := by
  have h25 : n * m ≤ 5 * 5 := Nat.mul_le_mul hn hm
  refine rows_eq _ _ _ _ fun r hr q hq => ?_
  have hp := lt_of_parts hr hq
  rw [put_all samePos (fullVal m) (r * m + q) (r * m + q) hp (by omega) rfl (fun x _ hx => hx)]
  have hd := div_of (a := r) (m := m) (b := q) hq
  unfold fullVal fullF
  rw [hd.1, hd.2]
  congr 1
  by_cases h : r % 2 = q % 2
  · rw [if_pos h, if_pos (by omega)]
  · rw [if_neg h, if_neg (by omega)]

/-- The outer loop: so many rows are there; the inner one: so many letters. -/
def OutF (n m : Nat) (w : World) (v i : Value) (wr : World) : Prop :=
  ∃ r : Nat, r ≤ n ∧ i = .int .i64 r ∧ GrowS wr w.heap.size v ((ruleG n m fullF).take r) ∧ Below w.heap.size w wr
def InF (n m r : Nat) (w wo : World) (ov : Value) (v i : Value) (wr : World) : Prop :=
  ∃ p : Nat, p ≤ m ∧ i = .int .i64 p ∧ GrowB wr wo.heap.size v ((ruleL m (fullF r)).take p) ∧ GrowS wr w.heap.size ov ((ruleG n m fullF).take r) ∧ Below w.heap.size w wr ∧ wo.heap.size ≤ wr.heap.size

attribute [local go_sem] Oper.semAt_some
end Go.Proofs.Ytminailbhgimkaa
