/- Settled texts in one file. Each begins with what it holds. -/
import Derived.Test.YtkaiadgldppbiaaBunI
import Derived.Test.YtkaiadgldppbiaaApp
import Derived.Test.YtkaiadgldppbiaaSkips
/- Pairings of the program: ports, pairedPortsIn, readPairing, by their contracts. -/
namespace Go.Proofs.Ytkaiadgldppbiaa
open Go.RowKit Go.Shelf

theorem cnt_snoc (p : Nat → Bool) (k : Nat) : (List.range (k + 1)).countP p = (List.range k).countP p + (if p k = true then 1 else 0) := by
  rw [List.range_succ, List.countP_append, List.countP_cons, List.countP_nil]
  omega
theorem cnt_le (p : Nat → Bool) (k : Nat) : (List.range k).countP p ≤ k := by
  have := List.countP_le_length (p := p) (l := List.range k)
  rwa [List.length_range] at this

/-- What readPairing comes to. -/
def PReadEnd (l : List Int) (e : Ending) : Prop := (IsPair l ∧ e = .returned (.tuple #[.agg (pairC (padTo l)), .bool true])) ∨ (¬ IsPair l ∧ e = .returned (.tuple #[.agg zeroP, .bool false]))

end Go.Proofs.Ytkaiadgldppbiaa

/- Pairings of the specification: l5In, by its contract; CrossIn of both. -/
namespace Go.Proofs.Ytkaiadgldppbiaa
open Go.RowKit Go.Shelf

/-- Whether the list is a pairing, as a bool. -/
noncomputable def isPairB (l : List Int) : Bool := @decide (IsPair l) (Classical.propDecidable _)
theorem isPairB_true {l : List Int} (h : IsPair l) : isPairB l = true := by unfold isPairB; exact @decide_eq_true _ (Classical.propDecidable _) h
theorem isPairB_false {l : List Int} (h : ¬ IsPair l) : isPairB l = false := by unfold isPairB; exact @decide_eq_false _ (Classical.propDecidable _) h

end Go.Proofs.Ytkaiadgldppbiaa

/- Pairings that are turned: in plain words, and of the program, by their contracts. -/
namespace Go.Proofs.Ytkaiadgldppbiaa
open Go.RowKit Go.Shelf

theorem turn_inv {n k j : Nat} (hj : j < n) : ((j + (n - k % n)) % n + k) % n = j := by
  have hn : 0 < n := by omega
  have hr : k % n < n := Nat.mod_lt _ hn
  have hk : n * (k / n) + k % n = k := Nat.div_add_mod k n
  rw [Nat.mod_add_mod, show j + (n - k % n) + k = j + n * (k / n + 1) by rw [Nat.mul_add, Nat.mul_one]; omega, Nat.add_mul_mod_self_left, Nat.mod_eq_of_lt hj]
theorem turn_back {n k q : Nat} (hq : q < n) : ((q + k) % n + (n - k % n)) % n = q := by
  have hn : 0 < n := by omega
  have hr : k % n < n := Nat.mod_lt _ hn
  have hk : n * (k / n) + k % n = k := Nat.div_add_mod k n
  rw [Nat.mod_add_mod, show q + k + (n - k % n) = q + n * (k / n + 1) by rw [Nat.mul_add, Nat.mul_one]; omega, Nat.add_mul_mod_self_left, Nat.mod_eq_of_lt hq]
theorem turn_inj {n k q q' : Nat} (hq : q < n) (hq' : q' < n) (h : (q + k) % n = (q' + k) % n) : q = q' := by
  rw [← turn_back (k := k) hq, h, turn_back hq']
/-- The partner, turned. -/
def turnV (l : List Int) (k q : Nat) : Int := (((mateN l q + k) % l.length : Nat) : Int)
/-- The pairing of the same pairs for ports with numbers k greater. -/
def turnL (l : List Int) (k : Nat) : List Int := (List.range l.length).map fun j => turnV l k ((j + (l.length - k % l.length)) % l.length)
theorem turnL_length (l : List Int) (k : Nat) : (turnL l k).length = l.length := by simp [turnL]
theorem turnL_at {l : List Int} {k q : Nat} (hq : q < l.length) : (turnL l k)[(q + k) % l.length]? = some (turnV l k q) := by
  unfold turnL
  rw [List.getElem?_map, List.getElem?_range (Nat.mod_lt _ (by omega)), Option.map_some, turn_back hq]
/-- A list that has all partners turned is it. -/
theorem turn_all {l L : List Int} {k : Nat} (hL : L.length = l.length) (h : ∀ q, q < l.length → L[(q + k) % l.length]? = some (turnV l k q)) : L = turnL l k := by
  refine List.ext_getElem? fun j => ?_
  by_cases hj : j < l.length
  · have hq : (j + (l.length - k % l.length)) % l.length < l.length := Nat.mod_lt _ (by omega)
    have h1 := h _ hq
    have h2 := turnL_at (k := k) hq
    rw [turn_inv hj] at h1 h2
    rw [h1, h2]
  · rw [List.getElem?_eq_none (by omega), List.getElem?_eq_none (by rw [turnL_length]; omega)]
theorem turn_pad {l L : List Int} {k : Nat} (h20 : l.length ≤ 20) (hL : L.length = 20) (h : ∀ q, q < l.length → L[(q + k) % l.length]? = some (turnV l k q)) (hb : ∀ j, l.length ≤ j → j < 20 → L[j]? = some (j : Int)) : L = padTo (turnL l k) := by
  refine List.ext_getElem? fun j => ?_
  by_cases hj : j < l.length
  · have hq : (j + (l.length - k % l.length)) % l.length < l.length := Nat.mod_lt _ (by omega)
    have h1 := h _ hq
    have h2 := turnL_at (k := k) hq
    rw [turn_inv hj] at h1 h2
    rw [h1, padTo_at h2]
  · by_cases hj2 : j < 20
    · rw [hb j (by omega) hj2, padTo_behind (by rw [turnL_length]; omega) hj2]
    · rw [List.getElem?_eq_none (by omega), List.getElem?_eq_none (by rw [padTo_length (by rw [turnL_length]; exact h20)]; omega)]
theorem turn_ports {l : List Int} {k : Nat} (h : IsPair l) : portsN (padTo (turnL l k)) = l.length := by
  have e := portsN_pad (l := turnL l k) (by rw [turnL_length]; exact h.2.1) fun p hp => by
    rw [turnL_length] at hp
    have hq : (p + (l.length - k % l.length)) % l.length < l.length := Nat.mod_lt _ (by omega)
    have h2 := turnL_at (k := k) hq
    rw [turn_inv hp] at h2
    rw [h2]
    intro e
    have e2 := Option.some.inj e
    unfold turnV at e2
    have e3 : (mateN l ((p + (l.length - k % l.length)) % l.length) + k) % l.length = p := by omega
    have hm := h.mates hq
    refine hm.2.1 (turn_inj (k := k) hm.1 hq ?_)
    exact e3.trans (turn_inv hp).symm
  rw [e, turnL_length]

end Go.Proofs.Ytkaiadgldppbiaa

/- Pairings handed back as lists: slices.Clone, list, CrossTurn of the program, by their contracts. -/
namespace Go.Proofs.Ytkaiadgldppbiaa
open Go.RowKit Go.Shelf

theorem run_eql_slice_nil (a : Addr) (n c : Nat) (w : World) : (binOp .eql 47 (.slice (some a) n c) (.slice none 0 0)).run Try.prog w = .ok (.bool false) w := by
  have h : ∀ d : Nat, (Op.equalIn (d + 1) 47 (.slice (some a) n c) (.slice none 0 0)).run Try.prog w = .ok false w := fun d => by
    simp [Op.equalIn, run_underlying Try.underlying47]
  simp only [binOp]
  simp [Op.equal, Op.maxDepth, h 9999]

/-- What CrossTurn comes to. -/
def TurnOut (l : List Int) (k : Int) (res : List Int) (ok : Bool) : Prop :=
  (∃ kn : Nat, IsPair l ∧ kn ≤ 20 ∧ k = (kn : Int) ∧ res = turnL l kn ∧ ok = true) ∨ (¬ (IsPair l ∧ 0 ≤ k ∧ k ≤ 20) ∧ res = [] ∧ ok = false)
theorem TurnOut.uniq {l : List Int} {k : Int} {r r' : List Int} {ok ok' : Bool} (h : TurnOut l k r ok) (h' : TurnOut l k r' ok') : ok' = ok ∧ r' = r := by
  rcases h with ⟨kn, h1, h2, h3, rfl, rfl⟩ | ⟨h1, rfl, rfl⟩ <;> rcases h' with ⟨kn', h1', h2', h3', rfl, rfl⟩ | ⟨h1', rfl, rfl⟩
  · obtain rfl : kn = kn' := by omega
    exact ⟨rfl, rfl⟩
  · exact absurd ⟨h1, by omega, by omega⟩ h1'
  · exact absurd ⟨h1', by omega, by omega⟩ h1
  · exact ⟨rfl, rfl⟩
theorem TurnOut.len {l : List Int} {k : Int} {r : List Int} {ok : Bool} (h : TurnOut l k r ok) : r.length ≤ 1048576 := by
  rcases h with ⟨kn, h1, _, _, rfl, _⟩ | ⟨_, rfl, _⟩
  · rw [turnL_length]; have := h1.2.1; omega
  · simp

/-- The cells that CrossTurn of the specification has filled after p rounds. -/
def Turned (l : List Int) (k p : Nat) (C : Array Value) : Prop :=
  C.size = l.length ∧ (∀ q, q < p → C[(q + k) % l.length]? = some (Value.int .i64 (turnV l k q)))
theorem Turned.zero (l : List Int) (k : Nat) : Turned l k 0 (madeCells #[Value.int .i64 0] l.length) :=
  ⟨size_madeCells _ _, fun i h => absurd h (by omega)⟩
theorem Turned.step {l : List Int} {k p : Nat} {C : Array Value} (h : Turned l k p C) (hp : p < l.length) : Turned l k (p + 1) (C.setIfInBounds ((p + k) % l.length) (.int .i64 (turnV l k p))) := by
  refine ⟨by simpa using h.1, fun q hq => ?_⟩
  rw [Array.getElem?_setIfInBounds]
  have hlt : (p + k) % l.length < l.length := Nat.mod_lt _ (by omega)
  by_cases e : (p + k) % l.length = (q + k) % l.length
  · rw [if_pos e, if_pos (by rw [h.1]; exact hlt)]
    have := turn_inj hp (by omega) e
    rw [this]
  · rw [if_neg e]
    exact h.2 q (by
      rcases Nat.lt_or_ge q p with h1 | h1
      · exact h1
      · exact absurd (by rw [show q = p by omega]) e)
theorem Turned.all {l : List Int} {k : Nat} {C : Array Value} (h : Turned l k l.length C) : ∀ (j : Nat) (x : Int), (turnL l k)[j]? = some x → C[j]? = some (.int .i64 x) := fun j x hj => by
  have hlt := (List.getElem?_eq_some_iff.1 hj).1
  rw [turnL_length] at hlt
  have hq : (j + (l.length - k % l.length)) % l.length < l.length := Nat.mod_lt _ (by omega)
  have h1 := h.2 _ hq
  have h2 := turnL_at (k := k) hq
  rw [turn_inv hlt] at h1 h2
  rw [h2] at hj
  cases hj
  exact h1
end Go.Proofs.Ytkaiadgldppbiaa

/- Pairs that cross, counted: of the program and of the specification, by their contracts. -/
namespace Go.Proofs.Ytkaiadgldppbiaa
open Go.RowKit Go.Shelf

/-- The pairs of p and q cross, p being the first of the four ports, q the second. -/
def crossB (f : Nat → Int) (p q : Nat) : Bool := decide (p < q ∧ (q : Int) < f p ∧ f p < f q)
def rowC (f : Nat → Int) (p M : Nat) : Nat := (List.range M).countP (crossB f p)
theorem rowC_succ (f : Nat → Int) (p M : Nat) : rowC f p (M + 1) = rowC f p M + (if crossB f p M = true then 1 else 0) := by
  unfold rowC
  rw [List.range_succ, List.countP_append, List.countP_cons, List.countP_nil]
  omega
theorem rowC_le (f : Nat → Int) (p M : Nat) : rowC f p M ≤ M := by
  have := List.countP_le_length (p := crossB f p) (l := List.range M)
  rwa [List.length_range] at this
theorem rowC_low (f : Nat → Int) (p : Nat) : ∀ M, M ≤ p + 1 → rowC f p M = 0
  | 0, _ => rfl
  | M + 1, h => by
    rw [rowC_succ, rowC_low f p M (by omega), if_neg]
    unfold crossB
    rw [decide_eq_true_iff]
    omega
theorem rowC_high (f : Nat → Int) (p s : Nat) (h : f p ≤ (s : Int)) : ∀ M, s ≤ M → rowC f p M = rowC f p s := fun M hM => by
  obtain ⟨d, rfl⟩ : ∃ d, M = s + d := ⟨M - s, by omega⟩
  clear hM
  induction d with
  | zero => rfl
  | succ d ih =>
    rw [← Nat.add_assoc, rowC_succ, ih, if_neg]
    · rfl
    · unfold crossB
      rw [decide_eq_true_iff]
      omega
/-- All pairs that cross, among the first N and M ports. -/
def chordsC (f : Nat → Int) (M N : Nat) : Nat := sumN (fun p => rowC f p M) N
theorem chordsC_le (f : Nat → Int) (M : Nat) : ∀ N, chordsC f M N ≤ N * M
  | 0 => by simp [chordsC, sumN]
  | N + 1 => by
    have h1 := chordsC_le f M N
    have h2 := rowC_le f N M
    unfold chordsC at h1 ⊢
    rw [sumN, Nat.add_mul]
    omega
def intAt (l : List Int) (k : Nat) : Int := l.getD k 0
theorem intAt_eq {l : List Int} {k : Nat} {x : Int} (h : l[k]? = some x) : intAt l k = x := by
  unfold intAt
  rw [List.getD_eq_getElem?_getD, h]
  rfl
/-- The same of the filled list. -/
theorem chords_pad {l : List Int} (h : IsPair l) : chordsC (intAt (padTo l)) 20 20 = chordsC (intAt l) l.length l.length := by
  have h20 := h.2.1
  have e1 : ∀ p, p < l.length → intAt (padTo l) p = intAt l p := fun p hp => by
    rw [intAt_eq (padTo_at (List.getElem?_eq_getElem hp)), intAt_eq (List.getElem?_eq_getElem hp)]
  have e2 : ∀ p, l.length ≤ p → p < 20 → intAt (padTo l) p = p := fun p hp hk => intAt_eq (padTo_behind hp hk)
  have e3 : ∀ p, p < l.length → intAt l p < l.length := fun p hp => by
    obtain ⟨q, h1, _, h3, _⟩ := h.2.2 p hp
    rw [intAt_eq h3]
    omega
  have hrow : ∀ p, p < l.length → rowC (intAt (padTo l)) p 20 = rowC (intAt l) p l.length := fun p hp => by
    rw [rowC_high _ p l.length (by rw [e1 p hp]; have := e3 p hp; omega) 20 h20]
    unfold rowC
    refine List.countP_congr fun q hq => ?_
    have hq := List.mem_range.1 hq
    unfold crossB
    rw [e1 p hp, e1 q hq]
  have hzero : ∀ p, l.length ≤ p → p < 20 → rowC (intAt (padTo l)) p 20 = 0 := fun p hp hk => by
    rw [rowC_high _ p p (by rw [e2 p hp hk]; exact Int.le_refl _) 20 (by omega)]
    exact rowC_low _ p p (by omega)
  have main : ∀ d, l.length + d ≤ 20 → chordsC (intAt (padTo l)) 20 (l.length + d) = chordsC (intAt l) l.length l.length := fun d => by
    induction d with
    | zero =>
      intro _
      exact sumN_congr _ fun p hp => hrow p hp
    | succ d ih =>
      intro hd
      have := ih (by omega)
      unfold chordsC at this ⊢
      rw [← Nat.add_assoc, sumN, this, hzero _ (by omega) (by omega), Nat.add_zero]
  have := main (20 - l.length) (by omega)
  rwa [show l.length + (20 - l.length) = 20 by omega] at this

/-- What CrossChords comes to. -/
def ChordOut (l : List Int) (x : Int) (ok : Bool) : Prop := (IsPair l ∧ x = ((chordsC (intAt l) l.length l.length : Nat) : Int) ∧ ok = true) ∨ (¬ IsPair l ∧ x = 0 ∧ ok = false)
theorem ChordOut.uniq {l : List Int} {x x' : Int} {ok ok' : Bool} (h : ChordOut l x ok) (h' : ChordOut l x' ok') : x' = x ∧ ok' = ok := by
  rcases h with ⟨h1, rfl, rfl⟩ | ⟨h1, rfl, rfl⟩ <;> rcases h' with ⟨h1', rfl, rfl⟩ | ⟨h1', rfl, rfl⟩
  · exact ⟨rfl, rfl⟩
  · exact absurd h1 h1'
  · exact absurd h1' h1
  · exact ⟨rfl, rfl⟩

end Go.Proofs.Ytkaiadgldppbiaa
