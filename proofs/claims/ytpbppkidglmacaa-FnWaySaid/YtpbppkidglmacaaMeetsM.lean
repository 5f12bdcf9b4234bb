/- Where two beams meet: two ways to count; what BeamMeets comes to. No program is named but the texts of a grid. -/
import Derived.Test.YtpbppkidglmacaaTwiceM
import Derived.Test.YtpbppkidglmacaaPort
namespace Go.Proofs.Ytpbppkidglmacaa

theorem countP_sum {α : Type} (p : α → Bool) : ∀ l : List α, l.countP p = (l.map fun c => if p c = true then 1 else 0).sum
  | [] => rfl
  | x :: l => by
    rw [List.countP_cons, List.map_cons, List.sum_cons, countP_sum p l]
    omega
theorem sumN_countP (p : Nat → Bool) : ∀ N, sumN (fun c => if p c = true then 1 else 0) N = (List.range N).countP p
  | 0 => rfl
  | N + 1 => by
    rw [sumN, sumN_countP p N, List.range_succ, List.countP_append, List.countP_cons, List.countP_nil]
    omega
/-- Does the beam go through the cell? -/
def goesC (n m : Nat) (t : Int → Int → UInt8) (p c : Nat) : Bool := decide (0 < (bcells n m t p).count c)
def meetN (n m : Nat) (t : Int → Int → UInt8) (p q : Nat) : Nat := (List.range (n * m)).countP fun c => goesC n m t p c && goesC n m t q c
theorem count_other {n m : Nat} {t : Int → Int → UInt8} {p q c : Nat} (hn : 1 ≤ n) (hm : 1 ≤ m) (hp : p < 2 * (n + m)) (hq : q < 2 * (n + m)) (h1 : p ≠ q) (h2 : p ≠ bend_ n m t q) (h0 : 0 < (bcells n m t p).count c) : (bcells n m t q).count c ≤ 1 := by
  have e1 := times_count (n := n) (m := m) (t := t) (p := p) (i := c / m) (k := c % m) hp (Nat.mod_lt _ (by omega))
  have e2 := times_count (n := n) (m := m) (t := t) (p := q) (i := c / m) (k := c % m) hq (Nat.mod_lt _ (by omega))
  rw [Nat.div_add_mod'] at e1 e2
  rw [← e2]
  exact times_other hn hm hp hq h1 h2 _ _ (by rw [e1]; exact h0)
theorem meet_count {n m : Nat} {t : Int → Int → UInt8} {p q : Nat} (hn : 1 ≤ n) (hm : 1 ≤ m) (hp : p < 2 * (n + m)) (hq : q < 2 * (n + m)) (h1 : p ≠ q) (h2 : p ≠ bend_ n m t q) :
    (List.range (blen n m t q)).countP (fun j => goesC n m t p (cellN m (bway n m t q j))) = meetN n m t p q := by
  have e : (List.range (blen n m t q)).countP (fun j => goesC n m t p (cellN m (bway n m t q j))) = (bcells n m t q).countP (goesC n m t p) := by
    unfold bcells
    rw [List.countP_map]
    rfl
  rw [e, countP_sum, sum_swap _ (n * m) _ bcells_lt]
  unfold meetN
  rw [← sumN_countP]
  refine sumN_congr _ fun c _ => ?_
  by_cases hc : 0 < (bcells n m t p).count c
  · have h3 := count_other hn hm hp hq h1 h2 hc
    have hg : goesC n m t p c = true := decide_eq_true hc
    rw [hg]
    by_cases hd : 0 < (bcells n m t q).count c
    · have hg2 : goesC n m t q c = true := decide_eq_true hd
      rw [hg2]
      simp
      omega
    · have hg2 : goesC n m t q c = false := decide_eq_false hd
      rw [hg2]
      simp
      omega
  · have hg : goesC n m t p c = false := decide_eq_false hc
    rw [hg]
    simp

/-- Two ports of a grid that are not the ends of one beam. -/
def MeetIn (ss : List ByteArray) (p q : Int) (n m a b : Nat) : Prop := PortIn ss p n m a ∧ PortIn ss q n m b ∧ a ≠ b ∧ bend_ n m (lett m (pad (flat ss))) a ≠ b
def MeetOut (ss : List ByteArray) (p q x : Int) (ok : Bool) : Prop :=
  (∃ n m a b, MeetIn ss p q n m a b ∧ x = ((meetN n m (lett m (pad (flat ss))) a b : Nat) : Int) ∧ ok = true) ∨ ((∀ n m a b, ¬ MeetIn ss p q n m a b) ∧ x = 0 ∧ ok = false)
theorem MeetOut.uniq {ss : List ByteArray} {p q x x' : Int} {ok ok' : Bool} (h : MeetOut ss p q x ok) (h' : MeetOut ss p q x' ok') : x' = x ∧ ok' = ok := by
  rcases h with ⟨n, m, a, b, h1, rfl, rfl⟩ | ⟨h1, rfl, rfl⟩ <;> rcases h' with ⟨n', m', a', b', h1', rfl, rfl⟩ | ⟨h1', rfl, rfl⟩
  · obtain ⟨rfl, rfl, rfl⟩ := h1.1.uniq h1'.1
    obtain ⟨_, _, rfl⟩ := h1.2.1.uniq h1'.2.1
    exact ⟨rfl, rfl⟩
  · exact absurd h1 (h1' _ _ _ _)
  · exact absurd h1' (h1 _ _ _ _)
  · exact ⟨rfl, rfl⟩
/-- From the parts to the whole. -/
theorem meet_none_p {ss : List ByteArray} {p q : Int} (h : NoPort ss p) : ∀ n m a b, ¬ MeetIn ss p q n m a b := fun n m a _ hm => h n m a hm.1
theorem meet_none_q {ss : List ByteArray} {p q : Int} (h : NoPort ss q) : ∀ n m a b, ¬ MeetIn ss p q n m a b := fun n m _ b hm => h n m b hm.2.1
theorem meet_none_same {ss : List ByteArray} {p q : Int} {n m a b : Nat} (h1 : PortIn ss p n m a) (h2 : PortIn ss q n m b) (h : a = b ∨ bend_ n m (lett m (pad (flat ss))) a = b) : ∀ n m a b, ¬ MeetIn ss p q n m a b := fun n' m' a' b' hm => by
  obtain ⟨rfl, rfl, rfl⟩ := h1.uniq hm.1
  obtain ⟨_, _, rfl⟩ := h2.uniq hm.2.1
  rcases h with h | h
  · exact hm.2.2.1 h
  · exact hm.2.2.2 h
end Go.Proofs.Ytpbppkidglmacaa
