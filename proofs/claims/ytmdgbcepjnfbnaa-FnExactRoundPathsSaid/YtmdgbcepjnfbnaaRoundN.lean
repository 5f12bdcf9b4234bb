/- Plain words on rounds: what the specification marks, leading numbers one by one, the way of a round until it closes. No program is named. -/
import Derived.Test.YtmdgbcepjnfbnaaRoundM
namespace Go.Proofs.Ytmdgbcepjnfbnaa

/-- The leading numbers below x. -/
def leadsTo (n m : Nat) (t : Int → Int → UInt8) (x : Nat) : List Nat := (List.range x).filter (leadB n m t)
/-- Number c is marked, once the rounds of the numbers below x are. -/
def Mk (n m : Nat) (t : Int → Int → UInt8) (x c : Nat) : Prop := onR n m t (wayN m c) = false ∨ ∃ l, l < x ∧ leadB n m t l = true ∧ ringW t (wayN m l) (wayN m c)
/-- How far a way goes until it comes back or leaves the grid. -/
def goL (n m : Nat) (t : Int → Int → UInt8) (x : Wy) : Nat := if onR n m t x = true then rlen n m t x else runL n m t (4 * (n * m) + 1) x

section
variable {n m : Nat} {t : Int → Int → UInt8}
theorem leadsTo_all : leadsTo n m t (4 * (n * m)) = leads n m t := rfl
theorem leadsTo_zero : leadsTo n m t 0 = [] := rfl
theorem leadsTo_yes {x : Nat} (h : leadB n m t x = true) : leadsTo n m t (x + 1) = leadsTo n m t x ++ [x] := by
  unfold leadsTo
  rw [List.range_succ, List.filter_append]
  simp [h]
theorem leadsTo_no {x : Nat} (h : leadB n m t x = false) : leadsTo n m t (x + 1) = leadsTo n m t x := by
  unfold leadsTo
  rw [List.range_succ, List.filter_append]
  simp [h]
theorem leadsTo_le (x : Nat) : (leadsTo n m t x).length ≤ x := by
  have := List.length_filter_le (leadB n m t) (List.range x)
  rw [List.length_range] at this
  exact this
theorem leadsTo_mem {x l : Nat} (h : l ∈ leadsTo n m t x) : l < x ∧ leadB n m t l = true := by
  unfold leadsTo at h
  rw [List.mem_filter] at h
  exact ⟨List.mem_range.1 h.1, h.2⟩
theorem mk_zero {c : Nat} : Mk n m t 0 c ↔ onR n m t (wayN m c) = false := by
  constructor
  · rintro (h | ⟨l, hl, _⟩)
    · exact h
    · omega
  · exact .inl
/-- On the ring of a way there is a leading number, no greater than any. -/
theorem ring_lead {x : Wy} (hd : x.d < 4) (h : onR n m t x = true) : ∀ (k : Nat) (y : Wy), ringW t x y → wcode m y = k → ∃ l, l ≤ k ∧ leadB n m t l = true ∧ ringW t (wayN m l) x := by
  intro k
  induction k using Nat.strongRecOn with
  | _ k ih =>
    intro y hy hk
    obtain ⟨hon, hd4⟩ := ringW_on hd h hy
    have hin := onR_all hd4 hon 0
    have hw : wayN m k = y := by rw [← hk]; exact wayN_code hin hd4
    by_cases hex : ∃ z, ringW t x z ∧ wcode m z < k
    · obtain ⟨z, hz, hlt⟩ := hex
      obtain ⟨l, hl, h2, h3⟩ := ih _ hlt z hz rfl
      exact ⟨l, by omega, h2, h3⟩
    · refine ⟨k, Nat.le_refl _, lead_iff.2 ⟨by rw [hw]; exact hon, fun z hz => ?_⟩, ?_⟩
      · rw [hw] at hz
        exact Nat.le_of_not_lt fun hlt => hex ⟨z, ringW_trans hd h hy hz, hlt⟩
      · rw [hw]; exact ringW_symm hd h hy
theorem mk_lead {x : Nat} (h : ¬ Mk n m t x x) : leadB n m t x = true := by
  have hon : onR n m t (wayN m x) = true := by
    cases hb : onR n m t (wayN m x) with
    | true => rfl
    | false => exact absurd (.inl hb) h
  obtain ⟨l, hl, h2, h3⟩ := ring_lead (wayN_d x) hon x (wayN m x) (ringW_refl _) (wcode_way x)
  rcases Nat.lt_or_ge l x with hlt | hge
  · exact absurd (.inr ⟨l, hlt, h2, h3⟩) h
  · obtain rfl : l = x := by omega
    exact h2
theorem mk_not {x : Nat} (h : Mk n m t x x) : leadB n m t x = false := by
  rw [Bool.eq_false_iff]
  intro hl
  obtain ⟨h1, h2⟩ := lead_iff.1 hl
  rcases h with h | ⟨l, hlt, hll, hr⟩
  · rw [h] at h1; cases h1
  · have h3 := h2 _ (ringW_symm (wayN_d l) (lead_iff.1 hll).1 hr)
    rw [wcode_way] at h3
    omega
theorem mk_yes {x c : Nat} (h : leadB n m t x = true) : Mk n m t (x + 1) c ↔ Mk n m t x c ∨ ringW t (wayN m x) (wayN m c) := by
  constructor
  · rintro (h1 | ⟨l, hl, h2, h3⟩)
    · exact .inl (.inl h1)
    · rcases Nat.lt_or_ge l x with hlt | hge
      · exact .inl (.inr ⟨l, hlt, h2, h3⟩)
      · obtain rfl : l = x := by omega
        exact .inr h3
  · rintro ((h1 | ⟨l, hl, h2, h3⟩) | h1)
    · exact .inl h1
    · exact .inr ⟨l, by omega, h2, h3⟩
    · exact .inr ⟨x, by omega, h, h1⟩
theorem mk_no {x c : Nat} (h : leadB n m t x = false) : Mk n m t (x + 1) c ↔ Mk n m t x c := by
  constructor
  · rintro (h1 | ⟨l, hl, h2, h3⟩)
    · exact .inl h1
    · rcases Nat.lt_or_ge l x with hlt | hge
      · exact .inr ⟨l, hlt, h2, h3⟩
      · obtain rfl : l = x := by omega
        rw [h] at h2; cases h2
  · rintro (h1 | ⟨l, hl, h2, h3⟩)
    · exact .inl h1
    · exact .inr ⟨l, by omega, h2, h3⟩
/-- What the marking of one round, way by way, comes to. -/
theorem ring_marks {x c : Nat} (h : leadB n m t x = true) :
    (∃ j, j < rlen n m t (wayN m x) ∧ (c = wcode m (iter t (wayN m x) j) ∨ c = wcode m (rev t (iter t (wayN m x) j)))) ↔ ringW t (wayN m x) (wayN m c) := by
  have hon := (lead_iff.1 h).1
  have hin : ∀ j, inG n m (iter t (wayN m x) j) := onR_all (wayN_d x) hon
  constructor
  · rintro ⟨j, _, e | e⟩
    · exact ⟨j, .inl (by rw [e]; exact wayN_code (hin j) (iter_d (wayN_d x) j))⟩
    · exact ⟨j, .inr (by rw [e]; exact wayN_code (rev_in.2 (hin j)) (rev_d _))⟩
  · intro hr
    obtain ⟨j, hj, e | e⟩ := ringW_low (wayN_d x) hon hr
    · exact ⟨j, hj, .inl (by rw [← e, wcode_way])⟩
    · exact ⟨j, hj, .inr (by rw [← e, wcode_way])⟩
/-- The numbers of all ways of beams are those of no round. -/
theorem beam_marks {c : Nat} (hn : 1 ≤ n) (hm : 1 ≤ m) (hc : c < 4 * (n * m)) : (∃ p, p < 2 * (n + m) ∧ ∃ j, j < blen n m t p ∧ wcode m (bway n m t p j) = c) ↔ onR n m t (wayN m c) = false := by
  constructor
  · rintro ⟨p, hp, j, hj, rfl⟩
    rw [wayN_code (blen_in hj) (bway_d p j)]
    exact beam_not hp hj
  · intro h
    obtain ⟨p, j, hp, hj, e⟩ := not_beam hn hm (wayN_in hc) (wayN_d c) h
    exact ⟨p, hp, j, hj, by rw [e, wcode_way]⟩

/-- A way until it closes: where it lies, how it ends. -/
theorem goL_facts {x : Wy} (hd : x.d < 4) (hx : inG n m x) :
    1 ≤ goL n m t x ∧ goL n m t x ≤ 4 * (n * m) ∧ (∀ j, j < goL n m t x → inG n m (iter t x j)) ∧ (∀ a b, a < b → b < goL n m t x → iter t x a ≠ iter t x b) ∧
    (onR n m t x = true → iter t x (goL n m t x) = x ∧ goL n m t x = rlen n m t x) ∧ (onR n m t x = false → ¬ inG n m (iter t x (goL n m t x))) := by
  unfold goL
  cases h : onR n m t x with
  | true =>
    rw [if_pos rfl]
    obtain ⟨h1, h2, h3, h4⟩ := rlen_facts hd h
    exact ⟨h1, h2, fun j _ => onR_all hd h j, fun a b hab hb => ring_ne hd h hab hb, fun _ => ⟨h3, rfl⟩, (fun e => by cases e)⟩
  | false =>
    rw [if_neg (by simp)]
    have hR1 : runL n m t (4 * (n * m) + 1) x < 4 * (n * m) + 1 := by
      have := runL_max (n := n) (m := m) (t := t) (4 * (n * m) + 1) x
      have h2 : ¬ runL n m t (4 * (n * m) + 1) x = 4 * (n * m) + 1 := fun e => by
        unfold onR at h
        rw [e] at h
        simp at h
      omega
    have hin := runL_in (n := n) (m := m) (t := t) (4 * (n * m) + 1) x
    have hout := runL_out (n := n) (m := m) (t := t) (4 * (n * m) + 1) x hR1
    generalize runL n m t (4 * (n * m) + 1) x = R at hin hout hR1
    refine ⟨?_, by omega, hin, fun a b hab hb e => ?_, (fun e => by cases e), fun _ => hout⟩
    · rcases Nat.eq_zero_or_pos R with h0 | h0
      · subst h0; exact absurd hx hout
      · exact h0
    · rw [show b = (b - a) + a by omega, iter_add] at e
      have e2 := iter_inj hd (iter_d hd _) a e
      have e3 := iter_mod (t := t) (x := x) e2.symm R
      rw [e3] at hout
      exact hout (hin _ (by have := Nat.mod_lt R (show 0 < b - a by omega); omega))
/-- .. and never before its end is it at its beginning again. -/
theorem goL_back {x : Wy} (hd : x.d < 4) (hx : inG n m x) {j : Nat} (h1 : 1 ≤ j) (h2 : j < goL n m t x) : iter t x j ≠ x := fun e => (goL_facts hd hx).2.2.2.1 0 j h1 h2 e.symm

theorem wayN_cell {c d : Nat} (hd : d < 4) : wayN m (4 * c + d) = ⟨((c / m : Nat) : Int), ((c % m : Nat) : Int), d⟩ := by
  unfold wayN
  rw [show (4 * c + d) / 4 = c by omega, show (4 * c + d) % 4 = d by omega]
theorem wcode_cell (x : Wy) : 4 * cellN m x + x.d = wcode m x := by unfold wcode cellN; omega
theorem cellN_way (c : Nat) : cellN m (wayN m c) = c / 4 := by
  unfold cellN wayN
  simp only [Int.toNat_natCast]
  rw [Nat.mul_comm]; exact Nat.div_add_mod (c / 4) m

/-- The first number on a round leads. -/
theorem first_lead {x : Nat} (hx : x < 4 * (n * m)) (h : ∀ c, c < x → onR n m t (wayN m c) = false) (hon : onR n m t (wayN m x) = true) : (leads n m t).head? = some x := by
  have hl : leadB n m t x = true := mk_lead (fun hm => by
    rcases hm with h1 | ⟨l, hl, h2, _⟩
    · rw [hon] at h1; cases h1
    · have := (lead_iff.1 h2).1
      rw [h l hl] at this; cases this)
  have hnone : ∀ k, k ≤ x → leadsTo n m t k = [] := by
    intro k
    induction k with
    | zero => intro _; rfl
    | succ k ih =>
      intro hk
      rw [leadsTo_no, ih (by omega)]
      rw [Bool.eq_false_iff]
      intro h2
      have := (lead_iff.1 h2).1
      rw [h k (by omega)] at this; cases this
  have hsome : ∀ k, (leadsTo n m t (x + 1 + k)).head? = some x := by
    intro k
    induction k with
    | zero => rw [Nat.add_zero, leadsTo_yes hl, hnone x (Nat.le_refl _)]; rfl
    | succ k ih =>
      rw [← Nat.add_assoc]
      cases hb : leadB n m t (x + 1 + k) with
      | false => rw [leadsTo_no hb]; exact ih
      | true =>
        rw [leadsTo_yes hb]
        generalize leadsTo n m t (x + 1 + k) = l at ih
        cases l with
        | nil => simp at ih
        | cons a l => simpa using ih
  have := hsome (4 * (n * m) - (x + 1))
  rw [show x + 1 + (4 * (n * m) - (x + 1)) = 4 * (n * m) by omega] at this
  exact this
theorem no_lead (h : ∀ c, c < 4 * (n * m) → onR n m t (wayN m c) = false) : leads n m t = [] := by
  unfold leads
  rw [List.filter_eq_nil_iff]
  intro c hc h2
  have := (lead_iff.1 h2).1
  rw [h c (List.mem_range.1 hc)] at this; cases this
/-- How often rounds go through a cell. -/
def atN (n m : Nat) (t : Int → Int → UInt8) (c : Nat) : Nat := upT (fun d => onR n m t (wayN m (4 * c + d))) 4 / 2
theorem atN_le (c : Nat) : atN n m t c ≤ 2 := by
  unfold atN
  have := upT_le (fun d => onR n m t (wayN m (4 * c + d))) 4
  omega
end
end Go.Proofs.Ytmdgbcepjnfbnaa
