/- All ways of a grid: those of its beams, and those of its rounds; lengths added up. No program is named. -/
import Derived.Test.YtgildagmliadeaaCntQ
import Derived.Test.YtgildagmliadeaaSumQ
import Derived.Test.YtgildagmliadeaaRoundQ
namespace Go.Proofs.Ytgildagmliadeaa

theorem nodup_map {f : Nat → Nat} {L : Nat} (h : ∀ a b, a < b → b < L → f a ≠ f b) : ((List.range L).map f).Nodup := by
  rw [List.nodup_iff_pairwise_ne, List.pairwise_map]
  exact List.Pairwise.imp_of_mem (fun {a b} _ hb hab => h a b hab (List.mem_range.1 hb)) List.pairwise_lt_range
theorem len_sum (N : Nat) (l : List Nat) (h : ∀ x ∈ l, x < N) : l.length = sumN (fun c => l.count c) N := by
  have e := sum_swap (fun _ => 1) N l h
  rw [List.map_const', List.sum_replicate_nat, Nat.mul_one] at e
  rw [e]
  exact sumN_congr N fun c _ => by rw [Nat.mul_one]
theorem sumN_block (F : Nat → Nat) : ∀ K, sumN F (4 * K) = sumN (fun c => F (4 * c) + F (4 * c + 1) + F (4 * c + 2) + F (4 * c + 3)) K
  | 0 => rfl
  | K + 1 => by
    rw [show 4 * (K + 1) = 4 * K + 1 + 1 + 1 + 1 by omega, sumN, sumN, sumN, sumN, sumN_block F K, sumN]
    omega
section
variable {n m : Nat} {t : Int → Int → UInt8}
/-- The numbers of a beam's ways. -/
def beamW (n m : Nat) (t : Int → Int → UInt8) (p : Nat) : List Nat := (List.range (blen n m t p)).map fun j => wcode m (bway n m t p j)
theorem beamC_len (p : Nat) : (beamW n m t p).length = blen n m t p := by simp [beamW]
theorem beamC_lt {p : Nat} : ∀ x ∈ beamW n m t p, x < 4 * (n * m) := fun x hx => by
  obtain ⟨j, hj, rfl⟩ := List.mem_map.1 hx
  exact wcode_lt (blen_in (List.mem_range.1 hj)) (bway_d p j)
theorem beamC_nodup {p : Nat} (hp : p < 2 * (n + m)) : (beamW n m t p).Nodup := nodup_map fun a b hab hb e =>
  bway_ne hp hab (by omega) (wcode_inj (blen_in (by omega)) (bway_d p a) (blen_in hb) (bway_d p b) e)
/-- A way lies on one beam. -/
theorem beam_one {p p' : Nat} (hp : p < 2 * (n + m)) (hp' : p' < 2 * (n + m)) : ∀ (j j' : Nat), j ≤ j' → j' < blen n m t p' → bway n m t p j = bway n m t p' j' → p = p'
  | 0, 0, _, _, e => entr_inj hp hp' e
  | 0, j' + 1, _, h, e => absurd e.symm (entr_ne hp (blen_in (by omega)) (bway_d p' j'))
  | j + 1, 0, hle, _, _ => by omega
  | j + 1, j' + 1, hle, h, e => beam_one hp hp' j j' (by omega) (by omega) (nxt_inj (bway_d p j) (bway_d p' j') e)
theorem beam_mem {p c : Nat} : c ∈ beamW n m t p ↔ ∃ j, j < blen n m t p ∧ bway n m t p j = wayN m c := by
  unfold beamW
  rw [List.mem_map]
  constructor
  · rintro ⟨j, hj, e⟩
    refine ⟨j, List.mem_range.1 hj, ?_⟩
    rw [← e, wayN_code (blen_in (List.mem_range.1 hj)) (bway_d p j)]
  · rintro ⟨j, hj, e⟩
    exact ⟨j, List.mem_range.2 hj, by rw [e, wcode_way]⟩
theorem beam_cnt {c : Nat} (hn : 1 ≤ n) (hm : 1 ≤ m) (hc : c < 4 * (n * m)) : sumN (fun p => (beamW n m t p).count c) (2 * (n + m)) = if onR n m t (wayN m c) = true then 0 else 1 := by
  have hz : ∀ N, sumN (fun _ => 0) N = 0 := fun N => by rw [sumN_const]; simp
  by_cases h : onR n m t (wayN m c) = true
  · rw [if_pos h]
    have e : ∀ p, p < 2 * (n + m) → (beamW n m t p).count c = 0 := fun p hp => List.count_eq_zero.2 fun hmem => by
      obtain ⟨j, hj, e⟩ := beam_mem.1 hmem
      have := beam_not (t := t) hp hj
      rw [e, h] at this
      cases this
    rw [sumN_congr (g := fun _ => 0) _ e]
    exact hz _
  · rw [if_neg h]
    obtain ⟨p0, j0, hp0, hj0, e0⟩ := not_beam hn hm (wayN_in hc) (wayN_d c) (by simpa using h)
    have e : ∀ p, p < 2 * (n + m) → (beamW n m t p).count c = if p0 = p then 1 else 0 := fun p hp => by
      rw [(beamC_nodup hp).count]
      by_cases hpp : p0 = p
      · subst hpp
        rw [if_pos rfl, if_pos (beam_mem.2 ⟨j0, hj0, e0⟩)]
      · rw [if_neg hpp, if_neg]
        intro hmem
        obtain ⟨j, hj, e⟩ := beam_mem.1 hmem
        refine hpp ?_
        rcases Nat.le_total j0 j with hle | hle
        · exact beam_one hp0 hp j0 j hle hj (e0.trans e.symm)
        · exact (beam_one hp hp0 j j0 hle hj0 (e.trans e0.symm)).symm
    rw [sumN_congr _ e, sumN_one, if_pos hp0]
theorem beams_sum (hn : 1 ≤ n) (hm : 1 ≤ m) : sumN (blen n m t) (2 * (n + m)) = sumN (fun c => if onR n m t (wayN m c) = true then 0 else 1) (4 * (n * m)) := by
  have e : ∀ p, p < 2 * (n + m) → blen n m t p = sumN (fun c => (beamW n m t p).count c) (4 * (n * m)) := fun p _ => by
    rw [← len_sum _ _ beamC_lt, beamC_len]
  rw [sumN_congr _ e, sumN_swap2]
  exact sumN_congr _ fun c hc => beam_cnt hn hm hc

/-- The numbers of a round's ways, there and back. -/
def ringC (n m : Nat) (t : Int → Int → UInt8) (l : Nat) : List Nat := ((List.range (rlen n m t (wayN m l))).map fun j => wcode m (iter t (wayN m l) j)) ++ (List.range (rlen n m t (wayN m l))).map fun j => wcode m (rev t (iter t (wayN m l) j))
theorem ringC_len (l : Nat) : (ringC n m t l).length = 2 * rlen n m t (wayN m l) := by simp [ringC]; omega
theorem ringC_lt {l : Nat} (hl : leadB n m t l = true) : ∀ x ∈ ringC n m t l, x < 4 * (n * m) := fun x hx => by
  have hon := (lead_iff.1 hl).1
  have hin := onR_all (wayN_d l) hon
  rcases List.mem_append.1 hx with hx | hx <;> obtain ⟨j, hj, rfl⟩ := List.mem_map.1 hx
  · exact wcode_lt (hin j) (iter_d (wayN_d l) j)
  · exact wcode_lt (rev_in.2 (hin j)) (rev_d _)
theorem ringC_nodup {l : Nat} (hl : leadB n m t l = true) : (ringC n m t l).Nodup := by
  have hon := (lead_iff.1 hl).1
  have hin := onR_all (wayN_d l) hon
  have hd := iter_d (t := t) (wayN_d (m := m) l)
  refine List.nodup_append.2 ⟨nodup_map fun a b hab hb e => ?_, nodup_map fun a b hab hb e => ?_, fun a ha b hb e => ?_⟩
  · exact ring_ne (wayN_d l) hon hab hb (wcode_inj (hin a) (hd a) (hin b) (hd b) e)
  · have e2 := wcode_inj (rev_in.2 (hin a)) (rev_d _) (rev_in.2 (hin b)) (rev_d _) e
    have e3 := congrArg (rev t) e2
    rw [rev_rev (hd a), rev_rev (hd b)] at e3
    exact ring_ne (wayN_d l) hon hab hb e3
  · obtain ⟨i, _, rfl⟩ := List.mem_map.1 ha
    obtain ⟨j, _, rfl⟩ := List.mem_map.1 hb
    exact iter_ne_rev (wayN_d l) i j (wcode_inj (hin i) (hd i) (rev_in.2 (hin j)) (rev_d _) e)
theorem ringC_mem {l c : Nat} (hl : leadB n m t l = true) : c ∈ ringC n m t l ↔ ringW t (wayN m l) (wayN m c) := by
  rw [← ring_marks hl]
  unfold ringC
  rw [List.mem_append, List.mem_map, List.mem_map]
  constructor
  · rintro (⟨j, h1, h2⟩ | ⟨j, h1, h2⟩)
    · exact ⟨j, List.mem_range.1 h1, .inl h2.symm⟩
    · exact ⟨j, List.mem_range.1 h1, .inr h2.symm⟩
  · rintro ⟨j, h1, h2 | h2⟩
    · exact .inl ⟨j, List.mem_range.2 h1, h2.symm⟩
    · exact .inr ⟨j, List.mem_range.2 h1, h2.symm⟩
theorem ring_cnt {c : Nat} : sumN (fun l => if leadB n m t l = true then (ringC n m t l).count c else 0) (4 * (n * m)) = if onR n m t (wayN m c) = true then 1 else 0 := by
  have hz : ∀ N, sumN (fun _ => 0) N = 0 := fun N => by rw [sumN_const]; simp
  by_cases h : onR n m t (wayN m c) = true
  · rw [if_pos h]
    obtain ⟨l0, hl0, hll⟩ := lead_one (wayN_d c) h
    have e : ∀ l, l < 4 * (n * m) → (if leadB n m t l = true then (ringC n m t l).count c else 0) = if l0 = l then 1 else 0 := fun l _ => by
      by_cases hl : leadB n m t l = true
      · rw [if_pos hl, (ringC_nodup hl).count]
        by_cases e : l0 = l
        · subst e
          rw [if_pos rfl, if_pos ((ringC_mem hl).2 ((hll l0).2 rfl).2)]
        · rw [if_neg e, if_neg]
          intro hmem
          exact e ((hll l).1 ⟨hl, (ringC_mem hl).1 hmem⟩).symm
      · rw [if_neg hl, if_neg]
        intro e
        subst e
        exact hl ((hll l0).2 rfl).1
    rw [sumN_congr _ e, sumN_one, if_pos hl0]
  · rw [if_neg h]
    have e : ∀ l, l < 4 * (n * m) → (if leadB n m t l = true then (ringC n m t l).count c else 0) = 0 := fun l _ => by
      by_cases hl : leadB n m t l = true
      · rw [if_pos hl]
        refine List.count_eq_zero.2 fun hmem => h ?_
        exact (ringW_on (wayN_d l) (lead_iff.1 hl).1 ((ringC_mem hl).1 hmem)).1
      · rw [if_neg hl]
    rw [sumN_congr (g := fun _ => 0) _ e]
    exact hz _
theorem filter_sum (p : Nat → Bool) (F : Nat → Nat) : ∀ N, (((List.range N).filter p).map F).sum = sumN (fun l => if p l = true then F l else 0) N
  | 0 => rfl
  | N + 1 => by
    rw [List.range_succ, List.filter_append, List.map_append, List.sum_append_nat, filter_sum p F N, sumN]
    by_cases h : p N = true
    · rw [if_pos h, List.filter_cons_of_pos h]; simp
    · rw [if_neg h, List.filter_cons_of_neg h]; simp
/-- The lengths of all rounds together. -/
def lensN (n m : Nat) (t : Int → Int → UInt8) : Nat := ((leads n m t).map fun l => rlen n m t (wayN m l)).sum
theorem rings_sum : 2 * lensN n m t = sumN (fun c => if onR n m t (wayN m c) = true then 1 else 0) (4 * (n * m)) := by
  unfold lensN leads
  rw [filter_sum, ← sumN_mul]
  have e : ∀ l, l < 4 * (n * m) → (2 * if leadB n m t l = true then rlen n m t (wayN m l) else 0) = sumN (fun c => if leadB n m t l = true then (ringC n m t l).count c else 0) (4 * (n * m)) := fun l _ => by
    by_cases hl : leadB n m t l = true
    · simp only [if_pos hl]
      rw [← ringC_len, len_sum _ _ (ringC_lt hl)]
    · simp only [if_neg hl]
      rw [sumN_const]
      simp
  rw [sumN_congr _ e, sumN_swap2]
  exact sumN_congr _ fun c _ => ring_cnt
/-- Beams told once, and rounds: twice the cells. -/
theorem lens_all (hn : 1 ≤ n) (hm : 1 ≤ m) : lensN n m t + sumN (fun p => if p < bend_ n m t p then blen n m t p else 0) (2 * (n + m)) = 2 * (n * m) := by
  have h1 := rings_sum (n := n) (m := m) (t := t)
  have h2 := beams_sum (t := t) hn hm
  have h3 : sumN (fun c => if onR n m t (wayN m c) = true then 1 else 0) (4 * (n * m)) + sumN (fun c => if onR n m t (wayN m c) = true then 0 else 1) (4 * (n * m)) = 4 * (n * m) := by
    rw [← sumN_add, sumN_congr (g := fun _ => 1) _ (fun c _ => by split <;> rfl), sumN_const]
    omega
  have hne : ∀ p, p < 2 * (n + m) → bend_ n m t p ≠ p := fun p hp e => by
    have hpos := blen_pos (t := t) hn hm hp
    have hb := bway_back (t := t) hn hm hp 0 (by omega)
    rw [e] at hb
    exact bway_ne_rev 0 (blen n m t p - 1 - 0) (by omega) (by omega) hb
  have h4 : sumN (blen n m t) (2 * (n + m)) = 2 * sumN (fun p => if p < bend_ n m t p then blen n m t p else 0) (2 * (n + m)) := by
    have e := sumN_invol (s := bend_ n m t) (fun _ hq => (bend_facts (t := t) hn hm hq).2.1) (fun _ hq => (back_facts (t := t) hn hm hq).2) (fun p => if p < bend_ n m t p then blen n m t p else 0)
    have e2 : sumN (blen n m t) (2 * (n + m)) = sumN (fun p => if p < bend_ n m t p then blen n m t p else 0) (2 * (n + m)) + sumN (fun p => (fun p => if p < bend_ n m t p then blen n m t p else 0) (bend_ n m t p)) (2 * (n + m)) := by
      rw [← sumN_add]
      refine sumN_congr _ fun p hp => ?_
      have h5 := back_facts (t := t) hn hm hp
      have h6 := hne p hp
      simp only
      rw [h5.2, h5.1]
      by_cases h : p < bend_ n m t p
      · rw [if_pos h, if_neg (by omega)]; rfl
      · rw [if_neg h, if_pos (by omega)]; omega
    rw [e2, e]
    omega
  omega
theorem pairs_even (b : UInt8) (o : Nat → Bool) (hr : ∀ d, d < 4 → o (opp (bend b d)) = o d) : 2 * (((o 0).toNat + (o 1).toNat + (o 2).toNat + (o 3).toNat) / 2) = (o 0).toNat + (o 1).toNat + (o 2).toNat + (o 3).toNat := by
  have r0 := hr 0 (by decide)
  have r1 := hr 1 (by decide)
  have r2 := hr 2 (by decide)
  by_cases h1 : b = 114
  · subst h1
    simp [bend_r, opp] at r0 r1 r2
    rw [r0, r1]; omega
  · by_cases h2 : b = 102
    · subst h2
      simp [bend_f, opp] at r0 r1 r2
      rw [r0, r2]; omega
    · simp [bend_e h1 h2, opp] at r0 r1 r2
      rw [r0, r1]; omega
theorem up_even (c : Nat) : 2 * atN n m t c = upT (fun d => onR n m t (wayN m (4 * c + d))) 4 := by
  have hr : ∀ d, d < 4 → onR n m t (wayN m (4 * c + opp (bend (t (placeN m c).i (placeN m c).k) d))) = onR n m t (wayN m (4 * c + d)) := fun d hd => by
    have e : wayN m (4 * c + opp (bend (t (placeN m c).i (placeN m c).k) d)) = rev t (wayN m (4 * c + d)) := by
      rw [wayN_cell (opp_lt _), wayN_cell hd]
      rfl
    rw [e, Bool.eq_iff_iff]
    exact ⟨fun h => onR_back (wayN_d _) h, fun h => onR_rev (wayN_d _) h⟩
  generalize t (placeN m c).i (placeN m c).k = b at hr
  unfold atN
  rw [upT_four]
  exact pairs_even b (fun d => onR n m t (wayN m (4 * c + d))) hr
/-- Rounds through all cells: their lengths. -/
theorem at_sum : sumN (atN n m t) (n * m) = lensN n m t := by
  have h1 := rings_sum (n := n) (m := m) (t := t)
  rw [sumN_block] at h1
  have h2 : sumN (fun c => 2 * atN n m t c) (n * m) = 2 * lensN n m t := by
    rw [h1]
    refine sumN_congr _ fun c _ => ?_
    rw [up_even c, upT_four]
    have e : ∀ b : Bool, b.toNat = if b = true then 1 else 0 := fun b => by cases b <;> rfl
    rw [e, e, e, e]
    rfl
  rw [sumN_mul] at h2
  omega
end
end Go.Proofs.Ytgildagmliadeaa
