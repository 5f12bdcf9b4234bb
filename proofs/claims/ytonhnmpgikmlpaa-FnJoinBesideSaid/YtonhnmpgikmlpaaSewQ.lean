/- Sewn pairings whose ports get other numbers: the same paths, as many rounds; how many rounds there are at most. No program is named. -/
import Derived.Test.YtonhnmpgikmlpaaBunV
import Derived.Test.YtonhnmpgikmlpaaSymQ
namespace Go.Proofs.Ytonhnmpgikmlpaa

structure SewSym (N : Nat) (s t s' t' φ ψ : Nat → Nat) : Prop where
  flt : ∀ q, q < N → φ q < N
  glt : ∀ q, q < N → ψ q < N
  gf : ∀ q, q < N → ψ (φ q) = q
  fg : ∀ q, q < N → φ (ψ q) = q
  hs : ∀ q, q < N → s' (φ q) = φ (s q)
  ht : ∀ q, q < N → t' (φ q) = φ (t q)
section
variable {N : Nat} {s t s' t' φ ψ : Nat → Nat}
theorem SewSym.inj (S : SewSym N s t s' t' φ ψ) {x y : Nat} (hx : x < N) (hy : y < N) (e : φ x = φ y) : x = y := by rw [← S.gf x hx, e, S.gf y hy]
theorem SewSym.go (S : SewSym N s t s' t' φ ψ) (h : Sewn N s t) {p : Nat} (hp : p < N) : ∀ k, goN s' t' k (φ p) = φ (goN s t k p)
  | 0 => rfl
  | k + 1 => by
    have hk := goN_lt h hp k
    show t' (s' (goN s' t' k (φ p))) = φ (t (s (goN s t k p)))
    rw [S.go h hp k, S.hs _ hk, S.ht _ (h.slt _ hk)]
theorem SewSym.stop (S : SewSym N s t s' t' φ ψ) (h : Sewn N s t) {p x : Nat} (hp : p < N) (hx : x < N) : stopB s' t' (φ p) (φ x) = stopB s t p x := by
  have hsx := h.slt _ hx
  have htx := h.tlt _ hsx
  unfold stopB
  rw [S.hs _ hx, S.ht _ hsx, Bool.eq_iff_iff, Bool.or_eq_true, Bool.or_eq_true, beq_iff_eq, beq_iff_eq, beq_iff_eq, beq_iff_eq]
  constructor
  · rintro (e | e)
    · exact .inl (S.inj htx hsx e)
    · exact .inr (S.inj htx hp e)
  · rintro (e | e)
    · exact .inl (congrArg φ e)
    · exact .inr (congrArg φ e)
theorem SewSym.plen (S : SewSym N s t s' t' φ ψ) (h : Sewn N s t) {p : Nat} (hp : p < N) : plen N s' t' (φ p) = Go.Proofs.Ytonhnmpgikmlpaa.plen N s t p := by
  unfold Go.Proofs.Ytonhnmpgikmlpaa.plen
  have e : (fun j => stopB s' t' (φ p) (goN s' t' j (φ p))) = fun j => stopB s t p (goN s t j p) := funext fun j => by
    rw [S.go h hp j, S.stop h hp (goN_lt h hp j)]
  rw [e]
theorem SewSym.pend (S : SewSym N s t s' t' φ ψ) (h : Sewn N s t) {p : Nat} (hp : p < N) : pend N s' t' (φ p) = φ (Go.Proofs.Ytonhnmpgikmlpaa.pend N s t p) := by
  unfold Go.Proofs.Ytonhnmpgikmlpaa.pend
  rw [S.plen h hp, S.go h hp, S.hs _ (goN_lt h hp _)]
theorem SewSym.on (S : SewSym N s t s' t' φ ψ) (h : Sewn N s t) {p : Nat} (hp : p < N) : onS N s' t' (φ p) = onS N s t p := by
  have hl := pend_lt h hp
  unfold onS
  rw [S.pend h hp, S.ht _ hl, Bool.eq_iff_iff, bne_iff_ne, bne_iff_ne]
  exact ⟨fun h1 e => h1 (congrArg φ e), fun h1 e => h1 (S.inj (h.tlt _ hl) hl e)⟩
theorem SewSym.ring (S : SewSym N s t s' t' φ ψ) (h : Sewn N s t) {p q : Nat} (hp : p < N) (hq : q < N) : ringS s' t' (φ p) (φ q) ↔ ringS s t p q := by
  constructor
  · rintro ⟨j, e | e⟩
    · rw [S.go h hp] at e
      exact ⟨j, .inl (S.inj hq (goN_lt h hp j) e)⟩
    · rw [S.go h hp, S.hs _ (goN_lt h hp j)] at e
      exact ⟨j, .inr (S.inj hq (h.slt _ (goN_lt h hp j)) e)⟩
  · rintro ⟨j, rfl | rfl⟩
    · exact ⟨j, .inl (S.go h hp j).symm⟩
    · exact ⟨j, .inr (by rw [S.go h hp, S.hs _ (goN_lt h hp j)])⟩
theorem SewSym.le (S : SewSym N s t s' t' φ ψ) (h : Sewn N s t) (h' : Sewn N s' t') : roundsTo N s t N ≤ roundsTo N s' t' N := by
  unfold roundsTo
  rw [List.countP_eq_length_filter, List.countP_eq_length_filter]
  refine inj_le (fun a b => b < N ∧ leadS N s' t' b = true ∧ ringS s' t' b (φ a)) _ _ (List.nodup_range.filter _) (fun a ha => ?_) fun a a' b ha ha' h1 h2 => ?_
  · obtain ⟨ha, hl⟩ := List.mem_filter.1 ha
    have ha := List.mem_range.1 ha
    have hφ := S.flt a ha
    have hon : onS N s' t' (φ a) = true := by rw [S.on h ha]; exact ((leadS_iff h ha).1 hl).1
    obtain ⟨l, hle, hlead, hr⟩ := ring_leadS h' hφ hon _ _ (ring_refl _) rfl
    exact ⟨l, List.mem_filter.2 ⟨List.mem_range.2 (by omega), hlead⟩, by omega, hlead, hr⟩
  · obtain ⟨ha, hl⟩ := List.mem_filter.1 ha
    obtain ⟨ha', hl'⟩ := List.mem_filter.1 ha'
    have ha := List.mem_range.1 ha
    have ha' := List.mem_range.1 ha'
    obtain ⟨hb, hlb, h1⟩ := h1
    have hob := ((leadS_iff h' hb).1 hlb).1
    have k1 := ring_symm h' hb hob h1
    have hon : onS N s' t' (φ a) = true := ring_on h' hb hob h1
    have k2 := (S.ring h ha ha').1 (ring_trans h' (S.flt a ha) hon k1 h2.2.2)
    have o1 := (leadS_iff h ha).1 hl
    have o2 := (leadS_iff h ha').1 hl'
    have k3 := o1.2 _ k2
    have k4 := o2.2 _ (ring_symm h ha o1.1 k2)
    omega
theorem SewSym.back (S : SewSym N s t s' t' φ ψ) (h : Sewn N s t) : SewSym N s' t' s t ψ φ where
  flt := S.glt
  glt := S.flt
  gf := S.fg
  fg := S.gf
  hs q hq := by
    have hz := S.glt q hq
    have e := S.hs _ hz
    rw [S.fg q hq] at e
    rw [e, S.gf _ (h.slt _ hz)]
  ht q hq := by
    have hz := S.glt q hq
    have e := S.ht _ hz
    rw [S.fg q hq] at e
    rw [e, S.gf _ (h.tlt _ hz)]
/-- As many rounds. -/
theorem SewSym.rounds (S : SewSym N s t s' t' φ ψ) (h : Sewn N s t) (h' : Sewn N s' t') : roundsTo N s' t' N = roundsTo N s t N := Nat.le_antisymm ((S.back h).le h' h) (S.le h h')
/-- Each round has k ports of its own in a list. -/
theorem rounds_pick (h : Sewn N s t) (k : Nat) (B : List Nat) (pick : Nat → Nat → Nat) (h1 : ∀ l, l < N → onS N s t l = true → ∀ i, i < k → pick l i ∈ B ∧ ringS s t l (pick l i)) (h2 : ∀ l, l < N → ∀ i j, i < k → j < k → pick l i = pick l j → i = j) : k * roundsTo N s t N ≤ B.length := by
  unfold roundsTo
  rw [List.countP_eq_length_filter]
  generalize hL : (List.range N).filter (leadS N s t) = Ls
  rcases Nat.eq_zero_or_pos k with rfl | hk
  · omega
  have hget : ∀ a, a < k * Ls.length → a / k < Ls.length ∧ Ls.getD (a / k) 0 < N ∧ leadS N s t (Ls.getD (a / k) 0) = true := fun a ha => by
    have hk2 : a / k < Ls.length := (Nat.div_lt_iff_lt_mul hk).2 (by rw [Nat.mul_comm]; exact ha)
    have hm : Ls.getD (a / k) 0 ∈ Ls := by
      rw [List.getD_eq_getElem?_getD, List.getElem?_eq_getElem hk2]
      exact List.getElem_mem hk2
    have hm2 := hm
    rw [← hL, List.mem_filter] at hm2
    rw [hL] at hm2
    exact ⟨hk2, List.mem_range.1 hm2.1, hm2.2⟩
  have hnd : Ls.Nodup := by rw [← hL]; exact List.nodup_range.filter _
  have key := inj_le (fun a b => b = pick (Ls.getD (a / k) 0) (a % k)) (List.range (k * Ls.length)) B List.nodup_range (fun a ha => ?_) fun a a' b ha ha' e1 e2 => ?_
  · rw [List.length_range] at key
    exact key
  · obtain ⟨_, g1, g2⟩ := hget a (List.mem_range.1 ha)
    exact ⟨_, (h1 _ g1 ((leadS_iff h g1).1 g2).1 _ (Nat.mod_lt a hk)).1, rfl⟩
  · obtain ⟨i1, g1, g2⟩ := hget a (List.mem_range.1 ha)
    obtain ⟨i2, g1', g2'⟩ := hget a' (List.mem_range.1 ha')
    have o1 := (leadS_iff h g1).1 g2
    have o2 := (leadS_iff h g1').1 g2'
    have r1 := (h1 _ g1 o1.1 _ (Nat.mod_lt a hk)).2
    have r2 := (h1 _ g1' o2.1 _ (Nat.mod_lt a' hk)).2
    rw [← e1] at r1
    rw [← e2] at r2
    have r3 := ring_trans h g1 o1.1 r1 (ring_symm h g1' o2.1 r2)
    have k3 := o1.2 _ r3
    have k4 := o2.2 _ (ring_symm h g1 o1.1 r3)
    have el : Ls.getD (a / k) 0 = Ls.getD (a' / k) 0 := by omega
    have e8 : a / k = a' / k := by
      have el2 := el
      rw [List.getD_eq_getElem?_getD, List.getD_eq_getElem?_getD, List.getElem?_eq_getElem i1, List.getElem?_eq_getElem i2] at el2
      exact (List.getElem_inj hnd).1 el2
    rw [← el] at e2
    have e9 := h2 _ g1 _ _ (Nat.mod_lt a hk) (Nat.mod_lt a' hk) (e1.symm.trans e2)
    rw [← Nat.div_add_mod a k, ← Nat.div_add_mod a' k, e8, e9]
end
theorem flipN_if {p m i : Nat} (hm : m ≤ p) (hi : i < p) : flipN p m i = if i < m then m - 1 - i else p + m - 1 - i := by
  unfold flipN
  by_cases h : i < m
  · rw [if_pos h, show p + m - 1 - i = (m - 1 - i) + p by omega, Nat.add_mod_right, Nat.mod_eq_of_lt (by omega)]
  · rw [if_neg h, Nat.mod_eq_of_lt (by omega)]
section
variable {n m k : Nat}
/-- A port of two pairings, as it is numbered when both are seen from behind. -/
def flip2 (P Q m k i : Nat) : Nat := if i < P then Q + flipN P m i else flipN Q k (i - P)
theorem flip2_lt {P Q i : Nat} (hi : i < P + Q) : flip2 P Q m k i < Q + P := by
  unfold flip2
  by_cases h : i < P
  · rw [if_pos h]
    have := Nat.mod_lt (P + m - 1 - i) (show 0 < P by omega)
    unfold flipN
    omega
  · rw [if_neg h]
    have := Nat.mod_lt (Q + k - 1 - (i - P)) (show 0 < Q by omega)
    unfold flipN
    omega
theorem flip2_back {P Q i : Nat} (hm : m ≤ P) (h1 : 1 ≤ m) (hk : k ≤ Q) (k1 : 1 ≤ k) (hi : i < P + Q) : flip2 Q P k m (flip2 P Q m k i) = i := by
  have e1 := flipN_names hm h1
  have e2 := flipN_names hk k1
  unfold flip2
  by_cases h : i < P
  · rw [if_pos h, if_neg (by omega), Nat.add_sub_cancel_left]
    exact e1.fg i h
  · have hq : i - P < Q := by omega
    rw [if_neg h, if_pos (e2.flt _ hq)]
    have := e2.fg _ hq
    rw [this]
    omega
/-- The seam, seen from behind. -/
theorem flip2_seam {i : Nat} (hm : 1 ≤ m) (hk : 1 ≤ k) (hi : i < 2 * (n + m) + 2 * (n + k)) :
    sewT n k (2 * (n + m) + 2 * (n + k)) (flip2 (2 * (n + m)) (2 * (n + k)) m k i) = flip2 (2 * (n + m)) (2 * (n + k)) m k (sewT n m (2 * (n + m) + 2 * (n + k)) i) := by
  have hf : ∀ x, x < 2 * (n + m) + 2 * (n + k) → flip2 (2 * (n + m)) (2 * (n + k)) m k x = if x < 2 * (n + m) then (if x < m then 2 * (n + k) + (m - 1 - x) else 2 * (n + k) + (2 * (n + m) + m - 1 - x)) else (if x - 2 * (n + m) < k then k - 1 - (x - 2 * (n + m)) else 2 * (n + k) + k - 1 - (x - 2 * (n + m))) := fun x hx => by
    unfold flip2
    by_cases h : x < 2 * (n + m)
    · rw [if_pos h, if_pos h, flipN_if (by omega) h]
      by_cases h2 : x < m
      · rw [if_pos h2, if_pos h2]
      · rw [if_neg h2, if_neg h2]
    · rw [if_neg h, if_neg h, flipN_if (by omega) (by omega)]
  by_cases hl : i < m ∨ (m + n ≤ i ∧ i < (2 * (n + m) + 2 * (n + k)) - n)
  · rw [(sewT_loose (by omega) hi).2 hl]
    refine (sewT_loose (by omega) (by rw [hf i hi]; split <;> split <;> omega)).2 ?_
    rw [hf i hi]
    split <;> split <;> omega
  · by_cases c2 : i < m + n
    · have e1 : sewT n m (2 * (n + m) + 2 * (n + k)) i = (2 * (n + m) + 2 * (n + k)) - 1 - (i - m) := by unfold sewT; rw [if_pos (by omega)]
      have e2 : flip2 (2 * (n + m)) (2 * (n + k)) m k i = (2 * (n + m) + 2 * (n + k)) - 1 - (i - m) := by rw [hf i hi, if_pos (by omega), if_neg (by omega)]; omega
      have e3 : flip2 (2 * (n + m)) (2 * (n + k)) m k ((2 * (n + m) + 2 * (n + k)) - 1 - (i - m)) = k + (i - m) := by rw [hf _ (by omega), if_neg (by omega), if_neg (by omega)]; omega
      have e4 : sewT n k (2 * (n + m) + 2 * (n + k)) ((2 * (n + m) + 2 * (n + k)) - 1 - (i - m)) = k + (i - m) := by unfold sewT; rw [if_neg (by omega), if_pos (by omega)]; omega
      rw [e1, e2, e3, e4]
    · have e1 : sewT n m (2 * (n + m) + 2 * (n + k)) i = m + ((2 * (n + m) + 2 * (n + k)) - 1 - i) := by unfold sewT; rw [if_neg (by omega), if_pos (by omega)]
      have e2 : flip2 (2 * (n + m)) (2 * (n + k)) m k i = k + ((2 * (n + m) + 2 * (n + k)) - 1 - i) := by rw [hf i hi, if_neg (by omega), if_neg (by omega)]; omega
      have e3 : flip2 (2 * (n + m)) (2 * (n + k)) m k (m + ((2 * (n + m) + 2 * (n + k)) - 1 - i)) = i := by rw [hf _ (by omega), if_pos (by omega), if_neg (by omega)]; omega
      have e4 : sewT n k (2 * (n + m) + 2 * (n + k)) (k + ((2 * (n + m) + 2 * (n + k)) - 1 - i)) = i := by unfold sewT; rw [if_pos (by omega)]; omega
      rw [e1, e2, e3, e4]
theorem flip2_name {x : Nat} (hm : 1 ≤ m) (hk : 1 ≤ k) (hx : x < m ∨ (m + n ≤ x ∧ x < 2 * (n + m) + (2 * (n + k) - n))) :
    nameN n k (2 * (n + k)) (2 * (n + m) - n) (flip2 (2 * (n + m)) (2 * (n + k)) m k x) = flipN (2 * (n + (m + k))) (m + k) (nameN n m (2 * (n + m)) (2 * (n + k) - n) x) := by
  have hl := name_lt (n := n) (m := m) (p := 2 * (n + m)) (r := 2 * (n + k) - n) (by omega) hx
  rw [flipN_if (by omega) (by omega)]
  unfold nameN flip2
  by_cases c1 : x < m
  · rw [if_pos (show x < 2 * (n + m) by omega), flipN_if (by omega) (by omega), if_pos c1, if_pos c1, if_neg (by omega), if_pos (by omega), if_pos (by omega)]; omega
  · by_cases c3 : x < 2 * (n + m)
    · rw [if_pos c3, flipN_if (by omega) c3, if_neg c1, if_neg c1, if_neg (by omega), if_pos (by omega), if_neg (show ¬ 2 * (n + m) ≤ x by omega), if_neg (by omega)]; omega
    · rw [if_neg c3, if_neg c1, if_pos (show 2 * (n + m) ≤ x by omega), flipN_if (by omega) (by omega)]
      by_cases c4 : x - 2 * (n + m) < k
      · rw [if_pos c4, if_pos (by omega), if_pos (by omega)]; omega
      · rw [if_neg c4, if_neg (by omega), if_neg (by omega), if_neg (by omega)]; omega
/-- Two pairings seen from behind, sewn: the same paths. -/
theorem flip2_sym {a b : List Int} (hm : 1 ≤ m) (hk : 1 ≤ k) (ha : IsPair a) (hb : IsPair b) (la : a.length = 2 * (n + m)) (lb : b.length = 2 * (n + k)) :
    SewSym (2 * (n + m) + 2 * (n + k)) (twoS (2 * (n + m)) (mateN a) (mateN b)) (sewT n m (2 * (n + m) + 2 * (n + k))) (twoS (2 * (n + k)) (mateN (flipL b k)) (mateN (flipL a m))) (sewT n k (2 * (n + m) + 2 * (n + k))) (flip2 (2 * (n + m)) (2 * (n + k)) m k) (flip2 (2 * (n + k)) (2 * (n + m)) k m) where
  flt q hq := by rw [Nat.add_comm (2 * (n + m))]; exact flip2_lt hq
  glt q hq := flip2_lt (by omega)
  gf q hq := flip2_back (by omega) hm (by omega) hk hq
  fg q hq := flip2_back (by omega) hk (by omega) hm (by omega)
  hs q hq := by
    have e1 := flipN_names (p := 2 * (n + m)) (m := m) (by omega) hm
    have e2 := flipN_names (p := 2 * (n + k)) (m := k) (by omega) hk
    have ma := ha.mates_of
    have mb := hb.mates_of
    rw [la] at ma
    rw [lb] at mb
    by_cases h : q < 2 * (n + m)
    · have h1 := e1.flt q h
      have h2 := ma.lt q h
      have el : mateN (flipL a m) (flipN (2 * (n + m)) m q) = flipN (2 * (n + m)) m (mateN a q) := by
        unfold flipL
        rw [la, listS_mate h1]
        unfold renS
        rw [e1.fg q h]
      unfold twoS flip2
      rw [if_pos h, if_neg (by omega), if_pos h, if_pos h2, Nat.add_sub_cancel_left, el]
    · have hq2 : q - 2 * (n + m) < 2 * (n + k) := by omega
      have h1 := e2.flt _ hq2
      have h2 := mb.lt _ hq2
      have el : mateN (flipL b k) (flipN (2 * (n + k)) k (q - 2 * (n + m))) = flipN (2 * (n + k)) k (mateN b (q - 2 * (n + m))) := by
        unfold flipL
        rw [lb, listS_mate h1]
        unfold renS
        rw [e2.fg _ hq2]
      unfold twoS flip2
      rw [if_neg h, if_pos h1, if_neg h, if_neg (by omega), Nat.add_sub_cancel_left, el]
  ht q hq := flip2_seam hm hk hq
/-- One pairing closed, seen from behind. -/
theorem flip1_sym {a : List Int} (hm : 1 ≤ m) (la : a.length = 2 * (n + m)) :
    SewSym (2 * (n + m)) (mateN a) (sewT n m (2 * (n + m))) (mateN (flipL a m)) (sewT n m (2 * (n + m))) (flipN (2 * (n + m)) m) (flipN (2 * (n + m)) m) where
  flt := (flipN_names (by omega) hm).flt
  glt := (flipN_names (by omega) hm).flt
  gf := (flipN_names (by omega) hm).fg
  fg := (flipN_names (by omega) hm).fg
  hs q hq := by
    have e1 := flipN_names (p := 2 * (n + m)) (m := m) (by omega) hm
    unfold flipL
    rw [la, listS_mate (e1.flt q hq)]
    unfold renS
    rw [e1.fg q hq]
  ht q hq := by
    have hsl := sewT_lt (n := n) (m := m) (N := 2 * (n + m)) (by omega) hq
    rw [flipN_if (by omega) hsl, flipN_if (by omega) hq]
    unfold sewT
    by_cases c1 : q < m
    · rw [if_pos c1, if_neg (by omega), if_neg (by omega), if_neg (show ¬ (m ≤ q ∧ q < m + n) by omega), if_neg (show ¬ (2 * (n + m) - n ≤ q ∧ q < 2 * (n + m)) by omega), if_pos c1]
    · rw [if_neg c1]
      by_cases c2 : q < m + n
      · simp only [if_pos (show m ≤ q ∧ q < m + n by omega)]
        rw [if_neg (by omega), if_pos (by omega), if_neg (by omega)]; omega
      · by_cases c3 : 2 * (n + m) - n ≤ q
        · simp only [if_neg (show ¬ (m ≤ q ∧ q < m + n) by omega), if_pos (show 2 * (n + m) - n ≤ q ∧ q < 2 * (n + m) by omega)]
          rw [if_pos (by omega), if_neg (by omega)]; omega
        · simp only [if_neg (show ¬ (m ≤ q ∧ q < m + n) by omega), if_neg (show ¬ (2 * (n + m) - n ≤ q ∧ q < 2 * (n + m)) by omega), if_neg c1]
          rw [if_neg (by omega), if_neg (by omega)]
/-- Two rows of the seam for each round. -/
theorem seam_two {P Q : Nat} {a b : Nat → Nat} (h : Sewn (P + Q) (twoS P a b) (sewT n m (P + Q))) (hP : m + n ≤ P) (hQ : n ≤ Q) (ha : ∀ i, i < P → a i < P) : 2 * roundsTo (P + Q) (twoS P a b) (sewT n m (P + Q)) (P + Q) ≤ n := by
  have hx : ∀ l, l < P + Q → onS (P + Q) (twoS P a b) (sewT n m (P + Q)) l = true → (if l < P then l else sewT n m (P + Q) l) < P ∧ ringS (twoS P a b) (sewT n m (P + Q)) l (if l < P then l else sewT n m (P + Q) l) := fun l hl ho => by
    by_cases h1 : l < P
    · rw [if_pos h1]
      exact ⟨h1, ring_refl l⟩
    · rw [if_neg h1]
      refine ⟨?_, ring_t h hl ho (ring_refl l)⟩
      have hne := ring_sewn h hl ho (ring_refl l)
      unfold sewT at hne ⊢
      rw [if_neg (by omega)] at hne ⊢
      by_cases h2 : P + Q - n ≤ l ∧ l < P + Q
      · rw [if_pos h2]; omega
      · rw [if_neg h2] at hne; exact absurd rfl hne
  have hin : ∀ x, x < P → sewT n m (P + Q) x ≠ x → m ≤ x ∧ x < m + n := fun x hx hne => by
    unfold sewT at hne
    by_cases h1 : m ≤ x ∧ x < m + n
    · exact h1
    · rw [if_neg h1, if_neg (by omega)] at hne
      exact absurd rfl hne
  have e := rounds_pick h 2 ((List.range n).map (m + ·)) (fun l i => if i = 0 then (if l < P then l else sewT n m (P + Q) l) else twoS P a b (if l < P then l else sewT n m (P + Q) l)) (fun l hl ho i hi => ?_) (fun l hl i j hi hj e => ?_)
  · rw [List.length_map, List.length_range] at e
    exact e
  · obtain ⟨h1, h2⟩ := hx l hl ho
    have h3 := ring_sewn h hl ho h2
    have h4 := ring_s h hl h2
    have h5 := ring_sewn h hl ho h4
    generalize (if l < P then l else sewT n m (P + Q) l) = x at *
    have hmem : ∀ y, m ≤ y ∧ y < m + n → y ∈ (List.range n).map (m + ·) := fun y hy => List.mem_map.2 ⟨y - m, List.mem_range.2 (by omega), by omega⟩
    by_cases hi0 : i = 0
    · simp only [if_pos hi0]
      exact ⟨hmem _ (hin x h1 h3), h2⟩
    · simp only [if_neg hi0]
      refine ⟨hmem _ (hin _ ?_ h5), h4⟩
      unfold twoS
      rw [if_pos h1]
      exact ha x h1
  · have hl2 : (if l < P then l else sewT n m (P + Q) l) < P + Q := by
      split
      · omega
      · exact h.tlt l hl
    have hne := h.sne _ hl2
    generalize (if l < P then l else sewT n m (P + Q) l) = x at *
    rcases (show i = 0 ∨ i = 1 by omega) with rfl | rfl <;> rcases (show j = 0 ∨ j = 1 by omega) with rfl | rfl
    · rfl
    · exact absurd (show x = twoS P a b x from e).symm hne
    · exact absurd (show twoS P a b x = x from e) hne
    · rfl
/-- A closed pairing has a row for each round. -/
theorem seam_one {P : Nat} {a : Nat → Nat} (h : Sewn P a (sewT n m P)) (hP : m + n + n ≤ P) : roundsTo P a (sewT n m P) P ≤ n := by
  have e := rounds_pick h 1 ((List.range n).map (m + ·)) (fun l _ => if m ≤ l ∧ l < m + n then l else sewT n m P l) (fun l hl ho i hi => ?_) (fun l hl i j hi hj e => by omega)
  · rw [List.length_map, List.length_range, Nat.one_mul] at e
    exact e
  · have hmem : ∀ y, m ≤ y ∧ y < m + n → y ∈ (List.range n).map (m + ·) := fun y hy => List.mem_map.2 ⟨y - m, List.mem_range.2 (by omega), by omega⟩
    have hne := ring_sewn h hl ho (ring_refl l)
    by_cases h1 : m ≤ l ∧ l < m + n
    · rw [if_pos h1]
      exact ⟨hmem l h1, ring_refl l⟩
    · rw [if_neg h1]
      refine ⟨hmem _ ?_, ring_t h hl ho (ring_refl l)⟩
      unfold sewT at hne ⊢
      rw [if_neg h1] at hne ⊢
      by_cases h2 : P - n ≤ l ∧ l < P
      · rw [if_pos h2]; omega
      · rw [if_neg h2] at hne; exact absurd rfl hne
end
end Go.Proofs.Ytonhnmpgikmlpaa
