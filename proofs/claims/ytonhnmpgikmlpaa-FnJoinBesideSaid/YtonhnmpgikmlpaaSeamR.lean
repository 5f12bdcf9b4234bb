/- Two grids beside each other: their rounds are those of both, and those that come by sewing. In plain words. No program is named. -/
import Derived.Test.YtonhnmpgikmlpaaSeam
import Derived.Test.YtonhnmpgikmlpaaBunB
namespace Go.Proofs.Ytonhnmpgikmlpaa

section
variable {n m k : Nat} {tg th to : Int → Int → UInt8}
abbrev seamN (n m k : Nat) : Nat := 2 * (n + m) + 2 * (n + k)
theorem not_sh {x : Wy} (h : inG n k x) : ¬ inG n m (shW m x) := fun h2 => by
  have h3 := h2.2.2.2
  have h4 := h.2.2.1
  have h5 : x.k + (m : Int) < m := h3
  omega
theorem Beside2.onl (B : Beside2 n m k tg th to) {x : Wy} (hd : x.d < 4) (h : onR n m tg x = true) : onR n (m + k) to x = true ∧ ∀ j, iter to x j = iter tg x j := by
  have hi : ∀ j, iter to x j = iter tg x j := fun j => B.iterl j fun i _ => onR_all hd h i
  exact ⟨onR_of fun j => by rw [hi]; exact Beside2.il (onR_all hd h j), hi⟩
theorem Beside2.onr (B : Beside2 n m k tg th to) {x : Wy} (hd : x.d < 4) (h : onR n k th x = true) : onR n (m + k) to (shW m x) = true ∧ ∀ j, iter to (shW m x) j = shW m (iter th x j) := by
  have hi : ∀ j, iter to (shW m x) j = shW m (iter th x j) := fun j => B.iterr j fun i _ => onR_all hd h i
  exact ⟨onR_of fun j => by rw [hi]; exact Beside2.ir (onR_all hd h j), hi⟩
theorem Beside2.ringl (B : Beside2 n m k tg th to) {x y : Wy} (hd : x.d < 4) (h : onR n m tg x = true) (hr : ringW to x y) : ringW tg x y ∧ inG n m y := by
  obtain ⟨_, hi⟩ := B.onl hd h
  obtain ⟨j, rfl | rfl⟩ := hr
  · rw [hi]; exact ⟨⟨j, .inl rfl⟩, onR_all hd h j⟩
  · rw [hi, (B.nl (onR_all hd h j)).2]; exact ⟨⟨j, .inr rfl⟩, rev_in.2 (onR_all hd h j)⟩
theorem Beside2.ringr (B : Beside2 n m k tg th to) {x y : Wy} (hd : x.d < 4) (h : onR n k th x = true) (hr : ringW to (shW m x) y) : ∃ z, y = shW m z ∧ ringW th x z ∧ inG n k z := by
  obtain ⟨_, hi⟩ := B.onr hd h
  obtain ⟨j, rfl | rfl⟩ := hr
  · rw [hi]; exact ⟨_, rfl, ⟨j, .inl rfl⟩, onR_all hd h j⟩
  · rw [hi, (B.nr (onR_all hd h j)).2]; exact ⟨_, rfl, ⟨j, .inr rfl⟩, rev_in.2 (onR_all hd h j)⟩
theorem seam_tt (i : Nat) : seamT n m k (seamT n m k i) = i := sewT_tt (n := n) (m := m) (N := 2 * (n + m) + 2 * (n + k)) (by omega) i
/-- Out of one of both: into the other one, or out of both. -/
theorem exit_loose {r : Nat} {t : Int → Int → UInt8} (hm : 1 ≤ m) (hk : 1 ≤ k) (hr : r < seamN n m k) (hin : inG n (m + k) (outX (entE n m k r))) : seamT n m k r ≠ r ∧ outX (entE n m k r) = entE n m k (seamT n m k r) := by
  have hne : seamT n m k r ≠ r := fun e => by
    have hl := (sewT_loose (n := n) (m := m) (N := 2 * (n + m) + 2 * (n + k)) (by omega) (show r < 2 * (n + m) + 2 * (n + k) from hr)).1 e
    obtain ⟨e1, e2⟩ := loose_in (n := n) hm hk (q := r) (by omega)
    have hb := (entr_back (t := t) (n := n) (m := m + k) e1).1
    rw [e2, outX_rev (entE_d r)] at hb
    exact hb hin
  exact ⟨hne, seam_in hm hk hr hne⟩
theorem Beside2.cross (B : Beside2 n m k tg th to) (hm : 1 ≤ m) (hk : 1 ≤ k) {y : Wy} (hd : y.d < 4) (hy : inG n (m + k) y) (hin : inG n (m + k) (nxt to y)) : (inG n m y → inG n m (nxt to y) ∨ ∃ q, q < seamN n m k ∧ seamT n m k q ≠ q ∧ nxt to y = entE n m k q) ∧
    (∀ x, y = shW m x → inG n k x → (∃ z, nxt to y = shW m z ∧ inG n k z) ∨ ∃ q, q < seamN n m k ∧ seamT n m k q ≠ q ∧ nxt to y = entE n m k q) := by
  have hN : m + n + n ≤ seamN n m k := by show m + n + n ≤ 2 * (n + m) + 2 * (n + k); omega
  constructor
  · intro hl
    rw [(B.nl hl).1] at hin ⊢
    by_cases ho : inG n m (nxt tg y)
    · exact .inl ho
    · obtain ⟨f1, f2, f3⟩ := leav_entr hd hl ho
      obtain ⟨r, hr⟩ : ∃ r, (leav n m (nxt tg y)).toNat = r := ⟨_, rfl⟩
      rw [hr] at f3
      have hr2 : r < 2 * (n + m) := by omega
      have hE : entE n m k r = entr n m r := if_pos hr2
      have hx : nxt tg y = outX (entE n m k r) := by rw [hE, f3, ← outX_rev (t := tg) (rev_d y), rev_rev hd]
      rw [hx] at hin ⊢
      have hrN : r < seamN n m k := by show r < 2 * (n + m) + 2 * (n + k); omega
      obtain ⟨g1, g2⟩ := exit_loose (t := to) hm hk hrN hin
      exact .inr ⟨_, sewT_lt hN hrN, fun e => g1 (by rw [seam_tt] at e; exact e.symm), g2⟩
  · rintro x rfl hr0
    rw [(B.nr hr0).1] at hin ⊢
    by_cases ho : inG n k (nxt th x)
    · exact .inl ⟨_, rfl, ho⟩
    · have hd' : x.d < 4 := hd
      obtain ⟨f1, f2, f3⟩ := leav_entr hd' hr0 ho
      obtain ⟨r, hr⟩ : ∃ r, (leav n k (nxt th x)).toNat = r := ⟨_, rfl⟩
      rw [hr] at f3
      have hE : entE n m k (2 * (n + m) + r) = shW m (entr n k r) := by
        unfold entE
        rw [if_neg (by omega), Nat.add_sub_cancel_left]
      have hx : shW m (nxt th x) = outX (entE n m k (2 * (n + m) + r)) := by rw [hE, outX_sh, f3, ← outX_rev (t := th) (rev_d x), rev_rev hd']
      rw [hx] at hin ⊢
      have hrN : 2 * (n + m) + r < seamN n m k := by show 2 * (n + m) + r < 2 * (n + m) + 2 * (n + k); omega
      obtain ⟨g1, g2⟩ := exit_loose (t := to) hm hk hrN hin
      exact .inr ⟨_, sewT_lt hN hrN, fun e => g1 (by rw [seam_tt] at e; exact e.symm), g2⟩
/-- What stands on a stretch: its first way alone comes in at a port, its last one backwards. -/
theorem Beside2.stretch (B : Beside2 n m k tg th to) (hn : 1 ≤ n) (hm : 1 ≤ m) (hk : 1 ≤ k) {z p b : Nat} (hz : z < seamN n m k) (hp : p < seamN n m k) (hb : b < segL n m k tg th z) :
    (entE n m k p = iter to (entE n m k z) b → p = z) ∧ (rev to (entE n m k p) = iter to (entE n m k z) b → p = endS n m k tg th z) := by
  unfold segL at hb
  have hpN : p < 2 * (n + m) + 2 * (n + k) := hp
  have hzN : z < 2 * (n + m) + 2 * (n + k) := hz
  by_cases h : z < 2 * (n + m)
  · rw [if_pos h] at hb
    have hE : entE n m k z = entr n m z := if_pos h
    have hi : iter to (entE n m k z) b = bway n m tg z b := by
      rw [hE, B.iterl b fun i hi => blen_in (t := tg) (p := z) (show i < blen n m tg z by omega)]
      rfl
    have hin := blen_in (t := tg) hb
    rw [hi]
    by_cases h2 : p < 2 * (n + m)
    · have hEp : entE n m k p = entr n m p := if_pos h2
      rw [hEp]
      constructor
      · intro e
        cases b with
        | zero => exact entr_inj h2 h e
        | succ b => exact absurd e.symm (entr_ne h2 (blen_in (by omega)) (bway_d z b))
      · intro e
        rw [(B.nl (entr_in hn hm h2)).2] at e
        have h3 := entr_back (t := tg) h2
        have e2 : bway n m tg z (b + 1) = nxt tg (rev tg (entr n m p)) := by rw [e]; rfl
        have hL : blen n m tg z = b + 1 := blen_of h (fun i hi => blen_in (by omega)) (by rw [e2]; exact h3.1)
        have h4 := (bend_facts (t := tg) hn hm h).1
        rw [hL, e2, h3.2] at h4
        unfold endS twoS
        rw [if_pos h]
        omega
    · have hEp : entE n m k p = shW m (entr n k (p - 2 * (n + m))) := if_neg h2
      have hpin := entr_in (n := n) (m := k) (p := p - 2 * (n + m)) hn hk (by omega)
      rw [hEp]
      constructor
      · intro e
        rw [← e] at hin
        exact absurd hin (not_sh hpin)
      · intro e
        rw [(B.nr hpin).2] at e
        rw [← e] at hin
        exact absurd hin (not_sh (rev_in.2 hpin))
  · rw [if_neg h] at hb
    have hzq : z - 2 * (n + m) < 2 * (n + k) := by omega
    have hE : entE n m k z = shW m (entr n k (z - 2 * (n + m))) := if_neg h
    have hi : iter to (entE n m k z) b = shW m (bway n k th (z - 2 * (n + m)) b) := by
      rw [hE, B.iterr b fun i hi => blen_in (t := th) (p := z - 2 * (n + m)) (show i < blen n k th (z - 2 * (n + m)) by omega)]
      rfl
    have hin := blen_in (t := th) hb
    rw [hi]
    by_cases h2 : p < 2 * (n + m)
    · have hEp : entE n m k p = entr n m p := if_pos h2
      have hpin := entr_in hn hm h2
      rw [hEp]
      constructor
      · intro e
        rw [e] at hpin
        exact absurd hpin (not_sh hin)
      · intro e
        rw [(B.nl hpin).2] at e
        have := rev_in (t := tg).2 hpin
        rw [e] at this
        exact absurd this (not_sh hin)
    · have hpq : p - 2 * (n + m) < 2 * (n + k) := by omega
      have hEp : entE n m k p = shW m (entr n k (p - 2 * (n + m))) := if_neg h2
      have hpin := entr_in (n := n) (m := k) hn hk hpq
      rw [hEp]
      constructor
      · intro e
        have e := shW_inj e
        cases b with
        | zero =>
          have := entr_inj hpq hzq e
          omega
        | succ b => exact absurd e.symm (entr_ne hpq (blen_in (by omega)) (bway_d _ b))
      · intro e
        rw [(B.nr hpin).2] at e
        have e := shW_inj e
        have h3 := entr_back (t := th) hpq
        have e2 : bway n k th (z - 2 * (n + m)) (b + 1) = nxt th (rev th (entr n k (p - 2 * (n + m)))) := by rw [e]; rfl
        have hL : blen n k th (z - 2 * (n + m)) = b + 1 := blen_of hzq (fun i hi => blen_in (by omega)) (by rw [e2]; exact h3.1)
        have h4 := (bend_facts (t := th) hn hk hzq).1
        rw [hL, e2, h3.2] at h4
        unfold endS twoS
        rw [if_neg h]
        omega
theorem time_ge (B : Beside2 n m k tg th to) (hn : 1 ≤ n) (hm : 1 ≤ m) (hk : 1 ≤ k) {p : Nat} (hp : p < seamN n m k) : ∀ j, j ≤ timeT n m k tg th (seamT n m k) p j
  | 0 => Nat.zero_le _
  | j + 1 => by
    have h1 := time_ge B hn hm hk hp j
    have h2 := (B.seg hn hm hk (goN_lt (endS_sewn (tg := tg) (th := th) hn hm hk) hp j)).1
    show j + 1 ≤ timeT n m k tg th (seamT n m k) p j + segL n m k tg th _
    omega
theorem time_parts (B : Beside2 n m k tg th to) (hn : 1 ≤ n) (hm : 1 ≤ m) (hk : 1 ≤ k) {p : Nat} (hp : p < seamN n m k) : ∀ a, ∃ j b, a = timeT n m k tg th (seamT n m k) p j + b ∧ b < segL n m k tg th (goN (endS n m k tg th) (seamT n m k) j p)
  | 0 => ⟨0, 0, rfl, (B.seg hn hm hk hp).1⟩
  | a + 1 => by
    obtain ⟨j, b, e, hb⟩ := time_parts B hn hm hk hp a
    by_cases h : b + 1 < segL n m k tg th (goN (endS n m k tg th) (seamT n m k) j p)
    · exact ⟨j, b + 1, by omega, h⟩
    · refine ⟨j + 1, 0, ?_, (B.seg hn hm hk (goN_lt (endS_sewn (tg := tg) (th := th) hn hm hk) hp (j + 1))).1⟩
      show a + 1 = timeT n m k tg th (seamT n m k) p j + segL n m k tg th _ + 0
      omega
/-- A sewn round is a round of both. -/
theorem Beside2.on_sew (B : Beside2 n m k tg th to) (hn : 1 ≤ n) (hm : 1 ≤ m) (hk : 1 ≤ k) {p : Nat} (hp : p < seamN n m k) (ho : onS (seamN n m k) (endS n m k tg th) (seamT n m k) p = true) :
    onR n (m + k) to (entE n m k p) = true ∧ ∀ j, iter to (entE n m k p) (timeT n m k tg th (seamT n m k) p j) = entE n m k (goN (endS n m k tg th) (seamT n m k) j p) := by
  have hs := endS_sewn (tg := tg) (th := th) hn hm hk
  have hsew := on_sewn hs hp ho
  refine ⟨onR_of fun a => ?_, fun j => (B.go hn hm hk hp j fun i _ => hsew i).1⟩
  have := time_ge B hn hm hk hp (a + 1)
  exact (B.go hn hm hk hp (a + 1) fun i _ => hsew i).2 a (by omega)
theorem Beside2.sew_on (B : Beside2 n m k tg th to) (hn : 1 ≤ n) (hm : 1 ≤ m) (hk : 1 ≤ k) {p : Nat} (hp : p < seamN n m k) (ho : onR n (m + k) to (entE n m k p) = true) : onS (seamN n m k) (endS n m k tg th) (seamT n m k) p = true := by
  have hs := endS_sewn (tg := tg) (th := th) hn hm hk
  refine on_of fun j => ?_
  induction j using Nat.strongRecOn with
  | _ j ih =>
    intro e
    have hg := goN_lt hs hp j
    obtain ⟨g1, _⟩ := B.go hn hm hk hp j fun i hi => ih i hi
    obtain ⟨_, _, s2⟩ := B.seg hn hm hk hg
    have h1 := onR_all (entE_d p) ho (timeT n m k tg th (seamT n m k) p j + segL n m k tg th (goN (endS n m k tg th) (seamT n m k) j p))
    rw [iter_add, g1, s2] at h1
    exact (exit_loose (t := to) hm hk (hs.slt _ hg) h1).1 e
theorem Beside2.ring_sew (B : Beside2 n m k tg th to) (hn : 1 ≤ n) (hm : 1 ≤ m) (hk : 1 ≤ k) {p q : Nat} (hp : p < seamN n m k) (hq : q < seamN n m k) (ho : onS (seamN n m k) (endS n m k tg th) (seamT n m k) p = true) :
    ringW to (entE n m k p) (entE n m k q) ↔ ringS (endS n m k tg th) (seamT n m k) p q := by
  have hs := endS_sewn (tg := tg) (th := th) hn hm hk
  obtain ⟨hon, hgo⟩ := B.on_sew hn hm hk hp ho
  constructor
  · rintro ⟨a, h⟩
    obtain ⟨j, b, rfl, hb⟩ := time_parts B hn hm hk hp a
    have hg := goN_lt hs hp j
    rw [iter_add, hgo] at h
    obtain ⟨s1, s2⟩ := B.stretch hn hm hk hg hq hb
    rcases h with h | h
    · exact ⟨j, .inl (s1 h)⟩
    · refine ⟨j, .inr (s2 ?_)⟩
      rw [h, rev_rev (iter_d (entE_d _) b)]
  · rintro ⟨j, rfl | rfl⟩
    · exact ⟨_, .inl (hgo j).symm⟩
    · have hg := goN_lt hs hp j
      obtain ⟨L1, s1, s2⟩ := B.seg hn hm hk hg
      obtain ⟨L, hL⟩ : ∃ L, segL n m k tg th (goN (endS n m k tg th) (seamT n m k) j p) = L + 1 := ⟨segL n m k tg th (goN (endS n m k tg th) (seamT n m k) j p) - 1, by omega⟩
      rw [hL] at s2
      refine ⟨timeT n m k tg th (seamT n m k) p j + L, .inr ?_⟩
      rw [iter_add, hgo]
      have h3 : nxt to (iter to (entE n m k (goN (endS n m k tg th) (seamT n m k) j p)) L) = nxt to (rev to (entE n m k (endS n m k tg th (goN (endS n m k tg th) (seamT n m k) j p)))) := by
        rw [outX_rev (entE_d _)]
        exact s2
      have h4 := nxt_inj (iter_d (entE_d _) L) (rev_d _) h3
      rw [h4, rev_rev (entE_d _)]
/-- A round of both: of one of both, or sewn. -/
def codeW (n m k : Nat) (c : Nat) : Wy := if c < 4 * (n * m) then wayN m c else if c < 4 * (n * m) + 4 * (n * k) then shW m (wayN k (c - 4 * (n * m))) else entE n m k (c - (4 * (n * m) + 4 * (n * k)))
def codeV (n m k : Nat) (tg th : Int → Int → UInt8) (c : Nat) : Bool := if c < 4 * (n * m) then leadB n m tg c else if c < 4 * (n * m) + 4 * (n * k) then leadB n k th (c - 4 * (n * m)) else leadS (seamN n m k) (endS n m k tg th) (seamT n m k) (c - (4 * (n * m) + 4 * (n * k)))
theorem codeW_d (c : Nat) : (codeW n m k c).d < 4 := by
  unfold codeW
  split
  · exact wayN_d c
  · split
    · exact wayN_d (m := k) _
    · exact entE_d _
theorem Beside2.code_on (B : Beside2 n m k tg th to) (hn : 1 ≤ n) (hm : 1 ≤ m) (hk : 1 ≤ k) {c : Nat} (hc : c < 4 * (n * m) + 4 * (n * k) + seamN n m k) (h : codeV n m k tg th c = true) : onR n (m + k) to (codeW n m k c) = true := by
  unfold codeV at h
  unfold codeW
  by_cases h1 : c < 4 * (n * m)
  · rw [if_pos h1] at h ⊢
    exact (B.onl (wayN_d c) (lead_iff.1 h).1).1
  · rw [if_neg h1] at h ⊢
    by_cases h2 : c < 4 * (n * m) + 4 * (n * k)
    · rw [if_pos h2] at h ⊢
      exact (B.onr (wayN_d _) (lead_iff.1 h).1).1
    · rw [if_neg h2] at h ⊢
      have hp : c - (4 * (n * m) + 4 * (n * k)) < seamN n m k := by omega
      exact (B.on_sew hn hm hk hp ((leadS_iff (endS_sewn hn hm hk) hp).1 h).1).1
theorem port_off {t : Int → Int → UInt8} {p : Nat} (hn : 1 ≤ n) (hm : 1 ≤ m) (hp : p < 2 * (n + m)) : onR n m t (entr n m p) = false := beam_not (t := t) (j := 0) hp (blen_pos hn hm hp)
/-- One code for each round. -/
theorem Beside2.code_le (B : Beside2 n m k tg th to) (hn : 1 ≤ n) (hm : 1 ≤ m) (hk : 1 ≤ k) {c c' : Nat} (hc : c < 4 * (n * m) + 4 * (n * k) + seamN n m k) (hc' : c' < 4 * (n * m) + 4 * (n * k) + seamN n m k) (h : codeV n m k tg th c = true) (h' : codeV n m k tg th c' = true)
    (hr : ringW to (codeW n m k c) (codeW n m k c')) : c ≤ c' := by
  have hs := endS_sewn (tg := tg) (th := th) hn hm hk
  unfold codeV at h h'
  unfold codeW at hr
  by_cases h1 : c < 4 * (n * m)
  · rw [if_pos h1] at h hr
    have hon := (lead_iff.1 h).1
    obtain ⟨r1, r2⟩ := B.ringl (wayN_d c) hon hr
    by_cases g1 : c' < 4 * (n * m)
    · rw [if_pos g1] at h' r1
      have := (lead_iff.1 h).2 _ r1
      rwa [wcode_way] at this
    · omega
  · rw [if_neg h1] at h hr
    by_cases h2 : c < 4 * (n * m) + 4 * (n * k)
    · rw [if_pos h2] at h hr
      have hon := (lead_iff.1 h).1
      obtain ⟨z, r1, r2, r3⟩ := B.ringr (wayN_d _) hon hr
      by_cases g1 : c' < 4 * (n * m)
      · rw [if_pos g1] at r1
        have := wayN_in (n := n) (m := m) g1
        rw [r1] at this
        exact absurd this (not_sh r3)
      · rw [if_neg g1] at h' r1
        by_cases g2 : c' < 4 * (n * m) + 4 * (n * k)
        · rw [if_pos g2] at h' r1
          have := shW_inj r1
          rw [← this] at r2
          have := (lead_iff.1 h).2 _ r2
          rw [wcode_way] at this
          omega
        · omega
    · rw [if_neg h2] at h hr
      have hp : c - (4 * (n * m) + 4 * (n * k)) < seamN n m k := by omega
      have hl := (leadS_iff hs hp).1 h
      by_cases g1 : c' < 4 * (n * m)
      · rw [if_pos g1] at h' hr
        have hon' := (lead_iff.1 h').1
        have hr2 := ringW_symm (entE_d _) (B.on_sew hn hm hk hp hl.1).1 hr
        obtain ⟨r1, r2⟩ := B.ringl (wayN_d c') hon' hr2
        have hoE := (ringW_on (wayN_d c') hon' r1).1
        unfold entE at r2 hoE
        by_cases g3 : c - (4 * (n * m) + 4 * (n * k)) < 2 * (n + m)
        · rw [if_pos g3, port_off hn hm g3] at hoE
          cases hoE
        · rw [if_neg g3] at r2
          have hp2 : c - (4 * (n * m) + 4 * (n * k)) < 2 * (n + m) + 2 * (n + k) := hp
          exact absurd r2 (not_sh (entr_in hn hk (by omega)))
      · rw [if_neg g1] at h' hr
        by_cases g2 : c' < 4 * (n * m) + 4 * (n * k)
        · rw [if_pos g2] at h' hr
          have hon' := (lead_iff.1 h').1
          have hr2 := ringW_symm (entE_d _) (B.on_sew hn hm hk hp hl.1).1 hr
          obtain ⟨z, r1, r2, r3⟩ := B.ringr (wayN_d _) hon' hr2
          have hoz := (ringW_on (wayN_d _) hon' r2).1
          unfold entE at r1
          have hp2 : c - (4 * (n * m) + 4 * (n * k)) < 2 * (n + m) + 2 * (n + k) := hp
          by_cases g3 : c - (4 * (n * m) + 4 * (n * k)) < 2 * (n + m)
          · rw [if_pos g3] at r1
            have := entr_in (n := n) (m := m) hn hm g3
            rw [r1] at this
            exact absurd this (not_sh r3)
          · rw [if_neg g3] at r1
            have e := shW_inj r1
            rw [← e, port_off hn hk (by omega)] at hoz
            cases hoz
        · rw [if_neg g2] at h' hr
          have hp' : c' - (4 * (n * m) + 4 * (n * k)) < seamN n m k := by omega
          have := hl.2 _ ((B.ring_sew hn hm hk hp hp' hl.1).1 hr)
          omega
/-- Each round has a code. -/
theorem Beside2.code_ex (B : Beside2 n m k tg th to) (hn : 1 ≤ n) (hm : 1 ≤ m) (hk : 1 ≤ k) {x : Wy} (hd : x.d < 4) (hx : onR n (m + k) to x = true) : ∃ c, c < 4 * (n * m) + 4 * (n * k) + seamN n m k ∧ codeV n m k tg th c = true ∧ ringW to x (codeW n m k c) := by
  have hs := endS_sewn (tg := tg) (th := th) hn hm hk
  by_cases hex : ∃ j q, q < seamN n m k ∧ seamT n m k q ≠ q ∧ iter to x j = entE n m k q
  · obtain ⟨j, q, hq, _, e⟩ := hex
    have hon : onR n (m + k) to (entE n m k q) = true := by rw [← e]; exact onR_iter hd hx j
    have hoS := B.sew_on hn hm hk hq hon
    obtain ⟨p, hpq, hl, hr⟩ := ring_leadS hs hq hoS q q (ring_refl q) rfl
    have hp : p < seamN n m k := by omega
    refine ⟨4 * (n * m) + 4 * (n * k) + p, by omega, ?_, ?_⟩
    · unfold codeV
      rw [if_neg (by omega), if_neg (by omega), Nat.add_sub_cancel_left]
      exact hl
    · unfold codeW
      rw [if_neg (by omega), if_neg (by omega), Nat.add_sub_cancel_left]
      have hlo := ((leadS_iff hs hp).1 hl).1
      have h1 := (B.ring_sew hn hm hk hp hq hlo).2 hr
      have h2 := ringW_symm (entE_d p) (B.on_sew hn hm hk hp hlo).1 h1
      exact ringW_trans hd hx ⟨j, .inl e.symm⟩ h2
  · have hno : ∀ j q, q < seamN n m k → seamT n m k q ≠ q → iter to x j ≠ entE n m k q := fun j q h1 h2 e => hex ⟨j, q, h1, h2, e⟩
    have hstep : ∀ j, _ := fun j => B.cross hm hk (iter_d hd j) (onR_all hd hx j) (onR_all hd hx (j + 1))
    rcases Beside2.cases (onR_all hd hx 0) with h0 | ⟨x', h0, h0'⟩
    · have hall : ∀ j, inG n m (iter to x j) := fun j => by
        induction j with
        | zero => exact h0
        | succ j ih =>
          rcases (hstep j).1 ih with h | ⟨q, h1, h2, h3⟩
          · exact h
          · exact absurd h3 (hno (j + 1) q h1 h2)
      have hit : ∀ j, iter tg x j = iter to x j := fun j => by
        induction j with
        | zero => rfl
        | succ j ih =>
          show nxt tg (iter tg x j) = nxt to (iter to x j)
          rw [ih]
          exact ((B.nl (hall j)).1).symm
      have hon : onR n m tg x = true := onR_of fun j => by rw [hit]; exact hall j
      obtain ⟨l, hl, hll⟩ := lead_one hd hon
      obtain ⟨l1, l2⟩ := (hll l).2 rfl
      have hl3 := ringW_symm (wayN_d l) (lead_iff.1 l1).1 l2
      refine ⟨l, by omega, ?_, ?_⟩
      · unfold codeV; rw [if_pos hl]; exact l1
      · unfold codeW
        rw [if_pos hl]
        obtain ⟨j, e | e⟩ := hl3
        · exact ⟨j, .inl (by rw [← hit]; exact e)⟩
        · exact ⟨j, .inr (by rw [e, hit, (B.nl (hall j)).2])⟩
    · have hxe : x = shW m x' := h0
      have hd' : x'.d < 4 := by rw [hxe] at hd; exact hd
      have hall : ∀ j, iter to x j = shW m (iter th x' j) ∧ inG n k (iter th x' j) := fun j => by
        induction j with
        | zero => exact ⟨hxe, h0'⟩
        | succ j ih =>
          have hn1 : iter to x (j + 1) = shW m (iter th x' (j + 1)) := by
            show nxt to (iter to x j) = shW m (nxt th (iter th x' j))
            rw [ih.1]
            exact (B.nr ih.2).1
          refine ⟨hn1, ?_⟩
          rcases (hstep j).2 _ ih.1 ih.2 with ⟨z, h1, h2⟩ | ⟨q, h1, h2, h3⟩
          · have e : shW m (iter th x' (j + 1)) = shW m z := hn1.symm.trans h1
            rw [shW_inj e]
            exact h2
          · exact absurd h3 (hno (j + 1) q h1 h2)
      have hon : onR n k th x' = true := onR_of fun j => (hall j).2
      obtain ⟨l, hl, hll⟩ := lead_one hd' hon
      obtain ⟨l1, l2⟩ := (hll l).2 rfl
      have hl3 := ringW_symm (wayN_d l) (lead_iff.1 l1).1 l2
      refine ⟨4 * (n * m) + l, by omega, ?_, ?_⟩
      · unfold codeV; rw [if_neg (by omega), if_pos (by omega), Nat.add_sub_cancel_left]; exact l1
      · unfold codeW
        rw [if_neg (by omega), if_pos (by omega), Nat.add_sub_cancel_left]
        obtain ⟨j, e | e⟩ := hl3
        · exact ⟨j, .inl (by rw [e, (hall j).1])⟩
        · exact ⟨j, .inr (by rw [e, (hall j).1, (B.nr (hall j).2).2])⟩
theorem countP_shift (p : Nat → Bool) (a : Nat) : ∀ b, (List.range (a + b)).countP p = (List.range a).countP p + (List.range b).countP fun j => p (a + j)
  | 0 => by simp
  | b + 1 => by
    rw [← Nat.add_assoc, List.range_succ, List.countP_append, countP_shift p a b, List.range_succ, List.countP_append, List.countP_cons, List.countP_nil, List.countP_cons, List.countP_nil]
    omega
/-- The rounds of both. -/
theorem Beside2.rounds (B : Beside2 n m k tg th to) (hn : 1 ≤ n) (hm : 1 ≤ m) (hk : 1 ≤ k) : (leads n (m + k) to).length = (leads n m tg).length + (leads n k th).length + roundsTo (seamN n m k) (endS n m k tg th) (seamT n m k) (seamN n m k) := by
  have hcnt : (List.range (4 * (n * m) + 4 * (n * k) + seamN n m k)).countP (codeV n m k tg th) = (leads n m tg).length + (leads n k th).length + roundsTo (seamN n m k) (endS n m k tg th) (seamT n m k) (seamN n m k) := by
    rw [countP_shift, countP_shift]
    unfold leads roundsTo
    rw [← List.countP_eq_length_filter, ← List.countP_eq_length_filter]
    congr 1
    · congr 1
      · refine List.countP_congr fun c hc => ?_
        have hc := List.mem_range.1 hc
        unfold codeV
        rw [if_pos hc]
      · refine List.countP_congr fun c hc => ?_
        have hc := List.mem_range.1 hc
        unfold codeV
        rw [if_neg (by omega), if_pos (by omega), Nat.add_sub_cancel_left]
    · refine List.countP_congr fun c hc => ?_
      unfold codeV
      rw [if_neg (by omega), if_neg (by omega), Nat.add_sub_cancel_left]
  rw [← hcnt, List.countP_eq_length_filter]
  refine Nat.le_antisymm (inj_le (fun a c => leadB n (m + k) to a = true ∧ ringW to (wayN (m + k) a) (codeW n m k c)) _ _ (List.nodup_range.filter _) (fun a ha => ?_) fun a a' c _ _ h1 h2 => ?_)
    (inj_le (fun c a => c < 4 * (n * m) + 4 * (n * k) + seamN n m k ∧ codeV n m k tg th c = true ∧ leadB n (m + k) to a = true ∧ ringW to (wayN (m + k) a) (codeW n m k c)) _ _ (List.nodup_range.filter _) (fun c hc => ?_) fun c c' a _ _ h1 h2 => ?_)
  · obtain ⟨_, hl⟩ := leads_lt ha
    obtain ⟨c, h1, h2, h3⟩ := B.code_ex hn hm hk (wayN_d a) (lead_iff.1 hl).1
    exact ⟨c, List.mem_filter.2 ⟨List.mem_range.2 h1, h2⟩, hl, h3⟩
  · have o1 := (lead_iff.1 h1.1).1
    have o2 := (lead_iff.1 h2.1).1
    have r := ringW_trans (wayN_d a) o1 h1.2 (ringW_symm (wayN_d a') o2 h2.2)
    have k1 := (lead_iff.1 h1.1).2 _ r
    have k2 := (lead_iff.1 h2.1).2 _ (ringW_symm (wayN_d a) o1 r)
    rw [wcode_way] at k1 k2
    omega
  · obtain ⟨h1, h2⟩ := List.mem_filter.1 hc
    have h1 := List.mem_range.1 h1
    have hon := B.code_on hn hm hk h1 h2
    obtain ⟨a, ha, hll⟩ := lead_one (codeW_d c) hon
    obtain ⟨a1, a2⟩ := (hll a).2 rfl
    exact ⟨a, List.mem_filter.2 ⟨List.mem_range.2 ha, a1⟩, h1, h2, a1, a2⟩
  · obtain ⟨g1, g2, g3, g4⟩ := h1
    obtain ⟨g1', g2', _, g4'⟩ := h2
    have o1 := (lead_iff.1 g3).1
    have r := ringW_trans (codeW_d c) (B.code_on hn hm hk g1 g2) (ringW_symm (wayN_d a) o1 g4) g4'
    exact Nat.le_antisymm (B.code_le hn hm hk g1 g1' g2 g2' r) (B.code_le hn hm hk g1' g1 g2' g2 (ringW_symm (codeW_d c) (B.code_on hn hm hk g1 g2) r))
end
end Go.Proofs.Ytonhnmpgikmlpaa
