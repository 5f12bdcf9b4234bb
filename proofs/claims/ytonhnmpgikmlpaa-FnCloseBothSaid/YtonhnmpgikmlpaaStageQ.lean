/- Ports sewn in two stages: the rounds of both. No program is named. -/
import Derived.Test.YtonhnmpgikmlpaaSewQ
namespace Go.Proofs.Ytonhnmpgikmlpaa

/-- First t1; then its loose ports, by their numbers, by t2. -/
structure Staged (N M : Nat) (s t1 t2 nu al : Nat → Nat) : Prop where
  sew : Sewn N s t1
  l : ∀ q, q < N → t1 q = q → t2 q < N ∧ t1 (t2 q) = t2 q ∧ t2 (t2 q) = q
  nlt : ∀ q, q < N → t1 q = q → nu q < M
  an : ∀ q, q < N → t1 q = q → al (nu q) = q
  alt : ∀ j, j < M → al j < N ∧ t1 (al j) = al j
  na : ∀ j, j < M → nu (al j) = j
def bothT (t1 t2 : Nat → Nat) (q : Nat) : Nat := if t1 q = q then t2 q else t1 q
section
variable {N M : Nat} {s t1 t2 nu al : Nat → Nat}
def stS (N : Nat) (s t1 nu al : Nat → Nat) (j : Nat) : Nat := nu (pend N s t1 (al j))
def stT (t2 nu al : Nat → Nat) (j : Nat) : Nat := nu (t2 (al j))
theorem Staged.both (S : Staged N M s t1 t2 nu al) : Sewn N s (bothT t1 t2) where
  slt := S.sew.slt
  ss := S.sew.ss
  sne := S.sew.sne
  tlt q hq := by
    unfold bothT
    by_cases h : t1 q = q
    · rw [if_pos h]; exact (S.l q hq h).1
    · rw [if_neg h]; exact S.sew.tlt q hq
  tt q hq := by
    unfold bothT
    by_cases h : t1 q = q
    · obtain ⟨_, h2, h3⟩ := S.l q hq h
      rw [if_pos h, if_pos h2, h3]
    · have h2 : ¬ t1 (t1 q) = t1 q := fun e => h (by rw [S.sew.tt q hq] at e; exact e.symm)
      rw [if_neg h, if_neg h2, S.sew.tt q hq]
theorem Staged.pendl (S : Staged N M s t1 t2 nu al) {q : Nat} (hq : q < N) (h : t1 q = q) : pend N s t1 q < N ∧ t1 (pend N s t1 q) = pend N s t1 q := ⟨pend_lt S.sew hq, loose_end S.sew hq h⟩
theorem Staged.second (S : Staged N M s t1 t2 nu al) : Sewn M (stS N s t1 nu al) (stT t2 nu al) where
  slt j hj := by
    obtain ⟨h1, h2⟩ := S.alt j hj
    obtain ⟨h3, h4⟩ := S.pendl h1 h2
    exact S.nlt _ h3 h4
  ss j hj := by
    obtain ⟨h1, h2⟩ := S.alt j hj
    obtain ⟨h3, h4⟩ := S.pendl h1 h2
    unfold stS
    rw [S.an _ h3 h4, end_end S.sew h1 h2, S.na j hj]
  sne j hj e := by
    obtain ⟨h1, h2⟩ := S.alt j hj
    obtain ⟨h3, h4⟩ := S.pendl h1 h2
    have e2 : nu (pend N s t1 (al j)) = j := e
    have := congrArg al e2
    rw [S.an _ h3 h4] at this
    exact end_ne S.sew h1 this
  tlt j hj := by
    obtain ⟨h1, h2⟩ := S.alt j hj
    obtain ⟨h3, h4, _⟩ := S.l _ h1 h2
    exact S.nlt _ h3 h4
  tt j hj := by
    obtain ⟨h1, h2⟩ := S.alt j hj
    obtain ⟨h3, h4, h5⟩ := S.l _ h1 h2
    unfold stT
    rw [S.an _ h3 h4, h5, S.na j hj]
/-- How far it is to the j-th loose port. -/
def timeS (N : Nat) (s t1 t2 nu al : Nat → Nat) (j : Nat) : Nat → Nat
  | 0 => 0
  | i + 1 => timeS N s t1 t2 nu al j i + plen N s t1 (al (goN (stS N s t1 nu al) (stT t2 nu al) i j))
/-- On one stretch. -/
theorem Staged.stretch (S : Staged N M s t1 t2 nu al) {x : Nat} (hx : x < N) : ∀ b, b < plen N s t1 x → goN s (bothT t1 t2) b x = goN s t1 b x
  | 0, _ => rfl
  | b + 1, h => by
    have ih := S.stretch hx b (by omega)
    have hne := ((plen_facts S.sew hx).2.2.2 b (by omega)).1
    show bothT t1 t2 (s (goN s (bothT t1 t2) b x)) = t1 (s (goN s t1 b x))
    rw [ih]
    unfold bothT
    rw [if_neg hne]
theorem Staged.across (S : Staged N M s t1 t2 nu al) {x : Nat} (hx : x < N) (hl : t1 x = x) : goN s (bothT t1 t2) (plen N s t1 x) x = t2 (pend N s t1 x) := by
  have h1 := (plen_facts S.sew hx).1
  obtain ⟨L, hL⟩ : ∃ L, plen N s t1 x = L + 1 := ⟨plen N s t1 x - 1, by omega⟩
  have hp : pend N s t1 x = s (goN s t1 L x) := by
    unfold pend
    rw [hL, Nat.add_sub_cancel]
  have he := (S.pendl hx hl).2
  rw [hL]
  show bothT t1 t2 (s (goN s (bothT t1 t2) L x)) = _
  rw [S.stretch hx L (by omega), ← hp]
  unfold bothT
  rw [if_pos he]
theorem Staged.go (S : Staged N M s t1 t2 nu al) {j : Nat} (hj : j < M) : ∀ i, goN s (bothT t1 t2) (timeS N s t1 t2 nu al j i) (al j) = al (goN (stS N s t1 nu al) (stT t2 nu al) i j)
  | 0 => rfl
  | i + 1 => by
    have ih := S.go hj i
    have hg := goN_lt S.second hj i
    obtain ⟨h1, h2⟩ := S.alt _ hg
    obtain ⟨h3, h4⟩ := S.pendl h1 h2
    obtain ⟨h5, h6, _⟩ := S.l _ h3 h4
    show goN s (bothT t1 t2) (timeS N s t1 t2 nu al j i + plen N s t1 (al (goN (stS N s t1 nu al) (stT t2 nu al) i j))) (al j) = al (stT t2 nu al (stS N s t1 nu al (goN (stS N s t1 nu al) (stT t2 nu al) i j)))
    rw [goN_add, ih, S.across h1 h2]
    generalize goN (stS N s t1 nu al) (stT t2 nu al) i j = z at *
    show _ = al (nu (t2 (al (nu (pend N s t1 (al z))))))
    rw [S.an _ h3 h4, S.an _ h5 h6]
theorem Staged.parts (S : Staged N M s t1 t2 nu al) {j : Nat} (hj : j < M) : ∀ a, ∃ i b, a = timeS N s t1 t2 nu al j i + b ∧ b < plen N s t1 (al (goN (stS N s t1 nu al) (stT t2 nu al) i j))
  | 0 => ⟨0, 0, rfl, (plen_facts S.sew (S.alt j hj).1).1⟩
  | a + 1 => by
    obtain ⟨i, b, e, hb⟩ := S.parts hj a
    by_cases h : b + 1 < plen N s t1 (al (goN (stS N s t1 nu al) (stT t2 nu al) i j))
    · exact ⟨i, b + 1, by omega, h⟩
    · refine ⟨i + 1, 0, ?_, (plen_facts S.sew (S.alt _ (goN_lt S.second hj (i + 1))).1).1⟩
      show a + 1 = timeS N s t1 t2 nu al j i + plen N s t1 _ + 0
      omega
theorem Staged.end_ (S : Staged N M s t1 t2 nu al) {j : Nat} (hj : j < M) (i : Nat) : ∃ b, b + 1 = plen N s t1 (al (goN (stS N s t1 nu al) (stT t2 nu al) i j)) ∧ s (goN s (bothT t1 t2) (timeS N s t1 t2 nu al j i + b) (al j)) = pend N s t1 (al (goN (stS N s t1 nu al) (stT t2 nu al) i j)) := by
  have hg := goN_lt S.second hj i
  obtain ⟨h1, h2⟩ := S.alt _ hg
  have hp := (plen_facts S.sew h1).1
  refine ⟨plen N s t1 (al (goN (stS N s t1 nu al) (stT t2 nu al) i j)) - 1, by omega, ?_⟩
  rw [goN_add, S.go hj i, S.stretch h1 _ (by omega)]
  rfl
theorem Staged.on (S : Staged N M s t1 t2 nu al) {j : Nat} (hj : j < M) : onS N s (bothT t1 t2) (al j) = true ↔ onS M (stS N s t1 nu al) (stT t2 nu al) j = true := by
  constructor
  · intro h
    refine on_of fun i e => ?_
    obtain ⟨b, _, hb⟩ := S.end_ hj i
    have h1 := on_sewn S.both (S.alt j hj).1 h (timeS N s t1 t2 nu al j i + b)
    rw [hb] at h1
    have hg := goN_lt S.second hj i
    obtain ⟨g1, g2⟩ := S.alt _ hg
    obtain ⟨h3, h4⟩ := S.pendl g1 g2
    obtain ⟨h5, h6, _⟩ := S.l _ h3 h4
    have e2 : nu (t2 (al (nu (pend N s t1 (al (goN (stS N s t1 nu al) (stT t2 nu al) i j)))))) = nu (pend N s t1 (al (goN (stS N s t1 nu al) (stT t2 nu al) i j))) := e
    rw [S.an _ h3 h4] at e2
    have e3 := congrArg al e2
    rw [S.an _ h5 h6, S.an _ h3 h4] at e3
    refine h1 ?_
    unfold bothT
    rw [if_pos h4]
    exact e3
  · intro h
    have hsew := on_sewn S.second hj h
    refine on_of fun a e => ?_
    obtain ⟨i, b, rfl, hb⟩ := S.parts hj a
    have hg := goN_lt S.second hj i
    obtain ⟨g1, g2⟩ := S.alt _ hg
    rw [goN_add, S.go hj i, S.stretch g1 b hb] at e
    by_cases hlast : b + 1 < plen N s t1 (al (goN (stS N s t1 nu al) (stT t2 nu al) i j))
    · have hne := ((plen_facts S.sew g1).2.2.2 b hlast).1
      unfold bothT at e
      rw [if_neg hne] at e
      exact hne e
    · have hbe : b = plen N s t1 (al (goN (stS N s t1 nu al) (stT t2 nu al) i j)) - 1 := by omega
      have hpe : s (goN s t1 b (al (goN (stS N s t1 nu al) (stT t2 nu al) i j))) = pend N s t1 (al (goN (stS N s t1 nu al) (stT t2 nu al) i j)) := by rw [hbe]; rfl
      obtain ⟨h3, h4⟩ := S.pendl g1 g2
      rw [hpe] at e
      unfold bothT at e
      rw [if_pos h4] at e
      refine hsew i ?_
      clear hsew
      generalize goN (stS N s t1 nu al) (stT t2 nu al) i j = z at *
      show nu (t2 (al (stS N s t1 nu al z))) = _
      have e2 : al (stS N s t1 nu al z) = pend N s t1 (al z) := S.an _ h3 h4
      rw [e2, e]
      rfl
theorem Staged.ring (S : Staged N M s t1 t2 nu al) {j q : Nat} (hj : j < M) (hq : q < N) (hl : t1 q = q) : ringS s (bothT t1 t2) (al j) q ↔ ringS (stS N s t1 nu al) (stT t2 nu al) j (nu q) := by
  constructor
  · rintro ⟨a, h⟩
    obtain ⟨i, b, rfl, hb⟩ := S.parts hj a
    have hg := goN_lt S.second hj i
    obtain ⟨g1, g2⟩ := S.alt _ hg
    rw [goN_add, S.go hj i, S.stretch g1 b hb] at h
    rcases h with h | h
    · cases b with
      | zero =>
        refine ⟨i, .inl ?_⟩
        rw [h]
        exact S.na _ hg
      | succ b =>
        have := (path_sewn S.sew g1 hb).2
        rw [← h] at this
        exact absurd hl this
    · by_cases hlast : b + 1 < plen N s t1 (al (goN (stS N s t1 nu al) (stT t2 nu al) i j))
      · have hne := ((plen_facts S.sew g1).2.2.2 b hlast).1
        rw [← h] at hne
        exact absurd hl hne
      · have hbe : b = plen N s t1 (al (goN (stS N s t1 nu al) (stT t2 nu al) i j)) - 1 := by omega
        refine ⟨i, .inr ?_⟩
        rw [h, hbe]
        rfl
  · rintro ⟨i, h | h⟩
    · have hg := goN_lt S.second hj i
      refine ⟨timeS N s t1 t2 nu al j i, .inl ?_⟩
      rw [S.go hj i, ← h, S.an q hq hl]
    · obtain ⟨b, _, hb⟩ := S.end_ hj i
      have hg := goN_lt S.second hj i
      obtain ⟨g1, g2⟩ := S.alt _ hg
      obtain ⟨h3, h4⟩ := S.pendl g1 g2
      refine ⟨timeS N s t1 t2 nu al j i + b, .inr ?_⟩
      rw [hb, ← S.an q hq hl, h]
      exact S.an _ h3 h4
/-- A round of the first stage stays as it is. -/
theorem Staged.first (S : Staged N M s t1 t2 nu al) {p : Nat} (hp : p < N) (ho : onS N s t1 p = true) : onS N s (bothT t1 t2) p = true ∧ ∀ i, goN s (bothT t1 t2) i p = goN s t1 i p := by
  have hsew := on_sewn S.sew hp ho
  have hgo : ∀ i, goN s (bothT t1 t2) i p = goN s t1 i p := fun i => by
    induction i with
    | zero => rfl
    | succ i ih =>
      show bothT t1 t2 (s (goN s (bothT t1 t2) i p)) = t1 (s (goN s t1 i p))
      rw [ih]
      unfold bothT
      rw [if_neg (hsew i)]
  refine ⟨on_of fun i e => ?_, hgo⟩
  rw [hgo] at e
  unfold bothT at e
  rw [if_neg (hsew i)] at e
  exact hsew i e
theorem Staged.ring1 (S : Staged N M s t1 t2 nu al) {p q : Nat} (hp : p < N) (ho : onS N s t1 p = true) : ringS s (bothT t1 t2) p q ↔ ringS s t1 p q := by
  have hgo := (S.first hp ho).2
  constructor
  · rintro ⟨i, h⟩; rw [hgo] at h; exact ⟨i, h⟩
  · rintro ⟨i, h⟩; rw [← hgo] at h; exact ⟨i, h⟩
def stV (N M : Nat) (s t1 t2 nu al : Nat → Nat) (c : Nat) : Bool := if c < N then leadS N s t1 c else leadS M (stS N s t1 nu al) (stT t2 nu al) (c - N)
def stY (N : Nat) (al : Nat → Nat) (c : Nat) : Nat := if c < N then c else al (c - N)
theorem Staged.code (S : Staged N M s t1 t2 nu al) {c : Nat} (hc : c < N + M) (h : stV N M s t1 t2 nu al c = true) : stY N al c < N ∧ onS N s (bothT t1 t2) (stY N al c) = true := by
  unfold stV at h
  unfold stY
  by_cases h1 : c < N
  · rw [if_pos h1] at h ⊢
    exact ⟨h1, (S.first h1 ((leadS_iff S.sew h1).1 h).1).1⟩
  · rw [if_neg h1] at h ⊢
    have hj : c - N < M := by omega
    exact ⟨(S.alt _ hj).1, (S.on hj).2 ((leadS_iff S.second hj).1 h).1⟩
theorem Staged.code_le (S : Staged N M s t1 t2 nu al) {c c' : Nat} (hc : c < N + M) (hc' : c' < N + M) (h : stV N M s t1 t2 nu al c = true) (h' : stV N M s t1 t2 nu al c' = true) (hr : ringS s (bothT t1 t2) (stY N al c) (stY N al c')) : c ≤ c' := by
  have hy := S.code hc h
  have hy' := S.code hc' h'
  unfold stV at h h'
  unfold stY at hr hy hy'
  by_cases h1 : c < N
  · rw [if_pos h1] at h hr
    have hl := (leadS_iff S.sew h1).1 h
    have hr1 := (S.ring1 h1 hl.1).1 hr
    by_cases g1 : c' < N
    · rw [if_pos g1] at hr1
      exact hl.2 _ hr1
    · omega
  · rw [if_neg h1] at h hr hy
    have hj : c - N < M := by omega
    have hl := (leadS_iff S.second hj).1 h
    by_cases g1 : c' < N
    · rw [if_pos g1] at h' hr
      have hl' := (leadS_iff S.sew g1).1 h'
      have hr2 := ring_symm S.both hy.1 hy.2 hr
      have hr3 := (S.ring1 g1 hl'.1).1 hr2
      exact absurd (S.alt _ hj).2 (ring_sewn S.sew g1 hl'.1 hr3)
    · rw [if_neg g1] at h' hr
      have hj' : c' - N < M := by omega
      obtain ⟨a1, a2⟩ := S.alt _ hj'
      have hr3 := (S.ring hj a1 a2).1 hr
      rw [S.na _ hj'] at hr3
      have := hl.2 _ hr3
      omega
theorem Staged.code_ex (S : Staged N M s t1 t2 nu al) {p : Nat} (hp : p < N) (ho : onS N s (bothT t1 t2) p = true) : ∃ c, c < N + M ∧ stV N M s t1 t2 nu al c = true ∧ ringS s (bothT t1 t2) p (stY N al c) := by
  by_cases hex : ∃ q, ringS s (bothT t1 t2) p q ∧ t1 q = q
  · obtain ⟨q, hr, hl⟩ := hex
    have hq := ring_lt S.both hp hr
    have hoq := ring_on S.both hp ho hr
    have hn := S.nlt q hq hl
    rw [← S.an q hq hl] at hoq
    have hoj := (S.on hn).1 hoq
    obtain ⟨l, hle, hlead, hrl⟩ := ring_leadS S.second hn hoj _ _ (ring_refl _) rfl
    have hlM : l < M := by omega
    have hol := ((leadS_iff S.second hlM).1 hlead).1
    refine ⟨N + l, by omega, ?_, ?_⟩
    · unfold stV; rw [if_neg (by omega), Nat.add_sub_cancel_left]; exact hlead
    · unfold stY
      rw [if_neg (by omega), Nat.add_sub_cancel_left]
      have h1 := (S.ring hlM hq hl).2 hrl
      obtain ⟨a1, a2⟩ := S.alt l hlM
      exact ring_trans S.both hp ho hr (ring_symm S.both a1 ((S.on hlM).2 hol) h1)
  · have hno : ∀ q, ringS s (bothT t1 t2) p q → t1 q ≠ q := fun q hr e => hex ⟨q, hr, e⟩
    have hgo : ∀ i, goN s (bothT t1 t2) i p = goN s t1 i p := fun i => by
      induction i with
      | zero => rfl
      | succ i ih =>
        have hne := hno (s (goN s (bothT t1 t2) i p)) ⟨i, .inr rfl⟩
        show bothT t1 t2 (s (goN s (bothT t1 t2) i p)) = t1 (s (goN s t1 i p))
        rw [ih] at hne ⊢
        unfold bothT
        rw [if_neg hne]
    have ho1 : onS N s t1 p = true := on_of fun i => by
      rw [← hgo]
      exact hno _ ⟨i, .inr rfl⟩
    obtain ⟨l, hle, hlead, hrl⟩ := ring_leadS S.sew hp ho1 _ _ (ring_refl _) rfl
    have hl : l < N := by omega
    have hol := ((leadS_iff S.sew hl).1 hlead).1
    refine ⟨l, by omega, ?_, ?_⟩
    · unfold stV; rw [if_pos hl]; exact hlead
    · unfold stY
      rw [if_pos hl]
      exact (S.ring1 hp ho1).2 (ring_symm S.sew hl hol hrl)
theorem countP_shift' (p : Nat → Bool) (a : Nat) : ∀ b, (List.range (a + b)).countP p = (List.range a).countP p + (List.range b).countP fun j => p (a + j)
  | 0 => by simp
  | b + 1 => by
    rw [← Nat.add_assoc, List.range_succ, List.countP_append, countP_shift' p a b, List.range_succ, List.countP_append, List.countP_cons, List.countP_nil, List.countP_cons, List.countP_nil]
    omega
/-- The rounds of both stages. -/
theorem Staged.rounds (S : Staged N M s t1 t2 nu al) : roundsTo N s (bothT t1 t2) N = roundsTo N s t1 N + roundsTo M (stS N s t1 nu al) (stT t2 nu al) M := by
  have hcnt : (List.range (N + M)).countP (stV N M s t1 t2 nu al) = roundsTo N s t1 N + roundsTo M (stS N s t1 nu al) (stT t2 nu al) M := by
    rw [countP_shift']
    unfold roundsTo
    congr 1
    · refine List.countP_congr fun c hc => ?_
      unfold stV
      rw [if_pos (List.mem_range.1 hc)]
    · refine List.countP_congr fun c hc => ?_
      unfold stV
      rw [if_neg (by omega), Nat.add_sub_cancel_left]
  rw [← hcnt]
  unfold roundsTo
  rw [List.countP_eq_length_filter, List.countP_eq_length_filter]
  refine Nat.le_antisymm (inj_le (fun a c => ringS s (bothT t1 t2) a (stY N al c) ∧ stY N al c < N) _ _ (List.nodup_range.filter _) (fun a ha => ?_) fun a a' c ha ha' h1 h2 => ?_)
    (inj_le (fun c a => a < N ∧ leadS N s (bothT t1 t2) a = true ∧ ringS s (bothT t1 t2) a (stY N al c)) _ _ (List.nodup_range.filter _) (fun c hc => ?_) fun c c' a hc hc' h1 h2 => ?_)
  · obtain ⟨h1, h2⟩ := List.mem_filter.1 ha
    have h1 := List.mem_range.1 h1
    obtain ⟨c, g1, g2, g3⟩ := S.code_ex h1 ((leadS_iff S.both h1).1 h2).1
    exact ⟨c, List.mem_filter.2 ⟨List.mem_range.2 g1, g2⟩, g3, (S.code g1 g2).1⟩
  · obtain ⟨a1, a2⟩ := List.mem_filter.1 ha
    obtain ⟨b1, b2⟩ := List.mem_filter.1 ha'
    have a1 := List.mem_range.1 a1
    have b1 := List.mem_range.1 b1
    have l1 := (leadS_iff S.both a1).1 a2
    have l2 := (leadS_iff S.both b1).1 b2
    have r := ring_trans S.both a1 l1.1 h1.1 (ring_symm S.both b1 l2.1 h2.1)
    exact Nat.le_antisymm (l1.2 _ r) (l2.2 _ (ring_symm S.both a1 l1.1 r))
  · obtain ⟨h1, h2⟩ := List.mem_filter.1 hc
    have h1 := List.mem_range.1 h1
    obtain ⟨g1, g2⟩ := S.code h1 h2
    obtain ⟨l, hle, hlead, hr⟩ := ring_leadS S.both g1 g2 _ _ (ring_refl _) rfl
    exact ⟨l, List.mem_filter.2 ⟨List.mem_range.2 (by omega), hlead⟩, by omega, hlead, hr⟩
  · obtain ⟨c1, c2⟩ := List.mem_filter.1 hc
    obtain ⟨d1, d2⟩ := List.mem_filter.1 hc'
    have c1 := List.mem_range.1 c1
    have d1 := List.mem_range.1 d1
    obtain ⟨g1, g2, g3⟩ := h1
    have l1 := (leadS_iff S.both g1).1 g2
    obtain ⟨y1, y2⟩ := S.code c1 c2
    have r := ring_trans S.both y1 y2 (ring_symm S.both g1 l1.1 g3) h2.2.2
    exact Nat.le_antisymm (S.code_le c1 d1 c2 d2 r) (S.code_le d1 c1 d2 c2 (ring_symm S.both y1 y2 r))
end
end Go.Proofs.Ytonhnmpgikmlpaa
