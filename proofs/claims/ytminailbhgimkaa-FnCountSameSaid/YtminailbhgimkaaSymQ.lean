/- Grids seen from elsewhere: ways carried over, their rounds; turned and flipped grids have as many rounds. No program is named. -/
import Derived.Test.YtminailbhgimkaaBunB
namespace Go.Proofs.Ytminailbhgimkaa

/-- Ways of one grid carried over to another: they go on there as they do here. -/
structure Sym (n m : Nat) (t : Int → Int → UInt8) (n' m' : Nat) (t' : Int → Int → UInt8) (φ : Wy → Wy) : Prop where
  d : ∀ x, x.d < 4 → (φ x).d < 4
  inn : ∀ x, inG n' m' (φ x) ↔ inG n m x
  nx : ∀ x, x.d < 4 → inG n m x → φ (nxt t x) = nxt t' (φ x)
  rv : ∀ x, x.d < 4 → inG n m x → φ (rev t x) = rev t' (φ x)
  inj : ∀ x y, x.d < 4 → y.d < 4 → φ x = φ y → x = y
  nm : n' * m' = n * m
section
variable {n m n' m' : Nat} {t t' : Int → Int → UInt8} {φ ψ : Wy → Wy}
theorem Sym.iter (S : Sym n m t n' m' t' φ) {x : Wy} (hd : x.d < 4) : ∀ N, (∀ j, j < N → inG n m (iter t x j)) → φ (iter t x N) = Go.Proofs.Ytminailbhgimkaa.iter t' (φ x) N
  | 0, _ => rfl
  | N + 1, h => by
    show φ (nxt t (Go.Proofs.Ytminailbhgimkaa.iter t x N)) = nxt t' (Go.Proofs.Ytminailbhgimkaa.iter t' (φ x) N)
    rw [S.nx _ (iter_d hd N) (h N (by omega)), S.iter hd N (fun j hj => h j (by omega))]
theorem Sym.on (S : Sym n m t n' m' t' φ) {x : Wy} (hd : x.d < 4) : onR n' m' t' (φ x) = onR n m t x := by
  rw [Bool.eq_iff_iff, onR_iff, onR_iff, S.nm]
  constructor
  · intro h N
    induction N using Nat.strongRecOn with
    | _ N ih =>
      intro hN
      refine (S.inn _).1 ?_
      rw [S.iter hd N (fun j hj => ih j hj (by omega))]
      exact h N hN
  · intro h N hN
    rw [← S.iter hd N (fun j hj => h j (by omega))]
    exact (S.inn _).2 (h N hN)
theorem Sym.ring (S : Sym n m t n' m' t' φ) {x y : Wy} (hd : x.d < 4) (hy : y.d < 4) (h : onR n m t x = true) : ringW t' (φ x) (φ y) ↔ ringW t x y := by
  have e : ∀ j, φ (Go.Proofs.Ytminailbhgimkaa.iter t x j) = Go.Proofs.Ytminailbhgimkaa.iter t' (φ x) j := fun j => S.iter hd j fun i _ => onR_all hd h i
  constructor
  · rintro ⟨j, h1 | h1⟩
    · rw [← e] at h1
      exact ⟨j, .inl (S.inj _ _ hy (iter_d hd j) h1)⟩
    · rw [← e, ← S.rv _ (iter_d hd j) (onR_all hd h j)] at h1
      exact ⟨j, .inr (S.inj _ _ hy (rev_d _) h1)⟩
  · rintro ⟨j, rfl | rfl⟩
    · exact ⟨j, .inl (e j)⟩
    · exact ⟨j, .inr (by rw [S.rv _ (iter_d hd j) (onR_all hd h j), e])⟩
theorem inj_le (R : Nat → Nat → Prop) : ∀ (A B : List Nat), A.Nodup → (∀ a ∈ A, ∃ b ∈ B, R a b) → (∀ a a' b, a ∈ A → a' ∈ A → R a b → R a' b → a = a') → A.length ≤ B.length
  | [], B, _, _, _ => Nat.zero_le _
  | a :: A, B, hA, h1, h2 => by
    obtain ⟨b, hb, hr⟩ := h1 a (by simp)
    obtain ⟨hn, hA⟩ := List.nodup_cons.1 hA
    have := inj_le R A (B.erase b) hA (fun a' ha' => by
      obtain ⟨b', hb', hr'⟩ := h1 a' (by simp [ha'])
      refine ⟨b', (List.mem_erase_of_ne fun e => ?_).2 hb', hr'⟩
      subst e
      exact hn (h2 a a' b' (by simp) (by simp [ha']) hr hr' ▸ ha')) fun x y z hx hy => h2 x y z (by simp [hx]) (by simp [hy])
    rw [List.length_erase_of_mem hb] at this
    have hpos := List.length_pos_of_mem hb
    rw [List.length_cons]
    omega
theorem Sym.le (S : Sym n m t n' m' t' φ) : (leads n m t).length ≤ (leads n' m' t').length := by
  refine inj_le (fun a b => leadB n' m' t' b = true ∧ ringW t' (wayN m' b) (φ (wayN m a))) _ _ (List.nodup_range.filter _) (fun a ha => ?_) fun a a' b ha ha' h1 h2 => ?_
  · obtain ⟨hlt, hl⟩ := leads_lt ha
    have hon := (lead_iff.1 hl).1
    have hd := S.d _ (wayN_d (m := m) a)
    have hon' : onR n' m' t' (φ (wayN m a)) = true := by rw [S.on (wayN_d a)]; exact hon
    obtain ⟨l, hle, hlead, hr⟩ := ring_lead hd hon' _ _ (ringW_refl _) rfl
    refine ⟨l, List.mem_filter.2 ⟨List.mem_range.2 ?_, hlead⟩, hlead, hr⟩
    have hi : inG n' m' (φ (wayN m a)) := (S.inn _).2 (wayN_in hlt)
    have h3 := cellN_lt hi
    have h4 := wcode_cell (m := m') (φ (wayN m a))
    omega
  · obtain ⟨_, hl⟩ := leads_lt ha
    obtain ⟨_, hl'⟩ := leads_lt ha'
    have hb := (lead_iff.1 h1.1).1
    have hon := (lead_iff.1 hl).1
    have k1 := ringW_symm (wayN_d b) hb h1.2
    have k2 := (S.ring (wayN_d a) (wayN_d a') hon).1 (ringW_trans (S.d _ (wayN_d a)) (by rw [S.on (wayN_d a)]; exact hon) k1 h2.2)
    have k3 := (lead_iff.1 hl).2 _ k2
    have k4 := (lead_iff.1 hl').2 _ (ringW_symm (wayN_d a) hon k2)
    rw [wcode_way] at k3 k4
    omega
theorem leads_sym (S : Sym n m t n' m' t' φ) (S' : Sym n' m' t' n m t ψ) : (leads n' m' t').length = (leads n m t).length := Nat.le_antisymm S'.le S.le
end
/-- The mirror that stands where a mirror is turned or flipped. -/
def swapM (b : UInt8) : UInt8 := if b = 114 then 102 else if b = 102 then 114 else b
theorem swapM_swap (b : UInt8) : swapM (swapM b) = b := by
  unfold swapM
  by_cases h1 : b = 114
  · subst h1; rfl
  · by_cases h2 : b = 102
    · subst h2; rfl
    · rw [if_neg h1, if_neg h2, if_neg h1, if_neg h2]
theorem swapM_e {b : UInt8} (h1 : b ≠ 114) (h2 : b ≠ 102) : swapM b = b := by unfold swapM; rw [if_neg h1, if_neg h2]
theorem bend_turn (b : UInt8) {d : Nat} (h : d < 4) : bend (swapM b) ((d + 1) % 4) = (bend b d + 1) % 4 := by
  by_cases h1 : b = 114
  · subst h1; rcases four h with rfl | rfl | rfl | rfl <;> rfl
  · by_cases h2 : b = 102
    · subst h2; rcases four h with rfl | rfl | rfl | rfl <;> rfl
    · rw [swapM_e h1 h2, bend_e h1 h2, bend_e h1 h2]
theorem bend_back (b : UInt8) {d : Nat} (h : d < 4) : bend (swapM b) ((d + 3) % 4) = (bend b d + 3) % 4 := by
  by_cases h1 : b = 114
  · subst h1; rcases four h with rfl | rfl | rfl | rfl <;> rfl
  · by_cases h2 : b = 102
    · subst h2; rcases four h with rfl | rfl | rfl | rfl <;> rfl
    · rw [swapM_e h1 h2, bend_e h1 h2, bend_e h1 h2]
theorem bend_flip (b : UInt8) {d : Nat} (h : d < 4) : bend (swapM b) ((4 - d) % 4) = (4 - bend b d) % 4 := by
  by_cases h1 : b = 114
  · subst h1; rcases four h with rfl | rfl | rfl | rfl <;> rfl
  · by_cases h2 : b = 102
    · subst h2; rcases four h with rfl | rfl | rfl | rfl <;> rfl
    · rw [swapM_e h1 h2, bend_e h1 h2, bend_e h1 h2]
/-- Clockwise, back, and the other side. -/
def turnW (n : Nat) (x : Wy) : Wy := ⟨x.k, (n : Int) - 1 - x.i, (x.d + 1) % 4⟩
def backW (n : Nat) (x : Wy) : Wy := ⟨(n : Int) - 1 - x.k, x.i, (x.d + 3) % 4⟩
def flipW (m : Nat) (x : Wy) : Wy := ⟨x.i, (m : Int) - 1 - x.k, (4 - x.d) % 4⟩
section
variable {n m : Nat} {t t' : Int → Int → UInt8}
theorem turn_sym (h : ∀ i k : Int, 0 ≤ i → i < n → 0 ≤ k → k < m → t' k ((n : Int) - 1 - i) = swapM (t i k)) : Sym n m t m n t' (turnW n) where
  d _ _ := Nat.mod_lt _ (by decide)
  inn x := by unfold inG turnW; simp only; omega
  nx x hd hi := by
    have e := h x.i x.k hi.1 hi.2.1 hi.2.2.1 hi.2.2.2
    have hb := bend_lt (t x.i x.k) hd
    unfold nxt turnW
    simp only
    rw [e, bend_turn _ hd]
    generalize bend (t x.i x.k) x.d = b at *
    rcases four hb with rfl | rfl | rfl | rfl <;> refine Wy.eq ?_ ?_ rfl <;> simp [stepI, stepK] <;> omega
  rv x hd hi := by
    have e := h x.i x.k hi.1 hi.2.1 hi.2.2.1 hi.2.2.2
    have hb := bend_lt (t x.i x.k) hd
    unfold rev turnW
    simp only
    rw [e, bend_turn _ hd]
    generalize bend (t x.i x.k) x.d = b at *
    rcases four hb with rfl | rfl | rfl | rfl <;> rfl
  inj x y hx hy e := by
    have e1 := congrArg Wy.i e
    have e2 := congrArg Wy.k e
    have e3 := congrArg Wy.d e
    simp only [turnW] at e1 e2 e3
    exact Wy.eq (by omega) e1 (by omega)
  nm := Nat.mul_comm _ _
theorem back_sym (h : ∀ i k : Int, 0 ≤ i → i < n → 0 ≤ k → k < m → t' k ((n : Int) - 1 - i) = swapM (t i k)) : Sym m n t' n m t (backW n) where
  d _ _ := Nat.mod_lt _ (by decide)
  inn x := by unfold inG backW; simp only; omega
  nx x hd hi := by
    obtain ⟨h1, h2, h3, h4⟩ := hi
    have e := h ((n : Int) - 1 - x.k) x.i (by omega) (by omega) h1 h2
    rw [show (n : Int) - 1 - ((n : Int) - 1 - x.k) = x.k by omega] at e
    have hb := bend_lt (t' x.i x.k) hd
    have e2 : t ((n : Int) - 1 - x.k) x.i = swapM (t' x.i x.k) := by rw [e, swapM_swap]
    unfold nxt backW
    simp only
    rw [e2, bend_back _ hd]
    generalize bend (t' x.i x.k) x.d = b at *
    rcases four hb with rfl | rfl | rfl | rfl <;> refine Wy.eq ?_ ?_ rfl <;> simp [stepI, stepK] <;> omega
  rv x hd hi := by
    obtain ⟨h1, h2, h3, h4⟩ := hi
    have e := h ((n : Int) - 1 - x.k) x.i (by omega) (by omega) h1 h2
    rw [show (n : Int) - 1 - ((n : Int) - 1 - x.k) = x.k by omega] at e
    have hb := bend_lt (t' x.i x.k) hd
    have e2 : t ((n : Int) - 1 - x.k) x.i = swapM (t' x.i x.k) := by rw [e, swapM_swap]
    unfold rev backW
    simp only
    rw [e2, bend_back _ hd]
    generalize bend (t' x.i x.k) x.d = b at *
    rcases four hb with rfl | rfl | rfl | rfl <;> rfl
  inj x y hx hy e := by
    have e1 := congrArg Wy.i e
    have e2 := congrArg Wy.k e
    have e3 := congrArg Wy.d e
    simp only [backW] at e1 e2 e3
    exact Wy.eq e2 (by omega) (by omega)
  nm := Nat.mul_comm _ _
theorem flip_sym (h : ∀ i k : Int, 0 ≤ i → i < n → 0 ≤ k → k < m → t' i ((m : Int) - 1 - k) = swapM (t i k)) : Sym n m t n m t' (flipW m) where
  d _ _ := Nat.mod_lt _ (by decide)
  inn x := by unfold inG flipW; simp only; omega
  nx x hd hi := by
    have e := h x.i x.k hi.1 hi.2.1 hi.2.2.1 hi.2.2.2
    have hb := bend_lt (t x.i x.k) hd
    unfold nxt flipW
    simp only
    rw [e, bend_flip _ hd]
    generalize bend (t x.i x.k) x.d = b at *
    rcases four hb with rfl | rfl | rfl | rfl <;> refine Wy.eq ?_ ?_ rfl <;> simp [stepI, stepK] <;> omega
  rv x hd hi := by
    have e := h x.i x.k hi.1 hi.2.1 hi.2.2.1 hi.2.2.2
    have hb := bend_lt (t x.i x.k) hd
    unfold rev flipW
    simp only
    rw [e, bend_flip _ hd]
    generalize bend (t x.i x.k) x.d = b at *
    rcases four hb with rfl | rfl | rfl | rfl <;> rfl
  inj x y hx hy e := by
    have e1 := congrArg Wy.i e
    have e2 := congrArg Wy.k e
    have e3 := congrArg Wy.d e
    simp only [flipW] at e1 e2 e3
    exact Wy.eq e1 (by omega) (by omega)
  nm := rfl
/-- A turned grid has as many rounds. -/
theorem leads_turn (h : ∀ i k : Int, 0 ≤ i → i < n → 0 ≤ k → k < m → t' k ((n : Int) - 1 - i) = swapM (t i k)) : (leads m n t').length = (leads n m t).length := leads_sym (turn_sym h) (back_sym h)
/-- A flipped grid has as many rounds. -/
theorem leads_flip (h : ∀ i k : Int, 0 ≤ i → i < n → 0 ≤ k → k < m → t' i ((m : Int) - 1 - k) = swapM (t i k)) : (leads n m t').length = (leads n m t).length := by
  refine leads_sym (flip_sym h) (flip_sym (t := t') (t' := t) (m := m) (n := n) fun i k h1 h2 h3 h4 => ?_)
  have e := h i ((m : Int) - 1 - k) h1 h2 (by omega) (by omega)
  rw [show (m : Int) - 1 - ((m : Int) - 1 - k) = k by omega] at e
  rw [e, swapM_swap]
end
end Go.Proofs.Ytminailbhgimkaa
