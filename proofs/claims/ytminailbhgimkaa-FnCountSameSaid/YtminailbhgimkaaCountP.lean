/- Full grids counted, in plain words: turned ones are as many; rounds of four at inner corners; first ports lead to odd ones; grids of one letter have no rounds. No program is named. -/
import Derived.Test.YtminailbhgimkaaCountQ
import Derived.Test.YtminailbhgimkaaMostQ
import Derived.Test.YtminailbhgimkaaSymQ
import Derived.Test.YtminailbhgimkaaBeamP
namespace Go.Proofs.Ytminailbhgimkaa

theorem sum_set : ∀ (l : List Int) (r : Nat) (x : Int), r < l.length → (l.set r x).sum = l.sum + x - l.getD r 0
  | [], _, _, h => by simp at h
  | a :: l, 0, x, _ => by simp; omega
  | a :: l, r + 1, x, h => by
    have ih := sum_set l r x (by simpa using h)
    simp only [List.set_cons_succ, List.sum_cons, List.getD_cons_succ]
    omega
theorem sum_zeros (j : Nat) : (List.replicate j (0 : Int)).sum = 0 := by
  induction j with
  | zero => rfl
  | succ j ih => rw [List.replicate_succ, List.sum_cons, ih]; rfl
theorem addAt_sum (l : List Int) (r : Nat) (g : Int) : (addAt l r g).sum = l.sum + g := by
  unfold addAt
  rw [sum_set _ _ _ (by rw [List.length_append, List.length_replicate]; omega), padded_getD, List.sum_append, sum_zeros]
  omega
theorem cntL_sum (f : Nat → Nat) (pre : List Nat) : (cntL f pre).sum = pre.length := by
  have key : ∀ (pre : List Nat) (l : List Int), (pre.foldl (fun l x => addAt l (f x) 1) l).sum = l.sum + pre.length := by
    intro pre
    induction pre with
    | nil => intro l; simp
    | cons x pre ih =>
      intro l
      rw [List.foldl_cons, ih, addAt_sum, List.length_cons]
      omega
  have := key pre []
  rw [show ([] : List Int).sum = 0 from rfl, Int.zero_add] at this
  exact this
theorem weighTo_addAt (l : List Int) (r : Nat) (g : Int) : ∀ K, weighTo (addAt l r g) K = weighTo l K + if r < K then (r : Int) * g else 0
  | 0 => by rw [weighTo_zero, weighTo_zero, if_neg (by omega)]; rfl
  | K + 1 => by
    rw [weighTo_succ, weighTo_succ, weighTo_addAt l r g K, addAt_getD, Int.mul_add]
    by_cases h : K = r
    · subst h
      rw [if_neg (Nat.lt_irrefl _), if_pos rfl, if_pos (by omega)]
      omega
    · rw [if_neg h, Int.mul_zero]
      by_cases h2 : r < K
      · rw [if_pos h2, if_pos (by omega)]; omega
      · rw [if_neg h2, if_neg (by omega)]; omega
theorem weighTo_nil (K : Nat) : weighTo [] K = 0 := by
  induction K with
  | zero => rfl
  | succ K ih => rw [weighTo_succ, ih]; simp
theorem weighTo_cnt (f : Nat → Nat) {B : Nat} (hB : ∀ x, f x ≤ B) (pre : List Nat) : weighTo (cntL f pre) (B + 1) = (((pre.map f).sum : Nat) : Int) := by
  have key : ∀ (pre : List Nat) (l : List Int), weighTo (pre.foldl (fun l x => addAt l (f x) 1) l) (B + 1) = weighTo l (B + 1) + (((pre.map f).sum : Nat) : Int) := by
    intro pre
    induction pre with
    | nil => intro l; simp
    | cons x pre ih =>
      intro l
      rw [List.foldl_cons, ih, weighTo_addAt, if_pos (by have := hB x; omega), List.map_cons, List.sum_cons]
      omega
  have := key pre []
  rw [weighTo_nil, Int.zero_add] at this
  exact this
theorem weighTo_more (l : List Int) (j : Nat) : weighTo l (l.length + j) = weighTo l l.length := by
  induction j with
  | zero => rfl
  | succ j ih =>
    rw [show l.length + (j + 1) = (l.length + j) + 1 by omega, weighTo_succ, ih, List.getD_eq_getElem?_getD, List.getElem?_eq_none (by omega)]
    simp
theorem weigh_cnt (f : Nat → Nat) {B : Nat} (hB : ∀ x, f x ≤ B) (pre : List Nat) : weigh (cntL f pre) = (((pre.map f).sum : Nat) : Int) := by
  rw [← weighTo_cnt f hB pre]
  have h := cntL_len f hB pre
  have e := weighTo_more (cntL f pre) (B + 1 - (cntL f pre).length)
  rw [show (cntL f pre).length + (B + 1 - (cntL f pre).length) = B + 1 by omega] at e
  exact e.symm

theorem bits_eq : ∀ (N x x' : Nat), x < 2 ^ N → x' < 2 ^ N → (∀ c, c < N → x / 2 ^ c % 2 = x' / 2 ^ c % 2) → x = x'
  | 0, x, x', h, h', _ => by simp at h h'; omega
  | N + 1, x, x', h, h', hb => by
    have h0 := hb 0 (by omega)
    have ih := bits_eq N (x / 2) (x' / 2) (by rw [Nat.pow_succ] at h; omega) (by rw [Nat.pow_succ] at h'; omega) fun c hc => by
      have := hb (c + 1) (by omega)
      rw [Nat.pow_succ, Nat.mul_comm, ← Nat.div_div_eq_div_mul, ← Nat.div_div_eq_div_mul] at this
      exact this
    simp at h0
    omega

section
variable {n m : Nat}
/-- A number tells the full grid that comes by turning the one of another number. -/
def TurnN (n m x y : Nat) : Prop := ∀ i k, i < n → k < m → y / 2 ^ (k * n + (n - 1 - i)) % 2 = 1 - x / 2 ^ (i * m + k) % 2
theorem turn_ex (hn : 1 ≤ n) (x : Nat) : ∃ y, y < 2 ^ (m * n) ∧ TurnN n m x y := by
  obtain ⟨y, hy, hb⟩ := full_num (m * n) fun c => decide (x / 2 ^ ((n - 1 - c % n) * m + c / n) % 2 = 0)
  refine ⟨y, hy, fun i k hi hk => ?_⟩
  have hc : k * n + (n - 1 - i) < m * n := parts_lt hk (by omega)
  rw [hb _ hc]
  have e1 : (k * n + (n - 1 - i)) % n = n - 1 - i := by rw [Nat.mul_comm, Nat.mul_add_mod, Nat.mod_eq_of_lt (by omega)]
  have e2 : (k * n + (n - 1 - i)) / n = k := by rw [Nat.mul_comm, Nat.mul_add_div (by omega), Nat.div_eq_of_lt (by omega), Nat.add_zero]
  rw [e1, e2, show n - 1 - (n - 1 - i) = i by omega]
  rcases Nat.mod_two_eq_zero_or_one (x / 2 ^ (i * m + k)) with h | h <;> rw [h] <;> rfl
theorem turn_cnt (h25 : n * m ≤ 25) {x y : Nat} (h : TurnN n m x y) : cntF m n y = cntF n m x := by
  unfold cntF
  refine leads_turn fun i k h1 h2 h3 h4 => ?_
  have h25' : m * n ≤ 25 := by rw [Nat.mul_comm]; exact h25
  rw [full_lett h25' h3 h4 (by omega) (by omega), full_lett h25 h1 h2 h3 h4]
  have := h i.toNat k.toNat (by omega) (by omega)
  rw [show ((n : Int) - 1 - i).toNat = n - 1 - i.toNat by omega]
  unfold mirV
  rw [this]
  rcases Nat.mod_two_eq_zero_or_one (x / 2 ^ (i.toNat * m + k.toNat)) with h | h <;> rw [h] <;> decide
theorem turnN_inj {x x' y : Nat} (hx : x < 2 ^ (n * m)) (hx' : x' < 2 ^ (n * m)) (h : TurnN n m x y) (h' : TurnN n m x' y) : x = x' := by
  refine bits_eq _ _ _ hx hx' fun c hc => ?_
  have hm : 0 < m := Nat.pos_of_ne_zero fun e => by subst e; simp at hc
  have e : c / m * m + c % m = c := by rw [Nat.mul_comm]; exact Nat.div_add_mod c m
  have hi : c / m < n := by rw [Nat.div_lt_iff_lt_mul hm]; exact hc
  have a := h (c / m) (c % m) hi (Nat.mod_lt _ hm)
  have b := h' (c / m) (c % m) hi (Nat.mod_lt _ hm)
  rw [e] at a b
  have h2 := Nat.mod_two_eq_zero_or_one (x / 2 ^ c)
  have h3 := Nat.mod_two_eq_zero_or_one (x' / 2 ^ c)
  omega
theorem counts_turn_le (hn : 1 ≤ n) (h25 : n * m ≤ 25) (p : Nat → Bool) : (List.range (2 ^ (n * m))).countP (fun x => p (cntF n m x)) ≤ (List.range (2 ^ (m * n))).countP (fun x => p (cntF m n x)) := by
  rw [List.countP_eq_length_filter, List.countP_eq_length_filter]
  refine inj_le (TurnN n m) _ _ (List.nodup_range.filter _) (fun x hx => ?_) fun x x' y hx hx' h h' => ?_
  · obtain ⟨hx1, hx2⟩ := List.mem_filter.1 hx
    obtain ⟨y, hy, ht⟩ := turn_ex (m := m) hn x
    exact ⟨y, List.mem_filter.2 ⟨List.mem_range.2 hy, by rw [turn_cnt h25 ht]; exact hx2⟩, ht⟩
  · exact turnN_inj (List.mem_range.1 (List.mem_filter.1 hx).1) (List.mem_range.1 (List.mem_filter.1 hx').1) h h'
theorem counts_turn (hn : 1 ≤ n) (hm : 1 ≤ m) (h25 : n * m ≤ 25) : cntL (cntF m n) (List.range (2 ^ (m * n))) = cntL (cntF n m) (List.range (2 ^ (n * m))) := by
  refine (cntL_trim _ _).ext (cntL_trim _ _) fun k => ?_
  rw [cntL_getD, cntL_getD]
  have h1 := counts_turn_le (n := n) (m := m) hn h25 (fun c => c == k)
  have h2 := counts_turn_le (n := m) (m := n) hm (by rw [Nat.mul_comm]; exact h25) (fun c => c == k)
  omega

/-- Four mirrors at an inner corner, so that a round of four goes round it. -/
def cornB (m x c : Nat) : Bool := x / 2 ^ (c / (m - 1) * m + c % (m - 1)) % 2 == 0 && x / 2 ^ (c / (m - 1) * m + c % (m - 1) + 1) % 2 == 1 && x / 2 ^ ((c / (m - 1) + 1) * m + c % (m - 1)) % 2 == 1 && x / 2 ^ ((c / (m - 1) + 1) * m + c % (m - 1) + 1) % 2 == 0
def cornN (n m x : Nat) : Nat := ((List.range ((n - 1) * (m - 1))).filter (cornB m x)).length
/-- The way upwards into the first of the four cells. -/
def cornW (m c : Nat) : Wy := ⟨((c / (m - 1) : Nat) : Int), ((c % (m - 1) : Nat) : Int), 0⟩
theorem corn_round (h25 : n * m ≤ 25) {x c : Nat} (hc : c < (n - 1) * (m - 1)) (hb : cornB m x c = true) :
    inG n m (cornW m c) ∧ (∀ j, iter (lett m (fullL (n * m) x)) (cornW m c) (j + 4) = iter (lett m (fullL (n * m) x)) (cornW m c) j) ∧ (∀ j, inG n m (iter (lett m (fullL (n * m) x)) (cornW m c) j)) ∧
      lett m (fullL (n * m) x) (cornW m c).i (cornW m c).k = 114 ∧
      iter (lett m (fullL (n * m) x)) (cornW m c) 1 = ⟨(cornW m c).i, (cornW m c).k + 1, 1⟩ ∧ iter (lett m (fullL (n * m) x)) (cornW m c) 2 = ⟨(cornW m c).i + 1, (cornW m c).k + 1, 2⟩ ∧ iter (lett m (fullL (n * m) x)) (cornW m c) 3 = ⟨(cornW m c).i + 1, (cornW m c).k, 3⟩ ∧
      lett m (fullL (n * m) x) (cornW m c).i ((cornW m c).k + 1) = 102 ∧ lett m (fullL (n * m) x) ((cornW m c).i + 1) ((cornW m c).k + 1) = 114 ∧ lett m (fullL (n * m) x) ((cornW m c).i + 1) (cornW m c).k = 102 := by
  have hm : 0 < m - 1 := Nat.pos_of_ne_zero fun e => by rw [e] at hc; simp at hc
  have hi : c / (m - 1) < n - 1 := by rw [Nat.div_lt_iff_lt_mul hm]; exact hc
  have hk : c % (m - 1) < m - 1 := Nat.mod_lt _ hm
  unfold cornB at hb
  unfold cornW
  simp only [Bool.and_eq_true, beq_iff_eq] at hb
  generalize c / (m - 1) = i at *
  generalize c % (m - 1) = k at *
  obtain ⟨⟨⟨b1, b2⟩, b3⟩, b4⟩ := hb
  have l1 : lett m (fullL (n * m) x) (i : Int) (k : Int) = 114 := by
    rw [full_lett h25 (by omega) (by omega) (by omega) (by omega)]
    exact mirV_of (b := false) (by simpa using b1)
  have l2 : lett m (fullL (n * m) x) (i : Int) ((k : Int) + 1) = 102 := by
    rw [full_lett h25 (by omega) (by omega) (by omega) (by omega)]
    refine mirV_of (b := true) ?_
    rw [show ((k : Int) + 1).toNat = k + 1 by omega, Int.toNat_natCast, ← Nat.add_assoc]
    exact b2
  have l3 : lett m (fullL (n * m) x) ((i : Int) + 1) (k : Int) = 102 := by
    rw [full_lett h25 (by omega) (by omega) (by omega) (by omega)]
    refine mirV_of (b := true) ?_
    rw [show ((i : Int) + 1).toNat = i + 1 by omega, Int.toNat_natCast]
    exact b3
  have l4 : lett m (fullL (n * m) x) ((i : Int) + 1) ((k : Int) + 1) = 114 := by
    rw [full_lett h25 (by omega) (by omega) (by omega) (by omega)]
    refine mirV_of (b := false) ?_
    rw [show ((i : Int) + 1).toNat = i + 1 by omega, show ((k : Int) + 1).toNat = k + 1 by omega, ← Nat.add_assoc]
    exact b4
  generalize lett m (fullL (n * m) x) = t at *
  have s1 : nxt t ⟨(i : Int), (k : Int), 0⟩ = ⟨(i : Int), (k : Int) + 1, 1⟩ := by simp only [nxt, l1]; exact Wy.eq rfl rfl rfl
  have s2 : nxt t ⟨(i : Int), (k : Int) + 1, 1⟩ = ⟨(i : Int) + 1, (k : Int) + 1, 2⟩ := by simp only [nxt, l2]; exact Wy.eq rfl rfl rfl
  have s3 : nxt t ⟨(i : Int) + 1, (k : Int) + 1, 2⟩ = ⟨(i : Int) + 1, (k : Int), 3⟩ := by
    simp only [nxt, l4]; exact Wy.eq rfl (show (k : Int) + 1 - 1 = k by omega) rfl
  have s4 : nxt t ⟨(i : Int) + 1, (k : Int), 3⟩ = ⟨(i : Int), (k : Int), 0⟩ := by
    simp only [nxt, l3]; exact Wy.eq (show (i : Int) + 1 - 1 = i by omega) rfl rfl
  have i1 : iter t ⟨(i : Int), (k : Int), 0⟩ 1 = ⟨(i : Int), (k : Int) + 1, 1⟩ := s1
  have i2 : iter t ⟨(i : Int), (k : Int), 0⟩ 2 = ⟨(i : Int) + 1, (k : Int) + 1, 2⟩ := by show nxt t (iter t _ 1) = _; rw [i1, s2]
  have i3 : iter t ⟨(i : Int), (k : Int), 0⟩ 3 = ⟨(i : Int) + 1, (k : Int), 3⟩ := by show nxt t (iter t _ 2) = _; rw [i2, s3]
  have i4 : iter t ⟨(i : Int), (k : Int), 0⟩ 4 = ⟨(i : Int), (k : Int), 0⟩ := by show nxt t (iter t _ 3) = _; rw [i3, s4]
  refine ⟨⟨by simp, by simp; omega, by simp, by simp; omega⟩, fun j => by rw [Nat.add_comm, iter_add, i4], fun j => ?_, l1, i1, i2, i3, l2, l4, l3⟩
  rw [iter_mod i4]
  have hj : j % 4 < 4 := Nat.mod_lt _ (by decide)
  rcases four hj with e | e | e | e <;> rw [e]
  · exact ⟨by simp [iter], by simp [iter]; omega, by simp [iter], by simp [iter]; omega⟩
  · rw [i1]; exact ⟨by simp, by simp; omega, by simp; omega, by simp; omega⟩
  · rw [i2]; exact ⟨by simp; omega, by simp; omega, by simp; omega, by simp; omega⟩
  · rw [i3]; exact ⟨by simp; omega, by simp; omega, by simp, by simp; omega⟩
theorem cornW_inj {c c' : Nat} (h1 : (cornW m c).i = (cornW m c').i) (h2 : (cornW m c).k = (cornW m c').k) : c = c' := by
  have h3 : c / (m - 1) = c' / (m - 1) := Int.ofNat.inj h1
  have h4 : c % (m - 1) = c' % (m - 1) := by simp only [cornW] at h2; omega
  have a := Nat.div_add_mod c (m - 1)
  have b := Nat.div_add_mod c' (m - 1)
  rw [h3, h4] at a
  omega
theorem corn_ring (h25 : n * m ≤ 25) {x c c' : Nat} (hc : c < (n - 1) * (m - 1)) (hb : cornB m x c = true) (hc' : c' < (n - 1) * (m - 1)) (hb' : cornB m x c' = true)
    (hr : ringW (lett m (fullL (n * m) x)) (cornW m c) (cornW m c')) : c = c' := by
  obtain ⟨_, h4, _, l1, i1, i2, i3, l2, l4, l3⟩ := corn_round h25 hc hb
  obtain ⟨_, _, _, l1', _⟩ := corn_round h25 hc' hb'
  have e4 := h4 0
  obtain ⟨j, hj⟩ := hr
  have hd : (cornW m c').d = 0 := rfl
  have key : ∃ a, a < 4 ∧ (cornW m c' = iter (lett m (fullL (n * m) x)) (cornW m c) a ∨ cornW m c' = rev (lett m (fullL (n * m) x)) (iter (lett m (fullL (n * m) x)) (cornW m c) a)) := ⟨j % 4, Nat.mod_lt _ (by decide), by rw [← iter_mod e4 j]; exact hj⟩
  generalize lett m (fullL (n * m) x) = t at *
  obtain ⟨a, ha, h⟩ := key
  rcases four ha with rfl | rfl | rfl | rfl
  · rcases h with h | h
    · exact cornW_inj (by rw [h]; rfl) (by rw [h]; rfl)
    · exact cornW_inj (by rw [h]; rfl) (by rw [h]; rfl)
  · rcases h with h | h
    · rw [h, i1] at hd; exact absurd hd (by simp)
    · rw [h, i1] at l1'
      have : t (cornW m c).i ((cornW m c).k + 1) = 114 := l1'
      rw [l2] at this
      exact absurd this (by decide)
  · rcases h with h | h
    · rw [h, i2] at hd; exact absurd hd (by simp)
    · rw [h, i2] at hd
      have : opp (bend (t ((cornW m c).i + 1) ((cornW m c).k + 1)) 2) = 0 := hd
      rw [l4] at this
      exact absurd this (by decide)
  · rcases h with h | h
    · rw [h, i3] at hd; exact absurd hd (by simp)
    · rw [h, i3] at l1'
      have : t ((cornW m c).i + 1) (cornW m c).k = 114 := l1'
      rw [l3] at this
      exact absurd this (by decide)
/-- Each inner corner with four such mirrors has a round of its own. -/
theorem corn_le (h25 : n * m ≤ 25) (x : Nat) : cornN n m x ≤ cntF n m x := by
  unfold cornN cntF
  refine inj_le (fun c l => leadB n m (lett m (fullL (n * m) x)) l = true ∧ ringW (lett m (fullL (n * m) x)) (wayN m l) (cornW m c)) _ _ (List.nodup_range.filter _) (fun c hc => ?_) fun c c' l hc hc' h h' => ?_
  · obtain ⟨hc1, hb⟩ := List.mem_filter.1 hc
    obtain ⟨hin, _, hall, _⟩ := corn_round h25 (List.mem_range.1 hc1) hb
    have hd : (cornW m c).d < 4 := by show 0 < 4; decide
    have hon : onR n m (lett m (fullL (n * m) x)) (cornW m c) = true := onR_of hall
    obtain ⟨l, hl, hlead, hr⟩ := ring_lead hd hon _ (cornW m c) (ringW_refl _) rfl
    refine ⟨l, List.mem_filter.2 ⟨List.mem_range.2 (Nat.lt_of_le_of_lt hl (wcode_lt hin hd)), hlead⟩, hlead, ?_⟩
    exact hr
  · obtain ⟨hc1, hb⟩ := List.mem_filter.1 hc
    obtain ⟨hc1', hb'⟩ := List.mem_filter.1 hc'
    have hon := (lead_iff.1 h.1).1
    refine corn_ring h25 (List.mem_range.1 hc1) hb (List.mem_range.1 hc1') hb' ?_
    have hd : (cornW m c).d < 4 := by show 0 < 4; decide
    exact ringW_trans hd (ringW_on (wayN_d l) hon h.2).1 (ringW_symm (wayN_d l) hon h.2) h'.2
theorem corn_sum (hn : 1 ≤ n) (hn5 : n ≤ 5) (hm : 1 ≤ m) (hm5 : m ≤ 5) (h9 : n * m ≤ 9) : 2 ^ (n * m) * ((n - 1) * (m - 1)) ≤ 16 * ((List.range (2 ^ (n * m))).map (cornN n m)).sum := by
  have h1 : n = 1 ∨ n = 2 ∨ n = 3 ∨ n = 4 ∨ n = 5 := by omega
  have h2 : m = 1 ∨ m = 2 ∨ m = 3 ∨ m = 4 ∨ m = 5 := by omega
  rcases h1 with rfl | rfl | rfl | rfl | rfl <;> rcases h2 with rfl | rfl | rfl | rfl | rfl <;> first | (exfalso; omega) | decide +kernel
theorem map_sum_le {f g : Nat → Nat} (h : ∀ x, f x ≤ g x) : ∀ l : List Nat, (l.map f).sum ≤ (l.map g).sum
  | [] => Nat.le_refl _
  | x :: l => by
    rw [List.map_cons, List.map_cons, List.sum_cons, List.sum_cons]
    exact Nat.add_le_add (h x) (map_sum_le h l)
theorem total_ge (hn : 1 ≤ n) (hn5 : n ≤ 5) (hm : 1 ≤ m) (hm5 : m ≤ 5) (h9 : n * m ≤ 9) : 2 ^ (n * m) * ((n - 1) * (m - 1)) ≤ 16 * ((List.range (2 ^ (n * m))).map (cntF n m)).sum :=
  Nat.le_trans (corn_sum hn hn5 hm hm5 h9) (Nat.mul_le_mul_left 16 (map_sum_le (corn_le (by omega)) _))

/-- In a full grid each way's place and direction keep their parity together. -/
theorem full_par {t : Int → Int → UInt8} {x : Wy} (hd : x.d < 4) (ht : t x.i x.k = 114 ∨ t x.i x.k = 102) : ((nxt t x).i + (nxt t x).k + ((nxt t x).d : Int)) % 2 = (x.i + x.k + (x.d : Int)) % 2 := by
  unfold nxt
  rcases ht with h | h <;> rw [h] <;> obtain ⟨i, k, d⟩ := x <;> rcases four hd with e | e | e | e <;> simp only at e <;> subst e <;> simp [bend, stepI, stepK] <;> omega
theorem odd_end {t : Int → Int → UInt8} (hn : 1 ≤ n) (hm : 1 ≤ m) (ht : ∀ x, inG n m x → t x.i x.k = 114 ∨ t x.i x.k = 102) : bend_ n m t 0 % 2 = 1 := by
  have hp : 0 < 2 * (n + m) := by omega
  have key : ∀ j, j ≤ blen n m t 0 → ((bway n m t 0 j).i + (bway n m t 0 j).k + ((bway n m t 0 j).d : Int)) % 2 = 0 := by
    intro j
    induction j with
    | zero =>
      intro _
      show ((entr n m 0).i + (entr n m 0).k + ((entr n m 0).d : Int)) % 2 = 0
      unfold entr
      rw [if_pos (by omega)]
      rfl
    | succ j ih =>
      intro h
      have := ih (by omega)
      rw [show bway n m t 0 (j + 1) = nxt t (bway n m t 0 j) from rfl, full_par (bway_d 0 j) (ht _ (blen_in (by omega)))]
      exact this
  obtain ⟨h1, h2, h3⟩ := bend_facts (t := t) hn hm hp
  have hpos := blen_pos (t := t) hn hm hp
  obtain ⟨L, hL⟩ : ∃ L, blen n m t 0 = L + 1 := ⟨blen n m t 0 - 1, by omega⟩
  have hk := key _ (Nat.le_refl _)
  have hin := blen_in (n := n) (m := m) (t := t) (p := 0) (j := L) (by omega)
  have hout := blen_out (t := t) hp
  have hd := bway_d (n := n) (m := m) (t := t) 0 L
  rw [hL] at hk h1 hout
  rw [show bway n m t 0 (L + 1) = nxt t (bway n m t 0 L) from rfl] at hk h1 hout
  generalize bway n m t 0 L = y at *
  have hb := bend_lt (t y.i y.k) hd
  obtain ⟨g1, g2, g3, g4⟩ := hin
  unfold nxt at *
  unfold inG at hout
  unfold leav at h1
  simp only at *
  generalize bend (t y.i y.k) y.d = e at *
  rcases four hb with rfl | rfl | rfl | rfl <;> simp [stepI, stepK] at * <;> omega

theorem mono_none {t : Int → Int → UInt8} (φ : Wy → Int) (A : Wy → Prop) (hA : ∀ x, inG n m x → A x → A (nxt t x) ∧ φ (nxt t x) = φ x + 1) (hφ : ∀ x, inG n m x → -10 ≤ φ x ∧ φ x ≤ 10) {x : Wy} (hx : A x) (hin : ∀ j, inG n m (iter t x j)) : False := by
  have key : ∀ j : Nat, A (iter t x j) ∧ φ (iter t x j) = φ x + j := by
    intro j
    induction j with
    | zero => exact ⟨hx, by simp [iter]⟩
    | succ j ih =>
      obtain ⟨h1, h2⟩ := hA _ (hin j) ih.1
      refine ⟨h1, ?_⟩
      show φ (nxt t (iter t x j)) = _
      rw [h2, ih.2]
      omega
  have h1 := (hφ _ (hin 0)).1
  have h2 := (hφ _ (hin 30)).2
  rw [(key 30).2] at h2
  have : iter t x 0 = x := rfl
  rw [this] at h1
  omega
theorem one_letter {t : Int → Int → UInt8} {b : UInt8} (hn5 : n ≤ 5) (hm5 : m ≤ 5) (hb : b = 114 ∨ b = 102) (ht : ∀ x, inG n m x → t x.i x.k = b) : leads n m t = [] := by
  refine no_lead fun c hc => ?_
  cases hon : onR n m t (wayN m c) with
  | false => rfl
  | true =>
    exfalso
    have hd := wayN_d (m := m) c
    have hall := onR_all hd hon
    generalize wayN m c = x at *
    rcases hb with rfl | rfl
    · by_cases h : x.d = 0 ∨ x.d = 1
      · refine mono_none (fun y => y.k - y.i) (fun y => y.d = 0 ∨ y.d = 1) (fun y hy hA => ?_) (fun y hy => ?_) h hall
        · unfold nxt
          rw [ht y hy]
          rcases hA with e | e <;> rw [e] <;> simp [bend, stepI, stepK] <;> omega
        · obtain ⟨_, _, _, _⟩ := hy
          omega
      · refine mono_none (fun y => y.i - y.k) (fun y => y.d = 2 ∨ y.d = 3) (fun y hy hA => ?_) (fun y hy => ?_) (by omega) hall
        · unfold nxt
          rw [ht y hy]
          rcases hA with e | e <;> rw [e] <;> simp [bend, stepI, stepK] <;> omega
        · obtain ⟨_, _, _, _⟩ := hy
          omega
    · by_cases h : x.d = 0 ∨ x.d = 3
      · refine mono_none (fun y => - y.i - y.k) (fun y => y.d = 0 ∨ y.d = 3) (fun y hy hA => ?_) (fun y hy => ?_) h hall
        · unfold nxt
          rw [ht y hy]
          rcases hA with e | e <;> rw [e] <;> simp [bend, stepI, stepK] <;> omega
        · obtain ⟨_, _, _, _⟩ := hy
          omega
      · refine mono_none (fun y => y.i + y.k) (fun y => y.d = 1 ∨ y.d = 2) (fun y hy hA => ?_) (fun y hy => ?_) (by omega) hall
        · unfold nxt
          rw [ht y hy]
          rcases hA with e | e <;> rw [e] <;> simp [bend, stepI, stepK] <;> omega
        · obtain ⟨_, _, _, _⟩ := hy
          omega
theorem one_two (hn : 1 ≤ n) (hn5 : n ≤ 5) (hm : 1 ≤ m) (hm5 : m ≤ 5) : 2 ≤ (List.range (2 ^ (n * m))).countP fun x => cntF n m x == 0 := by
  have h25 : n * m ≤ 5 * 5 := Nat.mul_le_mul hn5 hm5
  have hN : 1 ≤ n * m := Nat.mul_le_mul hn hm
  obtain ⟨x, hx, hbx⟩ := full_num (n * m) fun _ => false
  obtain ⟨y, hy, hby⟩ := full_num (n * m) fun _ => true
  have hne : x ≠ y := fun e => by
    have h1 := hbx 0 (by omega)
    have h2 := hby 0 (by omega)
    rw [e] at h1
    rw [h1] at h2
    exact absurd h2 (by decide)
  have hzero : ∀ (z : Nat) (b : Bool), (∀ c, c < n * m → z / 2 ^ c % 2 = b.toNat) → cntF n m z = 0 := fun z b hz => by
    unfold cntF
    rw [one_letter (b := if b = true then 102 else 114) hn5 hm5 (by cases b <;> simp) fun w hw => ?_]
    · rfl
    · obtain ⟨h1, h2, h3, h4⟩ := hw
      rw [full_lett (by omega) h1 h2 h3 h4]
      exact mirV_of (hz _ (parts_lt (by omega) (by omega)))
  rw [List.countP_eq_length_filter]
  have := inj_le Eq [x, y] ((List.range (2 ^ (n * m))).filter fun x => cntF n m x == 0) (by simp [hne]) (fun a ha => ⟨a, by
    rw [List.mem_filter, List.mem_range]
    simp only [List.mem_cons, List.not_mem_nil, or_false] at ha
    rcases ha with rfl | rfl
    · exact ⟨hx, by rw [hzero _ false hbx]; rfl⟩
    · exact ⟨hy, by rw [hzero _ true hby]; rfl⟩, rfl⟩) fun a a' b _ _ h h' => h.trans h'.symm
  simpa using this
end
end Go.Proofs.Ytminailbhgimkaa
