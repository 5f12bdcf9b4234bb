/- Two pairings joined, in plain words; a number's place in a list, by its contract. -/
import Derived.Test.YtonhnmpgikmlpaaInsert
import Derived.Test.YtonhnmpgikmlpaaBunV
namespace Go.Proofs.Ytonhnmpgikmlpaa
open Go.RowKit Go.Shelf

theorem looseL_split (t : Nat → Nat) (a x y : Nat) : looseL t a (x + y) = looseL t a x ++ looseL t (a + x) y := by
  unfold looseL
  rw [List.range_add, List.map_append, List.filter_append, List.map_map]
  congr 2
  refine List.map_congr_left fun i _ => ?_
  show a + (x + i) = a + x + i
  omega
theorem looseL_all {t : Nat → Nat} {a k : Nat} (h : ∀ i, i < k → t (a + i) = a + i) : looseL t a k = (List.range k).map fun i => a + i := by
  unfold looseL
  rw [List.filter_eq_self]
  intro x hx
  obtain ⟨i, hi, rfl⟩ := List.mem_map.1 hx
  exact beq_iff_eq.2 (h i (List.mem_range.1 hi))
theorem looseL_nil {t : Nat → Nat} {a k : Nat} (h : ∀ i, i < k → t (a + i) ≠ a + i) : looseL t a k = [] := by
  unfold looseL
  rw [List.filter_eq_nil_iff]
  intro x hx
  obtain ⟨i, hi, rfl⟩ := List.mem_map.1 hx
  rw [beq_iff_eq]
  exact h i (List.mem_range.1 hi)
/-- The loose ports of two pairings, in their order round both. -/
theorem around_list {n m p q : Nat} (hp : m + n ≤ p) (hq : n ≤ q) :
    (looseL (sewT n m (p + q)) 0 p).take m ++ looseL (sewT n m (p + q)) p q ++ (looseL (sewT n m (p + q)) 0 p).drop m = (List.range (p - n + (q - n))).map (aroundN n m p (q - n)) := by
  have hl : ∀ i, i < p + q → (sewT n m (p + q) i = i ↔ i < m ∨ (m + n ≤ i ∧ i < p + q - n)) := fun i hi => sewT_loose (by omega) hi
  have e1 : looseL (sewT n m (p + q)) 0 p = (List.range m).map (fun i => 0 + i) ++ (List.range (p - m - n)).map (fun i => 0 + (m + n) + i) := by
    have e : p = m + n + (p - m - n) := by omega
    have h1 : looseL (sewT n m (p + q)) 0 (m + n + (p - m - n)) = looseL (sewT n m (p + q)) 0 m ++ looseL (sewT n m (p + q)) (0 + m) n ++ looseL (sewT n m (p + q)) (0 + (m + n)) (p - m - n) := by
      rw [looseL_split, looseL_split]
    rw [← e] at h1
    rw [h1, looseL_all (fun i hi => (hl _ (by omega)).2 (by omega)), looseL_nil (fun i hi h => by have := (hl _ (by omega)).1 h; omega), looseL_all (fun i hi => (hl _ (by omega)).2 (by omega)), List.append_nil]
  have e2 : looseL (sewT n m (p + q)) p q = (List.range (q - n)).map fun i => p + i := by
    have e : q = q - n + n := by omega
    have h1 : looseL (sewT n m (p + q)) p (q - n + n) = looseL (sewT n m (p + q)) p (q - n) ++ looseL (sewT n m (p + q)) (p + (q - n)) n := looseL_split _ _ _ _
    rw [← e] at h1
    rw [h1, looseL_all (fun i hi => (hl _ (by omega)).2 (by omega)), looseL_nil (fun i hi h => by have := (hl _ (by omega)).1 h; omega), List.append_nil]
  rw [e1, e2, List.take_left' (by simp), List.drop_left' (by simp)]
  rw [show p - n + (q - n) = m + (q - n) + (p - m - n) by omega, List.range_add, List.map_append, List.range_add, List.map_append, List.map_map, List.map_map]
  congr 1
  · congr 1
    · refine List.map_congr_left fun i hi => ?_
      have := List.mem_range.1 hi
      unfold aroundN
      rw [if_pos this]
      omega
    · refine List.map_congr_left fun i hi => ?_
      have := List.mem_range.1 hi
      show p + i = aroundN n m p (q - n) (m + i)
      unfold aroundN
      rw [if_neg (by omega), if_pos (by omega)]
      omega
  · refine List.map_congr_left fun i hi => ?_
    have := List.mem_range.1 hi
    show 0 + (m + n) + i = aroundN n m p (q - n) (m + (q - n) + i)
    unfold aroundN
    rw [if_neg (by omega), if_neg (by omega)]
    omega
theorem loose0_length {n m p q : Nat} (hp : m + n ≤ p) (hq : n ≤ q) : m ≤ (looseL (sewT n m (p + q)) 0 p).length ∧ (looseL (sewT n m (p + q)) 0 p).length = p - n ∧ (looseL (sewT n m (p + q)) p q).length = q - n := by
  have hl : ∀ i, i < p + q → (sewT n m (p + q) i = i ↔ i < m ∨ (m + n ≤ i ∧ i < p + q - n)) := fun i hi => sewT_loose (by omega) hi
  have e1 : (looseL (sewT n m (p + q)) 0 p).length = p - n := by
    have e : p = m + n + (p - m - n) := by omega
    have h1 : looseL (sewT n m (p + q)) 0 (m + n + (p - m - n)) = looseL (sewT n m (p + q)) 0 m ++ looseL (sewT n m (p + q)) (0 + m) n ++ looseL (sewT n m (p + q)) (0 + (m + n)) (p - m - n) := by
      rw [looseL_split, looseL_split]
    rw [← e] at h1
    rw [h1, looseL_all (fun i hi => (hl _ (by omega)).2 (by omega)), looseL_nil (fun i hi h => by have := (hl _ (by omega)).1 h; omega), looseL_all (fun i hi => (hl _ (by omega)).2 (by omega)), List.append_nil]
    simp
    omega
  have e2 : (looseL (sewT n m (p + q)) p q).length = q - n := by
    have e : q = q - n + n := by omega
    have h1 : looseL (sewT n m (p + q)) p (q - n + n) = looseL (sewT n m (p + q)) p (q - n) ++ looseL (sewT n m (p + q)) (p + (q - n)) n := looseL_split _ _ _ _
    rw [← e] at h1
    rw [h1, looseL_all (fun i hi => (hl _ (by omega)).2 (by omega)), looseL_nil (fun i hi h => by have := (hl _ (by omega)).1 h; omega), List.append_nil]
    simp
  exact ⟨by omega, e1, e2⟩

theorem looseL_head {t : Nat → Nat} {a k : Nat} (h : t a = a) (hk : 1 ≤ k) : (looseL t a k)[0]? = some a := by
  obtain ⟨y, rfl⟩ : ∃ y, k = 1 + y := ⟨k - 1, by omega⟩
  rw [looseL_split, looseL_all (fun i hi => by obtain rfl : i = 0 := by omega
                                               exact h)]
  rfl
theorem cell_congr {w w' : World} {g k : Nat} (h : w'.heap[g]? = w.heap[g]?) : w'.cell? ⟨g, k, none⟩ = w.cell? ⟨g, k, none⟩ := by
  unfold World.cell?
  simp only [h]
/-- The ports of both pairings: partners, what is sewn. -/
abbrev twoA (a b : List Int) : Nat → Nat := twoS a.length (mateN a) (mateN b)
abbrev sewA (n m : Nat) (a b : List Int) : Nat → Nat := sewT n m (a.length + b.length)
/-- The partner of a port round both. -/
def joinS (n m : Nat) (a b : List Int) (j : Nat) : Nat :=
  nameN n m a.length (b.length - n) (pend (a.length + b.length) (twoA a b) (sewA n m a b) (aroundN n m a.length (b.length - n) j))
/-- How many ports are round both. -/
def joinP (n : Nat) (a b : List Int) : Nat := a.length - n + (b.length - n)
/-- The pairing that joins two, and the number of rounds that come. -/
def joinedL (n m : Nat) (a b : List Int) : List Int := listS (joinP n a b) (joinS n m a b)
def joinedR (n m : Nat) (a b : List Int) : Nat := roundsTo (a.length + b.length) (twoA a b) (sewA n m a b) (a.length + b.length)
theorem twoA_sewn {n m : Nat} {a b : List Int} (ha : IsPair a) (hb : IsPair b) (h : m + n + n ≤ a.length + b.length) : Sewn (a.length + b.length) (twoA a b) (sewA n m a b) :=
  twoS_sewn (fun _ hi => ⟨(ha.mates hi).1, (ha.mates hi).2.1, (ha.mates hi).2.2.2⟩) (fun _ hi => ⟨(hb.mates hi).1, (hb.mates hi).2.1, (hb.mates hi).2.2.2⟩) h
theorem around_ok {n m : Nat} {a b : List Int} (hp : m + n ≤ a.length) (hq : n ≤ b.length) {j : Nat} (hj : j < joinP n a b) :
    aroundN n m a.length (b.length - n) j < a.length + b.length ∧ sewA n m a b (aroundN n m a.length (b.length - n) j) = aroundN n m a.length (b.length - n) j := by
  unfold joinP at hj
  have h1 := around_loose (r := b.length - n) hp hj
  have h2 : aroundN n m a.length (b.length - n) j < a.length + b.length := by omega
  exact ⟨h2, (sewT_loose (by omega) h2).2 (by omega)⟩
theorem joinS_mates {n m : Nat} {a b : List Int} (ha : IsPair a) (hb : IsPair b) (hp : m + n ≤ a.length) (hq : n ≤ b.length) : Mates (joinP n a b) (joinS n m a b) := by
  have hs := twoA_sewn (n := n) (m := m) ha hb (by omega)
  have key : ∀ j, j < joinP n a b → ∃ e, e = pend (a.length + b.length) (twoA a b) (sewA n m a b) (aroundN n m a.length (b.length - n) j) ∧ (e < m ∨ (m + n ≤ e ∧ e < a.length + (b.length - n))) := fun j hj => by
    obtain ⟨h1, h2⟩ := around_ok hp hq hj
    refine ⟨_, rfl, ?_⟩
    have h3 := loose_end hs h1 h2
    have h4 := (sewT_loose (by omega) (pend_lt hs h1)).1 h3
    omega
  refine ⟨fun j hj => ?_, fun j hj he => ?_, fun j hj => ?_⟩
  · obtain ⟨e, he, hl⟩ := key j hj
    unfold joinS joinP
    rw [← he]
    exact name_lt hp hl
  · obtain ⟨e, hee, hl⟩ := key j hj
    obtain ⟨h1, h2⟩ := around_ok hp hq hj
    unfold joinS at he
    rw [← hee] at he
    have h3 := congrArg (aroundN n m a.length (b.length - n)) he
    rw [around_name hl, hee] at h3
    exact end_ne hs h1 h3
  · obtain ⟨e, hee, hl⟩ := key j hj
    obtain ⟨h1, h2⟩ := around_ok hp hq hj
    have h3 : joinS n m a b j = nameN n m a.length (b.length - n) e := by unfold joinS; rw [← hee]
    rw [h3]
    unfold joinS
    rw [around_name hl, hee, end_end hs h1 h2]
    unfold joinP at hj
    exact name_around hp hj
theorem joinedL_length (n m : Nat) (a b : List Int) : (joinedL n m a b).length = joinP n a b := listS_length _ _

set_option maxRecDepth 100000 in
set_option maxHeartbeats 2000000 in
theorem indexN_any (A : Option Addr) (c B P j : Nat) (f g : Nat → Nat) (w : World) (h : Ints w B A (numsI f P)) (hP : P ≤ 1000) (hj : j < P) (hg : ∀ i, i < P → g (f i) = i) :
    Calls Try.prog 164 #[.slice A P c, .int .i64 ((f j : Nat) : Int)] w fun e w' => e = .returned (.int .i64 (j : Int)) ∧ ∃ d, w' = w.drewN d := by
  have HD := hid h
  have HNE := hid (show ∀ i, i < P → f i = f j → i = j from fun i hi e => by
    have h1 := congrArg g e
    rwa [hg i hi, hg j hj] at h1)
  obtain ⟨x, hx⟩ : ∃ x, f j = x := ⟨_, rfl⟩
  have HX := hid hx
  rw [hx]
  clear h hg hx
  go_enter Try.func164, Try.ntmps164
  go_wp2_with fail
  go_loopw [8] (fun (iv : Value) (wr : World) => ∃ k : Nat, k ≤ j ∧ iv = .int .i64 k ∧ ∃ d, wr = w.drewN d) (fun i _ => P - (intOf i).toNat)
  case atStart => exact ⟨0, by omega, rfl, 0, rfl⟩
  case round =>
    obtain ⟨k, hk, rfl, d, rfl⟩ := hrel
    have hkP : k < P := by omega
    obtain ⟨b, off, y, rfl, hb, hy, hcy⟩ := HD.out.at_ (k := k) (by rw [numsI_length]; exact hkP)
    have hcd : (w.drewN d).cell? ⟨b, off + k, none⟩ = some (.int .i64 y) := hcy
    rw [numsI_at hkP] at hy
    obtain rfl := Option.some.inj hy
    have hki : (k : Int) < (P : Int) := by omega
    clear hy hcy hb
    by_cases hkj : k = j
    · subst hkj
      rw [HX.out] at hcd
      have hxb : ((x : Int) == (x : Int)) = true := by simp
      go_wp2_with fail
      go_ret
      exact ⟨rfl, d, rfl⟩
    · have hne : ¬ f k = x := fun e => hkj (HNE.out k hkP (by rw [HX.out]; exact e))
      generalize f k = y at *
      have hxb : ((x : Int) == (y : Int)) = false := by rw [beq_eq_false_iff_ne]; intro e; exact hne (by omega)
      have HKJ := hid hkj
      clear hkj hne
      go_wp2_with fail
      go_roundw
      case rel => exact ⟨k + 1, by have := HKJ.out; omega, by go_num, d, rfl⟩
      case measure => simp [intOf]; omega
end Go.Proofs.Ytonhnmpgikmlpaa
