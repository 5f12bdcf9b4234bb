/- Aiming, pure: the least further cost along a beam, the letters met for the first time open; never more than that of a grid whose beam ends there. No program is named. -/
import Derived.Test.YtminailbhgimkaaBunB
namespace Go.Proofs.Ytminailbhgimkaa

/-- One more cell is fixed. -/
def fixC (fx : Nat → Bool) (c k : Nat) : Bool := if k = c then true else fx k
/-- The least further cost, S if there is none below it. -/
def aimA (S n m q : Nat) : Nat → List UInt8 → (Nat → Bool) → Wy → Nat
  | 0, _, _, _ => S
  | f + 1, ls, fx, x =>
    if inG n m x then
      if fx (cellN m x) = true then aimA S n m q f ls fx (nxt (lett m ls) x)
      else min S (min (aimA S n m q f (ls.set (cellN m x) 46) (fixC fx (cellN m x)) (nxt (lett m (ls.set (cellN m x) 46)) x) + (if ls.getD (cellN m x) 0 = 46 then 0 else 1))
        (min (aimA S n m q f (ls.set (cellN m x) 114) (fixC fx (cellN m x)) (nxt (lett m (ls.set (cellN m x) 114)) x) + (if ls.getD (cellN m x) 0 = 114 then 0 else 1))
          (aimA S n m q f (ls.set (cellN m x) 102) (fixC fx (cellN m x)) (nxt (lett m (ls.set (cellN m x) 102)) x) + (if ls.getD (cellN m x) 0 = 102 then 0 else 1))))
    else if leav n m x = (q : Int) then 0 else S
/-- A smaller bound only cuts off. -/
theorem aim_min {s S n m q : Nat} (h : s ≤ S) : ∀ (f : Nat) (ls : List UInt8) (fx : Nat → Bool) (x : Wy), aimA s n m q f ls fx x = min s (aimA S n m q f ls fx x)
  | 0, _, _, _ => by
    show s = min s S
    omega
  | f + 1, ls, fx, x => by
    unfold aimA
    by_cases hx : inG n m x
    · rw [if_pos hx, if_pos hx]
      by_cases hf : fx (cellN m x) = true
      · rw [if_pos hf, if_pos hf]
        exact aim_min h f _ _ _
      · rw [if_neg hf, if_neg hf, aim_min h f (ls.set (cellN m x) 46), aim_min h f (ls.set (cellN m x) 114), aim_min h f (ls.set (cellN m x) 102)]
        generalize aimA S n m q f (ls.set (cellN m x) 46) (fixC fx (cellN m x)) (nxt (lett m (ls.set (cellN m x) 46)) x) = a1
        generalize aimA S n m q f (ls.set (cellN m x) 114) (fixC fx (cellN m x)) (nxt (lett m (ls.set (cellN m x) 114)) x) = a2
        generalize aimA S n m q f (ls.set (cellN m x) 102) (fixC fx (cellN m x)) (nxt (lett m (ls.set (cellN m x) 102)) x) = a3
        generalize (if ls.getD (cellN m x) 0 = 46 then 0 else 1 : Nat) = d1
        generalize (if ls.getD (cellN m x) 0 = 114 then 0 else 1 : Nat) = d2
        generalize (if ls.getD (cellN m x) 0 = 102 then 0 else 1 : Nat) = d3
        omega
    · rw [if_neg hx, if_neg hx]
      split <;> omega
theorem aim_le {S n m q : Nat} (f : Nat) (ls : List UInt8) (fx : Nat → Bool) (x : Wy) : aimA S n m q f ls fx x ≤ S := by
  have := aim_min (s := S) (S := S) (n := n) (m := m) (q := q) (Nat.le_refl _) f ls fx x
  omega
theorem lett_cellN {n m : Nat} {ls : List UInt8} {x : Wy} (h : inG n m x) : lett m ls x.i x.k = ls.getD (cellN m x) 0 := by
  unfold lett
  rw [cellN_int h, Int.toNat_natCast]
/-- Cells that are open and that have another letter. -/
def apartN (N : Nat) (fx : Nat → Bool) (ls ls' : List UInt8) : Nat := sumN (fun c => if fx c = false ∧ ls.getD c 0 ≠ ls'.getD c 0 then 1 else 0) N
theorem apart_fix {N c : Nat} {fx : Nat → Bool} {ls ls' : List UInt8} (hf : fx c = false) (hc : c < N) : apartN N fx ls ls' = apartN N (fixC fx c) (ls.set c (ls'.getD c 0)) ls' + (if ls.getD c 0 = ls'.getD c 0 then 0 else 1) := by
  have e : (if ls.getD c 0 = ls'.getD c 0 then 0 else 1 : Nat) = sumN (fun k => if c = k then (if ls.getD c 0 = ls'.getD c 0 then 0 else 1) else 0) N := by rw [sumN_one, if_pos hc]
  unfold apartN
  rw [e, ← sumN_add]
  refine sumN_congr N fun k _ => ?_
  by_cases hk : c = k
  · subst hk
    rw [if_pos rfl]
    have h1 : fixC fx c c = true := by unfold fixC; rw [if_pos rfl]
    rw [if_neg (c := fixC fx c c = false ∧ _) (fun h => by rw [h1] at h; cases h.1), Nat.zero_add]
    by_cases h2 : ls.getD c 0 = ls'.getD c 0
    · rw [if_neg (fun h => h.2 h2), if_pos h2]
    · rw [if_pos ⟨hf, h2⟩, if_neg h2]
  · have h1 : fixC fx c k = fx k := by unfold fixC; rw [if_neg (fun e => hk e.symm)]
    have h2 : (ls.set c (ls'.getD c 0)).getD k 0 = ls.getD k 0 := by
      rw [List.getD_eq_getElem?_getD, List.getElem?_set_ne hk, ← List.getD_eq_getElem?_getD]
    rw [if_neg hk, h1, h2, Nat.add_zero]
/-- A grid that agrees where letters are fixed and whose beam leads there: no more than the cells that are apart. -/
theorem aim_wit {S n m q : Nat} {ls' : List UInt8} (hb : ∀ c, c < n * m → ls'.getD c 0 = 46 ∨ ls'.getD c 0 = 114 ∨ ls'.getD c 0 = 102) : ∀ (f L : Nat) (ls : List UInt8) (fx : Nat → Bool) (x : Wy), n * m ≤ ls.length →
    (∀ c, c < n * m → fx c = true → ls.getD c 0 = ls'.getD c 0) → L < f → (∀ j, j < L → inG n m (iter (lett m ls') x j)) → ¬ inG n m (iter (lett m ls') x L) → leav n m (iter (lett m ls') x L) = (q : Int) → aimA S n m q f ls fx x ≤ apartN (n * m) fx ls ls'
  | 0, L, _, _, _, _, _, h, _, _, _ => by omega
  | f + 1, 0, ls, fx, x, _, _, _, _, ho, hq => by
    unfold aimA
    rw [if_neg (show ¬ inG n m x from ho), if_pos (show leav n m x = (q : Int) from hq)]
    exact Nat.zero_le _
  | f + 1, L + 1, ls, fx, x, hl, hfx, hL, hin, ho, hq => by
    have hx : inG n m x := hin 0 (by omega)
    have hc := cellN_lt hx
    have hin' : ∀ j, j < L → inG n m (iter (lett m ls') (nxt (lett m ls') x) j) := fun j hj => by rw [← iter_succ']; exact hin (j + 1) (by omega)
    rw [iter_succ'] at ho hq
    unfold aimA
    rw [if_pos hx]
    by_cases hf : fx (cellN m x) = true
    · rw [if_pos hf]
      have e : nxt (lett m ls) x = nxt (lett m ls') x := by
        unfold nxt
        rw [lett_cellN hx, lett_cellN hx, hfx _ hc hf]
      rw [e]
      exact aim_wit hb f L ls fx _ hl hfx (by omega) hin' ho hq
    · rw [if_neg hf]
      have hf' : fx (cellN m x) = false := by simpa using hf
      have key : ∀ b : UInt8, ls'.getD (cellN m x) 0 = b → aimA S n m q f (ls.set (cellN m x) b) (fixC fx (cellN m x)) (nxt (lett m (ls.set (cellN m x) b)) x) + (if ls.getD (cellN m x) 0 = b then 0 else 1) ≤ apartN (n * m) fx ls ls' := fun b e => by
        subst e
        have e2 : nxt (lett m (ls.set (cellN m x) (ls'.getD (cellN m x) 0))) x = nxt (lett m ls') x := by
          unfold nxt
          rw [lett_cellN hx, lett_cellN hx, List.getD_eq_getElem?_getD, List.getElem?_set_self (by omega)]
          rfl
        rw [e2, apart_fix hf' hc]
        refine Nat.add_le_add_right (aim_wit hb f L _ _ _ (by rw [List.length_set]; exact hl) (fun c hcn hfc => ?_) (by omega) hin' ho hq) _
        by_cases hk : cellN m x = c
        · subst hk
          rw [List.getD_eq_getElem?_getD, List.getElem?_set_self (by omega)]
          rfl
        · rw [List.getD_eq_getElem?_getD, List.getElem?_set_ne hk, ← List.getD_eq_getElem?_getD]
          unfold fixC at hfc
          rw [if_neg (fun e => hk e.symm)] at hfc
          exact hfx c hcn hfc
      have k1 := key 46
      have k2 := key 114
      have k3 := key 102
      rcases hb _ hc with h | h | h
      · have := k1 h
        omega
      · have := k2 h
        omega
      · have := k3 h
        omega
/-- From here light leaves within so many ways, whatever letters it meets. -/
def aimD (n m : Nat) : Nat → List UInt8 → (Nat → Bool) → Wy → Prop
  | 0, _, _, x => ¬ inG n m x
  | f + 1, ls, fx, x => inG n m x → (fx (cellN m x) = true → aimD n m f ls fx (nxt (lett m ls) x)) ∧ (fx (cellN m x) = false → ∀ b : UInt8, aimD n m f (ls.set (cellN m x) b) (fixC fx (cellN m x)) (nxt (lett m (ls.set (cellN m x) b)) x))
theorem aim_deep {n m p : Nat} (hp : p < 2 * (n + m)) : ∀ (f j : Nat) (ls : List UInt8) (fx : Nat → Bool), 4 * (n * m) ≤ f + j → (∀ i, i < j → inG n m (bway n m (lett m ls) p i) ∧ fx (cellN m (bway n m (lett m ls) p i)) = true) → aimD n m f ls fx (bway n m (lett m ls) p j)
  | 0, j, ls, fx, hj, hin => fun hx => by
    have h1 := blen_lt (n := n) (m := m) (t := lett m ls) hp
    have h2 := blen_out (n := n) (m := m) (t := lett m ls) hp
    by_cases h : blen n m (lett m ls) p < j
    · exact h2 (hin _ h).1
    · have e : blen n m (lett m ls) p = j := by omega
      rw [e] at h2
      exact h2 hx
  | f + 1, j, ls, fx, hj, hin => fun hx => by
    refine ⟨fun hf => ?_, fun hf b => ?_⟩
    · refine aim_deep hp f (j + 1) ls fx (by omega) fun i hi => ?_
      by_cases h : i < j
      · exact hin i h
      · obtain rfl : i = j := by omega
        exact ⟨hx, hf⟩
    · have same : ∀ i, i ≤ j → bway n m (lett m (ls.set (cellN m (bway n m (lett m ls) p j)) b)) p i = bway n m (lett m ls) p i := fun i => by
        induction i with
        | zero => intro _; rfl
        | succ i ih =>
          intro hi
          have h1 := ih (by omega)
          have h2 := hin i (by omega)
          show nxt _ (bway n m (lett m (ls.set (cellN m (bway n m (lett m ls) p j)) b)) p i) = nxt _ (bway n m (lett m ls) p i)
          rw [h1]
          have hne : cellN m (bway n m (lett m ls) p j) ≠ cellN m (bway n m (lett m ls) p i) := fun e => by
            rw [e, h2.2] at hf
            cases hf
          unfold nxt
          rw [lett_cellN h2.1, lett_cellN h2.1, List.getD_eq_getElem?_getD, List.getElem?_set_ne hne, ← List.getD_eq_getElem?_getD]
      have e : nxt (lett m (ls.set (cellN m (bway n m (lett m ls) p j)) b)) (bway n m (lett m ls) p j) = bway n m (lett m (ls.set (cellN m (bway n m (lett m ls) p j)) b)) p (j + 1) := by
        show _ = nxt _ (bway n m (lett m (ls.set (cellN m (bway n m (lett m ls) p j)) b)) p j)
        rw [same j (Nat.le_refl _)]
      rw [e]
      refine aim_deep hp f (j + 1) _ _ (by omega) fun i hi => ?_
      rw [same i (by omega)]
      by_cases h : i < j
      · refine ⟨(hin i h).1, ?_⟩
        unfold fixC
        split
        · rfl
        · exact (hin i h).2
      · obtain rfl : i = j := by omega
        refine ⟨hx, ?_⟩
        unfold fixC
        rw [if_pos rfl]
/-- More steps than light takes change nothing. -/
theorem aim_more {S n m q : Nat} : ∀ (f g : Nat) (ls : List UInt8) (fx : Nat → Bool) (x : Wy), aimD n m f ls fx x → aimA S n m q (f + 1 + g) ls fx x = aimA S n m q (f + 1) ls fx x
  | 0, g, ls, fx, x, h => by
    rw [show 0 + 1 + g = g + 1 by omega]
    unfold aimA
    rw [if_neg h, if_neg h]
  | f + 1, g, ls, fx, x, h => by
    rw [show f + 1 + 1 + g = (f + 1 + g) + 1 by omega]
    unfold aimA
    by_cases hx : inG n m x
    · obtain ⟨h1, h2⟩ := h hx
      rw [if_pos hx, if_pos hx]
      by_cases hf : fx (cellN m x) = true
      · rw [if_pos hf, if_pos hf, aim_more f g _ _ _ (h1 hf)]
      · have hf' : fx (cellN m x) = false := by simpa using hf
        rw [if_neg hf, if_neg hf, aim_more f g _ _ _ (h2 hf' 46), aim_more f g _ _ _ (h2 hf' 114), aim_more f g _ _ _ (h2 hf' 102)]
    · rw [if_neg hx, if_neg hx]
end Go.Proofs.Ytminailbhgimkaa
