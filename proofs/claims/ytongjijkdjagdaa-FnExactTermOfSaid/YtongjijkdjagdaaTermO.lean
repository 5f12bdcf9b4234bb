/- The tidy term of a grid, in plain words: of one row its first cell beside all others, and otherwise the first row above all others. -/
import Derived.Test.YtongjijkdjagdaaTermM
import Derived.Test.YtongjijkdjagdaaTermL
import Derived.Test.YtongjijkdjagdaaBunW
namespace Go.Proofs.Ytongjijkdjagdaa

def rowTm : List UInt8 → Tm
  | [] => .lone 0
  | [c] => .lone c
  | c :: d :: l => .cpl (.lone c) 124 (rowTm (d :: l))
def gridTm : List ByteArray → Tm
  | [] => .lone 0
  | [r] => rowTm r.data.toList
  | r :: s :: l => .cpl (rowTm r.data.toList) 45 (gridTm (s :: l))
theorem rowTm_len : ∀ l : List UInt8, 1 ≤ l.length → (rowTm l).text.length = 4 * l.length - 3
  | [], h => by simp at h
  | [c], _ => rfl
  | c :: d :: l, _ => by
    have ih := rowTm_len (d :: l) (by simp)
    show (40 :: ((Tm.lone c).text ++ 124 :: ((rowTm (d :: l)).text ++ [41]))).length = _
    simp only [List.length_cons, List.length_append, Tm.text, List.length_nil] at ih ⊢
    omega
theorem gridTm_len {m : Nat} (hm : 1 ≤ m) (hm5 : m ≤ 5) : ∀ ss : List ByteArray, 1 ≤ ss.length → (∀ s ∈ ss, s.size = m) → (gridTm ss).text.length = 4 * (ss.length * m) - 3
  | [], h, _ => by simp at h
  | [r], _, h => by
    have e : r.data.toList.length = m := h r (by simp)
    show (rowTm r.data.toList).text.length = _
    rw [rowTm_len _ (by omega), e]
    simp
  | r :: s :: l, _, h => by
    have ih := gridTm_len hm hm5 (s :: l) (by simp) (fun x hx => h x (by simp [hx]))
    have e : r.data.toList.length = m := h r (by simp)
    show (40 :: ((rowTm r.data.toList).text ++ 45 :: ((gridTm (s :: l)).text ++ [41]))).length = _
    have e2 := rowTm_len r.data.toList (by omega)
    simp only [List.length_cons, List.length_append, List.length_nil] at ih ⊢
    rw [e2, ih, e]
    have h3 : (l.length + 1 + 1) * m = (l.length + 1) * m + m := by rw [Nat.succ_mul]
    have h4 : m ≤ (l.length + 1) * m := Nat.le_mul_of_pos_left _ (by omega)
    omega
theorem IsGrid.termLen {n m : Nat} {ss : List ByteArray} (h : IsGrid n m ss) : (gridTm ss).text.length ≤ 97 := by
  rw [gridTm_len h.2.2.2.1 h.2.2.2.2.1 ss (by rw [h.1]; exact h.2.1) (fun s hs => (h.2.2.2.2.2 s hs).1), h.1]
  have := h.le25
  omega

theorem map_is {N : Nat} {val : Nat → UInt8} {L : List UInt8} (hl : L.length = N) (h : ∀ k, k < N → L[k]? = some (val k)) : (List.range N).map val = L := by
  refine List.ext_getElem? fun k => ?_
  by_cases hk : k < N
  · rw [h k hk]; simp [hk]
  · rw [List.getElem?_eq_none (by simp; omega), List.getElem?_eq_none (by omega)]
theorem put_list {N : Nat} (val : Nat → UInt8) (h : N ≤ 25) : putAll samePos val (List.finRange N) (pad []) = pad ((List.range N).map val) := by
  have hl : ((List.range N).map val).length = N := by simp
  refine List.ext_getElem? fun p => ?_
  by_cases hp : p < N
  · rw [put_all samePos val p p hp (by omega) rfl (fun x _ e => e), pad, List.getElem?_append_left (by omega)]
    simp [hp]
  · by_cases h2 : p < 25
    · rw [put_zero samePos val (pad []) (pad_nil_at h2) (fun x hx e => by unfold samePos at e; omega), pad, List.getElem?_append_right (by omega), List.getElem?_replicate, if_pos (by omega)]
    · rw [List.getElem?_eq_none (by rw [putAll_length, pad_length (by simp)]; omega), List.getElem?_eq_none (by rw [pad_length (by omega)]; omega)]
theorem part_pad {N m m1 a l : Nat} {fl L : List UInt8} (h : N ≤ 25) (hl : L.length = N) (hk : ∀ k, k < N → (a + k / m1) * m + (l + k % m1) < fl.length ∧ L[k]? = fl[(a + k / m1) * m + (l + k % m1)]?) :
    putAll samePos (partVal m m1 a l (pad fl)) (List.finRange N) (pad []) = pad L := by
  rw [put_list _ h]
  congr 1
  refine map_is hl fun k hkN => ?_
  obtain ⟨h1, h2⟩ := hk k hkN
  unfold partVal
  rw [pad_getD _ _ h1, h2, List.getD_eq_getElem?_getD, List.getElem?_eq_getElem h1]
  rfl
section
variable {n m : Nat} {r : ByteArray} {ss : List ByteArray}
theorem row_len (h : IsGrid n m (r :: ss)) : r.data.toList.length = m := (h.2.2.2.2.2 r (by simp)).1
theorem rows_first (h : IsGrid n m (r :: ss)) : IsGrid 1 m [r] := ⟨rfl, by omega, by omega, h.2.2.2.1, h.2.2.2.2.1, fun s hs => by
  obtain rfl := List.mem_singleton.1 hs
  exact h.2.2.2.2.2 s (by simp)⟩
theorem rows_rest (h : IsGrid n m (r :: ss)) (hn : 2 ≤ n) : IsGrid (n - 1) m ss := by
  have h1 := h.1
  have h2 := h.2.2.1
  simp at h1
  exact ⟨by omega, by omega, by omega, h.2.2.2.1, h.2.2.2.2.1, fun s hs => h.2.2.2.2.2 s (by simp [hs])⟩
theorem part_first (h : IsGrid n m (r :: ss)) : putAll samePos (partVal m m 0 0 (pad (flat (r :: ss)))) (List.finRange (1 * m)) (pad []) = pad (flat [r]) := by
  have hm := h.2.2.2.2.1
  have hl := row_len h
  have hf := h.flen
  have hn := h.2.1
  have e1 : flat [r] = r.data.toList := by simp [flat]
  have e2 : flat (r :: ss) = r.data.toList ++ flat ss := by simp [flat]
  refine part_pad (by omega) (by rw [e1]; omega) fun k hk => ?_
  have hk' : k < m := by omega
  rw [Nat.div_eq_of_lt hk', Nat.mod_eq_of_lt hk', e1, e2]
  simp only [Nat.zero_add, Nat.zero_mul]
  refine ⟨by rw [List.length_append]; omega, by rw [List.getElem?_append_left (by omega)]⟩
theorem part_rest (h : IsGrid n m (r :: ss)) (hn : 2 ≤ n) : putAll samePos (partVal m m 1 0 (pad (flat (r :: ss)))) (List.finRange ((n - 1) * m)) (pad []) = pad (flat ss) := by
  have h25 := h.le25
  have hl := row_len h
  have hf := (rows_rest h hn).flen
  have hm := h.2.2.2.1
  have e2 : flat (r :: ss) = r.data.toList ++ flat ss := by simp [flat]
  have e3 : n * m = (n - 1) * m + m := by
    obtain ⟨k, rfl⟩ : ∃ k, n = k + 1 := ⟨n - 1, by omega⟩
    rw [Nat.succ_mul]; rfl
  refine part_pad (by omega) hf fun k hk => ?_
  have e4 : (1 + k / m) * m + (0 + k % m) = m + k := by
    have := Nat.div_add_mod k m
    rw [Nat.mul_comm] at this
    rw [Nat.add_mul, Nat.one_mul]; omega
  rw [e4, e2]
  refine ⟨by rw [List.length_append]; omega, by rw [List.getElem?_append_right (by omega)]; congr 1; omega⟩
theorem part_cell {c : UInt8} {l : List UInt8} : putAll samePos (partVal m 1 0 0 (pad (flat [⟨(c :: l).toArray⟩]))) (List.finRange (1 * 1)) (pad []) = pad (flat [⟨[c].toArray⟩]) := by
  have e1 : flat [(⟨[c].toArray⟩ : ByteArray)] = [c] := by simp [flat]
  have e2 : flat [(⟨(c :: l).toArray⟩ : ByteArray)] = c :: l := by simp [flat]
  refine part_pad (by omega) (by rw [e1]; rfl) fun k hk => ?_
  obtain rfl : k = 0 := by omega
  rw [e1, e2]
  simp
theorem part_cells {c : UInt8} {l : List UInt8} (h : IsGrid 1 m [⟨(c :: l).toArray⟩]) (hm : 2 ≤ m) : putAll samePos (partVal m (m - 1) 0 1 (pad (flat [⟨(c :: l).toArray⟩]))) (List.finRange (1 * (m - 1))) (pad []) = pad (flat [⟨l.toArray⟩]) := by
  have e1 : flat [(⟨l.toArray⟩ : ByteArray)] = l := by simp [flat]
  have e2 : flat [(⟨(c :: l).toArray⟩ : ByteArray)] = c :: l := by simp [flat]
  have hl : l.length + 1 = m := row_len h
  have hm5 := h.2.2.2.2.1
  refine part_pad (by omega) (by rw [e1]; omega) fun k hk => ?_
  have hk' : k < m - 1 := by omega
  rw [Nat.div_eq_of_lt hk', Nat.mod_eq_of_lt hk', e1, e2]
  simp only [Nat.zero_add, Nat.zero_mul]
  refine ⟨by simp; omega, ?_⟩
  rw [Nat.add_comm 1 k, List.getElem?_cons_succ]
end
theorem cells_first {m : Nat} {c : UInt8} {l : List UInt8} (h : IsGrid 1 m [⟨(c :: l).toArray⟩]) : IsGrid 1 1 [⟨[c].toArray⟩] := ⟨rfl, by omega, by omega, by omega, by omega, fun s hs => by
  obtain rfl := List.mem_singleton.1 hs
  exact ⟨rfl, fun b hb => (h.2.2.2.2.2 ⟨(c :: l).toArray⟩ (List.mem_singleton.2 rfl)).2 b (by simp at hb; subst hb; simp)⟩⟩
theorem cells_rest {m : Nat} {c : UInt8} {l : List UInt8} (h : IsGrid 1 m [⟨(c :: l).toArray⟩]) (hm : 2 ≤ m) : IsGrid 1 (m - 1) [⟨l.toArray⟩] := by
  have hl : l.length + 1 = m := row_len h
  have hm5 := h.2.2.2.2.1
  refine ⟨rfl, by omega, by omega, by omega, by omega, fun s hs => ?_⟩
  obtain rfl := List.mem_singleton.1 hs
  exact ⟨by show l.toArray.size = _; simp; omega, fun b hb => (h.2.2.2.2.2 ⟨(c :: l).toArray⟩ (List.mem_singleton.2 rfl)).2 b (by simp at hb ⊢; exact Or.inr hb)⟩
theorem gridTm_wf : ∀ {n m : Nat} {ss : List ByteArray}, IsGrid n m ss → (gridTm ss).wf = true ∧ (gridTm ss).tidy = true ∧ (gridTm ss).dim = (n, m) := by
  have row : ∀ l : List UInt8, 1 ≤ l.length → (∀ b ∈ l, isLet b = true) → (rowTm l).wf = true ∧ (rowTm l).tidy = true ∧ (rowTm l).dim = (1, l.length) := by
    intro l
    induction l with
    | nil => intro h; simp at h
    | cons c l ih =>
      intro _ hb
      cases l with
      | nil => exact ⟨hb c (by simp), rfl, rfl⟩
      | cons d l =>
        obtain ⟨h1, h2, h3⟩ := ih (by simp) (fun b h => hb b (by simp at h ⊢; exact .inr h))
        have e1 : isLet c = true := hb c (by simp)
        refine ⟨?_, ?_, ?_⟩
        · show ((Tm.lone c).wf && isMid 124 && (rowTm (d :: l)).wf) = true
          rw [h1]
          simp [Tm.wf, e1, isMid]
        · show ((Tm.lone c).tidy && isMid 124 && (rowTm (d :: l)).tidy) = true
          rw [h2]
          simp [Tm.tidy, isMid]
        · show (if (124 : UInt8) = 45 then _ else ((Tm.lone c).dim.1, (Tm.lone c).dim.2 + (rowTm (d :: l)).dim.2)) = _
          rw [if_neg (by decide), h3]
          simp [Tm.dim]
          omega
  intro n m ss
  induction ss generalizing n with
  | nil => intro h; have h1 := h.1; have h2 := h.2.1; simp at h1; omega
  | cons r ss ih =>
    intro h
    have hl := row_len h
    have hm := h.2.2.2.1
    obtain ⟨r1, r2, r3⟩ := row r.data.toList (by omega) (fun b hb => (h.2.2.2.2.2 r (by simp)).2 b hb)
    cases ss with
    | nil =>
      have h1 : n = 1 := h.1.symm
      subst h1
      exact ⟨r1, r2, by show (rowTm r.data.toList).dim = _; rw [r3, hl]⟩
    | cons s l =>
      have hn : 2 ≤ n := by have h1 := h.1; simp at h1; omega
      obtain ⟨h1, h2, h3⟩ := ih (rows_rest h hn)
      refine ⟨?_, ?_, ?_⟩
      · show ((rowTm r.data.toList).wf && isMid 45 && (gridTm (s :: l)).wf) = true
        rw [h1, r1]; rfl
      · show ((rowTm r.data.toList).tidy && isMid 45 && (gridTm (s :: l)).tidy) = true
        rw [h2, r2]; rfl
      · show (if (45 : UInt8) = 45 then ((rowTm r.data.toList).dim.1 + (gridTm (s :: l)).dim.1, (rowTm r.data.toList).dim.2) else _) = _
        rw [if_pos rfl, h3, r3, hl]
        simp
        omega
end Go.Proofs.Ytongjijkdjagdaa
