/- A grid with a cell put is a grid; its letters. No program is named. -/
import Derived.Test.YtkgjhchgflichaaPutS
namespace Go.Proofs.Ytkgjhchgflichaa

theorem pad_set_in {l : List UInt8} {c : Nat} {b : UInt8} (h : c < l.length) : (pad l).set c b = pad (l.set c b) := by
  unfold pad
  rw [List.set_append_left _ _ h, List.length_set]
/-- The texts of letters have these letters. -/
theorem flat_texts {n m : Nat} {l : List UInt8} (hm : 0 < m) (hl : l.length = n * m) : flat (textsOf n m (pad l)) = l ∧ ∀ s ∈ textsOf n m (pad l), s.size = m := by
  have hrow : ∀ r, r < n → (rowText m (pad l) r).data.toList = (l.drop (r * m)).take m := fun r hr => by
    unfold rowText
    have hle := parts_lt (a := r) (n := n) (m := m) (b := m - 1) hr (by omega)
    show ((pad l).drop (r * m)).take m = _
    unfold pad
    rw [List.drop_append_of_le_length (by omega), List.take_append_of_le_length (by simp; omega)]
  have hsz : ∀ s ∈ textsOf n m (pad l), s.size = m := fun s hs => by
    unfold textsOf at hs
    obtain ⟨r, hr, rfl⟩ := List.mem_map.1 hs
    have hr := List.mem_range.1 hr
    have hle := parts_lt (a := r) (n := n) (m := m) (b := m - 1) hr (by omega)
    rw [Lib.size_eq, hrow r hr]
    simp
    omega
  refine ⟨?_, hsz⟩
  have hfl : (flat (textsOf n m (pad l))).length = n * m := by rw [flat_length _ hsz, textsOf_length]
  apply List.ext_getElem?
  intro q
  by_cases hq : q < n * m
  · have h1 : q / m < n := by rw [Nat.div_lt_iff_lt_mul hm]; exact hq
    have h2 : q % m < m := Nat.mod_lt _ hm
    have h3 : q / m * m + q % m = q := by rw [Nat.mul_comm]; exact Nat.div_add_mod q m
    have hk := textsOf_at (m := m) (ls := pad l) h1
    have e := flat_at (textsOf n m (pad l)) (q / m) (q % m) _ (fun i t _ ht => hsz t (List.mem_of_getElem? ht)) hk (by rw [hsz _ (List.mem_of_getElem? hk)]; exact h2)
    rw [h3, hrow _ h1, List.getElem?_take_of_lt h2, List.getElem?_drop, h3] at e
    exact e
  · rw [List.getElem?_eq_none (by omega), List.getElem?_eq_none (by omega)]
theorem texts_grid {n m : Nat} {l : List UInt8} (hn : 1 ≤ n) (hn5 : n ≤ 5) (hm : 1 ≤ m) (hm5 : m ≤ 5) (hl : l.length = n * m) (hb : ∀ b ∈ l, isLet b = true) : IsGrid n m (textsOf n m (pad l)) := by
  obtain ⟨h1, h2⟩ := flat_texts (n := n) hm hl
  refine ⟨textsOf_length _ _ _, hn, hn5, hm, hm5, fun s hs => ⟨h2 s hs, fun b hbs => hb b ?_⟩⟩
  rw [← h1]
  exact List.mem_flatMap.2 ⟨s, hs, hbs⟩
/-- A grid with a cell put. -/
theorem put_grid {n m c : Nat} {ss : List ByteArray} {b : UInt8} (h : IsGrid n m ss) (hc : c < n * m) (hb : isLet b = true) :
    IsGrid n m (textsOf n m ((pad (flat ss)).set c b)) ∧ pad (flat (textsOf n m ((pad (flat ss)).set c b))) = (pad (flat ss)).set c b := by
  have hcl : c < (flat ss).length := by rw [h.flen]; exact hc
  rw [pad_set_in hcl]
  have hl : ((flat ss).set c b).length = n * m := by rw [List.length_set, h.flen]
  refine ⟨texts_grid h.2.1 h.2.2.1 h.2.2.2.1 h.2.2.2.2.1 hl fun x hx => ?_, by rw [(flat_texts h.2.2.2.1 hl).1]⟩
  rcases List.mem_or_eq_of_mem_set hx with h1 | rfl
  · obtain ⟨s, hs, hxs⟩ := List.mem_flatMap.1 h1
    exact (h.2.2.2.2.2 s hs).2 x hxs
  · exact hb
theorem isLet_oth (b : UInt8) (h : isLet b = true) : isLet (oth b) = true := by
  unfold isLet at *
  unfold oth
  split
  · rfl
  · split
    · rfl
    · exact h
theorem IsGrid.let_at {n m c : Nat} {ss : List ByteArray} (h : IsGrid n m ss) (hc : c < n * m) : ∃ b, (flat ss)[c]? = some b ∧ isLet b = true := by
  have hcl : c < (flat ss).length := by rw [h.flen]; exact hc
  refine ⟨(flat ss)[c], List.getElem?_eq_getElem hcl, ?_⟩
  obtain ⟨s, hs, hxs⟩ := List.mem_flatMap.1 (List.getElem_mem hcl)
  exact (h.2.2.2.2.2 s hs).2 _ hxs
end Go.Proofs.Ytkgjhchgflichaa
