/- Grids beside and below each other: the program's lists are the rows joined: plain words. -/
import Derived.Test.YtkgjhchgflichaaTwice
import Derived.Test.YtkgjhchgflichaaBesideU
import Derived.Laws.Concat
namespace Go.Proofs.Ytkgjhchgflichaa
open Go.RowKit

def besideF (m m' : Nat) (fl fl' : List UInt8) (r q : Nat) : UInt8 := if q < m then fl.getD (r * m + q) 0 else fl'.getD (r * m' + (q - m)) 0
def underF (n m : Nat) (fl fl' : List UInt8) (r q : Nat) : UInt8 := if r < n then fl.getD (r * m + q) 0 else fl'.getD ((r - n) * m + q) 0

theorem beside_same {n m m' : Nat} {ss tt : List ByteArray} (h : IsGrid n m ss) (h' : IsGrid n m' tt) (h5 : m + m' ≤ 5) : besideG ss tt n m n m' = ruleG n (m + m') (besideF m m' (flat ss) (flat tt)) := by
  have hfl := h.flen
  have hfl' := h'.flen
  have hn5 := h.2.2.1
  refine rows_eq _ _ _ _ fun r hr q hq => ?_
  have hp := lt_of_parts hr hq
  have h25 : n * (m + m') ≤ 5 * 5 := Nat.mul_le_mul hn5 h5
  unfold joinL
  have hm : 1 ≤ m := h.2.2.2.1
  have hm' : 1 ≤ m' := h'.2.2.2.1
  have pos1 : ∀ x, joinPos m (m + m') 0 0 x = x / m * (m + m') + x % m := fun x => by unfold joinPos; rw [Nat.zero_add, Nat.zero_add]
  have pos2 : ∀ x, joinPos m' (m + m') 0 m x = x / m' * (m + m') + (m + x % m') := fun x => by unfold joinPos; rw [Nat.zero_add]
  have acc : (putAll (joinPos m (m + m') 0 0) (fun k => (pad (flat ss)).getD k 0) (List.finRange (n * m)) (pad [])).length = 25 := by rw [putAll_length]; rfl
  by_cases hqm : q < m
  · have hx : r * m + q < n * m := lt_of_parts hr hqm
    have hd := div_of (a := r) (m := m) (b := q) hqm
    have e1 : (putAll (joinPos m (m + m') 0 0) (fun k => (pad (flat ss)).getD k 0) (List.finRange (n * m)) (pad []))[r * (m + m') + q]? = some ((pad (flat ss)).getD (r * m + q) 0) :=
      put_all (joinPos m (m + m') 0 0) (fun k => (pad (flat ss)).getD k 0) (r * (m + m') + q) (r * m + q) hx (by omega) (by rw [pos1, hd.1, hd.2]) (fun x _ hxp => by
        rw [pos1] at hxp
        have hmod : x % m < m := Nat.mod_lt _ (by omega)
        obtain ⟨a1, a2⟩ := mul_inj hxp (by omega) hq
        have e3 := Nat.div_add_mod x m
        rw [a1, a2, Nat.mul_comm] at e3
        exact e3.symm)
    refine putAll_at _ _ _ _ _ _ (by rw [acc]; omega) (fun x _ hxp => ?_) (.inr ?_)
    · rw [pos2] at hxp
      have hmod : x.val % m' < m' := Nat.mod_lt _ (by omega)
      obtain ⟨_, a2⟩ := mul_inj hxp (by omega) hq
      omega
    · rw [e1, pad_getD _ _ (by rw [hfl]; exact hx)]
      unfold besideF
      rw [if_pos hqm]
  · have hq2 : q - m < m' := by omega
    have hx : r * m' + (q - m) < n * m' := lt_of_parts hr hq2
    have hd := div_of (a := r) (m := m') (b := q - m) hq2
    have hv : (pad (flat tt)).getD (r * m' + (q - m)) 0 = besideF m m' (flat ss) (flat tt) r q := by
      rw [pad_getD _ _ (by rw [hfl']; exact hx)]
      unfold besideF
      rw [if_neg hqm]
    refine putAll_at _ _ _ _ _ _ (by rw [acc]; omega) (fun x _ hxp => ?_) (.inl ⟨⟨r * m' + (q - m), hx⟩, List.mem_finRange _, ?_⟩)
    · rw [pos2] at hxp
      have hmod : x.val % m' < m' := Nat.mod_lt _ (by omega)
      obtain ⟨a1, a2⟩ := mul_inj hxp (by omega) hq
      have e3 := Nat.div_add_mod x.val m'
      rw [a1, Nat.mul_comm] at e3
      have e4 : x.val = r * m' + (q - m) := by omega
      rw [e4]; exact hv
    · show joinPos m' (m + m') 0 m (r * m' + (q - m)) = _
      rw [pos2, hd.1, hd.2]; omega
theorem under_same {n n' m : Nat} {ss tt : List ByteArray} (h : IsGrid n m ss) (h' : IsGrid n' m tt) (h5 : n + n' ≤ 5) : underG ss tt n m n' m = ruleG (n + n') m (underF n m (flat ss) (flat tt)) := by
  have hfl := h.flen
  have hfl' := h'.flen
  have hm5 := h.2.2.2.2.1
  refine rows_eq _ _ _ _ fun r hr q hq => ?_
  have hp := lt_of_parts hr hq
  have h25 : (n + n') * m ≤ 5 * 5 := Nat.mul_le_mul h5 hm5
  unfold joinL
  have hm : 1 ≤ m := h.2.2.2.1
  have pos1 : ∀ x, joinPos m m 0 0 x = x / m * m + x % m := fun x => by unfold joinPos; rw [Nat.zero_add, Nat.zero_add]
  have pos2 : ∀ x, joinPos m m n 0 x = (n + x / m) * m + x % m := fun x => by unfold joinPos; rw [Nat.zero_add]
  have acc : (putAll (joinPos m m 0 0) (fun k => (pad (flat ss)).getD k 0) (List.finRange (n * m)) (pad [])).length = 25 := by rw [putAll_length]; rfl
  by_cases hrn : r < n
  · have hx : r * m + q < n * m := lt_of_parts hrn hq
    have hd := div_of (a := r) (m := m) (b := q) hq
    have e1 : (putAll (joinPos m m 0 0) (fun k => (pad (flat ss)).getD k 0) (List.finRange (n * m)) (pad []))[r * m + q]? = some ((pad (flat ss)).getD (r * m + q) 0) :=
      put_all (joinPos m m 0 0) (fun k => (pad (flat ss)).getD k 0) (r * m + q) (r * m + q) hx (by omega) (by rw [pos1, hd.1, hd.2]) (fun x _ hxp => by
        rw [pos1, Nat.mul_comm, Nat.div_add_mod] at hxp
        exact hxp)
    refine putAll_at _ _ _ _ _ _ (by rw [acc]; omega) (fun x _ hxp => ?_) (.inr ?_)
    · rw [pos2] at hxp
      have hmod : x.val % m < m := Nat.mod_lt _ (by omega)
      obtain ⟨a1, _⟩ := mul_inj hxp hmod hq
      have : n ≤ n + x.val / m := Nat.le_add_right _ _
      exact absurd hrn (Nat.not_lt.2 (a1 ▸ this))
    · rw [e1, pad_getD _ _ (by rw [hfl]; exact hx)]
      unfold underF
      rw [if_pos hrn]
  · have hx : (r - n) * m + q < n' * m := lt_of_parts (by omega) hq
    have hd := div_of (a := r - n) (m := m) (b := q) hq
    have hv : (pad (flat tt)).getD ((r - n) * m + q) 0 = underF n m (flat ss) (flat tt) r q := by
      rw [pad_getD _ _ (by rw [hfl']; exact hx)]
      unfold underF
      rw [if_neg hrn]
    refine putAll_at _ _ _ _ _ _ (by rw [acc]; omega) (fun x _ hxp => ?_) (.inl ⟨⟨(r - n) * m + q, hx⟩, List.mem_finRange _, ?_⟩)
    · rw [pos2] at hxp
      have hmod : x.val % m < m := Nat.mod_lt _ (by omega)
      obtain ⟨a1, a2⟩ := mul_inj hxp hmod hq
      have e3 := Nat.div_add_mod x.val m
      obtain ⟨y, hy⟩ : ∃ y, x.val / m = y := ⟨_, rfl⟩
      rw [hy] at a1 e3
      obtain rfl : y = r - n := by omega
      rw [a2, Nat.mul_comm] at e3
      rw [← e3]; exact hv
    · show joinPos m m n 0 ((r - n) * m + q) = _
      rw [pos2, hd.1, hd.2, show n + (r - n) = r by omega]

/-- The rows of a grid by the rule. -/
theorem grid_row {n m r : Nat} {ss : List ByteArray} {s : ByteArray} (h : IsGrid n m ss) (hs : ss[r]? = some s) : s = ⟨(ruleL m fun q => (flat ss).getD (r * m + q) 0).toArray⟩ := by
  have hr : r < n := by rw [← h.1]; exact (List.getElem?_eq_some_iff.1 hs).1
  have e := rule_at (n := n) (m := m) (f := fun r q => (flat ss).getD (r * m + q) 0) hr
  rw [grid_rule h, hs] at e
  exact Option.some.inj e
theorem ruleL_add (a b : Nat) (f : Nat → UInt8) : ruleL (a + b) f = ruleL a f ++ ruleL b (fun q => f (a + q)) := by
  unfold ruleL
  rw [List.range_add, List.map_append, List.map_map]
  rfl
theorem ruleL_congr {a : Nat} {f g : Nat → UInt8} (h : ∀ q, q < a → f q = g q) : ruleL a f = ruleL a g := by
  unfold ruleL
  exact List.map_congr_left fun q hq => h q (List.mem_range.1 hq)
theorem beside_row {n m m' r : Nat} {ss tt : List ByteArray} {s s' : ByteArray} (h : IsGrid n m ss) (h' : IsGrid n m' tt) (hs : ss[r]? = some s) (hs' : tt[r]? = some s') :
    s ++ s' = ⟨(ruleL (m + m') (besideF m m' (flat ss) (flat tt) r)).toArray⟩ := by
  rw [grid_row h hs, grid_row h' hs', ByteArray.mk_append_mk, ruleL_add]
  congr 3
  · refine ruleL_congr fun q hq => ?_
    unfold besideF
    rw [if_pos hq]
  · refine ruleL_congr fun q hq => ?_
    unfold besideF
    rw [if_neg (by omega), show m + q - m = q by omega]
theorem under_rows {n n' m : Nat} {ss tt : List ByteArray} (h : IsGrid n m ss) (h' : IsGrid n' m tt) : ss ++ tt = ruleG (n + n') m (underF n m (flat ss) (flat tt)) := by
  unfold ruleG
  rw [List.range_add, List.map_append, List.map_map]
  congr 1
  · conv => lhs; rw [← grid_rule h]
    unfold ruleG
    refine List.map_congr_left fun r hr => ?_
    congr 2
    refine ruleL_congr fun q _ => ?_
    unfold underF
    rw [if_pos (List.mem_range.1 hr)]
  · conv => lhs; rw [← grid_rule h']
    unfold ruleG
    refine List.map_congr_left fun r hr => ?_
    simp only [Function.comp]
    congr 2
    refine ruleL_congr fun q _ => ?_
    unfold underF
    rw [if_neg (by omega), show n + r - n = r by omega]

/-- The outcome of a function that joins two grids. -/
def JoinOut (In : List ByteArray → List ByteArray → Nat → Nat → Nat → Nat → Prop) (G : List ByteArray → List ByteArray → Nat → Nat → Nat → Nat → List ByteArray) (ss tt : List ByteArray) (ok : Bool) (res : List ByteArray) : Prop :=
  (∃ n m n' m', In ss tt n m n' m' ∧ ok = true ∧ res = G ss tt n m n' m') ∨ ((∀ n m n' m', ¬ In ss tt n m n' m') ∧ ok = false ∧ res = [])
theorem joinOut_uniq {In : List ByteArray → List ByteArray → Nat → Nat → Nat → Nat → Prop} {G : List ByteArray → List ByteArray → Nat → Nat → Nat → Nat → List ByteArray} {ss tt : List ByteArray} {ok ok' : Bool} {res res' : List ByteArray}
    (hIn : ∀ n m n' m', In ss tt n m n' m' → IsGrid n m ss ∧ IsGrid n' m' tt) (h : JoinOut In G ss tt ok res) (h' : JoinOut In G ss tt ok' res') : ok' = ok ∧ res' = res := by
  rcases h with ⟨n, m, n', m', hg, rfl, rfl⟩ | ⟨hn, rfl, rfl⟩ <;> rcases h' with ⟨a, b, a', b', hg', rfl, rfl⟩ | ⟨hn', rfl, rfl⟩
  · obtain ⟨g1, g2⟩ := hIn _ _ _ _ hg
    obtain ⟨k1, k2⟩ := hIn _ _ _ _ hg'
    obtain ⟨rfl, rfl⟩ := g1.uniq k1
    obtain ⟨rfl, rfl⟩ := g2.uniq k2
    exact ⟨rfl, rfl⟩
  · exact absurd hg (hn' _ _ _ _)
  · exact absurd hg' (hn _ _ _ _)
  · exact ⟨rfl, rfl⟩
def BesideOut := JoinOut BesideIn besideG
def UnderOut := JoinOut UnderIn underG
theorem BesideOut.uniq {ss tt : List ByteArray} {ok ok' : Bool} {res res' : List ByteArray} (h : BesideOut ss tt ok res) (h' : BesideOut ss tt ok' res') : ok' = ok ∧ res' = res :=
  joinOut_uniq (fun _ _ _ _ h => ⟨h.1, h.2.1⟩) h h'
theorem UnderOut.uniq {ss tt : List ByteArray} {ok ok' : Bool} {res res' : List ByteArray} (h : UnderOut ss tt ok res) (h' : UnderOut ss tt ok' res') : ok' = ok ∧ res' = res :=
  joinOut_uniq (fun _ _ _ _ h => ⟨h.1, h.2.1⟩) h h'
theorem BesideOut.len {ss tt : List ByteArray} {ok : Bool} {res : List ByteArray} (h : BesideOut ss tt ok res) : res.length ≤ 1048576 := by
  rcases h with ⟨n, m, n', m', hg, _, rfl⟩ | ⟨_, _, rfl⟩
  · have h1 := hg.1.2.2.1
    unfold besideG
    rw [textsOf_length]; omega
  · simp
theorem UnderOut.len {ss tt : List ByteArray} {ok : Bool} {res : List ByteArray} (h : UnderOut ss tt ok res) : res.length ≤ 1048576 := by
  rcases h with ⟨n, m, n', m', hg, _, rfl⟩ | ⟨_, _, rfl⟩
  · have h1 := hg.2.2.2
    unfold underG
    rw [textsOf_length]; omega
  · simp
theorem joinEnd_open {In : List ByteArray → List ByteArray → Nat → Nat → Nat → Nat → Prop} {G : List ByteArray → List ByteArray → Nat → Nat → Nat → Nat → List ByteArray} {ss tt : List ByteArray} {w w' : World} {e : Ending} (h : JoinEnd In G ss tt w e w') :
    ∃ A res ok, e = .returned (.tuple #[.slice A res.length res.length, .bool ok]) ∧ JoinOut In G ss tt ok res ∧ Own2 w' w.heap.size A res ∧ Below w.heap.size w w' := by
  obtain ⟨hb, ⟨n, m, n', m', g, hg, hlo, hrow, rfl⟩ | ⟨hn, rfl⟩⟩ := h
  · exact ⟨_, _, true, rfl, .inl ⟨n, m, n', m', hg, rfl, rfl⟩, .inr ⟨g, rfl, hlo, hrow⟩, hb⟩
  · exact ⟨none, [], false, rfl, .inr ⟨hn, rfl, rfl⟩, .inl ⟨rfl, rfl⟩, hb⟩

end Go.Proofs.Ytkgjhchgflichaa
