/- Settled texts in one file. Each begins with what it holds. -/
import Derived.Test.YtgildagmliadeaaBunD
import Derived.Test.YtgildagmliadeaaBunO
import Derived.Test.YtgildagmliadeaaBunC
import Derived.Test.YtgildagmliadeaaBunA
import Derived.Test.YtgildagmliadeaaBunF
import Derived.Test.YtgildagmliadeaaTwice
import Derived.Laws.Concat
/- A part of a grid, by its contract. -/
namespace Go.Proofs.Ytgildagmliadeaa
open Go.RowKit Go.Shelf
attribute [local go_sem] Oper.semAt_some

/-- The letters of the part. -/
def partVal (m m1 a l : Nat) (ls : List UInt8) (k : Nat) : UInt8 := ls.getD ((a + k / m1) * m + (l + k % m1)) 0

end Go.Proofs.Ytgildagmliadeaa

/- The grid of two grids beside or below each other (joinedGrid), by its contract. -/
namespace Go.Proofs.Ytgildagmliadeaa
open Go.RowKit Go.Shelf
attribute [local go_sem] Oper.semAt_some

/-- Where a cell of a grid with m columns goes, in one with M columns, its upper left cell at row a, column l. -/
def joinPos (m M a l k : Nat) : Nat := (a + k / m) * M + (l + k % m)
/-- The letters of the grid of two. -/
def joinG (n m n' m' M a l : Nat) (ls ls' : List UInt8) : List UInt8 :=
  putAll (joinPos m' M a l) (fun k => ls'.getD k 0) (List.finRange (n' * m')) (putAll (joinPos m M 0 0) (fun k => ls.getD k 0) (List.finRange (n * m)) (pad []))

theorem own_lt {β : Type} (B b : Nat) (hb : b < B) (o : Obj) : OwnFrom B (fun (_ : β) W => W.heap[b]? = some o) := fun s W W' row hs hg hr =>
  (hg.block b (lt_of_block hs) (fun e => by have := (hr b e.symm).1; omega)).trans hs

end Go.Proofs.Ytgildagmliadeaa

/- GridBeside and GridUnder of the program, by their contracts. -/
namespace Go.Proofs.Ytgildagmliadeaa
open Go.RowKit

/-- Two grids that go beside each other; below each other. -/
def BesideIn (ss tt : List ByteArray) (n m n' m' : Nat) : Prop := IsGrid n m ss ∧ IsGrid n' m' tt ∧ n = n' ∧ m + m' ≤ 5
def UnderIn (ss tt : List ByteArray) (n m n' m' : Nat) : Prop := IsGrid n m ss ∧ IsGrid n' m' tt ∧ m = m' ∧ n + n' ≤ 5
def besideG (ss tt : List ByteArray) (n m n' m' : Nat) : List ByteArray := textsOf n (m + m') (joinG n m n' m' (m + m') 0 m (pad (flat ss)) (pad (flat tt)))
def underG (ss tt : List ByteArray) (n m n' m' : Nat) : List ByteArray := textsOf (n + n') m (joinG n m n' m' m n 0 (pad (flat ss)) (pad (flat tt)))
/-- What a function that joins two grids comes to. -/
def JoinEnd (In : List ByteArray → List ByteArray → Nat → Nat → Nat → Nat → Prop) (G : List ByteArray → List ByteArray → Nat → Nat → Nat → Nat → List ByteArray) (ss tt : List ByteArray) (w : World) (e : Ending) (w' : World) : Prop :=
  Below w.heap.size w w' ∧ ((∃ n m n' m' g, In ss tt n m n' m' ∧ w.heap.size ≤ g ∧ Row9 w' g (G ss tt n m n' m') ∧ e = .returned (.tuple #[.slice (some ⟨g, 0, none⟩) (G ss tt n m n' m').length (G ss tt n m n' m').length, .bool true])) ∨ ((∀ n m n' m', ¬ In ss tt n m n' m') ∧ e = .returned (.tuple #[.slice none 0 0, .bool false])))

end Go.Proofs.Ytgildagmliadeaa

/- Grids beside and below each other: the program's lists are the rows joined: plain words. -/
namespace Go.Proofs.Ytgildagmliadeaa
open Go.RowKit

def besideF (m m' : Nat) (fl fl' : List UInt8) (r q : Nat) : UInt8 := if q < m then fl.getD (r * m + q) 0 else fl'.getD (r * m' + (q - m)) 0
def underF (n m : Nat) (fl fl' : List UInt8) (r q : Nat) : UInt8 := if r < n then fl.getD (r * m + q) 0 else fl'.getD ((r - n) * m + q) 0

theorem beside_same {n m m' : Nat} {ss tt : List ByteArray} (h : IsGrid n m ss) (h' : IsGrid n m' tt) (h5 : m + m' ≤ 5) : besideG ss tt n m n m' = ruleG n (m + m') (besideF m m' (flat ss) (flat tt)) := by
  have hfl := h.flen
  have hfl' := h'.flen
  have hn5 := h.2.2.1
  refine rows_eq _ _ _ _ fun r hr q hq => ?_
  have hp := lt_of_parts hr hq
  have h25 : n * (m + m') ≤ 5 * 5 := Nat.mul_le_mul hn5 h5
  unfold joinG
  have hm : 1 ≤ m := h.2.2.2.1
  have hm' : 1 ≤ m' := h'.2.2.2.1
  have pos1 : ∀ x, joinPos m (m + m') 0 0 x = x / m * (m + m') + x % m := fun x => by unfold joinPos; rw [Nat.zero_add, Nat.zero_add]
  have pos2 : ∀ x, joinPos m' (m + m') 0 m x = x / m' * (m + m') + (m + x % m') := fun x => by unfold joinPos; rw [Nat.zero_add]
  have acc : (putAll (joinPos m (m + m') 0 0) (fun k => (pad (flat ss)).getD k 0) (List.finRange (n * m)) (pad [])).length = 25 := by rw [putAll_length]; rfl
  by_cases hqm : q < m
  · have hx : r * m + q < n * m := lt_of_parts hr hqm
    have hd := div_of (a := r) (m := m) (b := q) hqm
    have e1 : (putAll (joinPos m (m + m') 0 0) (fun k => (pad (flat ss)).getD k 0) (List.finRange (n * m)) (pad []))[r * (m + m') + q]? = some ((pad (flat ss)).getD (r * m + q) 0) :=
      put_all (joinPos m (m + m') 0 0) (fun k => (pad (flat ss)).getD k 0) (r * (m + m') + q) (r * m + q) hx (by omega) (by rw [pos1, hd.1, hd.2]) (fun x _ hxp => by
        rw [pos1] at hxp
        have hmod : x % m < m := Nat.mod_lt _ (by omega)
        obtain ⟨a1, a2⟩ := mul_inj hxp (by omega) hq
        have e3 := Nat.div_add_mod x m
        rw [a1, a2, Nat.mul_comm] at e3
        exact e3.symm)
    refine putAll_at _ _ _ _ _ _ (by rw [acc]; omega) (fun x _ hxp => ?_) (.inr ?_)
    · rw [pos2] at hxp
      have hmod : x.val % m' < m' := Nat.mod_lt _ (by omega)
      obtain ⟨_, a2⟩ := mul_inj hxp (by omega) hq
      omega
    · rw [e1, pad_getD _ _ (by rw [hfl]; exact hx)]
      unfold besideF
      rw [if_pos hqm]
  · have hq2 : q - m < m' := by omega
    have hx : r * m' + (q - m) < n * m' := lt_of_parts hr hq2
    have hd := div_of (a := r) (m := m') (b := q - m) hq2
    have hv : (pad (flat tt)).getD (r * m' + (q - m)) 0 = besideF m m' (flat ss) (flat tt) r q := by
      rw [pad_getD _ _ (by rw [hfl']; exact hx)]
      unfold besideF
      rw [if_neg hqm]
    refine putAll_at _ _ _ _ _ _ (by rw [acc]; omega) (fun x _ hxp => ?_) (.inl ⟨⟨r * m' + (q - m), hx⟩, List.mem_finRange _, ?_⟩)
    · rw [pos2] at hxp
      have hmod : x.val % m' < m' := Nat.mod_lt _ (by omega)
      obtain ⟨a1, a2⟩ := mul_inj hxp (by omega) hq
      have e3 := Nat.div_add_mod x.val m'
      rw [a1, Nat.mul_comm] at e3
      have e4 : x.val = r * m' + (q - m) := by omega
      rw [e4]; exact hv
    · show joinPos m' (m + m') 0 m (r * m' + (q - m)) = _
      rw [pos2, hd.1, hd.2]; omega
theorem under_same {n n' m : Nat} {ss tt : List ByteArray} (h : IsGrid n m ss) (h' : IsGrid n' m tt) (h5 : n + n' ≤ 5) : underG ss tt n m n' m = ruleG (n + n') m (underF n m (flat ss) (flat tt)) := by
  have hfl := h.flen
  have hfl' := h'.flen
  have hm5 := h.2.2.2.2.1
  refine rows_eq _ _ _ _ fun r hr q hq => ?_
  have hp := lt_of_parts hr hq
  have h25 : (n + n') * m ≤ 5 * 5 := Nat.mul_le_mul h5 hm5
  unfold joinG
  have hm : 1 ≤ m := h.2.2.2.1
  have pos1 : ∀ x, joinPos m m 0 0 x = x / m * m + x % m := fun x => by unfold joinPos; rw [Nat.zero_add, Nat.zero_add]
  have pos2 : ∀ x, joinPos m m n 0 x = (n + x / m) * m + x % m := fun x => by unfold joinPos; rw [Nat.zero_add]
  have acc : (putAll (joinPos m m 0 0) (fun k => (pad (flat ss)).getD k 0) (List.finRange (n * m)) (pad [])).length = 25 := by rw [putAll_length]; rfl
  by_cases hrn : r < n
  · have hx : r * m + q < n * m := lt_of_parts hrn hq
    have hd := div_of (a := r) (m := m) (b := q) hq
    have e1 : (putAll (joinPos m m 0 0) (fun k => (pad (flat ss)).getD k 0) (List.finRange (n * m)) (pad []))[r * m + q]? = some ((pad (flat ss)).getD (r * m + q) 0) :=
      put_all (joinPos m m 0 0) (fun k => (pad (flat ss)).getD k 0) (r * m + q) (r * m + q) hx (by omega) (by rw [pos1, hd.1, hd.2]) (fun x _ hxp => by
        rw [pos1, Nat.mul_comm, Nat.div_add_mod] at hxp
        exact hxp)
    refine putAll_at _ _ _ _ _ _ (by rw [acc]; omega) (fun x _ hxp => ?_) (.inr ?_)
    · rw [pos2] at hxp
      have hmod : x.val % m < m := Nat.mod_lt _ (by omega)
      obtain ⟨a1, _⟩ := mul_inj hxp hmod hq
      have : n ≤ n + x.val / m := Nat.le_add_right _ _
      exact absurd hrn (Nat.not_lt.2 (a1 ▸ this))
    · rw [e1, pad_getD _ _ (by rw [hfl]; exact hx)]
      unfold underF
      rw [if_pos hrn]
  · have hx : (r - n) * m + q < n' * m := lt_of_parts (by omega) hq
    have hd := div_of (a := r - n) (m := m) (b := q) hq
    have hv : (pad (flat tt)).getD ((r - n) * m + q) 0 = underF n m (flat ss) (flat tt) r q := by
      rw [pad_getD _ _ (by rw [hfl']; exact hx)]
      unfold underF
      rw [if_neg hrn]
    refine putAll_at _ _ _ _ _ _ (by rw [acc]; omega) (fun x _ hxp => ?_) (.inl ⟨⟨(r - n) * m + q, hx⟩, List.mem_finRange _, ?_⟩)
    · rw [pos2] at hxp
      have hmod : x.val % m < m := Nat.mod_lt _ (by omega)
      obtain ⟨a1, a2⟩ := mul_inj hxp hmod hq
      have e3 := Nat.div_add_mod x.val m
      obtain ⟨y, hy⟩ : ∃ y, x.val / m = y := ⟨_, rfl⟩
      rw [hy] at a1 e3
      obtain rfl : y = r - n := by omega
      rw [a2, Nat.mul_comm] at e3
      rw [← e3]; exact hv
    · show joinPos m m n 0 ((r - n) * m + q) = _
      rw [pos2, hd.1, hd.2, show n + (r - n) = r by omega]

/-- The rows of a grid by the rule. -/
theorem grid_row {n m r : Nat} {ss : List ByteArray} {s : ByteArray} (h : IsGrid n m ss) (hs : ss[r]? = some s) : s = ⟨(ruleL m fun q => (flat ss).getD (r * m + q) 0).toArray⟩ := by
  have hr : r < n := by rw [← h.1]; exact (List.getElem?_eq_some_iff.1 hs).1
  have e := rule_at (n := n) (m := m) (f := fun r q => (flat ss).getD (r * m + q) 0) hr
  rw [grid_rule h, hs] at e
  exact Option.some.inj e
theorem ruleL_add (a b : Nat) (f : Nat → UInt8) : ruleL (a + b) f = ruleL a f ++ ruleL b (fun q => f (a + q)) := by
  unfold ruleL
  rw [List.range_add, List.map_append, List.map_map]
  rfl
theorem ruleL_congr {a : Nat} {f g : Nat → UInt8} (h : ∀ q, q < a → f q = g q) : ruleL a f = ruleL a g := by
  unfold ruleL
  exact List.map_congr_left fun q hq => h q (List.mem_range.1 hq)
theorem beside_row {n m m' r : Nat} {ss tt : List ByteArray} {s s' : ByteArray} (h : IsGrid n m ss) (h' : IsGrid n m' tt) (hs : ss[r]? = some s) (hs' : tt[r]? = some s') :
    s ++ s' = ⟨(ruleL (m + m') (besideF m m' (flat ss) (flat tt) r)).toArray⟩ := by
  rw [grid_row h hs, grid_row h' hs', ByteArray.mk_append_mk, ruleL_add]
  congr 3
  · refine ruleL_congr fun q hq => ?_
    unfold besideF
    rw [if_pos hq]
  · refine ruleL_congr fun q hq => ?_
    unfold besideF
    rw [if_neg (by omega), show m + q - m = q by omega]
theorem under_rows {n n' m : Nat} {ss tt : List ByteArray} (h : IsGrid n m ss) (h' : IsGrid n' m tt) : ss ++ tt = ruleG (n + n') m (underF n m (flat ss) (flat tt)) := by
  unfold ruleG
  rw [List.range_add, List.map_append, List.map_map]
  congr 1
  · conv => lhs; rw [← grid_rule h]
    unfold ruleG
    refine List.map_congr_left fun r hr => ?_
    congr 2
    refine ruleL_congr fun q _ => ?_
    unfold underF
    rw [if_pos (List.mem_range.1 hr)]
  · conv => lhs; rw [← grid_rule h']
    unfold ruleG
    refine List.map_congr_left fun r hr => ?_
    simp only [Function.comp]
    congr 2
    refine ruleL_congr fun q _ => ?_
    unfold underF
    rw [if_neg (by omega), show n + r - n = r by omega]

/-- The outcome of a function that joins two grids. -/
def JoinOut (In : List ByteArray → List ByteArray → Nat → Nat → Nat → Nat → Prop) (G : List ByteArray → List ByteArray → Nat → Nat → Nat → Nat → List ByteArray) (ss tt : List ByteArray) (ok : Bool) (res : List ByteArray) : Prop :=
  (∃ n m n' m', In ss tt n m n' m' ∧ ok = true ∧ res = G ss tt n m n' m') ∨ ((∀ n m n' m', ¬ In ss tt n m n' m') ∧ ok = false ∧ res = [])
theorem joinOut_uniq {In : List ByteArray → List ByteArray → Nat → Nat → Nat → Nat → Prop} {G : List ByteArray → List ByteArray → Nat → Nat → Nat → Nat → List ByteArray} {ss tt : List ByteArray} {ok ok' : Bool} {res res' : List ByteArray}
    (hIn : ∀ n m n' m', In ss tt n m n' m' → IsGrid n m ss ∧ IsGrid n' m' tt) (h : JoinOut In G ss tt ok res) (h' : JoinOut In G ss tt ok' res') : ok' = ok ∧ res' = res := by
  rcases h with ⟨n, m, n', m', hg, rfl, rfl⟩ | ⟨hn, rfl, rfl⟩ <;> rcases h' with ⟨a, b, a', b', hg', rfl, rfl⟩ | ⟨hn', rfl, rfl⟩
  · obtain ⟨g1, g2⟩ := hIn _ _ _ _ hg
    obtain ⟨k1, k2⟩ := hIn _ _ _ _ hg'
    obtain ⟨rfl, rfl⟩ := g1.uniq k1
    obtain ⟨rfl, rfl⟩ := g2.uniq k2
    exact ⟨rfl, rfl⟩
  · exact absurd hg (hn' _ _ _ _)
  · exact absurd hg' (hn _ _ _ _)
  · exact ⟨rfl, rfl⟩
def BesideOut := JoinOut BesideIn besideG
def UnderOut := JoinOut UnderIn underG
theorem BesideOut.uniq {ss tt : List ByteArray} {ok ok' : Bool} {res res' : List ByteArray} (h : BesideOut ss tt ok res) (h' : BesideOut ss tt ok' res') : ok' = ok ∧ res' = res :=
  joinOut_uniq (fun _ _ _ _ h => ⟨h.1, h.2.1⟩) h h'
theorem UnderOut.uniq {ss tt : List ByteArray} {ok ok' : Bool} {res res' : List ByteArray} (h : UnderOut ss tt ok res) (h' : UnderOut ss tt ok' res') : ok' = ok ∧ res' = res :=
  joinOut_uniq (fun _ _ _ _ h => ⟨h.1, h.2.1⟩) h h'
theorem BesideOut.len {ss tt : List ByteArray} {ok : Bool} {res : List ByteArray} (h : BesideOut ss tt ok res) : res.length ≤ 1048576 := by
  rcases h with ⟨n, m, n', m', hg, _, rfl⟩ | ⟨_, _, rfl⟩
  · have h1 := hg.1.2.2.1
    unfold besideG
    rw [textsOf_length]; omega
  · simp
theorem UnderOut.len {ss tt : List ByteArray} {ok : Bool} {res : List ByteArray} (h : UnderOut ss tt ok res) : res.length ≤ 1048576 := by
  rcases h with ⟨n, m, n', m', hg, _, rfl⟩ | ⟨_, _, rfl⟩
  · have h1 := hg.2.2.2
    unfold underG
    rw [textsOf_length]; omega
  · simp
theorem joinEnd_open {In : List ByteArray → List ByteArray → Nat → Nat → Nat → Nat → Prop} {G : List ByteArray → List ByteArray → Nat → Nat → Nat → Nat → List ByteArray} {ss tt : List ByteArray} {w w' : World} {e : Ending} (h : JoinEnd In G ss tt w e w') :
    ∃ A res ok, e = .returned (.tuple #[.slice A res.length res.length, .bool ok]) ∧ JoinOut In G ss tt ok res ∧ Own2 w' w.heap.size A res ∧ Below w.heap.size w w' := by
  obtain ⟨hb, ⟨n, m, n', m', g, hg, hlo, hrow, rfl⟩ | ⟨hn, rfl⟩⟩ := h
  · exact ⟨_, _, true, rfl, .inl ⟨n, m, n', m', hg, rfl, rfl⟩, .inr ⟨g, rfl, hlo, hrow⟩, hb⟩
  · exact ⟨none, [], false, rfl, .inr ⟨hn, rfl, rfl⟩, .inl ⟨rfl, rfl⟩, hb⟩

end Go.Proofs.Ytgildagmliadeaa

/- GridPart of the program, by its contract. -/
namespace Go.Proofs.Ytgildagmliadeaa
open Go.RowKit Go.Shelf

/-- What GridPart takes. -/
def PartIn (ss : List ByteArray) (t lo le ri : Int) (n m a n1 l m1 : Nat) : Prop :=
  IsGrid n m ss ∧ t = (a : Int) ∧ lo = ((a + n1 : Nat) : Int) - 1 ∧ le = (l : Int) ∧ ri = ((l + m1 : Nat) : Int) - 1 ∧ 1 ≤ n1 ∧ a + n1 ≤ n ∧ 1 ≤ m1 ∧ l + m1 ≤ m
def partF (m a l : Nat) (fl : List UInt8) (r q : Nat) : UInt8 := fl.getD ((a + r) * m + (l + q)) 0
def PartOut (ss : List ByteArray) (t lo le ri : Int) (ok : Bool) (res : List ByteArray) : Prop :=
  (∃ n m a n1 l m1, PartIn ss t lo le ri n m a n1 l m1 ∧ ok = true ∧ res = ruleG n1 m1 (partF m a l (flat ss))) ∨ ((∀ n m a n1 l m1, ¬ PartIn ss t lo le ri n m a n1 l m1) ∧ ok = false ∧ res = [])
theorem PartOut.uniq {ss : List ByteArray} {t lo le ri : Int} {ok ok' : Bool} {res res' : List ByteArray} (h : PartOut ss t lo le ri ok res) (h' : PartOut ss t lo le ri ok' res') : ok' = ok ∧ res' = res := by
  rcases h with ⟨n, m, a, n1, l, m1, hg, rfl, rfl⟩ | ⟨hn, rfl, rfl⟩ <;> rcases h' with ⟨n', m', a', n1', l', m1', hg', rfl, rfl⟩ | ⟨hn', rfl, rfl⟩
  · obtain ⟨g1, g2, g3, g4, g5, _, _, _, _⟩ := hg
    obtain ⟨k1, k2, k3, k4, k5, _, _, _, _⟩ := hg'
    obtain ⟨rfl, rfl⟩ := g1.uniq k1
    obtain rfl : a = a' := by omega
    obtain rfl : l = l' := by omega
    obtain rfl : n1 = n1' := by omega
    obtain rfl : m1 = m1' := by omega
    exact ⟨rfl, rfl⟩
  · exact absurd hg (hn' _ _ _ _ _ _)
  · exact absurd hg' (hn _ _ _ _ _ _)
  · exact ⟨rfl, rfl⟩
theorem PartOut.len {ss : List ByteArray} {t lo le ri : Int} {ok : Bool} {res : List ByteArray} (h : PartOut ss t lo le ri ok res) : res.length ≤ 1048576 := by
  rcases h with ⟨n, m, a, n1, l, m1, hg, _, rfl⟩ | ⟨_, _, rfl⟩
  · have h1 := hg.1.2.2.1
    have h2 := hg.2.2.2.2.2.2.1
    rw [ruleG_length]; omega
  · simp
theorem part_same {n m a n1 l m1 : Nat} {ss : List ByteArray} (h : IsGrid n m ss) (h1 : a + n1 ≤ n) (h2 : l + m1 ≤ m) : textsOf n1 m1 (putAll samePos (partVal m m1 a l (pad (flat ss))) (List.finRange (n1 * m1)) (pad [])) = ruleG n1 m1 (partF m a l (flat ss)) := by
  have hfl := h.flen
  have hn5 := h.2.2.1
  have hm5 := h.2.2.2.2.1
  refine rows_eq _ _ _ _ fun r hr q hq => ?_
  have hp := lt_of_parts hr hq
  have h25 : n1 * m1 ≤ 5 * 5 := Nat.mul_le_mul (by omega) (by omega)
  have hx : (a + r) * m + (l + q) < n * m := lt_of_parts (by omega) (by omega)
  have hd := div_of (a := r) (m := m1) (b := q) hq
  rw [put_all samePos (partVal m m1 a l (pad (flat ss))) (r * m1 + q) (r * m1 + q) hp (by omega) rfl (fun x _ hx => hx)]
  unfold partVal partF
  rw [hd.1, hd.2, pad_getD _ _ (by rw [hfl]; exact hx)]

end Go.Proofs.Ytgildagmliadeaa

/- The grid that a number tells: plain words. -/
namespace Go.Proofs.Ytgildagmliadeaa
open Go.RowKit

/-- The letter of a digit. -/
def letD (d : Nat) : UInt8 := if d = 0 then 46 else if d = 1 then 114 else 102
/-- The letters of the cells below c. -/
def ofL (k c : Nat) : List UInt8 := (List.range c).map fun j => letD (k / 3 ^ j % 3)
def ofF (m k : Nat) (r q : Nat) : UInt8 := letD (k / 3 ^ (r * m + q) % 3)
theorem ofL_length (k c : Nat) : (ofL k c).length = c := by simp [ofL]
theorem ofL_succ (k c : Nat) : ofL k (c + 1) = ofL k c ++ [letD (k / 3 ^ c % 3)] := by simp [ofL, List.range_succ]
theorem pad_ofL (k c : Nat) (hc : c < 25) : (pad (ofL k c)).set c (letD (k / 3 ^ c % 3)) = pad (ofL k (c + 1)) := by
  have h := pad_set (l := ofL k c) (b := letD (k / 3 ^ c % 3)) (by rw [ofL_length]; exact hc)
  rw [ofL_length] at h
  rw [h, ofL_succ]
theorem of_same (n m k : Nat) : textsOf n m (pad (ofL k (n * m))) = ruleG n m (ofF m k) := by
  refine rows_eq _ _ _ _ fun r hr q hq => ?_
  have hp := lt_of_parts hr hq
  rw [pad, List.getElem?_append_left (by rw [ofL_length]; exact hp)]
  simp [ofL, ofF, hp]
theorem div_pow (k c : Nat) : k / 3 ^ (c + 1) = k / 3 ^ c / 3 := by rw [Nat.pow_succ, Nat.div_div_eq_div_mul]
theorem digit3 (x : Nat) : x % 3 = 0 ∨ x % 3 = 1 ∨ x % 3 = 2 := by omega
/-- What the program and the specification take. -/
def OfIn (a b x : Int) (n m k : Nat) : Prop := a = n ∧ b = m ∧ x = k ∧ 1 ≤ n ∧ n ≤ 5 ∧ 1 ≤ m ∧ m ≤ 5 ∧ k < 3 ^ (n * m)
theorem OfIn.le25 {a b x : Int} {n m k : Nat} (h : OfIn a b x n m k) : n * m ≤ 25 := Nat.mul_le_mul h.2.2.2.2.1 h.2.2.2.2.2.2.1
def OfNone (a b x : Int) : Prop := ∀ n m k, ¬ OfIn a b x n m k
theorem OfIn.uniq {a b x : Int} {n m k n' m' k' : Nat} (h : OfIn a b x n m k) (h' : OfIn a b x n' m' k') : n = n' ∧ m = m' ∧ k = k' := by
  obtain ⟨rfl, rfl, rfl, _⟩ := h
  obtain ⟨h1, h2, h3, _⟩ := h'
  exact ⟨by omega, by omega, by omega⟩
/-- The outcome and the list. -/
def OfOut (a b x : Int) (ok : Bool) (res : List ByteArray) : Prop :=
  (∃ n m k, OfIn a b x n m k ∧ ok = true ∧ res = ruleG n m (ofF m k)) ∨ (OfNone a b x ∧ ok = false ∧ res = [])
theorem OfOut.uniq {a b x : Int} {ok ok' : Bool} {res res' : List ByteArray} (h : OfOut a b x ok res) (h' : OfOut a b x ok' res') : ok' = ok ∧ res' = res := by
  rcases h with ⟨n, m, k, hg, rfl, rfl⟩ | ⟨hn, rfl, rfl⟩ <;> rcases h' with ⟨n', m', k', hg', rfl, rfl⟩ | ⟨hn', rfl, rfl⟩
  · obtain ⟨rfl, rfl, rfl⟩ := hg.uniq hg'
    exact ⟨rfl, rfl⟩
  · exact absurd hg (hn' _ _ _)
  · exact absurd hg' (hn _ _ _)
  · exact ⟨rfl, rfl⟩
theorem OfOut.len {a b x : Int} {ok : Bool} {res : List ByteArray} (h : OfOut a b x ok res) : res.length ≤ 1048576 := by
  rcases h with ⟨n, m, k, hg, _, rfl⟩ | ⟨_, _, rfl⟩
  · have h1 := hg.2.2.2.2.1
    rw [ruleG_length]; omega
  · simp

end Go.Proofs.Ytgildagmliadeaa

/- numberedGrid and GridOf of the program, by their contracts. -/
namespace Go.Proofs.Ytgildagmliadeaa
open Go.RowKit Go.Shelf
attribute [local go_sem] Oper.semAt_some

def NumEnd (a b x : Int) (w : World) (e : Ending) (w' : World) : Prop :=
  Below w.heap.size w w' ∧ ((∃ n m k, OfIn a b x n m k ∧ e = .returned (.tuple #[.agg (gcells n m (pad (ofL k (n * m)))), .bool true])) ∨ (OfNone a b x ∧ e = .returned (.tuple #[.agg zeroG, .bool false])))

def NumRelI (n m k N : Nat) (w : World) (x i : Value) (wr : World) : Prop :=
  ∃ c : Nat, c ≤ N ∧ i = .int .i64 c ∧ x = .int .i64 ((k / 3 ^ c : Nat) : Int) ∧ wr.heap[w.heap.size]? = some (.cells zeroG 54 (0, 0)) ∧ wr.heap[w.heap.size + 1]? = some (.cells (gcells n m (pad (ofL k c))) 54 (0, 0)) ∧ Below w.heap.size w wr

end Go.Proofs.Ytgildagmliadeaa

/- GridOf of the program and of the specification, by their contracts. -/
namespace Go.Proofs.Ytgildagmliadeaa
open Go.RowKit Go.Shelf

def PowRel (K : Nat) (x i : Value) : Prop := ∃ r : Nat, r ≤ K ∧ i = .int .i64 r ∧ x = .int .i64 ((3 ^ r : Nat) : Int)
def OutOf (n m k : Nat) (w : World) (x v i : Value) (wr : World) : Prop :=
  ∃ r : Nat, r ≤ n ∧ i = .int .i64 r ∧ x = .int .i64 ((k / 3 ^ (r * m) : Nat) : Int) ∧ GrowS wr w.heap.size v ((ruleG n m (ofF m k)).take r) ∧ Below w.heap.size w wr
def InOf (n m k r : Nat) (w wo : World) (ov : Value) (x v i : Value) (wr : World) : Prop :=
  ∃ p : Nat, p ≤ m ∧ i = .int .i64 p ∧ x = .int .i64 ((k / 3 ^ (r * m + p) : Nat) : Int) ∧ GrowB wr wo.heap.size v ((ruleL m (ofF m k r)).take p) ∧ GrowS wr w.heap.size ov ((ruleG n m (ofF m k)).take r) ∧ Below w.heap.size w wr ∧ wo.heap.size ≤ wr.heap.size

end Go.Proofs.Ytgildagmliadeaa
