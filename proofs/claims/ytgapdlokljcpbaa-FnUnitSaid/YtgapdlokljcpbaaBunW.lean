/- Settled texts in one file. Each begins with what it holds. -/
import Derived.Test.YtgapdlokljcpbaaBunD
import Derived.Test.YtgapdlokljcpbaaBunO
import Derived.Test.YtgapdlokljcpbaaBunC
import Derived.Test.YtgapdlokljcpbaaBunA
import Derived.Test.YtgapdlokljcpbaaBunF
import Derived.Test.YtgapdlokljcpbaaTwice
import Derived.Laws.Concat
/- A part of a grid, by its contract. -/
namespace Go.Proofs.Ytgapdlokljcpbaa
open Go.RowKit Go.Shelf
attribute [local go_sem] Oper.semAt_some

/-- The letters of the part. -/
def partVal (m m1 a l : Nat) (ls : List UInt8) (k : Nat) : UInt8 := ls.getD ((a + k / m1) * m + (l + k % m1)) 0

end Go.Proofs.Ytgapdlokljcpbaa

/- The grid of two grids beside or below each other (joinedGrid), by its contract. -/
namespace Go.Proofs.Ytgapdlokljcpbaa
open Go.RowKit Go.Shelf
attribute [local go_sem] Oper.semAt_some

/-- Where a cell of a grid with m columns goes, in one with M columns, its upper left cell at row a, column l. -/
def joinPos (m M a l k : Nat) : Nat := (a + k / m) * M + (l + k % m)
/-- The letters of the grid of two. -/
def joinG (n m n' m' M a l : Nat) (ls ls' : List UInt8) : List UInt8 :=
  putAll (joinPos m' M a l) (fun k => ls'.getD k 0) (List.finRange (n' * m')) (putAll (joinPos m M 0 0) (fun k => ls.getD k 0) (List.finRange (n * m)) (pad []))

theorem own_lt {β : Type} (B b : Nat) (hb : b < B) (o : Obj) : OwnFrom B (fun (_ : β) W => W.heap[b]? = some o) := fun s W W' row hs hg hr =>
  (hg.block b (lt_of_block hs) (fun e => by have := (hr b e.symm).1; omega)).trans hs

end Go.Proofs.Ytgapdlokljcpbaa

/- GridBeside and GridUnder of the program, by their contracts. -/
namespace Go.Proofs.Ytgapdlokljcpbaa
open Go.RowKit

/-- Two grids that go beside each other; below each other. -/
def BesideIn (ss tt : List ByteArray) (n m n' m' : Nat) : Prop := IsGrid n m ss ∧ IsGrid n' m' tt ∧ n = n' ∧ m + m' ≤ 5
def UnderIn (ss tt : List ByteArray) (n m n' m' : Nat) : Prop := IsGrid n m ss ∧ IsGrid n' m' tt ∧ m = m' ∧ n + n' ≤ 5
def besideG (ss tt : List ByteArray) (n m n' m' : Nat) : List ByteArray := textsOf n (m + m') (joinG n m n' m' (m + m') 0 m (pad (flat ss)) (pad (flat tt)))
def underG (ss tt : List ByteArray) (n m n' m' : Nat) : List ByteArray := textsOf (n + n') m (joinG n m n' m' m n 0 (pad (flat ss)) (pad (flat tt)))
/-- What a function that joins two grids comes to. -/
def JoinEnd (In : List ByteArray → List ByteArray → Nat → Nat → Nat → Nat → Prop) (G : List ByteArray → List ByteArray → Nat → Nat → Nat → Nat → List ByteArray) (ss tt : List ByteArray) (w : World) (e : Ending) (w' : World) : Prop :=
  Below w.heap.size w w' ∧ ((∃ n m n' m' g, In ss tt n m n' m' ∧ w.heap.size ≤ g ∧ Row9 w' g (G ss tt n m n' m') ∧ e = .returned (.tuple #[.slice (some ⟨g, 0, none⟩) (G ss tt n m n' m').length (G ss tt n m n' m').length, .bool true])) ∨ ((∀ n m n' m', ¬ In ss tt n m n' m') ∧ e = .returned (.tuple #[.slice none 0 0, .bool false])))

end Go.Proofs.Ytgapdlokljcpbaa

/- Grids beside and below each other: the program's lists are the rows joined: plain words. -/
namespace Go.Proofs.Ytgapdlokljcpbaa
open Go.RowKit

def besideF (m m' : Nat) (fl fl' : List UInt8) (r q : Nat) : UInt8 := if q < m then fl.getD (r * m + q) 0 else fl'.getD (r * m' + (q - m)) 0
def underF (n m : Nat) (fl fl' : List UInt8) (r q : Nat) : UInt8 := if r < n then fl.getD (r * m + q) 0 else fl'.getD ((r - n) * m + q) 0

theorem beside_same {n m m' : Nat} {ss tt : List ByteArray} (h : IsGrid n m ss) (h' : IsGrid n m' tt) (h5 : m + m' ≤ 5) : besideG ss tt n m n m' = ruleG n (m + m') (besideF m m' (flat ss) (flat tt)) := by
  have hfl := h.flen
  have hfl' := h'.flen
  have hn5 := h.2.2.1
  refine rows_eq _ _ _ _ fun r hr q hq => ?_
  have hp := lt_of_parts hr hq
  have h25 : n * (m + m') ≤ 5 * 5 := Nat.mul_le_mul hn5 h5
  unfold joinG
  have hm : 1 ≤ m := h.2.2.2.1
  have hm' : 1 ≤ m' := h'.2.2.2.1
  have pos1 : ∀ x, joinPos m (m + m') 0 0 x = x / m * (m + m') + x % m := fun x => by unfold joinPos; rw [Nat.zero_add, Nat.zero_add]
  have pos2 : ∀ x, joinPos m' (m + m') 0 m x = x / m' * (m + m') + (m + x % m') := fun x => by unfold joinPos; rw [Nat.zero_add]
  have acc : (putAll (joinPos m (m + m') 0 0) (fun k => (pad (flat ss)).getD k 0) (List.finRange (n * m)) (pad [])).length = 25 := by rw [putAll_length]; rfl
  by_cases hqm : q < m
  · have hx : r * m + q < n * m := lt_of_parts hr hqm
    have hd := div_of (a := r) (m := m) (b := q) hqm
    have e1 : (putAll (joinPos m (m + m') 0 0) (fun k => (pad (flat ss)).getD k 0) (List.finRange (n * m)) (pad []))[r * (m + m') + q]? = some ((pad (flat ss)).getD (r * m + q) 0) :=
      put_all (joinPos m (m + m') 0 0) (fun k => (pad (flat ss)).getD k 0) (r * (m + m') + q) (r * m + q) hx (by omega) (by rw [pos1, hd.1, hd.2]) (fun x _ hxp => by
        rw [pos1] at hxp
        have hmod : x % m < m := Nat.mod_lt _ (by omega)
        obtain ⟨a1, a2⟩ := mul_inj hxp (by omega) hq
        have e3 := Nat.div_add_mod x m
        rw [a1, a2, Nat.mul_comm] at e3
        exact e3.symm)
    refine putAll_at _ _ _ _ _ _ (by rw [acc]; omega) (fun x _ hxp => ?_) (.inr ?_)
    · rw [pos2] at hxp
      have hmod : x.val % m' < m' := Nat.mod_lt _ (by omega)
      obtain ⟨_, a2⟩ := mul_inj hxp (by omega) hq
      omega
    · rw [e1, pad_getD _ _ (by rw [hfl]; exact hx)]
      unfold besideF
      rw [if_pos hqm]
  · have hq2 : q - m < m' := by omega
    have hx : r * m' + (q - m) < n * m' := lt_of_parts hr hq2
    have hd := div_of (a := r) (m := m') (b := q - m) hq2
    have hv : (pad (flat tt)).getD (r * m' + (q - m)) 0 = besideF m m' (flat ss) (flat tt) r q := by
      rw [pad_getD _ _ (by rw [hfl']; exact hx)]
      unfold besideF
      rw [if_neg hqm]
    refine putAll_at _ _ _ _ _ _ (by rw [acc]; omega) (fun x _ hxp => ?_) (.inl ⟨⟨r * m' + (q - m), hx⟩, List.mem_finRange _, ?_⟩)
    · rw [pos2] at hxp
      have hmod : x.val % m' < m' := Nat.mod_lt _ (by omega)
      obtain ⟨a1, a2⟩ := mul_inj hxp (by omega) hq
      have e3 := Nat.div_add_mod x.val m'
      rw [a1, Nat.mul_comm] at e3
      have e4 : x.val = r * m' + (q - m) := by omega
      rw [e4]; exact hv
    · show joinPos m' (m + m') 0 m (r * m' + (q - m)) = _
      rw [pos2, hd.1, hd.2]; omega
theorem under_same {n n' m : Nat} {ss tt : List ByteArray} (h : IsGrid n m ss) (h' : IsGrid n' m tt) (h5 : n + n' ≤ 5) : underG ss tt n m n' m = ruleG (n + n') m (underF n m (flat ss) (flat tt)) := by
  have hfl := h.flen
  have hfl' := h'.flen
  have hm5 := h.2.2.2.2.1
  refine rows_eq _ _ _ _ fun r hr q hq => ?_
  have hp := lt_of_parts hr hq
  have h25 : (n + n') * m ≤ 5 * 5 := Nat.mul_le_mul h5 hm5
  unfold joinG
  have hm : 1 ≤ m := h.2.2.2.1
  have pos1 : ∀ x, joinPos m m 0 0 x = x / m * m + x % m := fun x => by unfold joinPos; rw [Nat.zero_add, Nat.zero_add]
  have pos2 : ∀ x, joinPos m m n 0 x = (n + x / m) * m + x % m := fun x => by unfold joinPos; rw [Nat.zero_add]
  have acc : (putAll (joinPos m m 0 0) (fun k => (pad (flat ss)).getD k 0) (List.finRange (n * m)) (pad [])).length = 25 := by rw [putAll_length]; rfl
  by_cases hrn : r < n
  · have hx : r * m + q < n * m := lt_of_parts hrn hq
    have hd := div_of (a := r) (m := m) (b := q) hq
    have e1 : (putAll (joinPos m m 0 0) (fun k => (pad (flat ss)).getD k 0) (List.finRange (n * m)) (pad []))[r * m + q]? = some ((pad (flat ss)).getD (r * m + q) 0) :=
      put_all (joinPos m m 0 0) (fun k => (pad (flat ss)).getD k 0) (r * m + q) (r * m + q) hx (by omega) (by rw [pos1, hd.1, hd.2]) (fun x _ hxp => by
        rw [pos1, Nat.mul_comm, Nat.div_add_mod] at hxp
        exact hxp)
    refine putAll_at _ _ _ _ _ _ (by rw [acc]; omega) (fun x _ hxp => ?_) (.inr ?_)
    · rw [pos2] at hxp
      have hmod : x.val % m < m := Nat.mod_lt _ (by omega)
      obtain ⟨a1, _⟩ := mul_inj hxp hmod hq
      have : n ≤ n + x.val / m := Nat.le_add_right _ _
      exact absurd hrn (Nat.not_lt.2 (a1 ▸ this))
    · rw [e1, pad_getD _ _ (by rw [hfl]; exact hx)]
      unfold underF
      rw [if_pos hrn]
  · have hx : (r - n) * m + q < n' * m := lt_of_parts (by omega) hq
    have hd := div_of (a := r - n) (m := m) (b := q) hq
    have hv : (pad (flat tt)).getD ((r - n) * m + q) 0 = underF n m (flat ss) (flat tt) r q := by
      rw [pad_getD _ _ (by rw [hfl']; exact hx)]
      unfold underF
      rw [if_neg hrn]
    refine putAll_at _ _ _ _ _ _ (by rw [acc]; omega) (fun x _ hxp => ?_) (.inl ⟨⟨(r - n) * m + q, hx⟩, List.mem_finRange _, ?_⟩)
    · rw [pos2] at hxp
      have hmod : x.val % m < m := Nat.mod_lt _ (by omega)
      obtain ⟨a1, a2⟩ := mul_inj hxp hmod hq
      have e3 := Nat.div_add_mod x.val m
      obtain ⟨y, hy⟩ : ∃ y, x.val / m = y := ⟨_, rfl⟩
      rw [hy] at a1 e3
      obtain rfl : y = r - n := by omega
      rw [a2, Nat.mul_comm] at e3
      rw [← e3]; exact hv
    · show joinPos m m n 0 ((r - n) * m + q) = _
      rw [pos2, hd.1, hd.2, show n + (r - n) = r by omega]

/-- The rows of a grid by the rule. -/
theorem grid_row {n m r : Nat} {ss : List ByteArray} {s : ByteArray} (h : IsGrid n m ss) (hs : ss[r]? = some s) : s = ⟨(ruleL m fun q => (flat ss).getD (r * m + q) 0).toArray⟩ := by
  have hr : r < n := by rw [← h.1]; exact (List.getElem?_eq_some_iff.1 hs).1
  have e := rule_at (n := n) (m := m) (f := fun r q => (flat ss).getD (r * m + q) 0) hr
  rw [grid_rule h, hs] at e
  exact Option.some.inj e
theorem ruleL_add (a b : Nat) (f : Nat → UInt8) : ruleL (a + b) f = ruleL a f ++ ruleL b (fun q => f (a + q)) := by
  unfold ruleL
  rw [List.range_add, List.map_append, List.map_map]
  rfl
theorem ruleL_congr {a : Nat} {f g : Nat → UInt8} (h : ∀ q, q < a → f q = g q) : ruleL a f = ruleL a g := by
  unfold ruleL
  exact List.map_congr_left fun q hq => h q (List.mem_range.1 hq)
theorem beside_row {n m m' r : Nat} {ss tt : List ByteArray} {s s' : ByteArray} (h : IsGrid n m ss) (h' : IsGrid n m' tt) (hs : ss[r]? = some s) (hs' : tt[r]? = some s') :
    s ++ s' = ⟨(ruleL (m + m') (besideF m m' (flat ss) (flat tt) r)).toArray⟩ := by
  rw [grid_row h hs, grid_row h' hs', ByteArray.mk_append_mk, ruleL_add]
  congr 3
  · refine ruleL_congr fun q hq => ?_
    unfold besideF
    rw [if_pos hq]
  · refine ruleL_congr fun q hq => ?_
    unfold besideF
    rw [if_neg (by omega), show m + q - m = q by omega]
theorem under_rows {n n' m : Nat} {ss tt : List ByteArray} (h : IsGrid n m ss) (h' : IsGrid n' m tt) : ss ++ tt = ruleG (n + n') m (underF n m (flat ss) (flat tt)) := by
  unfold ruleG
  rw [List.range_add, List.map_append, List.map_map]
  congr 1
  · conv => lhs; rw [← grid_rule h]
    unfold ruleG
    refine List.map_congr_left fun r hr => ?_
    congr 2
    refine ruleL_congr fun q _ => ?_
    unfold underF
    rw [if_pos (List.mem_range.1 hr)]
  · conv => lhs; rw [← grid_rule h']
    unfold ruleG
    refine List.map_congr_left fun r hr => ?_
    simp only [Function.comp]
    congr 2
    refine ruleL_congr fun q _ => ?_
    unfold underF
    rw [if_neg (by omega), show n + r - n = r by omega]

/-- The outcome of a function that joins two grids. -/
def JoinOut (In : List ByteArray → List ByteArray → Nat → Nat → Nat → Nat → Prop) (G : List ByteArray → List ByteArray → Nat → Nat → Nat → Nat → List ByteArray) (ss tt : List ByteArray) (ok : Bool) (res : List ByteArray) : Prop :=
  (∃ n m n' m', In ss tt n m n' m' ∧ ok = true ∧ res = G ss tt n m n' m') ∨ ((∀ n m n' m', ¬ In ss tt n m n' m') ∧ ok = false ∧ res = [])
theorem joinOut_uniq {In : List ByteArray → List ByteArray → Nat → Nat → Nat → Nat → Prop} {G : List ByteArray → List ByteArray → Nat → Nat → Nat → Nat → List ByteArray} {ss tt : List ByteArray} {ok ok' : Bool} {res res' : List ByteArray}
    (hIn : ∀ n m n' m', In ss tt n m n' m' → IsGrid n m ss ∧ IsGrid n' m' tt) (h : JoinOut In G ss tt ok res) (h' : JoinOut In G ss tt ok' res') : ok' = ok ∧ res' = res := by
  rcases h with ⟨n, m, n', m', hg, rfl, rfl⟩ | ⟨hn, rfl, rfl⟩ <;> rcases h' with ⟨a, b, a', b', hg', rfl, rfl⟩ | ⟨hn', rfl, rfl⟩
  · obtain ⟨g1, g2⟩ := hIn _ _ _ _ hg
    obtain ⟨k1, k2⟩ := hIn _ _ _ _ hg'
    obtain ⟨rfl, rfl⟩ := g1.uniq k1
    obtain ⟨rfl, rfl⟩ := g2.uniq k2
    exact ⟨rfl, rfl⟩
  · exact absurd hg (hn' _ _ _ _)
  · exact absurd hg' (hn _ _ _ _)
  · exact ⟨rfl, rfl⟩
def BesideOut := JoinOut BesideIn besideG
def UnderOut := JoinOut UnderIn underG
theorem BesideOut.uniq {ss tt : List ByteArray} {ok ok' : Bool} {res res' : List ByteArray} (h : BesideOut ss tt ok res) (h' : BesideOut ss tt ok' res') : ok' = ok ∧ res' = res :=
  joinOut_uniq (fun _ _ _ _ h => ⟨h.1, h.2.1⟩) h h'
theorem UnderOut.uniq {ss tt : List ByteArray} {ok ok' : Bool} {res res' : List ByteArray} (h : UnderOut ss tt ok res) (h' : UnderOut ss tt ok' res') : ok' = ok ∧ res' = res :=
  joinOut_uniq (fun _ _ _ _ h => ⟨h.1, h.2.1⟩) h h'
theorem BesideOut.len {ss tt : List ByteArray} {ok : Bool} {res : List ByteArray} (h : BesideOut ss tt ok res) : res.length ≤ 1048576 := by
  rcases h with ⟨n, m, n', m', hg, _, rfl⟩ | ⟨_, _, rfl⟩
  · have h1 := hg.1.2.2.1
    unfold besideG
    rw [textsOf_length]; omega
  · simp
theorem UnderOut.len {ss tt : List ByteArray} {ok : Bool} {res : List ByteArray} (h : UnderOut ss tt ok res) : res.length ≤ 1048576 := by
  rcases h with ⟨n, m, n', m', hg, _, rfl⟩ | ⟨_, _, rfl⟩
  · have h1 := hg.2.2.2
    unfold underG
    rw [textsOf_length]; omega
  · simp
theorem joinEnd_open {In : List ByteArray → List ByteArray → Nat → Nat → Nat → Nat → Prop} {G : List ByteArray → List ByteArray → Nat → Nat → Nat → Nat → List ByteArray} {ss tt : List ByteArray} {w w' : World} {e : Ending} (h : JoinEnd In G ss tt w e w') :
    ∃ A res ok, e = .returned (.tuple #[.slice A res.length res.length, .bool ok]) ∧ JoinOut In G ss tt ok res ∧ Own2 w' w.heap.size A res ∧ Below w.heap.size w w' := by
  obtain ⟨hb, ⟨n, m, n', m', g, hg, hlo, hrow, rfl⟩ | ⟨hn, rfl⟩⟩ := h
  · exact ⟨_, _, true, rfl, .inl ⟨n, m, n', m', hg, rfl, rfl⟩, .inr ⟨g, rfl, hlo, hrow⟩, hb⟩
  · exact ⟨none, [], false, rfl, .inr ⟨hn, rfl, rfl⟩, .inl ⟨rfl, rfl⟩, hb⟩

end Go.Proofs.Ytgapdlokljcpbaa

/- GridPart of the program, by its contract. -/
namespace Go.Proofs.Ytgapdlokljcpbaa
open Go.RowKit Go.Shelf

/-- What GridPart takes. -/
def PartIn (ss : List ByteArray) (t lo le ri : Int) (n m a n1 l m1 : Nat) : Prop :=
  IsGrid n m ss ∧ t = (a : Int) ∧ lo = ((a + n1 : Nat) : Int) - 1 ∧ le = (l : Int) ∧ ri = ((l + m1 : Nat) : Int) - 1 ∧ 1 ≤ n1 ∧ a + n1 ≤ n ∧ 1 ≤ m1 ∧ l + m1 ≤ m
def partF (m a l : Nat) (fl : List UInt8) (r q : Nat) : UInt8 := fl.getD ((a + r) * m + (l + q)) 0
def PartOut (ss : List ByteArray) (t lo le ri : Int) (ok : Bool) (res : List ByteArray) : Prop :=
  (∃ n m a n1 l m1, PartIn ss t lo le ri n m a n1 l m1 ∧ ok = true ∧ res = ruleG n1 m1 (partF m a l (flat ss))) ∨ ((∀ n m a n1 l m1, ¬ PartIn ss t lo le ri n m a n1 l m1) ∧ ok = false ∧ res = [])
theorem PartOut.uniq {ss : List ByteArray} {t lo le ri : Int} {ok ok' : Bool} {res res' : List ByteArray} (h : PartOut ss t lo le ri ok res) (h' : PartOut ss t lo le ri ok' res') : ok' = ok ∧ res' = res := by
  rcases h with ⟨n, m, a, n1, l, m1, hg, rfl, rfl⟩ | ⟨hn, rfl, rfl⟩ <;> rcases h' with ⟨n', m', a', n1', l', m1', hg', rfl, rfl⟩ | ⟨hn', rfl, rfl⟩
  · obtain ⟨g1, g2, g3, g4, g5, _, _, _, _⟩ := hg
    obtain ⟨k1, k2, k3, k4, k5, _, _, _, _⟩ := hg'
    obtain ⟨rfl, rfl⟩ := g1.uniq k1
    obtain rfl : a = a' := by omega
    obtain rfl : l = l' := by omega
    obtain rfl : n1 = n1' := by omega
    obtain rfl : m1 = m1' := by omega
    exact ⟨rfl, rfl⟩
  · exact absurd hg (hn' _ _ _ _ _ _)
  · exact absurd hg' (hn _ _ _ _ _ _)
  · exact ⟨rfl, rfl⟩
theorem PartOut.len {ss : List ByteArray} {t lo le ri : Int} {ok : Bool} {res : List ByteArray} (h : PartOut ss t lo le ri ok res) : res.length ≤ 1048576 := by
  rcases h with ⟨n, m, a, n1, l, m1, hg, _, rfl⟩ | ⟨_, _, rfl⟩
  · have h1 := hg.1.2.2.1
    have h2 := hg.2.2.2.2.2.2.1
    rw [ruleG_length]; omega
  · simp
theorem part_same {n m a n1 l m1 : Nat} {ss : List ByteArray} (h : IsGrid n m ss) (h1 : a + n1 ≤ n) (h2 : l + m1 ≤ m) : textsOf n1 m1 (putAll samePos (partVal m m1 a l (pad (flat ss))) (List.finRange (n1 * m1)) (pad [])) = ruleG n1 m1 (partF m a l (flat ss)) := by
  have hfl := h.flen
  have hn5 := h.2.2.1
  have hm5 := h.2.2.2.2.1
  refine rows_eq _ _ _ _ fun r hr q hq => ?_
  have hp := lt_of_parts hr hq
  have h25 : n1 * m1 ≤ 5 * 5 := Nat.mul_le_mul (by omega) (by omega)
  have hx : (a + r) * m + (l + q) < n * m := lt_of_parts (by omega) (by omega)
  have hd := div_of (a := r) (m := m1) (b := q) hq
  rw [put_all samePos (partVal m m1 a l (pad (flat ss))) (r * m1 + q) (r * m1 + q) hp (by omega) rfl (fun x _ hx => hx)]
  unfold partVal partF
  rw [hd.1, hd.2, pad_getD _ _ (by rw [hfl]; exact hx)]

end Go.Proofs.Ytgapdlokljcpbaa

/- The grid that a number tells: plain words. -/
namespace Go.Proofs.Ytgapdlokljcpbaa
open Go.RowKit

/-- The letter of a digit. -/
def letD (d : Nat) : UInt8 := if d = 0 then 46 else if d = 1 then 114 else 102
/-- The letters of the cells below c. -/
def ofL (k c : Nat) : List UInt8 := (List.range c).map fun j => letD (k / 3 ^ j % 3)
def ofF (m k : Nat) (r q : Nat) : UInt8 := letD (k / 3 ^ (r * m + q) % 3)
theorem ofL_length (k c : Nat) : (ofL k c).length = c := by simp [ofL]
theorem ofL_succ (k c : Nat) : ofL k (c + 1) = ofL k c ++ [letD (k / 3 ^ c % 3)] := by simp [ofL, List.range_succ]
theorem pad_ofL (k c : Nat) (hc : c < 25) : (pad (ofL k c)).set c (letD (k / 3 ^ c % 3)) = pad (ofL k (c + 1)) := by
  have h := pad_set (l := ofL k c) (b := letD (k / 3 ^ c % 3)) (by rw [ofL_length]; exact hc)
  rw [ofL_length] at h
  rw [h, ofL_succ]
theorem of_same (n m k : Nat) : textsOf n m (pad (ofL k (n * m))) = ruleG n m (ofF m k) := by
  refine rows_eq _ _ _ _ fun r hr q hq => ?_
  have hp := lt_of_parts hr hq
  rw [pad, List.getElem?_append_left (by rw [ofL_length]; exact hp)]
  simp [ofL, ofF, hp]
theorem div_pow (k c : Nat) : k / 3 ^ (c + 1) = k / 3 ^ c / 3 := by rw [Nat.pow_succ, Nat.div_div_eq_div_mul]
theorem digit3 (x : Nat) : x % 3 = 0 ∨ x % 3 = 1 ∨ x % 3 = 2 := by omega
/-- What the program and the specification take. -/
def OfIn (a b x : Int) (n m k : Nat) : Prop := a = n ∧ b = m ∧ x = k ∧ 1 ≤ n ∧ n ≤ 5 ∧ 1 ≤ m ∧ m ≤ 5 ∧ k < 3 ^ (n * m)
theorem OfIn.le25 {a b x : Int} {n m k : Nat} (h : OfIn a b x n m k) : n * m ≤ 25 := Nat.mul_le_mul h.2.2.2.2.1 h.2.2.2.2.2.2.1
def OfNone (a b x : Int) : Prop := ∀ n m k, ¬ OfIn a b x n m k
theorem OfIn.uniq {a b x : Int} {n m k n' m' k' : Nat} (h : OfIn a b x n m k) (h' : OfIn a b x n' m' k') : n = n' ∧ m = m' ∧ k = k' := by
  obtain ⟨rfl, rfl, rfl, _⟩ := h
  obtain ⟨h1, h2, h3, _⟩ := h'
  exact ⟨by omega, by omega, by omega⟩
/-- The outcome and the list. -/
def OfOut (a b x : Int) (ok : Bool) (res : List ByteArray) : Prop :=
  (∃ n m k, OfIn a b x n m k ∧ ok = true ∧ res = ruleG n m (ofF m k)) ∨ (OfNone a b x ∧ ok = false ∧ res = [])
theorem OfOut.uniq {a b x : Int} {ok ok' : Bool} {res res' : List ByteArray} (h : OfOut a b x ok res) (h' : OfOut a b x ok' res') : ok' = ok ∧ res' = res := by
  rcases h with ⟨n, m, k, hg, rfl, rfl⟩ | ⟨hn, rfl, rfl⟩ <;> rcases h' with ⟨n', m', k', hg', rfl, rfl⟩ | ⟨hn', rfl, rfl⟩
  · obtain ⟨rfl, rfl, rfl⟩ := hg.uniq hg'
    exact ⟨rfl, rfl⟩
  · exact absurd hg (hn' _ _ _)
  · exact absurd hg' (hn _ _ _)
  · exact ⟨rfl, rfl⟩
theorem OfOut.len {a b x : Int} {ok : Bool} {res : List ByteArray} (h : OfOut a b x ok res) : res.length ≤ 1048576 := by
  rcases h with ⟨n, m, k, hg, _, rfl⟩ | ⟨_, _, rfl⟩
  · have h1 := hg.2.2.2.2.1
    rw [ruleG_length]; omega
  · simp

end Go.Proofs.Ytgapdlokljcpbaa

/- numberedGrid and GridOf of the program, by their contracts. -/
namespace Go.Proofs.Ytgapdlokljcpbaa
open Go.RowKit Go.Shelf
attribute [local go_sem] Oper.semAt_some

def NumEnd (a b x : Int) (w : World) (e : Ending) (w' : World) : Prop :=
  Below w.heap.size w w' ∧ ((∃ n m k, OfIn a b x n m k ∧ e = .returned (.tuple #[.agg (gcells n m (pad (ofL k (n * m)))), .bool true])) ∨ (OfNone a b x ∧ e = .returned (.tuple #[.agg zeroG, .bool false])))

def NumRelI (n m k N : Nat) (w : World) (x i : Value) (wr : World) : Prop :=
  ∃ c : Nat, c ≤ N ∧ i = .int .i64 c ∧ x = .int .i64 ((k / 3 ^ c : Nat) : Int) ∧ wr.heap[w.heap.size]? = some (.cells zeroG 54 (0, 0)) ∧ wr.heap[w.heap.size + 1]? = some (.cells (gcells n m (pad (ofL k c))) 54 (0, 0)) ∧ Below w.heap.size w wr

set_option maxRecDepth 100000 in
set_option maxHeartbeats 2000000 in
theorem numberedGrid_any (a b x : Int) (w : World) (hx : x ≤ 9223372036854775807) :
    Calls Try.prog 113 #[.int .i64 a, .int .i64 b, .int .i64 x] w (NumEnd a b x w) := by
  have g1 := hid (sideIn_any a)
  have g2 := hid (sideIn_any b)
  refine (callsIn_wide (n := 3)).1 ?_
  refine callsIn_of_wp Try.func113 rfl trivial ?_ rfl
  simp only [Try.ntmps113, List.size_toArray, List.length_cons, List.length_nil, Nat.reduceAdd, Nat.reduceSub, Array.replicate_succ, Array.replicate_zero, List.push_toArray, List.append_toArray, List.nil_append, List.cons_append]
  gi_wp2_with fail
  refine ⟨trivial, callsIn_wide.2 ((g1.out _).mono ?_)⟩
  rintro e w' ⟨rfl, rfl⟩
  by_cases ha : 1 ≤ a ∧ a ≤ 5
  · rw [show decide (1 ≤ a ∧ a ≤ 5) = true by simpa using ha]
    have HA := hid ha
    clear ha
    gi_wp2_with fail
    refine ⟨trivial, callsIn_wide.2 ((g2.out _).mono ?_)⟩
    rintro e w' ⟨rfl, rfl⟩
    by_cases hb : 1 ≤ b ∧ b ≤ 5
    · rw [show decide (1 ≤ b ∧ b ≤ 5) = true by simpa using hb]
      have HB := hid hb
      clear hb
      by_cases hx0 : x < 0
      · have HNo := hid (show OfNone a b x from fun n m k h => by have h3 := h.2.2.1; omega)
        gi_wp2_with (refine wpListIn_store_row (Open.wide _) rfl 54 _ _ rfl w.heap.size zeroG rfl rfl 54 zeroG (heap_new0 w _) Try.size_grid rfl (gcells_one 0 0 (pad [])) ?_)
        refine bodyPost_ret (results_row_tmp Try.results113 _ w.heap.size 54 zeroG (0, 0) _ (by rfl) (setRow_heap _ _ _ _ _ _ (heap_new0 w _)) Try.underlying54 rfl Try.size_grid) rfl ?_
        exact ⟨below_setRow' ((Below.refl _ w).alloc (Nat.le_refl _) _) (Nat.le_refl _) _, .inr ⟨HNo.out, rfl⟩⟩
      · obtain ⟨n, rfl⟩ : ∃ n : Nat, a = n := ⟨a.toNat, by have := HA.out.1; omega⟩
        obtain ⟨m, rfl⟩ : ∃ m : Nat, b = m := ⟨b.toNat, by have := HB.out.1; omega⟩
        obtain ⟨k, rfl⟩ : ∃ k : Nat, x = k := ⟨x.toNat, by omega⟩
        have hn1 : 1 ≤ n := by have := HA.out.1; omega
        have hn5 : n ≤ 5 := by have := HA.out.2; omega
        have hm1 : 1 ≤ m := by have := HB.out.1; omega
        have hm5 : m ≤ 5 := by have := HB.out.2; omega
        have hk0 : decide ((k : Int) < 0) = false := by simp
        obtain ⟨N, hN⟩ : ∃ N, n * m = N := ⟨_, rfl⟩
        have hN25 : N ≤ 5 * 5 := by rw [← hN]; exact Nat.mul_le_mul hn5 hm5
        have HN := hid hN
        have hpl : ∀ c, c ≤ 25 → (pad (ofL k c)).length = 25 := fun c hc => pad_length (by rw [ofL_length]; exact hc)
        have HPL := hid hpl
        have HG := hid (show ∀ c, c ≤ 25 → (Try.prog.info? 54).map (·.size) = some (gcells n m (pad (ofL k c))).size from fun c hc => by rw [gcells_size (hpl c hc)]; exact Try.size_grid)
        have HSz := hid (size_any n m (pad (ofL k 0)))
        clear hpl hN
        gi_wp2_with (first
          | refine wpListIn_store_row (Open.wide _) rfl 54 _ _ rfl (w.heap.size + 1) (gcells n m (pad (ofL k 0))) rfl rfl 54 zeroG (by simpa using heap_new0 (w.alloc _) _) (HG.out 0 (by omega)) (by rw [gcells_size (HPL.out 0 (by omega))]; rfl) (gcells_one _ _ _) ?_
          | refine wpListIn_load_row (Open.wide _) rfl 54 _ rfl (w.heap.size + 1) rfl 54 (gcells n m (pad (ofL k 0))) (0, 0) _ (setRow_heap _ _ zeroG _ _ _ (by simpa using heap_new0 (w.alloc _) _)) Try.underlying54 rfl (HG.out 0 (by omega)) ?_)
        have HW := hid (show Below w.heap.size w (((w.alloc (.cells zeroG 54)).alloc (.cells zeroG 54)).setRow (w.heap.size + 1) (gcells n m (pad (ofL k 0)))) from
          below_setRow' (((Below.refl _ w).alloc (Nat.le_refl _) _).alloc (by simp) _) (by omega) _)
        have HZ := hid (show (((w.alloc (.cells zeroG 54)).alloc (.cells zeroG 54)).setRow (w.heap.size + 1) (gcells n m (pad (ofL k 0)))).heap[w.heap.size]? = some (.cells zeroG 54 (0, 0)) by
          rw [setRow_other _ _ _ _ (by omega)]; exact heap_new1 w _ _)
        have HR := hid (show (((w.alloc (.cells zeroG 54)).alloc (.cells zeroG 54)).setRow (w.heap.size + 1) (gcells n m (pad (ofL k 0)))).heap[w.heap.size + 1]? = some (.cells (gcells n m (pad (ofL k 0))) 54 (0, 0)) from
          setRow_heap _ _ zeroG _ _ _ (by simpa using heap_new0 (w.alloc _) _))
        generalize World.setRow _ _ _ = W0 at HW HZ HR
        refine ⟨trivial, callsIn_wide.2 ((HSz.out W0 hn5 hm5).mono ?_)⟩
        rintro e w1 ⟨rfl, hb1⟩
        have HB1 := hid (HW.out.trans (hb1.mono HW.out.size))
        have HZ1 := hid ((hb1.block _ (lt_of_block HZ.out)).trans HZ.out)
        have HR1 := hid ((hb1.block _ (lt_of_block HR.out)).trans HR.out)
        have hNi : ((n * m : Nat) : Int) = (N : Int) := by rw [HN.out]
        rw [hNi]
        clear hb1 hNi
        gi_wp2
        gi_loopw [2, 29] (NumRelI n m k N w) (fun _ i _ => N - (intOf i).toNat)
        case atStart => exact ⟨0, Nat.zero_le _, rfl, by simp, HZ1.out, HR1.out, HB1.out⟩
        case round =>
          obtain ⟨c, hc, rfl, rfl, hz, hr, hbel⟩ := hrel
          have HZ2 := hid hz
          have HR2 := hid hr
          have HB2 := hid hbel
          clear hz hr hbel
          obtain ⟨kc, hkc⟩ : ∃ kc, k / 3 ^ c = kc := ⟨_, rfl⟩
          have hkk : kc ≤ k := by rw [← hkc]; exact Nat.div_le_self _ _
          have HK := hid hkc
          rw [hkc]
          clear hkc
          by_cases hlt : c < N
          · have hc25 : c < 25 := by omega
            have hci : (c : Int) < 25 := by omega
            have hci0 : 0 ≤ (c : Int) := by omega
            obtain ⟨dd, hdd⟩ : ∃ dd, kc % 3 = dd := ⟨_, rfl⟩
            have hd3 : dd = 0 ∨ dd = 1 ∨ dd = 2 := by omega
            have hdi : (kc : Int) % 3 = (dd : Int) := by omega
            have hdi' : (kc : Int).tmod 3 = (dd : Int) := by rw [Int.tmod_eq_emod_of_nonneg (by omega)]; exact hdi
            have HDD := hid hdd
            have HD3 := hid hd3
            clear hdd hd3
            have hq5 : c / m < 5 := by
              have : c / m < n := by rw [Nat.div_lt_iff_lt_mul (by omega), HN.out]; exact hlt
              omega
            have hdm : c / m * m + c % m = c := by rw [Nat.mul_comm]; exact Nat.div_add_mod c m
            obtain ⟨qn, hqn⟩ : ∃ qn, c / m = qn := ⟨_, rfl⟩
            obtain ⟨rn, hrn⟩ : ∃ rn, c % m = rn := ⟨_, rfl⟩
            rw [hqn, hrn] at hdm
            rw [hqn] at hq5
            have hde : (qn : Int) * (m : Int) + (rn : Int) = (c : Int) := by rw [← hdm, Int.natCast_add, Int.natCast_mul]
            have hpl : ∀ w', Cls wr w' → Calls Try.prog 74 #[.agg (gcells n m (pad (ofL k c))), .int .i64 c] w' fun e w'' => e = .returned (.agg #[.int .i64 (qn : Int), .int .i64 (rn : Int)]) ∧ Cls wr w'' := fun w' hw => by
              have h := place_any n m c (pad (ofL k c)) w' hm1 hm5 hc25
              rw [hqn, hrn] at h
              exact h.mono fun e w'' ⟨he, hb'⟩ => ⟨he, hw.trans (hb'.mono hw.size)⟩
            have hwi : ∀ w', Cls wr w' → Calls Try.prog 73 #[.agg (gcells n m (pad (ofL k c))), .agg #[.int .i64 (qn : Int), .int .i64 (rn : Int)], .int .u8 (letD dd).toNat] w' fun e w'' => e = .returned (.agg (gcells n m (pad (ofL k (c + 1))))) ∧ Cls wr w'' := fun w' hw => by
              have h := with_any n m (pad (ofL k c)) qn rn c (letD dd) w' (HPL.out c (by omega)) hc25 hde ⟨by omega, by omega⟩ hm5
              have e := pad_ofL k c hc25
              rw [HK.out, HDD.out] at e
              rw [e] at h
              exact h.mono fun e w'' ⟨he, hb'⟩ => ⟨he, hw.trans (hb'.mono hw.size)⟩
            have hrow : ∀ w', Cls wr w' → w'.heap[w.heap.size + 1]? = some (.cells (gcells n m (pad (ofL k c))) 54 (0, 0)) := fun w' hw => (hw.block _ (lt_of_block HR2.out)).trans HR2.out
            have HPC := hid hpl
            have HWI := hid hwi
            have HRW := hid hrow
            have hkd : kc / 3 ≤ k := Nat.le_trans (Nat.div_le_self _ _) hkk
            obtain ⟨kd, hkdd⟩ : ∃ kd, kc / 3 = kd := ⟨_, rfl⟩
            have hki : (kc : Int) / 3 = (kd : Int) := by omega
            have hki' : (kc : Int).tdiv 3 = (kd : Int) := by rw [Int.tdiv_eq_ediv_of_nonneg (by omega)]; exact hki
            have HKD := hid (show k / 3 ^ (c + 1) = kd by rw [div_pow, HK.out, hkdd])
            clear hqn hrn hdm hde hpl hwi hrow hkdd hkd
            gi_wp2
            refine wpIn_region_quiet_tail (Open.wide _) 9 (Cls wr) (by kernel_rfl) (by kernel_rfl) (Below.refl _ wr).drew ?_
            simp only [List.take_succ_cons, List.take_zero, List.drop_succ_cons, List.drop_zero]
            refine wpQuiet_load_row rfl 54 _ rfl (w.heap.size + 1) rfl 54 _ (0, 0) _ HRW.out Try.underlying54 rfl (HG.out c (by omega)) ?_
            refine wpQuiet_load_row rfl 54 _ rfl (w.heap.size + 1) rfl 54 _ (0, 0) _ HRW.out Try.underlying54 rfl (HG.out c (by omega)) ?_
            quiet_step ((intro _; rfl))
            refine wpQuiet_call rfl 74 #[.agg (gcells n m (pad (ofL k c))), .int .i64 c] (.agg #[.int .i64 (qn : Int), .int .i64 (rn : Int)]) (fun w _ => by go_simp) HPC.out ?_
            quiet_step ((intro _; rfl))
            quiet_step ((intro _; rfl))
            refine wpQuiet_value rfl (.int .i64 (dd : Int)) (fun w _ => by go_simp) ?_
            refine wpQuiet_value rfl (.int .u8 (letD dd).toNat) (fun w _ => by
              rcases HD3.out with rfl | rfl | rfl <;> go_simp <;> rfl) ?_
            refine wpQuiet_call rfl 73 #[.agg (gcells n m (pad (ofL k c))), .agg #[.int .i64 (qn : Int), .int .i64 (rn : Int)], .int .u8 (letD dd).toNat] (.agg (gcells n m (pad (ofL k (c + 1))))) (fun w _ => by go_simp) HWI.out ?_
            refine wpQuiet_nil ?_
            intro w2 hw2
            have HZ3 := hid ((hw2.block _ (lt_of_block HZ2.out)).trans HZ2.out)
            have HR3 := hid (HRW.out w2 hw2)
            have HB3 := hid (HB2.out.trans (hw2.mono HB2.out.size))
            clear hw2
            gi_wp2_with (refine wpListIn_store_row (Open.wide _) rfl 54 _ _ rfl (w.heap.size + 1) (gcells n m (pad (ofL k (c + 1)))) rfl rfl 54 (gcells n m (pad (ofL k c))) HR3.out (HG.out (c + 1) (by omega)) (by rw [gcells_size (HPL.out c (by omega)), gcells_size (HPL.out (c + 1) (by omega))]) (gcells_one _ _ _) ?_)
            go_roundw
            case rel =>
              refine ⟨c + 1, by omega, by go_num, by rw [HKD.out], ?_, setRow_heap _ _ _ _ _ _ HR3.out, below_setRow' HB3.out (by omega) _⟩
              rw [setRow_other _ _ _ _ (by omega)]; exact HZ3.out
            case measure => simp [intOf]; omega
          · obtain rfl : c = N := by omega
            by_cases hkz : 0 < kc
            · have HNo := hid (show OfNone n m k from fun n' m' k' h => by
                obtain ⟨h1, h2, h3, _, _, _, _, h8⟩ := h
                obtain rfl : n' = n := by omega
                obtain rfl : m' = m := by omega
                obtain rfl : k' = k := by omega
                rw [HN.out] at h8
                have := HK.out
                rw [Nat.div_eq_of_lt h8] at this
                omega)
              gi_wp2_with (refine wpListIn_store_row (Open.wide _) rfl 54 _ _ rfl w.heap.size zeroG rfl rfl 54 zeroG HZ2.out Try.size_grid rfl (gcells_one 0 0 (pad [])) ?_)
              refine bodyPost_ret (results_row_tmp Try.results113 _ w.heap.size 54 zeroG (0, 0) _ (by rfl) (setRow_heap _ _ _ _ _ _ HZ2.out) Try.underlying54 rfl Try.size_grid) rfl ?_
              exact ⟨below_setRow' HB2.out (Nat.le_refl _) _, .inr ⟨HNo.out, rfl⟩⟩
            · obtain rfl : kc = 0 := by omega
              have hlt3 : k < 3 ^ (n * m) := by
                rw [HN.out]
                have h0 := HK.out
                have hp : 0 < 3 ^ c := Nat.pow_pos (by omega)
                exact (Nat.div_eq_zero_iff_lt hp).1 h0
              have HYes := hid (show OfIn n m k n m k from ⟨rfl, rfl, rfl, hn1, hn5, hm1, hm5, hlt3⟩)
              clear hlt3
              gi_wp2_with (first
                | refine wpListIn_load_row (Open.wide _) rfl 54 _ rfl (w.heap.size + 1) rfl 54 _ (0, 0) _ HR2.out Try.underlying54 rfl (HG.out _ (by omega)) ?_
                | refine wpListIn_store_row (Open.wide _) rfl 54 _ _ rfl w.heap.size (gcells n m (pad (ofL k c))) rfl rfl 54 zeroG HZ2.out (HG.out _ (by omega)) (by rw [gcells_size (HPL.out _ (by omega))]; rfl) (gcells_one _ _ _) ?_)
              refine bodyPost_ret (results_row_tmp Try.results113 _ w.heap.size 54 _ (0, 0) _ (by rfl) (setRow_heap _ _ _ _ _ _ HZ2.out) Try.underlying54 rfl (HG.out _ (by omega))) rfl ?_
              exact ⟨below_setRow' HB2.out (Nat.le_refl _) _, .inl ⟨n, m, k, HYes.out, by rw [HN.out]; rfl⟩⟩
    · rw [show decide (1 ≤ b ∧ b ≤ 5) = false by simpa using hb]
      have HNo := hid (show OfNone a b x from fun n m k h => by have := h.2.1; have := h.2.2.2.2.2.1; have := h.2.2.2.2.2.2.1; omega)
      clear hb
      gi_wp2_with (refine wpListIn_store_row (Open.wide _) rfl 54 _ _ rfl w.heap.size zeroG rfl rfl 54 zeroG (heap_new0 w _) Try.size_grid rfl (gcells_one 0 0 (pad [])) ?_)
      refine bodyPost_ret (results_row_tmp Try.results113 _ w.heap.size 54 zeroG (0, 0) _ (by rfl) (setRow_heap _ _ _ _ _ _ (heap_new0 w _)) Try.underlying54 rfl Try.size_grid) rfl ?_
      exact ⟨below_setRow' ((Below.refl _ w).alloc (Nat.le_refl _) _) (Nat.le_refl _) _, .inr ⟨HNo.out, rfl⟩⟩
  · rw [show decide (1 ≤ a ∧ a ≤ 5) = false by simpa using ha]
    have HNo := hid (show OfNone a b x from fun n m k h => by have := h.1; have := h.2.2.2.1; have := h.2.2.2.2.1; omega)
    clear ha
    gi_wp2_with fail
    refine ⟨trivial, ?_⟩
    gi_wp2_with (refine wpListIn_store_row (Open.wide _) rfl 54 _ _ rfl w.heap.size zeroG rfl rfl 54 zeroG (heap_new0 w _) Try.size_grid rfl (gcells_one 0 0 (pad [])) ?_)
    refine bodyPost_ret (results_row_tmp Try.results113 _ w.heap.size 54 zeroG (0, 0) _ (by rfl) (setRow_heap _ _ _ _ _ _ (heap_new0 w _)) Try.underlying54 rfl Try.size_grid) rfl ?_
    exact ⟨below_setRow' ((Below.refl _ w).alloc (Nat.le_refl _) _) (Nat.le_refl _) _, .inr ⟨HNo.out, rfl⟩⟩

end Go.Proofs.Ytgapdlokljcpbaa

/- GridOf of the program and of the specification, by their contracts. -/
namespace Go.Proofs.Ytgapdlokljcpbaa
open Go.RowKit Go.Shelf

set_option maxRecDepth 100000 in
set_option maxHeartbeats 1000000 in
theorem implGridOf_any (a b x : Int) (w : World) (hx : x ≤ 9223372036854775807) :
    Calls Try.prog 57 #[.int .i64 a, .int .i64 b, .int .i64 x] w fun e w' => Below w.heap.size w w' ∧ ∃ A res ok, e = .returned (.tuple #[.slice A res.length res.length, .bool ok]) ∧ OfOut a b x ok res ∧ Own2 w' w.heap.size A res := by
  have HR := hid (numberedGrid_any a b x w hx)
  go_enter Try.func57, Try.ntmps57
  go_wp2_with fail
  refine HR.out.mono ?_
  rintro e w1 ⟨hbel, ⟨n, m, k, hg, rfl⟩ | ⟨hno, rfl⟩⟩
  · have HB := hid hbel
    have hpl : (pad (ofL k (n * m))).length = 25 := pad_length (by rw [ofL_length]; exact hg.le25)
    have HGr := hid hg
    have HS := hid (show (Try.prog.info? 54).map (·.size) = some (gcells n m (pad (ofL k (n * m)))).size by rw [gcells_size hpl]; exact Try.size_grid)
    have HZ := hid (show zeroG.size = (gcells n m (pad (ofL k (n * m)))).size by rw [gcells_size hpl]; rfl)
    have HL := hid (setRow_heap (w1.alloc (.cells zeroG 54)) w1.heap.size zeroG (gcells n m (pad (ofL k (n * m)))) 54 (0, 0) (heap_new0 w1 _))
    have HW := hid (HB.out.trans (below_setRow' ((Below.refl _ w1).alloc HB.out.size (.cells zeroG 54)) HB.out.size (gcells n m (pad (ofL k (n * m))))))
    have HT := hid (texts_any n m (pad (ofL k (n * m))) ((w1.alloc (.cells zeroG 54)).setRow w1.heap.size (gcells n m (pad (ofL k (n * m))))) hpl hg.2.2.2.2.1 hg.2.2.2.2.2.2.1)
    clear hbel hg hpl
    go_wp2_with (first
      | refine wpList_store_row rfl 54 _ _ rfl w1.heap.size (gcells n m (pad (ofL k (n * m)))) rfl rfl 54 zeroG (heap_new0 w1 _) HS.out HZ.out (gcells_one _ _ _) ?_
      | refine wpList_load_row rfl 54 _ rfl w1.heap.size rfl 54 (gcells n m (pad (ofL k (n * m)))) (0, 0) _ HL.out Try.underlying54 rfl HS.out ?_)
    generalize World.setRow _ _ _ = W0 at HL HW HT
    refine HT.out.mono ?_
    rintro e w3 ⟨rfl, hrow, hb3⟩
    have HB3 := hid (HW.out.trans (hb3.mono HW.out.size))
    have HRow := hid hrow
    clear hb3 hrow
    go_wp2_with fail
    refine bodyPost_ret (results_tmp2 rfl _ _ _) rfl ?_
    have hlen : (ruleG n m (ofF m k)).length = n := ruleG_length _ _ _
    refine ⟨HB3.out, some ⟨W0.heap.size + 1, 0, none⟩, ruleG n m (ofF m k), true, by rw [hlen]; rfl, .inl ⟨n, m, k, HGr.out, rfl, rfl⟩, .inr ⟨_, rfl, by have := HW.out.size; omega, ?_⟩⟩
    rw [← of_same]; exact HRow.out
  · have HB := hid hbel
    have HGr := hid hno
    clear hbel hno
    go_wp2_with (refine wpList_store_row rfl 54 _ _ rfl w1.heap.size zeroG rfl rfl 54 zeroG (heap_new0 w1 _) Try.size_grid rfl (gcells_one 0 0 (pad [])) ?_)
    refine bodyPost_ret (results_tmp2 rfl _ _ _) rfl ?_
    exact ⟨HB.out.trans (below_setRow' ((Below.refl _ w1).alloc HB.out.size _) HB.out.size _), none, [], false, rfl, .inr ⟨HGr.out, rfl, rfl⟩, .inl ⟨rfl, rfl⟩⟩

def PowRel (K : Nat) (x i : Value) : Prop := ∃ r : Nat, r ≤ K ∧ i = .int .i64 r ∧ x = .int .i64 ((3 ^ r : Nat) : Int)
def OutOf (n m k : Nat) (w : World) (x v i : Value) (wr : World) : Prop :=
  ∃ r : Nat, r ≤ n ∧ i = .int .i64 r ∧ x = .int .i64 ((k / 3 ^ (r * m) : Nat) : Int) ∧ GrowS wr w.heap.size v ((ruleG n m (ofF m k)).take r) ∧ Below w.heap.size w wr
def InOf (n m k r : Nat) (w wo : World) (ov : Value) (x v i : Value) (wr : World) : Prop :=
  ∃ p : Nat, p ≤ m ∧ i = .int .i64 p ∧ x = .int .i64 ((k / 3 ^ (r * m + p) : Nat) : Int) ∧ GrowB wr wo.heap.size v ((ruleL m (ofF m k r)).take p) ∧ GrowS wr w.heap.size ov ((ruleG n m (ofF m k)).take r) ∧ Below w.heap.size w wr ∧ wo.heap.size ≤ wr.heap.size

end Go.Proofs.Ytgapdlokljcpbaa
