/- Settled texts in one file. Each begins with what it holds. -/
import Derived.Test.YtminailbhgimkaaBunF
import Derived.Test.YtminailbhgimkaaBunH
import Derived.Test.YtminailbhgimkaaBunC
import Derived.Test.YtminailbhgimkaaBunD
import Derived.Test.YtminailbhgimkaaBunA
/- How often rounds go through a cell; RoundTwice of the specification and of the program. -/
namespace Go.Proofs.Ytminailbhgimkaa
open Go.RowKit Go.Shelf

def rtwiceR (n m : Nat) (t : Int → Int → UInt8) : Int × Bool := ((((List.range (n * m)).countP fun c => atN n m t c == 2 : Nat) : Int), true)

/-- How many of these cells only rounds go through. -/
def twos {K : Nat} (n m : Nat) (t : Int → Int → UInt8) (pre : List (Fin K)) : Nat := pre.countP fun x => atN n m t x.val == 2
theorem twos_snoc {K : Nat} (n m : Nat) (t : Int → Int → UInt8) (pre : List (Fin K)) (x : Fin K) : twos n m t (pre ++ [x]) = twos n m t pre + (if (atN n m t x.val == 2) = true then 1 else 0) := by
  simp [twos, List.countP_append, List.countP_cons]
theorem twos_le {K : Nat} (n m : Nat) (t : Int → Int → UInt8) (pre : List (Fin K)) : twos n m t pre ≤ pre.length := List.countP_le_length
theorem twos_all (K n m : Nat) (t : Int → Int → UInt8) : twos n m t (List.finRange K) = (List.range K).countP fun c => atN n m t c == 2 := by
  unfold twos
  have e := upto_val (N := K) (k := K) (Nat.le_refl _)
  rw [upto_all] at e
  rw [← e, List.countP_map]
  rfl

attribute [local go_sem] Oper.semAt_some
end Go.Proofs.Ytminailbhgimkaa

/- A change of a cell: its number and a closure over boxed values; what the closure makes; the exchange of a mirror; how many paths more come. -/
namespace Go.Proofs.Ytminailbhgimkaa
open Go.RowKit Go.Shelf

/-- The three blocks hold a grid, a place and a letter. -/
def MadeAt (W : World) (n m : Nat) (ls : List UInt8) (x : Wy) (b : UInt8) (g0 g1 g2 : Nat) : Prop :=
  W.heap[g0]? = some (.cells (gcells n m ls) 57 (0, 0)) ∧ W.heap[g1]? = some (.cells #[.int .i64 x.i, .int .i64 x.k] 105 (0, 0)) ∧ W.heap[g2]? = some (.cells #[.int .u8 (b.toNat : Int)] 5 (0, 0))
theorem MadeAt.below {W W' : World} {n m : Nat} {ls : List UInt8} {x : Wy} {b : UInt8} {g0 g1 g2 : Nat} (h : MadeAt W n m ls x b g0 g1 g2) (hb : Below W.heap.size W W') : MadeAt W' n m ls x b g0 g1 g2 :=
  ⟨(hb.block _ (lt_of_block h.1)).trans h.1, (hb.block _ (lt_of_block h.2.1)).trans h.2.1, (hb.block _ (lt_of_block h.2.2)).trans h.2.2⟩
end Go.Proofs.Ytminailbhgimkaa

/- RoundAt of the specification and of the program, by their contracts. -/
namespace Go.Proofs.Ytminailbhgimkaa
open Go.RowKit Go.Shelf

section
variable {P : Program} {ops : Array Oper} {rest : List Oper} {o : Oper} {a : Act} {w : World} {Q : Exit → Act → World → Prop}
theorem wpList_load_row_gA (hw : Region.wanted o (yielded ops a.tmps) = true) (ty : TypeId) (x : Operand) (ho : o.op = .load ty x)
    (g : Nat) (hx : a.eval x = .pointer (some ⟨g, 0, none⟩)) (t : TypeId) (cs : Array Value) (fr : Nat × Nat) (d : TypeDesc) (hg : w.heap[g]? = some (.cells cs t fr))
    (hu : P.underlying ty = some d) (hd : (match d with | .struct _ | .array _ _ => true | _ => false) = true) (hi : (P.info? ty).map (·.size) = some cs.size)
    (h : wpList P ops Q rest (a.put o.dst (.agg cs)) w) : wpList P ops Q (o :: rest) a w := by
  unfold wpList
  rw [if_pos hw]
  refine .inl ?_
  unfold Oper.wp
  rw [exec_load_row ty x ho g hx t cs fr d hg hu hd hi]
  exact h
end

/-- A grid, and a number of one of its cells. -/
def CellIn (ss : List ByteArray) (cell : Int) (n m c : Nat) : Prop := IsGrid n m ss ∧ cell = (c : Int) ∧ c < n * m
/-- What a question on a cell comes to, where the answer is an integer and a bool. -/
def CellOut (R : Nat → Nat → (Int → Int → UInt8) → Nat → Int × Bool) (ss : List ByteArray) (cell : Int) (x : Int) (ok : Bool) : Prop :=
  (∃ n m c, CellIn ss cell n m c ∧ (x, ok) = R n m (lett m (pad (flat ss))) c) ∨ ((∀ n m c, ¬ CellIn ss cell n m c) ∧ x = 0 ∧ ok = false)
theorem CellOut.uniq {R : Nat → Nat → (Int → Int → UInt8) → Nat → Int × Bool} {ss : List ByteArray} {cell x x' : Int} {ok ok' : Bool} (h : CellOut R ss cell x ok) (h' : CellOut R ss cell x' ok') : x' = x ∧ ok' = ok := by
  rcases h with ⟨n, m, c, h1, h2⟩ | ⟨h1, rfl, rfl⟩ <;> rcases h' with ⟨n', m', c', h1', h2'⟩ | ⟨h1', rfl, rfl⟩
  · obtain ⟨rfl, rfl⟩ := h1.1.uniq h1'.1
    obtain rfl : c = c' := by have := h1.2.1.symm.trans h1'.2.1; omega
    have := h2'.trans h2.symm
    cases this
    exact ⟨rfl, rfl⟩
  · exact absurd h1 (h1' _ _ _)
  · exact absurd h1' (h1 _ _ _)
  · exact ⟨rfl, rfl⟩
def atR (n m : Nat) (t : Int → Int → UInt8) (c : Nat) : Int × Bool := (((atN n m t c : Nat) : Int), true)

/-- What the operations of the program's question hand back. -/
def atImplRel (gc : Array Value) (n m N c k : Nat) (t : Int → Int → UInt8) (i : Nat) (v : Value) (W : World) : Prop :=
  match i with
  | 0 => v = .agg gc
  | 1 => ∃ g, v = .agg (chartC gc g N) ∧ StepsM W g n m t (fun _ => True) N
  | 2 => v = .agg gc
  | 3 => v = .int .i64 (c : Int)
  | 4 => v = .agg #[.int .i64 ((c / m : Nat) : Int), .int .i64 ((c % m : Nat) : Int)]
  | 5 => v = .int .i64 (k : Int)
  | 6 => v = .int .i64 (k : Int)
  | 7 => v = .bool true
  | _ => True

end Go.Proofs.Ytminailbhgimkaa

/- How many paths more come by a change; a grid and one of its cells. -/
namespace Go.Proofs.Ytminailbhgimkaa
open Go.RowKit Go.Shelf

theorem pathsR_le {n m : Nat} {t : Int → Int → UInt8} (hn : n ≤ 5) (hm : m ≤ 5) : 0 ≤ (pathsR n m t).1 ∧ (pathsR n m t).1 ≤ 110 := by
  have h25 : n * m ≤ 5 * 5 := Nat.mul_le_mul hn hm
  have := leadsTo_le (n := n) (m := m) (t := t) (4 * (n * m))
  rw [leadsTo_all] at this
  unfold pathsR
  simp only
  omega

section
variable {P : Program} {w : World}
theorem results_cells_tmp {fn : Func} {p q u : Tmp} {ty ty' : TypeId} (h : fn.results = #[.cell p ty, .cell q ty', .tmp u]) (tmps : Array Value) (P : Program) (w : World) :
    (results fn tmps).run P w =
      ((asAddr (tmps.getD p undef)).run P w).andThen fun a w₁ => ((loadVar ty a).run P w₁).andThen fun v w₂ =>
      ((asAddr (tmps.getD q undef)).run P w₂).andThen fun a' w₃ => ((loadVar ty' a').run P w₃).andThen fun v' w₄ => .ok (.tuple #[v, v', tmps.getD u undef]) w₄ := by
  simp only [results, h]
  simp [Sem.run_bind, Result.andThen]
theorem results_rows_tmp {fn : Func} {p q u : Tmp} {ty ty' : TypeId} (h : fn.results = #[.cell p ty, .cell q ty', .tmp u]) (tmps : Array Value) (g g' : Nat) (t t' : TypeId) (cs cs' : Array Value) (fr fr' : Nat × Nat) (d d' : TypeDesc)
    (hp : tmps.getD p undef = .pointer (some ⟨g, 0, none⟩)) (hq : tmps.getD q undef = .pointer (some ⟨g', 0, none⟩)) (hg : w.heap[g]? = some (.cells cs t fr)) (hg' : w.heap[g']? = some (.cells cs' t' fr'))
    (hu : P.underlying ty = some d) (hd : (match d with | .struct _ | .array _ _ => true | _ => false) = true) (hi : (P.info? ty).map (·.size) = some cs.size)
    (hu' : P.underlying ty' = some d') (hd' : (match d' with | .struct _ | .array _ _ => true | _ => false) = true) (hi' : (P.info? ty').map (·.size) = some cs'.size) :
    (results fn tmps).run P w = .ok (.tuple #[.agg cs, .agg cs', tmps.getD u undef]) w := by
  rw [results_cells_tmp h, hp, hq]
  simp [asAddr, run_loadVar_row w g t ty cs fr d hg hu hd hi, run_loadVar_row w g' t' ty' cs' fr' d' hg' hu' hd' hi', Result.andThen]
end

theorem zero2_one : (#[.int .i64 0, .int .i64 0] : Array Value).all (·.oneCell') = true := by
  rw [Array.all_eq_true_iff_forall_mem]
  intro u hu
  simp at hu
  rcases hu with rfl | rfl <;> rfl
/-- What the operations of placeIn's last statement hand back. -/
def placeRel (gc : Array Value) (m c : Nat) (i : Nat) (v : Value) (_ : World) : Prop :=
  match i with
  | 0 => v = .agg gc
  | 1 => v = .agg gc
  | 2 => v = .int .i64 (c : Int)
  | 3 => v = .agg #[.int .i64 ((c / m : Nat) : Int), .int .i64 ((c % m : Nat) : Int)]
  | _ => True
/-- What placeIn comes to: the grid and the place of a cell. -/
def PlaceEnd (ss : List ByteArray) (cell : Int) (w : World) (e : Ending) (w' : World) : Prop :=
  Below w.heap.size w w' ∧ ((∃ n m c, CellIn ss cell n m c ∧ e = .returned (.tuple #[.agg (gcells n m (pad (flat ss))), .agg #[.int .i64 ((c / m : Nat) : Int), .int .i64 ((c % m : Nat) : Int)], .bool true])) ∨
    ((∀ n m c, ¬ CellIn ss cell n m c) ∧ e = .returned (.tuple #[.agg zeroG, .agg #[.int .i64 0, .int .i64 0], .bool false])))

end Go.Proofs.Ytminailbhgimkaa

/- A grid and one of its cells with a mirror, by the contract of mirrorIn. -/
namespace Go.Proofs.Ytminailbhgimkaa
open Go.RowKit Go.Shelf

/-- The place of a cell. -/
def placeN (m c : Nat) : Wy := ⟨((c / m : Nat) : Int), ((c % m : Nat) : Int), 0⟩
theorem placeN_in {n m c : Nat} (h : c < n * m) : inG n m (placeN m c) := by
  have h1 := wayN_in (n := n) (m := m) (c := 4 * c + 0) (by omega)
  rwa [wayN_cell (by decide)] at h1
theorem cellN_place (m c : Nat) : cellN m (placeN m c) = c := by
  have h1 := cellN_way (m := m) (4 * c + 0)
  rw [wayN_cell (by decide)] at h1
  have : (4 * c + 0) / 4 = c := by omega
  rw [this] at h1
  exact h1
/-- A grid, the number of one of its cells, a mirror there. -/
def MirrorIn (ss : List ByteArray) (cell : Int) (n m c : Nat) : Prop := CellIn ss cell n m c ∧ lett m (pad (flat ss)) ((c / m : Nat) : Int) ((c % m : Nat) : Int) ≠ 46
def MirrorEnd (ss : List ByteArray) (cell : Int) (w : World) (e : Ending) (w' : World) : Prop :=
  Below w.heap.size w w' ∧ ((∃ n m c, MirrorIn ss cell n m c ∧ e = .returned (.tuple #[.agg (gcells n m (pad (flat ss))), .agg #[.int .i64 ((c / m : Nat) : Int), .int .i64 ((c % m : Nat) : Int)], .bool true])) ∨
    ((∀ n m c, ¬ MirrorIn ss cell n m c) ∧ e = .returned (.tuple #[.agg zeroG, .agg #[.int .i64 0, .int .i64 0], .bool false])))
theorem CellIn.uniq {ss : List ByteArray} {cell : Int} {n m c n' m' c' : Nat} (h : CellIn ss cell n m c) (h' : CellIn ss cell n' m' c') : n = n' ∧ m = m' ∧ c = c' := by
  obtain ⟨rfl, rfl⟩ := h.1.uniq h'.1
  have := h.2.1.symm.trans h'.2.1
  exact ⟨rfl, rfl, by omega⟩
theorem int2_one (a b : Int) : (#[.int .i64 a, .int .i64 b] : Array Value).all (·.oneCell') = true := by
  rw [Array.all_eq_true_iff_forall_mem]
  intro u hu
  simp at hu
  rcases hu with rfl | rfl <;> rfl
/-- What the operations of mirrorIn's last statement hand back. -/
def mirRel (a b : Nat) (gc : Array Value) (qv rv : Int) (i : Nat) (v : Value) (W : World) : Prop :=
  match i with
  | 0 => v = .agg gc
  | 1 => v = .agg #[.int .i64 qv, .int .i64 rv]
  | 2 => W.heap[a]? = some (.cells gc 57 (0, 0))
  | 3 => W.heap[b]? = some (.cells #[.int .i64 qv, .int .i64 rv] 105 (0, 0))
  | 4 => v = .bool true
  | _ => True

end Go.Proofs.Ytminailbhgimkaa

/- RoundMany, RoundLeast of the program, by their contracts. -/
namespace Go.Proofs.Ytminailbhgimkaa
open Go.RowKit Go.Shelf

theorem RoundsOf.slice {w : World} {base g n m x : Nat} {t : Int → Int → UInt8} {v : Value} (h : RoundsOf w base g n m t x v) : ∃ A c, v = .slice A (leadsTo n m t x).length c := by
  obtain ⟨vs, h1, h2, _⟩ := h
  rw [← h2]
  rcases h1.2 with ⟨rfl, h0⟩ | ⟨b, cap, cur, rfl, _⟩
  · rw [h0]; exact ⟨_, _, rfl⟩
  · exact ⟨_, _, rfl⟩
/-- The first round, and its first step. -/
theorem RoundsOf.first {w : World} {base g n m x c : Nat} {t : Int → Int → UInt8} {v : Value} (h : RoundsOf w base g n m t x v) (hc : (leadsTo n m t x).head? = some c) :
    ∃ b cap b2 l2 cap2, v = .slice (some ⟨b, 0, none⟩) (leadsTo n m t x).length cap ∧ 0 < l2 ∧ w.cell? ⟨b, 0, none⟩ = some (.slice (some ⟨b2, 0, none⟩) l2 cap2) ∧ w.cell? ⟨b2, 0, none⟩ = some (.pointer (some ⟨g, 5 * c, none⟩)) := by
  have hlead := (leadsTo_mem (List.mem_of_mem_head? hc)).2
  have hlt := (leadsTo_mem (List.mem_of_mem_head? hc)).1
  obtain ⟨vs, h1, h2, h3⟩ := h
  rw [List.head?_eq_getElem?] at hc
  obtain ⟨u, h4, b2, cap2, rfl, _, _, h5⟩ := h3 0 c hc
  have hpos : 0 < vs.length := (List.getElem?_eq_some_iff.1 h4).1
  rcases h1.2 with ⟨_, h0⟩ | ⟨b, cap, cur, rfl, _, hg, _, _, _, ht⟩
  · omega
  · have hon := (lead_iff.1 hlead).1
    have hL : 0 < (ringN n m t (wayN m c)).length := by
      rw [ringN_length]
      unfold goL
      rw [if_pos hon]
      exact (rlen_facts (wayN_d c) hon).1
    refine ⟨b, cap, b2, _, cap2, by rw [h2], hL, ?_, h5 0 c ?_⟩
    · rw [cell_of_row _ _ _ _ _ _ hg]
      rw [← ht, List.getElem?_take_of_lt (by omega)] at h4
      rw [← Array.getElem?_toList, h4]
    · unfold ringN
      rw [ringN_length] at hL
      rw [List.getElem?_map, List.getElem?_range hL]
      simp [iter, wcode_way]

set_option maxRecDepth 100000 in
set_option maxHeartbeats 2000000 in
theorem implRoundMany_any (A : Option Addr) (c : Nat) (ss : List ByteArray) (w : World) (h : Strs w w.heap.size A ss) (hn : ss.length ≤ 1048576) (hs : ∀ s ∈ ss, s.size ≤ 1048576) :
    Calls Try.prog 27 #[.slice A ss.length c] w fun e w' => Below w.heap.size w w' ∧ ∃ x ok, e = .returned (.tuple #[.int .i64 x, .bool ok]) ∧ GridOut manyR ss x ok := by
  have HR := hid (readGrid_any A c ss w h hn hs)
  clear h hs
  go_enter Try.func27, Try.ntmps27
  go_wp2_with fail
  refine HR.out.mono ?_
  rintro e w1 ⟨hbel, ⟨n, m, hg, rfl⟩ | ⟨hno, rfl⟩⟩
  · have HB := hid hbel
    have HGr := hid hg
    have HS := hid (show (Try.prog.info? 57).map (·.size) = some (gcells n m (pad (flat ss))).size by rw [hg.csize]; exact Try.size_grid)
    have HZ := hid (show zeroG.size = (gcells n m (pad (flat ss))).size by rw [hg.csize]; rfl)
    have HL := hid (setRow_heap (w1.alloc (.cells zeroG 57)) w1.heap.size zeroG (gcells n m (pad (flat ss))) 57 (0, 0) (heap_new0 w1 _))
    have HW := hid (HB.out.trans (below_setRow' ((Below.refl _ w1).alloc HB.out.size (.cells zeroG 57)) HB.out.size (gcells n m (pad (flat ss)))))
    have HNC := hid (fun w' => newChart_any n m (4 * (n * m)) (n * m) (pad (flat ss)) w' hg.plen hg.2.2.1 hg.2.2.2.1 hg.2.2.2.2.1 rfl rfl)
    have HRS := hid (fun g w' hst => rounds_any n m g (4 * (n * m)) (pad (flat ss)) w' hg.plen hg.2.2.1 hg.2.2.2.2.1 rfl hst)
    clear hbel hg
    go_wp2_with (first
      | refine wpList_store_row rfl 57 _ _ rfl w1.heap.size (gcells n m (pad (flat ss))) rfl rfl 57 zeroG (heap_new0 w1 _) HS.out HZ.out (gcells_one _ _ _) ?_
      | refine wpList_load_row rfl 57 _ rfl w1.heap.size rfl 57 (gcells n m (pad (flat ss))) (0, 0) _ HL.out Try.underlying57 rfl HS.out ?_)
    refine (HNC.out _).mono ?_
    rintro e w2 ⟨g, _, rfl, hst, hb2⟩
    have HRR := hid (HRS.out g w2 hst)
    have HB2 := hid (HW.out.trans (hb2.mono HW.out.size))
    clear hb2 hst
    go_wp2_with fail
    refine HRR.out.mono ?_
    rintro e w3 ⟨v, rfl, hro, hb3⟩
    obtain ⟨A1, cc, rfl⟩ := hro.slice
    have HB3 := hid (HB2.out.trans (hb3.mono HB2.out.size))
    clear hb3 hro
    go_wp2_with fail
    refine bodyPost_ret (results_tmp2 rfl _ _ _) rfl ?_
    exact ⟨HB3.out, _, true, rfl, .inl ⟨n, m, HGr.out, rfl⟩⟩
  · have HB := hid hbel
    have HGr := hid hno
    clear hbel hno
    go_wp2_with (refine wpList_store_row rfl 57 _ _ rfl w1.heap.size zeroG rfl rfl 57 zeroG (heap_new0 w1 _) Try.size_grid rfl (gcells_one 0 0 (pad [])) ?_)
    refine bodyPost_ret (results_tmp2 rfl _ _ _) rfl ?_
    exact ⟨HB.out.trans (below_setRow' ((Below.refl _ w1).alloc HB.out.size _) HB.out.size _), 0, false, rfl, .inr ⟨HGr.out, rfl, rfl⟩⟩

end Go.Proofs.Ytminailbhgimkaa
