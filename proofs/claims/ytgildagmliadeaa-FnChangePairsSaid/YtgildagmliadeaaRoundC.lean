/- RoundCells of the specification and of the program, by their contracts. -/
import Derived.Test.YtgildagmliadeaaBunH
import Derived.Test.YtgildagmliadeaaBunA
import Derived.Test.YtgildagmliadeaaBunE
import Derived.Test.YtgildagmliadeaaBunF
import Derived.Test.YtgildagmliadeaaBunC
namespace Go.Proofs.Ytgildagmliadeaa
open Go.RowKit Go.Shelf

/-- A grid, the number of one of its cells, a heading, and a round that enters the cell so. -/
def DirIn (ss : List ByteArray) (cell d : Int) (n m c dd : Nat) : Prop := IsGrid n m ss ∧ cell = (c : Int) ∧ c < n * m ∧ d = (dd : Int) ∧ dd < 4 ∧ onR n m (lett m (pad (flat ss))) (wayN m (4 * c + dd)) = true
def ringI (n m : Nat) (t : Int → Int → UInt8) (c dd : Nat) : List Int := cellsI m (iter t (wayN m (4 * c + dd))) (goL n m t (wayN m (4 * c + dd)))
def RingOut (ss : List ByteArray) (cell d : Int) (l : List Int) (ok : Bool) : Prop :=
  (∃ n m c dd, DirIn ss cell d n m c dd ∧ l = ringI n m (lett m (pad (flat ss))) c dd ∧ l.length ≤ 1000 ∧ ok = true) ∨ ((∀ n m c dd, ¬ DirIn ss cell d n m c dd) ∧ l = [] ∧ ok = false)
theorem RingOut.uniq {ss : List ByteArray} {cell d : Int} {l l' : List Int} {ok ok' : Bool} (h : RingOut ss cell d l ok) (h' : RingOut ss cell d l' ok') : ok' = ok ∧ l' = l := by
  rcases h with ⟨n, m, c, dd, h1, rfl, _, rfl⟩ | ⟨h1, rfl, rfl⟩ <;> rcases h' with ⟨n', m', c', dd', h1', rfl, _, rfl⟩ | ⟨h1', rfl, rfl⟩
  · obtain ⟨rfl, rfl⟩ := h1.1.uniq h1'.1
    obtain rfl : c = c' := by have := h1.2.1.symm.trans h1'.2.1; omega
    obtain rfl : dd = dd' := by have := h1.2.2.2.1.symm.trans h1'.2.2.2.1; omega
    exact ⟨rfl, rfl⟩
  · exact absurd h1 (h1' _ _ _ _)
  · exact absurd h1' (h1 _ _ _ _)
  · exact ⟨rfl, rfl⟩
theorem RingOut.len {ss : List ByteArray} {cell d : Int} {l : List Int} {ok : Bool} (h : RingOut ss cell d l ok) : l.length ≤ 1048576 := by
  rcases h with ⟨n, m, c, dd, _, _, h1, _⟩ | ⟨_, rfl, _⟩
  · omega
  · simp
theorem ringI_le {n m c dd : Nat} {t : Int → Int → UInt8} (h : n * m ≤ 25) (hc : c < n * m) (hd : dd < 4) : (ringI n m t c dd).length ≤ 100 := by
  unfold ringI
  rw [cellsI_length]
  have := (goL_facts (n := n) (m := m) (t := t) (wayN_d (m := m) (4 * c + dd)) (wayN_in (by omega))).2.1
  omega

section
variable {P : Program} {ops : Array Oper} {Q : Exit → Act → World → Prop}
theorem wpOp_make {i : Nat} {o : Oper} (hi : ops[i]? = some o) (hg : o.guard = none) {u : Value} {a : Act} {w w' : World} {R : Value → World → Prop}
    (hr : (execOp a.eval o).run P w = .ok (.value u) w') (h : R u w') (hb : Below w.heap.size w w') : wpOp P ops Q i (RelQ ops i R a w) a w := by
  unfold wpOp
  simp only [hi]
  rw [if_pos (by simp [Region.wanted, hg])]
  refine .inl ?_
  unfold Oper.wp
  rw [hr]
  simp only [Oper.upon]
  exact ⟨u, by rw [hi]; rfl, h, hb⟩
end

section
variable {P : Program} {ops : Array Oper} {rest : List Oper} {o : Oper} {a : Act} {w : World} {Q : Exit → Act → World → Prop}
theorem wpList_load_row_gC (hw : Region.wanted o (yielded ops a.tmps) = true) (ty : TypeId) (x : Operand) (ho : o.op = .load ty x)
    (g : Nat) (hx : a.eval x = .pointer (some ⟨g, 0, none⟩)) (t : TypeId) (cs : Array Value) (fr : Nat × Nat) (d : TypeDesc) (hg : w.heap[g]? = some (.cells cs t fr))
    (hu : P.underlying ty = some d) (hd : (match d with | .struct _ | .array _ _ => true | _ => false) = true) (hi : (P.info? ty).map (·.size) = some cs.size)
    (h : wpList P ops Q rest (a.put o.dst (.agg cs)) w) : wpList P ops Q (o :: rest) a w := by
  unfold wpList
  rw [if_pos hw]
  refine .inl ?_
  unfold Oper.wp
  rw [exec_load_row ty x ho g hx t cs fr d hg hu hd hi]
  exact h
end

set_option maxHeartbeats 400000 in
theorem hasCellC_any (n m : Nat) (ls : List UInt8) (cell : Int) (w : World) (hl : ls.length = 25) (hn : n ≤ 5) (hm : m ≤ 5) :
    Calls Try.prog 81 #[.agg (gcells n m ls), .int .i64 cell] w fun e w' => e = .returned (.bool (decide (0 ≤ cell ∧ cell < ((n * m : Nat) : Int)))) ∧ Below w.heap.size w w' := by
  have HS := hid (size_any n m ls (w.alloc (.cells (gcells n m ls) 54)) hn hm)
  have HG := hid (show (Try.prog.info? 54).map (·.size) = some (gcells n m ls).size by rw [gcells_size hl]; exact Try.size_grid)
  obtain ⟨Ni, hNi⟩ : ∃ Ni : Int, ((n * m : Nat) : Int) = Ni := ⟨_, rfl⟩
  rw [hNi] at HS ⊢
  clear hNi
  by_cases h0 : 0 ≤ cell
  · have e0 : decide (0 ≤ cell) = true := by simpa using h0
    go_enter Try.func81, Try.ntmps81
    go_wp2_with (refine wpList_load_row_gC (by rfl) 54 _ rfl w.heap.size rfl 54 (gcells n m ls) (0, 0) _ (heap_new0 w _) Try.underlying54 rfl HG.out ?_)
    refine HS.out.mono ?_
    rintro e w2 ⟨rfl, hb⟩
    have HB := hid hb
    clear hb
    go_wp2_with fail
    go_ret
    refine ⟨?_, ((Below.refl _ w).alloc (Nat.le_refl _) _).trans (HB.out.mono (by simp))⟩
    simp [h0]
  · have e0 : decide (0 ≤ cell) = false := by simpa using h0
    have h0' : ¬ (0 ≤ cell) := h0
    go_enter Try.func81, Try.ntmps81
    go_wp2_with fail
    go_ret
    refine ⟨?_, (Below.refl _ w).alloc (Nat.le_refl _) _⟩
    simp

theorem exec_load_mid {P : Program} {o : Oper} {a : Act} {w : World} (ty : TypeId) (x : Operand) (ho : o.op = .load ty x) (b off : Nat) (hx : a.eval x = .pointer (some ⟨b, off, none⟩)) (cs : Array Value) (d : TypeDesc) (hc : w.rangeAt b off cs.toList)
    (hu : P.underlying ty = some d) (hd : d.isRow = true) (hi : (P.info? ty).map (·.size) = some cs.size) : (execOp a.eval o).run P w = .ok (.value (.agg cs)) w := by
  unfold execOp
  have := run_loadVar_mid (P := P) w b off ty cs.toList d hc hu hd (by simpa using hi)
  simp only [ho, hx, Instr.loadAt, Instr.sureAddr, Sem.run_bind, Sem.run_pure, Result.andThen_ok, this]
theorem Own3.lower {w : World} {lo lo' : Nat} {A : Option Addr} {l : List Int} (h : Own3 w lo A l) (hl : lo' ≤ lo) : Own3 w lo' A l := by
  rcases h with h | ⟨g, rfl, hg, hr⟩
  · exact .inl h
  · exact .inr ⟨g, rfl, Nat.le_trans hl hg, hr⟩

theorem GrowI.belowC {w w' : World} {base : Nat} {v : Value} {l : List Int} (h : GrowI w base v l) (hb : Below w.heap.size w w') : GrowI w' base v l := by
  refine World.ownsRow.kept h (Cls.grown hb) ?_
  cases v.ownBlock with
  | none => exact .inl rfl
  | some k => exact .inr (fun e => by cases e)
/-- What the operations of the program's way to the round hand back. -/
def cellsImplRel (gc : Array Value) (n m N c dd : Nat) (t : Int → Int → UInt8) (i : Nat) (v : Value) (W : World) : Prop :=
  match i with
  | 0 => v = .agg gc
  | 1 => ∃ g, v = .agg (chartC gc g N) ∧ StepsM W g n m t (fun _ => True) N
  | 2 => v = .agg gc
  | 3 => v = .int .i64 (c : Int)
  | 4 => v = .agg #[.int .i64 ((c / m : Nat) : Int), .int .i64 ((c % m : Nat) : Int)]
  | 5 => v = .int .i64 (dd : Int)
  | 6 => v = .agg #[.int .i64 ((c / m : Nat) : Int), .int .i64 ((c % m : Nat) : Int), .int .i64 (dd : Int)]
  | 7 => ∃ g, v = .pointer (some ⟨g, 5 * (4 * c + dd), none⟩) ∧ StepsM W g n m t (fun _ => True) N
  | 8 => ∃ g, StepsM W g n m t (fun _ => True) N ∧ ((onR n m t (wayN m (4 * c + dd)) = true ∧ RingOf W g none v (ringN n m t (wayN m (4 * c + dd)))) ∨ (onR n m t (wayN m (4 * c + dd)) = false ∧ v = .slice none 0 0))
  | 9 => ∃ g, StepsM W g n m t (fun _ => True) N ∧ ((onR n m t (wayN m (4 * c + dd)) = true ∧ RingOf W g none v (ringN n m t (wayN m (4 * c + dd)))) ∨ (onR n m t (wayN m (4 * c + dd)) = false ∧ v = .slice none 0 0))
  | _ => True

/-- What the operations of one round of the program's loop hand back, up to the append. -/
def cellRel (gc : Array Value) (u : Value) (g q : Nat) (x y : Int) (cn : Nat) (i : Nat) (v : Value) (W : World) : Prop :=
  match i with
  | 0 => v = u
  | 1 => v = .agg gc
  | 2 => v = .pointer (some ⟨g, 5 * q, none⟩)
  | 3 => v = .pointer (some ⟨g, 5 * q, none⟩)
  | 4 => v = .pointer (some ⟨g, 5 * q, none⟩)
  | 5 => v = .pointer (some ⟨g, 5 * q, none⟩)
  | 6 => v = .agg #[.int .i64 x, .int .i64 y]
  | 7 => v = .int .i64 (cn : Int)
  | 8 => ∃ h, v = .slice (some ⟨h, 0, none⟩) 1 1 ∧ W.cell? ⟨h, 0, none⟩ = some (.int .i64 (cn : Int))
  | _ => True

set_option maxRecDepth 100000 in
set_option maxHeartbeats 2000000 in
theorem implRoundCells_any (A : Option Addr) (c : Nat) (ss : List ByteArray) (cell d : Int) (w : World) (h : Strs w w.heap.size A ss) (hn : ss.length ≤ 1048576) (hs : ∀ s ∈ ss, s.size ≤ 1048576) :
    Calls Try.prog 41 #[.slice A ss.length c, .int .i64 cell, .int .i64 d] w fun e w' => Below w.heap.size w w' ∧ ∃ A c l ok, e = .returned (.tuple #[.slice A l.length c, .bool ok]) ∧ RingOut ss cell d l ok ∧ Own3 w' w.heap.size A l := by
  have HR := hid (readGrid_any A c ss w h hn hs)
  clear h hs
  go_enter Try.func41, Try.ntmps41
  go_wp2_with fail
  refine HR.out.mono ?_
  rintro e w1 ⟨hbel, ⟨n, m, hg, rfl⟩ | ⟨hno, rfl⟩⟩
  · have HB := hid hbel
    have HGr := hid hg
    have HS := hid (show (Try.prog.info? 54).map (·.size) = some (gcells n m (pad (flat ss))).size by rw [hg.csize]; exact Try.size_grid)
    have HZ := hid (show zeroG.size = (gcells n m (pad (flat ss))).size by rw [hg.csize]; rfl)
    have HL := hid (setRow_heap (w1.alloc (.cells zeroG 54)) w1.heap.size zeroG (gcells n m (pad (flat ss))) 54 (0, 0) (heap_new0 w1 _))
    have HW := hid (HB.out.trans (below_setRow' ((Below.refl _ w1).alloc HB.out.size (.cells zeroG 54)) HB.out.size (gcells n m (pad (flat ss)))))
    have hn5 := hg.2.2.1
    have hm1 := hg.2.2.2.1
    have hm5 := hg.2.2.2.2.1
    have h25 := hg.le25
    have hpl := hg.plen
    have HHC := hid (fun w' => hasCellC_any n m (pad (flat ss)) cell w' hpl hn5 hm5)
    have HNC := hid (show ∀ c k w', Calls Try.prog 76 #[.agg (gcells n m (pad (flat ss)))] w' fun e w'' => ∃ v, e = .returned v ∧ cellsImplRel (gcells n m (pad (flat ss))) n m (4 * (n * m)) c k (lett m (pad (flat ss))) 1 v w'' ∧ Below w'.heap.size w' w'' from fun c k w' => (newChart_any n m (4 * (n * m)) (n * m) (pad (flat ss)) w' hpl hn5 hm1 hm5 rfl rfl).mono fun e w'' ⟨g, _, he, hst, hb⟩ => ⟨_, he, ⟨g, rfl, hst⟩, hb⟩)
    have HPL := hid (show ∀ c k w', c < n * m → Calls Try.prog 82 #[.agg (gcells n m (pad (flat ss))), .int .i64 (c : Int)] w' fun e w'' => ∃ v, e = .returned v ∧ cellsImplRel (gcells n m (pad (flat ss))) n m (4 * (n * m)) c k (lett m (pad (flat ss))) 4 v w'' ∧ Below w'.heap.size w' w'' from fun c k w' hc => (place_any n m c (pad (flat ss)) w' hm1 hm5 (Nat.lt_of_lt_of_le hc h25)).mono fun e w'' ⟨he, hb⟩ => ⟨_, he, rfl, hb⟩)
    have HSP := hid (show ∀ (g c dd : Nat) (w' : World), c < n * m → dd < 4 → StepsM w' g n m (lett m (pad (flat ss))) (fun _ => True) (4 * (n * m)) → Calls Try.prog 100 #[.agg (chartC (gcells n m (pad (flat ss))) g (4 * (n * m))), .agg #[.int .i64 ((c / m : Nat) : Int), .int .i64 ((c % m : Nat) : Int), .int .i64 (dd : Int)]] w' fun e w'' => ∃ v, e = .returned v ∧ cellsImplRel (gcells n m (pad (flat ss))) n m (4 * (n * m)) c dd (lett m (pad (flat ss))) 7 v w'' ∧ Below w'.heap.size w' w'' from fun g c dd w' hc hd hst => by
      have h1 := step_way n m g (4 * (n * m)) (pad (flat ss)) (wayN m (4 * c + dd)) w' hpl hn5 hm5 (wayN_in (by omega)) (wayN_d _) rfl
      rw [wcode_way, wayN_cell hd] at h1
      exact h1.mono fun e w'' ⟨he, hb⟩ => ⟨_, he, ⟨g, rfl, hst.below hb⟩, hb⟩)
    have HRD := hid (show ∀ (g c dd : Nat) (w' : World), c < n * m → dd < 4 → StepsM w' g n m (lett m (pad (flat ss))) (fun _ => True) (4 * (n * m)) → Calls Try.prog 101 #[.pointer (some ⟨g, 5 * (4 * c + dd), none⟩)] w' fun e w'' => ∃ v, e = .returned v ∧ cellsImplRel (gcells n m (pad (flat ss))) n m (4 * (n * m)) c dd (lett m (pad (flat ss))) 8 v w'' ∧ Below w'.heap.size w' w'' from fun g c dd w' hc hd hst => by
      refine (round_any n m g (4 * (n * m)) (4 * c + dd) (lett m (pad (flat ss))) w' rfl (by omega) (by omega) hst).mono ?_
      rintro e w'' ⟨hb, ⟨hon, v, he, hgp⟩ | ⟨hon, he⟩⟩
      · have hlen := ringN_length n m (lett m (pad (flat ss))) (wayN m (4 * c + dd))
        have h1 := (goL_facts (n := n) (m := m) (t := lett m (pad (flat ss))) (wayN_d (m := m) (4 * c + dd)) (wayN_in (by omega))).1
        obtain ⟨b, cap, rfl, _, hbl, hcells⟩ := hgp.cells (by omega)
        exact ⟨_, he, ⟨g, hst.below hb, .inl ⟨hon, b, cap, rfl, hbl, (fun e => by cases e), hcells⟩⟩, hb⟩
      · exact ⟨_, he, ⟨g, hst.below hb, .inr ⟨hon, rfl⟩⟩, hb⟩)
    have HCE := hid (fun q w' (hq : inG n m q) => cell_cells (gcells n m (pad (flat ss))) q.i q.k m (cellN m q) w' (gcells_1 n m _) (Nat.lt_of_lt_of_le (cellN_lt hq) h25) (cellN_int hq) ⟨hq.1, Int.lt_of_lt_of_le hq.2.1 (by omega)⟩ ⟨by omega, by omega⟩)
    have HLE := hid (fun c dd => ringI_le (n := n) (m := m) (c := c) (dd := dd) (t := lett m (pad (flat ss))) h25)
    have HO := hid (gcells_one n m (pad (flat ss)))
    have H25 := hid h25
    clear hbel hg hpl hn5 hm1 hm5 h25
    generalize gcells n m (pad (flat ss)) = gc at *
    generalize hlet : lett m (pad (flat ss)) = t at *
    have HT := hid hlet
    clear hlet
    go_wp2_with (first
      | refine wpList_store_row rfl 54 _ _ rfl w1.heap.size gc rfl rfl 54 zeroG (heap_new0 w1 _) HS.out HZ.out HO.out ?_
      | refine wpList_load_row_gC (by rfl) 54 _ rfl w1.heap.size rfl 54 gc (0, 0) _ HL.out Try.underlying54 rfl HS.out ?_)
    generalize (w1.alloc (.cells zeroG 54)).setRow w1.heap.size gc = w2 at *
    refine (HHC.out w2).mono ?_
    rintro e w3 ⟨rfl, hb3⟩
    have HB3 := hid (HW.out.trans (hb3.mono HW.out.size))
    have HL3 := hid ((hb3.block _ (lt_of_block HL.out)).trans HL.out)
    clear hb3
    by_cases hin : 0 ≤ cell ∧ cell < ((n * m : Nat) : Int)
    · rw [show decide (0 ≤ cell ∧ cell < ((n * m : Nat) : Int)) = true by simpa using hin]
      obtain ⟨cc, rfl⟩ : ∃ cc : Nat, cell = cc := ⟨cell.toNat, by omega⟩
      have HCC := hid (show cc < n * m by have := hin.2; omega)
      clear hin
      by_cases hdn : 0 ≤ d ∧ d < 4
      · obtain ⟨dd, rfl⟩ : ∃ dd : Nat, d = dd := ⟨d.toNat, by omega⟩
        have HDD := hid (show dd < 4 by have := hdn.2; omega)
        have hd0 : decide ((dd : Int) < 0) = false := decide_eq_false (by omega)
        have hd4 : decide ((4 : Int) ≤ (dd : Int)) = false := decide_eq_false (by omega)
        have hd0' : ¬ ((dd : Int) < 0) := by omega
        have hd4' : ¬ ((4 : Int) ≤ (dd : Int)) := by omega
        clear hdn
        go_wp2_with fail
        refine wp_region_rel (by kernel_rfl) (by kernel_rfl) 10 rfl (fun us => { tmps := #[.slice A ss.length c, .int .i64 (cc : Int), .int .i64 (dd : Int), undef, undef, undef, .slice none 0 0, .bool false, .pointer (some ⟨w1.heap.size, 0, none⟩), .bool true, us 9, undef, undef, undef, .tuple #[.agg gc, .bool true], .slice A ss.length c, .tuple #[.agg gc, .bool true], .agg gc, .bool true, .bool true, .bool false, .bool false, .agg gc, .int .i64 (cc : Int), .bool true, .bool false, .bool false, .bool false, .int .i64 (dd : Int), .bool false, .bool false, .bool false, .int .i64 (dd : Int), .bool false, .bool false, us 0, us 1, us 2, us 3, us 4, us 5, us 6, us 7, us 8, undef, undef, undef, undef, undef, undef, undef, undef, undef, undef, undef, undef, undef, undef, undef, undef, undef, undef, undef, undef, undef, undef], defers := [] }) (fun _ => undef) rfl (cellsImplRel gc n m (4 * (n * m)) cc dd t) (fun i v W W' h hb => ?_) (fun i us v hi => ?_) (fun i us W hi hb hd => ?_) (fun us W hb hr => ?_)
        · unfold cellsImplRel at h ⊢
          split at h <;> try exact h
          · obtain ⟨g, h1, h2⟩ := h
            exact ⟨g, h1, h2.below hb⟩
          · obtain ⟨g, h1, h2⟩ := h
            exact ⟨g, h1, h2.below hb⟩
          · obtain ⟨g, h1, ⟨h2, h3⟩ | h2⟩ := h
            · exact ⟨g, h1.below hb, .inl ⟨h2, h3.below hb⟩⟩
            · exact ⟨g, h1.below hb, .inr h2⟩
          · obtain ⟨g, h1, ⟨h2, h3⟩ | h2⟩ := h
            · exact ⟨g, h1.below hb, .inl ⟨h2, h3.below hb⟩⟩
            · exact ⟨g, h1.below hb, .inr h2⟩
        · match i, hi with
          | 0, _ => rfl
          | 1, _ => rfl
          | 2, _ => rfl
          | 3, _ => rfl
          | 4, _ => rfl
          | 5, _ => rfl
          | 6, _ => rfl
          | 7, _ => rfl
          | 8, _ => rfl
          | 9, _ => rfl
        · have HLW := hid ((hb.block _ (lt_of_block HL3.out)).trans HL3.out)
          match i, hi with
          | 0, _ => exact wpOp_val rfl rfl (exec_load_row 54 _ rfl w1.heap.size rfl 54 gc (0, 0) _ HLW.out Try.underlying54 rfl HS.out) rfl
          | 1, _ =>
            have h0 : us 0 = _ := hd _ rfl { on := 0, ground := .data } (by simp) rfl
            rw [h0]
            exact wpOp_call rfl rfl (by go_simp) (HNC.out cc dd W)
          | 2, _ => exact wpOp_val rfl rfl (exec_load_row 54 _ rfl w1.heap.size rfl 54 gc (0, 0) _ HLW.out Try.underlying54 rfl HS.out) rfl
          | 3, _ => exact wpOp_val rfl rfl (by go_simp) rfl
          | 4, _ =>
            have h0 : us 2 = _ := hd _ rfl { on := 2, ground := .data } (by simp) rfl
            have h1 : us 3 = _ := hd _ rfl { on := 3, ground := .data } (by simp) rfl
            rw [h0, h1]
            exact wpOp_call rfl rfl (by go_simp) (HPL.out cc dd W HCC.out)
          | 5, _ => exact wpOp_val rfl rfl (by go_simp) rfl
          | 6, _ =>
            have h0 : us 4 = _ := hd _ rfl { on := 4, ground := .data } (by simp) rfl
            have h1 : us 5 = _ := hd _ rfl { on := 5, ground := .data } (by simp) rfl
            rw [h0, h1]
            exact wpOp_val rfl rfl (by go_simp) rfl
          | 7, _ =>
            obtain ⟨g, h0, hst⟩ : ∃ g, us 1 = .agg (chartC gc g (4 * (n * m))) ∧ StepsM W g n m t (fun _ => True) (4 * (n * m)) := hd _ rfl { on := 1, ground := .data } (by simp) rfl
            have h1 : us 6 = _ := hd _ rfl { on := 6, ground := .data } (by simp) rfl
            rw [h0, h1]
            exact wpOp_call rfl rfl (by go_simp) (HSP.out g cc dd W HCC.out HDD.out hst)
          | 8, _ =>
            obtain ⟨g, h0, hst⟩ : ∃ g, us 7 = .pointer (some ⟨g, 5 * (4 * cc + dd), none⟩) ∧ StepsM W g n m t (fun _ => True) (4 * (n * m)) := hd _ rfl { on := 7, ground := .data } (by simp) rfl
            rw [h0]
            exact wpOp_call rfl rfl (by go_simp) (HRD.out g cc dd W HCC.out HDD.out hst)
          | 9, _ =>
            have h0 : cellsImplRel gc n m (4 * (n * m)) cc dd t 8 (us 8) W := hd _ rfl { on := 8, ground := .data } (by simp) rfl
            exact wpOp_val rfl rfl (by go_simp) h0
        · obtain ⟨g, hst, hcase⟩ : cellsImplRel gc n m (4 * (n * m)) cc dd t 9 (us 9) W := hr 9 (by omega)
          have HB4 := hid (HB3.out.trans (hb.mono HB3.out.size))
          have HL4 := hid ((hb.block _ (lt_of_block HL3.out)).trans HL3.out)
          have HST := hid hst
          clear hr hb hst
          obtain ⟨us0, hus0⟩ : ∃ x, us 0 = x := ⟨_, rfl⟩
          obtain ⟨us1, hus1⟩ : ∃ x, us 1 = x := ⟨_, rfl⟩
          obtain ⟨us2, hus2⟩ : ∃ x, us 2 = x := ⟨_, rfl⟩
          obtain ⟨us3, hus3⟩ : ∃ x, us 3 = x := ⟨_, rfl⟩
          obtain ⟨us4, hus4⟩ : ∃ x, us 4 = x := ⟨_, rfl⟩
          obtain ⟨us5, hus5⟩ : ∃ x, us 5 = x := ⟨_, rfl⟩
          obtain ⟨us6, hus6⟩ : ∃ x, us 6 = x := ⟨_, rfl⟩
          obtain ⟨us7, hus7⟩ : ∃ x, us 7 = x := ⟨_, rfl⟩
          obtain ⟨us8, hus8⟩ : ∃ x, us 8 = x := ⟨_, rfl⟩
          rw [hus0, hus1, hus2, hus3, hus4, hus5, hus6, hus7, hus8]
          clear hus0 hus1 hus2 hus3 hus4 hus5 hus6 hus7 hus8
          rcases hcase with ⟨hon, b, cap, h9, hbl, _, hcells⟩ | ⟨hoff, h9⟩
          · rw [h9]
            have hx0 := wayN_in (n := n) (m := m) (c := 4 * cc + dd) (by have := HCC.out; have := HDD.out; omega)
            have hd0x := wayN_d (m := m) (4 * cc + dd)
            obtain ⟨f1, f2, f3, _, _, _⟩ := goL_facts (t := t) hd0x hx0
            have f8 := fun j => iter_d (t := t) hd0x j
            have hlen := ringN_length n m t (wayN m (4 * cc + dd))
            have HRI := hid (show ringI n m t cc dd = cellsI m (iter t (wayN m (4 * cc + dd))) (goL n m t (wayN m (4 * cc + dd))) from rfl)
            have HQ := hid (show ∀ j, j < goL n m t (wayN m (4 * cc + dd)) → (ringN n m t (wayN m (4 * cc + dd)))[j]? = some (wcode m (iter t (wayN m (4 * cc + dd)) j)) from fun j hj => by unfold ringN; simp [hj])
            have HON := hid hon
            rw [hlen]
            have H25x := H25.out
            clear h9 hon hlen hx0 hd0x
            generalize goL n m t (wayN m (4 * cc + dd)) = L at *
            generalize iter t (wayN m (4 * cc + dd)) = bw at *
            have HCELL := hid (fun j (hj : j < L) => hcells j _ (HQ.out j hj))
            have HWAY := hid (fun j (hj : j < L) => show W.rangeAt g (5 * wcode m (bw j)) (wayC (bw j)).toList by
              have h1 := HST.out.way (c := wcode m (bw j)) (wcode_lt (f3 j hj) (f8 j))
              rwa [wayN_code (f3 j hj) (f8 j)] at h1)
            have HIN := hid f3
            have HBL := hid hbl
            have HLEN := hid (cellsI_length m bw L)
            have hL0 : ((L : Int) == 0) = false := by rw [beq_eq_false_iff_ne]; omega
            have hL100 : L ≤ 100 := by omega
            have HL100 := hid hL100
            clear hcells f1 f2 f3 f8 hbl H25x hL100
            go_wp2_with fail
            go_loopw [11, 50] (fun (v i : Value) (wr : World) => ∃ j : Nat, j ≤ L ∧ i = .int .i64 j ∧ GrowI wr W.heap.size v ((cellsI m bw L).take j) ∧ Below W.heap.size W wr) (fun _ i _ => L - (intOf i).toNat)
            case atStart => exact ⟨0, Nat.zero_le _, rfl, growI_new W _ (Nat.le_refl _), (Below.refl _ W).alloc (Nat.le_refl _) _⟩
            case round =>
              obtain ⟨j, hj, rfl, hgr, hbel⟩ := hrel
              have HG := hid hgr
              have HBE := hid hbel
              clear hgr hbel
              by_cases hlt : j < L
              · have hji : (j : Int) < (L : Int) := by omega
                have hji0 : (0 : Int) ≤ (j : Int) := by omega
                have hcell := (HBE.out.cell (p := ⟨b, j, none⟩) HBL.out).trans (HCELL.out j hlt)
                have hin := HIN.out j hlt
                have hwy := HWAY.out j hlt
                have htk : (cellsI m bw L).take (j + 1) = (cellsI m bw L).take j ++ [((cellN m (bw j) : Nat) : Int)] := range_take L j _ hlt
                have HTK := hid htk
                obtain ⟨q, hq⟩ : ∃ q, wcode m (bw j) = q := ⟨_, rfl⟩
                rw [hq] at hcell hwy
                have HC4 := hid (fun w' => HCE.out (bw j) w' hin)
                have HWY := hid (show ∀ w', Cls wr w' → w'.rangeAt g (5 * q) (#[.int .i64 (bw j).i, .int .i64 (bw j).k] : Array Value).toList from fun w' hw jj v hjj => by
                  have h1 : w'.cell? ⟨g, 5 * q + jj, none⟩ = W.cell? ⟨g, 5 * q + jj, none⟩ := (hw.cell (p := ⟨g, 5 * q + jj, none⟩) (Nat.lt_of_lt_of_le HST.out.lt HBE.out.size)).trans (HBE.out.cell (p := ⟨g, 5 * q + jj, none⟩) HST.out.lt)
                  rw [h1]
                  refine hwy jj v ?_
                  match jj, hjj with
                  | 0, hjj => exact hjj
                  | 1, hjj => exact hjj
                  | jj + 2, hjj => simp at hjj)
                have HLL := hid (fun w' (hw : Cls wr w') => (hw.block _ (lt_of_block ((HBE.out.block _ (lt_of_block HL4.out)).trans HL4.out))).trans ((HBE.out.block _ (lt_of_block HL4.out)).trans HL4.out))
                obtain ⟨cn, hcn⟩ : ∃ cn, cellN m (bw j) = cn := ⟨_, rfl⟩
                rw [hcn] at HTK HC4
                clear hin hwy htk hq hcn
                go_wp2_with fail
                refine wp_region_rel_tail (by kernel_rfl) 9 (by kernel_rfl) (fun us => { tmps := #[.slice A ss.length c, .int .i64 (cc : Int), .int .i64 (dd : Int), undef, undef, undef, .slice none 0 0, .bool false, .pointer (some ⟨w1.heap.size, 0, none⟩), .bool true, .slice (some ⟨b, 0, none⟩) L cap, u11, undef, .pointer (some ⟨g, 5 * q, none⟩), .tuple #[.agg gc, .bool true], .slice A ss.length c, .tuple #[.agg gc, .bool true], .agg gc, .bool true, .bool true, .bool false, .bool false, .agg gc, .int .i64 (cc : Int), .bool true, .bool false, .bool false, .bool false, .int .i64 (dd : Int), .bool false, .bool false, .bool false, .int .i64 (dd : Int), .bool false, .bool false, us0, us1, us2, us3, us4, us5, us6, us7, us8, .slice (some ⟨b, 0, none⟩) L cap, .int .i64 (L : Int), .bool false, .slice (some ⟨W.heap.size, 0, none⟩) 0 0, .slice (some ⟨b, 0, none⟩) L cap, .int .i64 (L : Int), .int .i64 (j : Int), .bool true, .pointer (some ⟨b, j, none⟩), .pointer (some ⟨g, 5 * q, none⟩), us 0, us 1, us 2, us 3, us 4, us 5, us 6, us 7, us 8, u63, u64, undef], defers := [] }) (fun k => match k with | 0 => u54 | 1 => u55 | 2 => u56 | 3 => u57 | 4 => u58 | 5 => u59 | 6 => u60 | 7 => u61 | _ => u62) rfl (cellRel gc u11 g q (bw j).i (bw j).k cn) (fun i v W W' h hb => ?_) (fun i us v hi => ?_) (fun i us W' hi hb hd => ?_) (fun us W' hb hr => ?_)
                · unfold cellRel at h ⊢
                  split at h <;> try exact h
                  obtain ⟨h, h1, h2⟩ := h
                  exact ⟨h, h1, (hb.cell (p := ⟨h, 0, none⟩) (World.block_lt_of_cell? _ _ h2)).trans h2⟩
                · match i, hi with
                  | 0, _ => rfl
                  | 1, _ => rfl
                  | 2, _ => rfl
                  | 3, _ => rfl
                  | 4, _ => rfl
                  | 5, _ => rfl
                  | 6, _ => rfl
                  | 7, _ => rfl
                  | 8, _ => rfl
                · match i, hi with
                  | 0, _ => exact wpOp_val rfl rfl (by go_simp) rfl
                  | 1, _ => exact wpOp_val rfl rfl (exec_load_row 54 _ rfl w1.heap.size rfl 54 gc (0, 0) _ (HLL.out W' hb) Try.underlying54 rfl HS.out) rfl
                  | 2, _ => exact wpOp_val rfl rfl (by go_simp) rfl
                  | 3, _ =>
                    have h0 : us 2 = _ := hd _ rfl { on := 2, ground := .data } (by simp) rfl
                    rw [h0]
                    exact wpOp_val rfl rfl (by go_simp) rfl
                  | 4, _ =>
                    have h0 : us 3 = _ := hd _ rfl { on := 3, ground := .data } (by simp) rfl
                    rw [h0]
                    exact wpOp_val rfl rfl (by go_simp) rfl
                  | 5, _ =>
                    have h0 : us 4 = _ := hd _ rfl { on := 4, ground := .data } (by simp) rfl
                    rw [h0]
                    exact wpOp_val rfl rfl (by go_simp) rfl
                  | 6, _ =>
                    have h0 : us 5 = _ := hd _ rfl { on := 5, ground := .data } (by simp) rfl
                    rw [h0]
                    exact wpOp_val rfl rfl (exec_load_mid 83 _ rfl g (5 * q) rfl #[.int .i64 (bw j).i, .int .i64 (bw j).k] _ (HWY.out W' hb) Try.underlying83 rfl Try.size_place) rfl
                  | 7, _ =>
                    have h0 : us 1 = _ := hd _ rfl { on := 1, ground := .data } (by simp) rfl
                    have h1 : us 6 = _ := hd _ rfl { on := 6, ground := .data } (by simp) rfl
                    rw [h0, h1]
                    exact wpOp_call rfl rfl (by go_simp) ((HC4.out W').mono fun e w'' ⟨he, hb'⟩ => ⟨_, he, rfl, hb'⟩)
                  | 8, _ =>
                    have h0 : us 7 = _ := hd _ rfl { on := 7, ground := .data } (by simp) rfl
                    rw [h0]
                    exact wpOp_make (w' := W'.alloc (.cells #[.int .i64 (cn : Int)] 3)) rfl rfl (by go_simp) ⟨W'.heap.size, rfl, cell_newI W' _⟩ ((Below.refl _ W').alloc (Nat.le_refl _) _)
                have h0 : us 0 = _ := hr 0 (by omega)
                obtain ⟨hh, h8, hc8⟩ : ∃ h, us 8 = .slice (some ⟨h, 0, none⟩) 1 1 ∧ W'.cell? ⟨h, 0, none⟩ = some (.int .i64 (cn : Int)) := hr 8 (by omega)
                rw [h0, h8]
                obtain ⟨w5, hw5⟩ : ∃ w5, W' = w5 := ⟨_, rfl⟩
                subst hw5
                have HG5 := hid (HG.out.belowC hb)
                have HB5 := hid (HBE.out.trans (hb.mono HBE.out.size))
                have HC8 := hid hc8
                clear hb hcell h0 h8 hc8 hr
                simp only [List.drop_succ_cons, List.drop_zero]
                go_wp2_with (at_builtin; refine wpList_appendI rfl _ _ rfl W.heap.size u11 ((cellsI m bw L).take j) rfl HG5.out hh 1 rfl (cn : Int) HC8.out ?c3 HB5.out.size ?_)
                case c3 => rw [List.length_take, HLEN.out]; have := HL100.out; omega
                intro v' w6 hgr hgw _
                have HGR := hid hgr
                have HB6 := hid (HB5.out.grown hgw HB5.out.size (fun k e => (World.ownsRow.lt HG5.out k e).1))
                have hL100 := HL100.out
                clear hgr hgw
                go_wp2
                go_roundw
                case rel => exact ⟨j + 1, by omega, by go_num, by rw [HTK.out]; exact HGR.out, HB6.out⟩
                case measure => simp [intOf]; omega
              · obtain rfl : j = L := by omega
                have hfull : (cellsI m bw j).take j = ringI n m t cc dd := by rw [HRI.out, List.take_of_length_le (by rw [HLEN.out]; exact Nat.le_refl _)]
                obtain ⟨A1, c1, rfl, hown⟩ := (show GrowI wr W.heap.size u11 (ringI n m t cc dd) from by rw [← hfull]; exact HG.out).own
                have HOWN := hid (hown.lower HB4.out.size)
                have HBF := hid (HB4.out.trans (HBE.out.mono HB4.out.size))
                clear hfull hown
                go_wp2_with fail
                refine bodyPost_ret (results_tmp2 rfl _ _ _) rfl ?_
                exact ⟨HBF.out, A1, c1, _, true, rfl, .inl ⟨n, m, cc, dd, ⟨HGr.out, rfl, HCC.out, rfl, HDD.out, by rw [HT.out]; exact HON.out⟩, by rw [HT.out], Nat.le_trans (HLE.out cc dd HCC.out HDD.out) (by decide), rfl⟩, HOWN.out⟩
          · rw [h9]
            have HNo := hid (show ∀ n' m' c' d', ¬ DirIn ss cc dd n' m' c' d' from fun n' m' c' d' hc => by
              obtain ⟨rfl, rfl⟩ := HGr.out.uniq hc.1
              obtain rfl : cc = c' := by have := hc.2.1; omega
              obtain rfl : dd = d' := by have := hc.2.2.2.1; omega
              have h6 := hc.2.2.2.2.2
              rw [HT.out, hoff] at h6
              cases h6)
            clear h9 hoff
            go_wp2_with fail
            refine bodyPost_ret (results_tmp2 rfl _ _ _) rfl ?_
            exact ⟨HB4.out, _, _, [], false, rfl, .inr ⟨HNo.out, rfl, rfl⟩, .inl ⟨rfl, rfl⟩⟩
      · have HNo := hid (show ∀ n' m' c' d', ¬ DirIn ss cc d n' m' c' d' from fun n' m' c' d' hc => by
          have h2 := hc.2.2.2.1
          have h3 := hc.2.2.2.2.1
          exact hdn ⟨by omega, by omega⟩)
        by_cases hd0 : d < 0
        · clear hdn
          go_wp2_with fail
          refine bodyPost_ret (results_tmp2 rfl _ _ _) rfl ?_
          exact ⟨HB3.out, _, _, [], false, rfl, .inr ⟨HNo.out, rfl, rfl⟩, .inl ⟨rfl, rfl⟩⟩
        · have hd4 : 4 ≤ d := by omega
          have hd0e : decide (d < 0) = false := decide_eq_false hd0
          clear hdn
          go_wp2_with fail
          refine bodyPost_ret (results_tmp2 rfl _ _ _) rfl ?_
          exact ⟨HB3.out, _, _, [], false, rfl, .inr ⟨HNo.out, rfl, rfl⟩, .inl ⟨rfl, rfl⟩⟩
    · rw [show decide (0 ≤ cell ∧ cell < ((n * m : Nat) : Int)) = false by simpa using hin]
      have HNo := hid (show ∀ n' m' c' d', ¬ DirIn ss cell d n' m' c' d' from fun n' m' c' d' hc => by
        obtain ⟨rfl, rfl⟩ := HGr.out.uniq hc.1
        have h2 := hc.2.2.1
        have h3 := hc.2.1
        exact hin ⟨by omega, by omega⟩)
      clear hin
      go_wp2_with fail
      refine bodyPost_ret (results_tmp2 rfl _ _ _) rfl ?_
      exact ⟨HB3.out, _, _, [], false, rfl, .inr ⟨HNo.out, rfl, rfl⟩, .inl ⟨rfl, rfl⟩⟩
  · have HB := hid hbel
    have HGr := hid hno
    clear hbel hno
    go_wp2_with (refine wpList_store_row rfl 54 _ _ rfl w1.heap.size zeroG rfl rfl 54 zeroG (heap_new0 w1 _) Try.size_grid rfl (gcells_one 0 0 (pad [])) ?_)
    refine bodyPost_ret (results_tmp2 rfl _ _ _) rfl ?_
    exact ⟨HB.out.trans (below_setRow' ((Below.refl _ w1).alloc HB.out.size _) HB.out.size _), _, _, [], false, rfl, .inr ⟨fun n m c dd hc => HGr.out _ _ hc.1, rfl, rfl⟩, .inl ⟨rfl, rfl⟩⟩

end Go.Proofs.Ytgildagmliadeaa
