/- BeamWay of the specification and of the program, by their contracts. -/
import Derived.Test.YtpbppkidglmacaaFirst
import Derived.Test.YtpbppkidglmacaaBunF
import Derived.Test.YtpbppkidglmacaaListOut
import Derived.Test.YtpbppkidglmacaaFloat
import Derived.Maps.AppendAt
namespace Go.Proofs.Ytpbppkidglmacaa
open Go.RowKit Go.Shelf

def wayR (n m : Nat) (t : Int → Int → UInt8) (q : Nat) : List Int := cellsI m (bway n m t q) (blen n m t q)
theorem wayR_length {n m q : Nat} {t : Int → Int → UInt8} (hn : n ≤ 5) (hm : m ≤ 5) (hq : q < 2 * (n + m)) : (wayR n m t q).length ≤ 1000 := by
  have h1 := blen_lt (t := t) hq
  have h2 : n * m ≤ 5 * 5 := Nat.mul_le_mul hn hm
  unfold wayR
  rw [cellsI_length]; omega

set_option maxRecDepth 100000 in
set_option maxHeartbeats 1000000 in
theorem specBeamWay_any (A : Option Addr) (c B : Nat) (ss : List ByteArray) (p : Int) (w : World) (h : Strs w B A ss) (hB : B ≤ w.heap.size) (hn : ss.length ≤ 1048576) (hs : ∀ s ∈ ss, s.size ≤ 1048576) :
    Calls Try.prog 20 #[.slice A ss.length c, .int .i64 p] w fun e w' => Below w.heap.size w w' ∧ ∃ A c l ok, e = .returned (.tuple #[.slice A l.length c, .bool ok]) ∧ ListOut wayR ss p l ok ∧ Ints w' w'.heap.size A l := by
  have HI := hid (l2Given_any A c B ss p w h hn hs)
  have HD := hid h
  clear h hs
  go_enter Try.func20, Try.ntmps20
  go_wp2_with fail
  refine HI.out.mono ?_
  rintro e w' ⟨ok, rfl, hok, d, rfl⟩
  have HBd := hid (below_drewN' (Below.refl w.heap.size w) d)
  rcases hok with ⟨rfl, n, m, q, hq⟩ | ⟨rfl, hno⟩
  · obtain rfl := hq.2.1
    have c1 := hid (l2Way_port A c B n m q ss (w.drewN d) (HD.out.drewN d) hB hq.1 hq.2.2)
    have HL := hid (wayR_length (t := lett m (pad (flat ss))) hq.1.2.2.1 hq.1.2.2.2.2.1 hq.2.2)
    have HQ := hid hq
    clear hq
    go_wp2_with fail
    refine c1.out.mono ?_
    rintro e w1 ⟨v, v', rfl, hv, _, hb1⟩
    obtain ⟨A1, cc, rfl, hint⟩ := hv.ints
    have HB1 := hid (HBd.out.trans hb1)
    have HIn := hid hint
    clear hb1 hv hint
    go_wp2_with fail
    refine bodyPost_ret (results_tmp2 rfl _ _ _) rfl ?_
    exact ⟨HB1.out, A1, cc, _, true, rfl, .inl ⟨n, m, q, HQ.out, rfl, HL.out, rfl⟩, HIn.out⟩
  · have HNo := hid hno
    clear hno
    go_wp2_with fail
    refine bodyPost_ret (results_tmp2 rfl _ _ _) rfl ?_
    exact ⟨HBd.out.alloc (by simp) _, _, _, [], false, rfl, .inr ⟨HNo.out, rfl, rfl⟩, fun h => absurd h (by simp)⟩

attribute [local go_sem] Oper.semAt_some

/-- The cells of the ways that have come. -/
def cellsW {L : Nat} (m : Nat) (bw : Nat → Wy) (pre : List (Fin L)) : List Int := pre.map fun x => ((cellN m (bw x.val) : Nat) : Int)
theorem cellsW_snoc {L : Nat} (m : Nat) (bw : Nat → Wy) (pre : List (Fin L)) (x : Fin L) : cellsW m bw (pre ++ [x]) = cellsW m bw pre ++ [((cellN m (bw x.val) : Nat) : Int)] := by simp [cellsW]
theorem cellsW_length {L : Nat} (m : Nat) (bw : Nat → Wy) (pre : List (Fin L)) : (cellsW m bw pre).length = pre.length := by simp [cellsW]
theorem cellsW_all (L m : Nat) (bw : Nat → Wy) : cellsW m bw (List.finRange L) = cellsI m bw L := by
  unfold cellsW cellsI
  have e := upto_val (N := L) (k := L) (Nat.le_refl _)
  rw [upto_all] at e
  rw [← e, List.map_map]
  rfl
theorem grown_heap {base b : Nat} {W W' : World} {v : Value} {l : List Int} {cs : Array Value} {t : TypeId} (hrow : GrowI W base v l) (hg : W.grownBy W' v.ownBlock) (hb : W.heap[b]? = some (.cells cs t (0, 0))) (ht : t ≠ 3) : W'.heap[b]? = some (.cells cs t (0, 0)) := by
  refine (hg.block b (lt_of_block hb) ?_).trans hb
  rcases hrow.2 with ⟨rfl, _⟩ | ⟨g', cap, cur, rfl, _, hgb, _⟩
  · simp [Value.ownBlock]
  · intro e'
    have : b = g' := by simpa [Value.ownBlock] using e'
    subst this
    rw [hb] at hgb
    cases hgb
    exact ht rfl
/-- A slice of integers that grows leaves the iterator what it wants. -/
theorem KeepsW.grown {g n0 base : Nat} {W W' : World} {v : Value} {l : List Int} {cs : Array Value} (hrow : GrowI W base v l) (hg : W.grownBy W' v.ownBlock) (hB : W.heap[g]? = some (.cells cs 44 (0, 0))) : KeepsW g n0 W W' :=
  ⟨hg.size, (grown_heap hrow hg hB (by decide)).trans hB.symm, fun _ _ _ hb => grown_heap hrow hg hb (by decide)⟩
theorem GrowI.below {w w' : World} {base : Nat} {v : Value} {l : List Int} (h : GrowI w base v l) (hb : Below w.heap.size w w') : GrowI w' base v l := by
  refine World.ownsRow.kept h (Cls.grown hb) ?_
  cases v.ownBlock with
  | none => exact .inl rfl
  | some k => exact .inr (fun e => by cases e)
theorem Own3.put {W : World} {lo D : Nat} {A : Option Addr} {l : List Int} {o' : Obj} {N : Nat} (h : Own3 W lo A l) (_ : N ≤ D) (hk : W.heap[D]? = some (.deferred (some []))) : Own3 (W.putObj D o') lo A l := by
  rcases h with h | ⟨g, rfl, hg, cs, hc, hx⟩
  · exact .inl h
  · refine .inr ⟨g, rfl, hg, cs, ?_, hx⟩
    rw [World.putObj_heap_other (fun e => by subst e; rw [hc] at hk; cases hk)]
    exact hc
section
variable {F : Fence} {n : Nat} {ops : Array Oper} {rest : List Oper} {o : Oper} {a : Act} {w : World} {Q : Exit → Act → World → Prop}
theorem wpListIn_appendI (hgd : o.guard = none) (s x : Operand) (ho : o.op = .call { callee := .builtin .append, args := #[s, x], argTypes := #[29, 29] })
    (base : Nat) (v : Value) (l : List Int) (hs : a.eval s = v) (hown : GrowI w base v l) (h c : Nat) (hx : a.eval x = .slice (some ⟨h, 0, none⟩) 1 c) (b : Int) (hc : w.cell? ⟨h, 0, none⟩ = some (.int .i64 b))
    (hl : l.length ≤ 1000000) (hbase : base ≤ w.heap.size)
    (hk : ∀ g cap w', GrowI w' base (.slice (some ⟨g, 0, none⟩) (l.length + 1) cap) (l ++ [b]) → w.grownBy w' v.ownBlock → wpListIn F n Try.prog ops Q rest (a.put o.dst (.slice (some ⟨g, 0, none⟩) (l.length + 1) cap)) w') : wpListIn F n Try.prog ops Q (o :: rest) a w := by
  obtain ⟨i0, hi, hz0, hz1, hz2⟩ := info_parts Try.info_int
  refine wpListIn_append_own w hgd s x 29 ho base 3 i0 (.int .i64 0) 1 8 Try.underlying29 hi hz0 hz1 hz2 rfl (by decide) v l.length (intsV l) hs hown ⟨h, 0, none⟩ 1 c [.int .i64 b] hx rfl ?_ ?_ (by unfold maxLen; omega) (by omega) hbase ?_
  · intro j u hj
    match j, hj with
    | 0, hj => simp at hj; subst hj; simpa [Addr.add] using hc
  · intro u hu; simp at hu; subst hu; rfl
  · intro v' w' h1 h2 _
    obtain ⟨g, cap, rfl⟩ := ownsRow_succ h1
    refine hk g cap w' ?_ h2
    unfold GrowI intsV
    rw [List.length_append, List.map_append]
    exact h1
end

set_option maxRecDepth 100000 in
set_option maxHeartbeats 4000000 in
theorem implBeamWay_any (A : Option Addr) (c : Nat) (ss : List ByteArray) (p : Int) (w : World) (h : Strs w w.heap.size A ss) (hn : ss.length ≤ 1048576) (hs : ∀ s ∈ ss, s.size ≤ 1048576) :
    Calls Try.prog 19 #[.slice A ss.length c, .int .i64 p] w fun e w' => Below w.heap.size w w' ∧ ∃ A c l ok, e = .returned (.tuple #[.slice A l.length c, .bool ok]) ∧ ListOut wayR ss p l ok ∧ Own3 w' w.heap.size A l := by
  have HR := hid (gridWithPort_any A c ss p w h hn hs)
  clear h hs
  refine (callsIn_wide (n := 3)).1 ?_
  refine callsIn_of_wp_marks Try.func19 rfl trivial ?_ rfl
  simp only [Try.ntmps19, List.size_toArray, List.length_cons, List.length_nil, Nat.reduceAdd, Nat.reduceSub, Array.replicate_succ, Array.replicate_zero, List.push_toArray, List.append_toArray, List.nil_append, List.cons_append]
  gi_wp2_with fail
  refine ⟨trivial, callsIn_wide.2 (HR.out.mono ?_)⟩
  rintro e w1 ⟨hbel, ⟨n, m, q, hq, rfl⟩ | ⟨hno, rfl⟩⟩
  · have HB := hid hbel
    have hg := hq.1
    obtain rfl := hq.2.1
    have HQ := hid hq
    have hn5 := hg.2.2.1
    have hm5 := hg.2.2.2.2.1
    have HGC := hid (show (gcells n m (pad (flat ss))).size = 27 from hg.csize)
    have HWS := hid (fun (Bg Bp : Nat) (w' : World) h1 h2 => ways_stops 2 Bg Bp n m q (blen n m (lett m (pad (flat ss))) q) (pad (flat ss)) rfl hg.plen hn5 hm5 hq.2.2 w' h1 h2)
    have HCE := hid (show ∀ j, j < blen n m (lett m (pad (flat ss))) q → ∀ w', Calls Try.prog 55 #[.agg (gcells n m (pad (flat ss))), .agg #[.int .i64 (bway n m (lett m (pad (flat ss))) q j).i, .int .i64 (bway n m (lett m (pad (flat ss))) q j).k]] w' fun e w'' => e = .returned (.int .i64 ((cellN m (bway n m (lett m (pad (flat ss))) q j) : Nat) : Int)) ∧ Below w'.heap.size w' w'' from fun j hj w' => by
      have hin := blen_in (n := n) (m := m) (t := lett m (pad (flat ss))) hj
      have h1 := cellN_int hin
      have h2 := cellN_lt hin
      have h3 := hg.le25
      exact cell_cells _ _ _ m _ w' (gcells_1 _ _ _) (by omega) h1 ⟨hin.1, by have := hin.2.1; omega⟩ ⟨by omega, by omega⟩)
    have HRR := hid (show cellsI m (bway n m (lett m (pad (flat ss))) q) (blen n m (lett m (pad (flat ss))) q) = wayR n m (lett m (pad (flat ss))) q from rfl)
    have HRL := hid (wayR_length (t := lett m (pad (flat ss))) hn5 hm5 hq.2.2)
    have hL100 : blen n m (lett m (pad (flat ss))) q ≤ 100 := by
      have h1 := blen_lt (t := lett m (pad (flat ss))) hq.2.2
      have h2 := hg.le25
      omega
    clear hbel hq hg
    have HONE := hid (gcells_one n m (pad (flat ss)))
    generalize gcells n m (pad (flat ss)) = cs at *
    generalize bway n m (lett m (pad (flat ss))) q = bw at *
    generalize blen n m (lett m (pad (flat ss))) q = L at *
    have HS := hid (show (Try.prog.info? 44).map (·.size) = some cs.size by rw [HGC.out]; exact Try.size_grid)
    have HZ := hid (show zeroG.size = cs.size by rw [HGC.out]; rfl)
    have HL := hid (setRow_heap (w1.alloc (.cells zeroG 44)) w1.heap.size zeroG cs 44 (0, 0) (heap_new0 w1 _))
    have HW := hid (HB.out.trans (below_setRow' ((Below.refl _ w1).alloc HB.out.size (.cells zeroG 44)) HB.out.size cs))
    have HWS1 := hid (show ((w1.alloc (.cells zeroG 44)).setRow w1.heap.size cs).heap.size = w1.heap.size + 1 by simp)
    generalize hX : (w1.alloc (.cells zeroG 44)).setRow w1.heap.size cs = X at HL HW HWS1
    have HX := hid hX
    clear hX
    have HL2 := hid (show ((X.alloc (.cells #[] 3)).alloc (.cells #[.slice (some ⟨w1.heap.size + 1, 0, none⟩) 0 0] 29)).heap[w1.heap.size]? = some (.cells cs 44 (0, 0)) from ((Below.heap_alloc _ _ _ (by have := lt_of_block HL.out; simp; omega)).trans (Below.heap_alloc X _ _ (lt_of_block HL.out))).trans HL.out)
    have hXs := HWS1.out
    gi_wp2_with (first
      | (refine wpListIn_store_row (Open.wide _) rfl 44 _ _ rfl w1.heap.size cs rfl rfl 44 zeroG (heap_new0 w1 _) HS.out HZ.out HONE.out ?_; rw [HX.out])
      | refine wpListIn_load_row (Open.wide _) rfl 44 _ rfl w1.heap.size rfl 44 cs (0, 0) _ HL2.out Try.underlying44 rfl HS.out ?_)
    refine ⟨trivial, callsIn_wide.2 ((ways_any cs q _).mono ?_)⟩
    rintro e w2 ⟨rfl, hw2⟩
    clear hXs
    have hs2 : w2.heap.size = w1.heap.size + 5 := by rw [hw2]; simp [HWS1.out]
    have K0 := hid (show w2.heap[w1.heap.size]? = some (.cells cs 44 (0, 0)) by
      rw [hw2, Below.heap_alloc _ _ _ (by simp [HWS1.out]; omega), Below.heap_alloc _ _ _ (by simp [HWS1.out]; omega)]; exact HL2.out)
    have KR := hid (show GrowI w2 w.heap.size (.slice (some ⟨w1.heap.size + 1, 0, none⟩) 0 0) (cellsW m bw ([] : List (Fin L))) by
      have := growI_new X w.heap.size HW.out.size
      rw [HWS1.out] at this
      rw [hw2]
      exact World.ownsRow.alloc (World.ownsRow.alloc (World.ownsRow.alloc this _) _) _)
    have K1 := hid (show Boxed w2 (w1.heap.size + 1 + 1) 29 (.slice (some ⟨w1.heap.size + 1, 0, none⟩) 0 0) by
      unfold Boxed
      rw [hw2, ← HWS1.out]; simpa using heap_new2 (X.alloc (.cells #[] 3)) _ _ _)
    have KX := hid (show w2.heap[w1.heap.size + 3]? = some (.cells cs 44 (0, 0)) by
      rw [hw2]; simpa [HWS1.out] using heap_new1 ((X.alloc (.cells #[] 3)).alloc (.cells #[.slice (some ⟨w1.heap.size + 1, 0, none⟩) 0 0] 29)) (.cells cs 44) (.cells #[.int .i64 q] 3))
    have KP := hid (show Boxed w2 (w1.heap.size + 4) 3 (.int .i64 q) by
      unfold Boxed
      rw [hw2]; simpa [HWS1.out] using heap_new0 (((X.alloc (.cells #[] 3)).alloc (.cells #[.slice (some ⟨w1.heap.size + 1, 0, none⟩) 0 0] 29)).alloc (.cells cs 44)) (.cells #[.int .i64 q] 3))
    have KB := hid (show Below w.heap.size w w2 by
      rw [hw2]; exact (((HW.out.alloc HW.out.size _).alloc (by have := HW.out.size; simp; omega) _).alloc (by have := HW.out.size; simp; omega) _).alloc (by have := HW.out.size; simp; omega) _)
    have KS := hid hs2
    have KW := hid (show w.heap.size ≤ w1.heap.size from HB.out.size)
    clear hw2 hs2
    have e3 : ((X.alloc (.cells #[] 3)).alloc (.cells #[.slice (some ⟨w1.heap.size + 1, 0, none⟩) 0 0] 29)).heap.size = w1.heap.size + 3 := by simp [HWS1.out]
    rw [e3]
    clear e3
    gi_wp2
    refine wpIn_rangeFunc_ownH rfl (by omega) (gf := 88) (lb := #[.pointer (some ⟨w1.heap.size + 3, 0, none⟩), .pointer (some ⟨w1.heap.size + 4, 0, none⟩)]) rfl trivial (enters_of Try.func88 (by kernel_rfl) rfl)
      (HWS.out (w1.heap.size + 3) (w1.heap.size + 4) w2 KX.out KP.out) KeepsW.trans (keepsW_b (lt_of_block KX.out)) (Below.refl _ _) (fun _ => rfl)
      (fun pre W => (((∃ v, Boxed W (w1.heap.size + 1 + 1) 29 v ∧ W.ownsRow w.heap.size 3 1 v (cellsW m bw pre).length (intsV (cellsW m bw pre)) ∧ True) ∧ W.heap[w1.heap.size]? = some (.cells cs 44 (0, 0))) ∧ W.heap[w1.heap.size + 3]? = some (.cells cs 44 (0, 0))) ∧ Below w.heap.size w2 W)
      (fun _ _ _ => False)
      (OwnFrom.and (OwnFrom.and (OwnFrom.and (Own.from (holdsRow_own w.heap.size (w1.heap.size + 1 + 1) 29 3 1 (fun pre => (cellsW m bw pre).length) (fun pre => intsV (cellsW m bw pre)) (fun _ _ => True)) _) (ownFrom_heap _ _ (fun _ => _) (fun _ => rfl))) (ownFrom_heap _ _ (fun _ => _) (fun _ => rfl))) (ownFrom_below (by have := KS.out; have := KW.out; omega) (by have := KS.out; have := KW.out; omega)))
      (fun _ _ _ _ _ hs _ _ => hs)
      ⟨⟨⟨⟨_, K1.out, KR.out, trivial⟩, K0.out⟩, KX.out⟩, Below.refl _ _⟩
      (fun x a' W => ∃ Bx, w2.heap.size ≤ Bx ∧ W.heap[Bx]? = some (.cells (wayC (bw x.val)) 58 (0, 0)) ∧ ∃ u0 u1 u2 u3 u4 u5 u7 u10 u11 u12 u13 u14 u15 u16 u17 u18 u19 u20 u21 u22 u23 u24 u25 u26 u27 u28 u29 u30 : Value,
        a' = { tmps := #[u0, u1, u2, u3, u4, u5, .pointer (some ⟨w1.heap.size, 0, none⟩), u7, .pointer (some ⟨w1.heap.size + 1 + 1, 0, none⟩), .pointer (some ⟨Bx, 0, none⟩), u10, u11, u12, u13, u14, u15, u16, u17, u18, u19, u20, u21, u22, u23, u24, u25, u26, u27, u28, u29, u30], defers := [] })
      (fun x a' _ X Y row hs hg hr => by
        obtain ⟨Bx, h1, h2, h3⟩ := hs
        exact ⟨Bx, h1, ownFrom_heap _ Bx (fun (_ : Unit) => Obj.cells (wayC (bw x.val)) 58 (0, 0)) (fun _ => rfl) () X Y row h2 hg hr, h3⟩)
      ?assign ?body ?done ?stop
    case assign =>
      rintro l pre x W K ⟨⟨⟨⟨v, iv, ir, _⟩, i0⟩, i1⟩, i2⟩ hK
      have JV := hid iv
      have JR := hid ir
      have J0 := hid i0
      have J1 := hid i1
      have J2 := hid i2
      have JK := hid hK
      clear iv ir i0 i1 i2 hK
      obtain ⟨y, hy⟩ : ∃ y, bw x.val = y := ⟨_, rfl⟩
      unfold encW
      rw [hy] at JK ⊢
      clear hy
      obtain ⟨iv, kv, dv⟩ := y
      simp only [wayV, wayC] at JK ⊢
      gi_wp2
      have hsz : w2.heap.size ≤ W.heap.size := J2.out.size
      have hsz2 : w1.heap.size + 3 < W.heap.size := by have := KS.out; omega
      exact JK.out _ _ ((KeepsOthers.alloc _ _).from _) (KeepsW.below ((Below.refl _ W).alloc (Nat.le_refl _) _) hsz2)
        ⟨⟨⟨⟨v, JV.out.alloc _, JR.out.alloc _, trivial⟩, (Below.heap_alloc _ _ _ (by omega)).trans J0.out⟩, (Below.heap_alloc _ _ _ (by omega)).trans J1.out⟩, J2.out.alloc (by have := KW.out; omega) _⟩
        ⟨W.heap.size, hsz, heap_new0 W _, _, _, _, _, _, _, _, _, _, _, _, _, _, _, _, _, _, _, _, _, _, _, _, _, _, _, _, _, rfl⟩
    case body =>
      rintro l pre x a' W hlw ⟨r, hr⟩ ⟨⟨⟨⟨v, iv, ir, _⟩, i0⟩, i1⟩, i2⟩ ⟨Bx, hBx, hX, u0, u1, u2, u3, u4, u5, u7, u10, u11, u12, u13, u14, u15, u16, u17, u18, u19, u20, u21, u22, u23, u24, u25, u26, u27, u28, u29, u30, rfl⟩ hlt
      have hce := hid (HCE.out x.val x.isLt)
      have hsn := cellsW_snoc m bw pre x
      have hlen := cellsW_length m bw pre
      have irr : GrowI W w.heap.size v (cellsW m bw pre) := ir
      clear ir
      generalize cellsW m bw pre = cl at irr hsn hlen
      generalize ((cellN m (bw x.val) : Nat) : Int) = cv at hce hsn
      obtain ⟨y, hy⟩ : ∃ y, bw x.val = y := ⟨_, rfl⟩
      rw [hy] at hX hce
      clear hy
      obtain ⟨yi, yk, yd⟩ := y
      simp only at hce
      obtain ⟨A', c', rfl, _⟩ := irr.ints
      have DV := hid (show ∀ w', Cls W w' → w'.cell? ⟨w1.heap.size + 1 + 1, 0, none⟩ = some (.slice A' cl.length c') from fun w' hw => (show Boxed w' _ _ _ from (hw.block _ iv.lt).trans iv).cell)
      have D0 := hid (show ∀ w', Cls W w' → w'.heap[w1.heap.size]? = some (.cells cs 44 (0, 0)) from fun w' hw => (hw.block _ (lt_of_block i0)).trans i0)
      have C0 := hid (show ∀ w', Cls W w' → w'.cell? ⟨Bx, 0, none⟩ = some (.int .i64 yi) from fun w' hw => by rw [cell_of_row _ _ _ _ _ _ ((hw.block _ (lt_of_block hX)).trans hX)]; rfl)
      have C1 := hid (show ∀ w', Cls W w' → w'.cell? ⟨Bx, 1, none⟩ = some (.int .i64 yk) from fun w' hw => by rw [cell_of_row _ _ _ _ _ _ ((hw.block _ (lt_of_block hX)).trans hX)]; rfl)
      have IV := hid iv
      have IR := hid irr
      have I0 := hid i0
      have I1 := hid i1
      have I2 := hid i2
      have HSN := hid hsn
      have HLEN := hid (show cl.length ≤ 1000000 by omega)
      have hWs : w1.heap.size + 5 ≤ W.heap.size := by rw [← KS.out]; exact i2.size
      clear iv irr i0 i1 i2 hsn hlen hlt hr hX hlw
      gi_wp2
      refine wpIn_region_float (Open.round _ l) 5 (Cls W) (fun w' => w'.cell? ⟨w1.heap.size + 1 + 1, 0, none⟩ = some (.slice A' cl.length c')) _ _ rfl rfl rfl rfl (.slice A' cl.length c') (by kernel_rfl) (by kernel_rfl) (Below.refl _ W).drew (fun w' hw => DV.out w' hw) (fun _ _ _ h => h) (fun w' hw => by have hc := hw; go_simp) ?_
      simp only [List.take_succ_cons, List.take_zero, List.drop_succ_cons, List.drop_zero, Nat.reduceSub]
      refine wpQuiet_load_row rfl 44 _ rfl w1.heap.size rfl 44 cs (0, 0) _ D0.out Try.underlying44 rfl HS.out ?_
      quiet_step ((intro _; rfl))
      refine wpQuiet_value rfl (.agg #[.int .i64 yi, .int .i64 yk]) (fun w' hw => by have hc := C0.out w' hw; have hc1 := C1.out w' hw; go_simp) ?_
      refine wpQuiet_call rfl 55 #[.agg cs, .agg #[.int .i64 yi, .int .i64 yk]] (.int .i64 cv) (fun w _ => by go_simp) (fun w' hw => (hce.out w').mono fun e w'' ⟨he, hb'⟩ => ⟨he, hw.trans (hb'.mono hw.size)⟩) ?_
      refine wpQuiet_nil ?_
      intro w3 hw3
      have QR := hid (IR.out.below hw3)
      have QV := hid (show Boxed w3 (w1.heap.size + 1 + 1) 29 (.slice A' cl.length c') from (hw3.block _ IV.out.lt).trans IV.out)
      have Q0 := hid ((hw3.block _ (lt_of_block I0.out)).trans I0.out)
      have Q1 := hid ((hw3.block _ (lt_of_block I1.out)).trans I1.out)
      have Q2 := hid (I2.out.trans (hw3.mono (Nat.le_trans KB.out.size I2.out.size)))
      have QK := hid (keeps_below hw3)
      have QW := hid (KeepsW.below (g := w1.heap.size + 3) (n0 := w2.heap.size) hw3 (by omega))
      have Q3s := hid hw3.size
      clear hw3
      refine ⟨.slice (some ⟨w3.heap.size, 0, none⟩) 1 1, w3.alloc (.cells #[.int .i64 cv] 3), by go_simp, (show Boxed (w3.alloc _) _ _ _ from QV.out.alloc _).cell, ?_⟩
      gi_wp2_with (gi_at_builtin; refine wpListIn_appendI rfl _ _ rfl w.heap.size (.slice A' cl.length c') cl rfl (World.ownsRow.alloc QR.out _) w3.heap.size 1 rfl cv (cell_newI w3 _) HLEN.out (by have := Q3s.out; have := KW.out; simp; omega) ?_)
      intro g cap w4 hown hgrow
      obtain ⟨hv1, hv2, hr2, hk2, hb2⟩ := QV.out.appended (by decide) QR.out (by have := Q3s.out; have := KW.out; omega) (by have := KW.out; omega) hown hgrow
      have hc1 := hv1.cell
      have hf1 := hv1.frozen
      have R0 := hid (grown_heap (World.ownsRow.alloc QR.out _) hgrow ((Below.heap_alloc _ _ _ (lt_of_block Q0.out)).trans Q0.out) (by decide))
      have R1 := hid (grown_heap (World.ownsRow.alloc QR.out _) hgrow ((Below.heap_alloc _ _ _ (lt_of_block Q1.out)).trans Q1.out) (by decide))
      have RW := hid ((QW.out.trans (KeepsW.below ((Below.refl _ w3).alloc (Nat.le_refl _) (.cells #[.int .i64 cv] 3)) (by have := Q3s.out; omega))).trans (KeepsW.grown (World.ownsRow.alloc QR.out _) hgrow ((Below.heap_alloc _ _ _ (lt_of_block Q1.out)).trans Q1.out)))
      have V2 := hid hv2
      have RR := hid hr2
      have RK := hid (QK.out.trans hk2)
      have RB := hid (Q2.out.trans hb2)
      clear hv1 hv2 hr2 hk2 hb2 hgrow hown
      gi_wp2
      refine ⟨RK.out.from _, RW.out.trans (KeepsW.setCell _ _ _ (by omega) (by have := KS.out; omega)), ⟨⟨⟨_, V2.out, ?_, trivial⟩, ?_⟩, ?_⟩, RB.out⟩
      · rw [HSN.out]; exact RR.out
      · rw [Below.heap_setCell _ _ _ _ (by simp; omega)]; exact R0.out
      · rw [Below.heap_setCell _ _ _ _ (by simp)]; exact R1.out
    case done =>
      rintro D xs W hD rfl ⟨⟨⟨⟨v, iv, ir, _⟩, i0⟩, i1⟩, i2⟩ hK
      rw [cellsW_all] at ir
      have irr : GrowI W w.heap.size v (cellsI m bw L) := ir
      obtain ⟨A', c', rfl, hown⟩ := irr.own
      have hcell := iv.cell
      have J2 := hid i2
      have JK := hid hK
      have JO := hid hown
      clear iv ir irr i0 i1 i2 hK hown
      gi_wp2
      refine ⟨by simp, .inl ⟨_, _, rfl, run_takeDeferred JK.out, ?_⟩⟩
      refine ⟨_, results_tmp2 rfl _ _ _, ?_, A', c', cellsI m bw L, true, rfl, .inl ⟨n, m, q, HQ.out, HRR.out, HRL.out, rfl⟩, ?_⟩
      · exact (KB.out.trans J2.out).trans (belowK_b (w := w) (Nat.le_refl _) _ D _ _ (by have := KS.out; have := KW.out; omega) JK.out rfl rfl)
      · exact JO.out.put hD JK.out
    case stop =>
      rintro D c pre W _ _ h _
      exact h.elim
  · have HB := hid hbel
    have HGr := hid hno
    clear hbel hno
    gi_wp2_with (refine wpListIn_store_row (Open.wide _) rfl 44 _ _ rfl w1.heap.size zeroG rfl rfl 44 zeroG (heap_new0 w1 _) Try.size_grid rfl (gcells_one 0 0 (pad [])) ?_)
    refine ⟨_, results_tmp2 rfl _ _ _, ?_, none, 0, [], false, rfl, .inr ⟨HGr.out, rfl, rfl⟩, .inl ⟨rfl, rfl⟩⟩
    exact HB.out.trans (below_setRow' ((Below.refl _ w1).alloc HB.out.size _) HB.out.size _)

end Go.Proofs.Ytpbppkidglmacaa
