/- The places at which two beams meet, by the contract of meetings. -/
import Derived.Test.YtpbppkidglmacaaBunJ
import Derived.Test.YtpbppkidglmacaaMeetsM
namespace Go.Proofs.Ytpbppkidglmacaa
open Go.RowKit Go.Shelf
attribute [local go_sem] Oper.semAt_some

/-- The places of the ways with something among those that have come. -/
def metL {L : Nat} (bw : Nat → Wy) (g : Wy → Bool) (pre : List (Fin L)) : List (Int × Int) := (pre.filter fun x => g (bw x.val)).map fun x => ((bw x.val).i, (bw x.val).k)
theorem metL_yes {L : Nat} (bw : Nat → Wy) (g : Wy → Bool) (pre : List (Fin L)) (x : Fin L) (h : g (bw x.val) = true) : metL bw g (pre ++ [x]) = metL bw g pre ++ [((bw x.val).i, (bw x.val).k)] := by
  simp [metL, List.filter_append, h]
theorem metL_no {L : Nat} (bw : Nat → Wy) (g : Wy → Bool) (pre : List (Fin L)) (x : Fin L) (h : g (bw x.val) = false) : metL bw g (pre ++ [x]) = metL bw g pre := by
  simp [metL, List.filter_append, h]
theorem metL_le {L : Nat} (bw : Nat → Wy) (g : Wy → Bool) (pre : List (Fin L)) : (metL bw g pre).length ≤ pre.length := by
  unfold metL
  rw [List.length_map]
  exact List.length_filter_le _ _
theorem metL_all (L : Nat) (bw : Nat → Wy) (g : Wy → Bool) : metL bw g (List.finRange L) = ((List.range L).filter fun j => g (bw j)).map fun j => ((bw j).i, (bw j).k) := by
  unfold metL
  have e := upto_val (N := L) (k := L) (Nat.le_refl _)
  rw [upto_all] at e
  rw [← e, List.filter_map, List.map_map]
  rfl
theorem times_cell' {n m : Nat} {t : Int → Int → UInt8} {p : Nat} {x : Wy} (hp : p < 2 * (n + m)) (hx : inG n m x) : upT (fun d => goesTo (bway n m t p) (blen n m t p) ⟨x.i, x.k, d⟩) 4 = (bcells n m t p).count (cellN m x) := by
  obtain ⟨h1, h2, h3, h4⟩ := hx
  have e := times_count (n := n) (m := m) (t := t) (p := p) (i := x.i.toNat) (k := x.k.toNat) hp (by omega)
  rw [Int.toNat_of_nonneg h1, Int.toNat_of_nonneg h3] at e
  exact e
/-- All of them. -/
def metP (n m : Nat) (t : Int → Int → UInt8) (a b : Nat) : List (Int × Int) := ((List.range (blen n m t b)).filter fun j => goesC n m t a (cellN m (bway n m t b j))).map fun j => ((bway n m t b j).i, (bway n m t b j).k)
theorem KeepsW.grownPl {g n0 base : Nat} {W W' : World} {v : Value} {l : List (Int × Int)} {cs : Array Value} (hrow : GrowPl W base v l) (hg : W.grownBy W' v.ownBlock) (hB : W.heap[g]? = some (.cells cs 44 (0, 0))) : KeepsW g n0 W W' :=
  ⟨hg.size, (grownPl_heap hrow hg hB (by decide)).trans hB.symm, fun _ _ _ hb => grownPl_heap hrow hg hb (by decide)⟩

set_option maxRecDepth 100000 in
set_option maxHeartbeats 4000000 in
theorem meetings_any (n m a b : Nat) (ls : List UInt8) (w : World) (hl : ls.length = 25) (hn1 : 1 ≤ n) (hn5 : n ≤ 5) (hm1 : 1 ≤ m) (hm5 : m ≤ 5) (ha : a < 2 * (n + m)) (hb : b < 2 * (n + m)) :
    Calls Try.prog 72 #[.agg (gcells n m ls), .int .i64 (a : Int), .int .i64 (b : Int)] w fun e w' => ∃ v, e = .returned v ∧ GrowPl w' w.heap.size v (metP n m (lett m ls) a b) ∧ Below w.heap.size w w' := by
  have HGC := hid (show (gcells n m ls).size = 27 from gcells_size hl)
  have HONE := hid (gcells_one n m ls)
  have HNEW := hid (fun w' => newTrace_any (gcells n m ls) HGC.out HONE.out w')
  have HASK := hid (show ∀ bb xs w', MapOf w' bb xs → Calls Try.prog 57 #[.agg (tcells (gcells n m ls) bb), .int .i64 (a : Int)] w' fun e w'' => (∃ v, e = .returned v) ∧ MapOf w'' bb (waysL (bway n m (lett m ls) a) (blen n m (lett m ls) a)) ∧ w'.grownBy w'' (some bb) from fun bb xs w' hm => ask_any n m a _ bb ls xs w' rfl hl hn5 hm5 ha hm)
  have HOKW := hid (okW_ways (t := lett m ls) (q := a) hn5 hm5)
  have HTIM := hid (show ∀ (bb : Nat) (x : Wy) (w' : World), inG n m x → MapOf w' bb (waysL (bway n m (lett m ls) a) (blen n m (lett m ls) a)) → Calls Try.prog 91 #[.agg (tcells (gcells n m ls) bb), .agg #[.int .i64 x.i, .int .i64 x.k]] w' fun e w'' => e = .returned (.int .i64 (((bcells n m (lett m ls) a).count (cellN m x) : Nat) : Int)) ∧ Below w'.heap.size w' w'' from fun bb x w' hx hm => by
    rw [← times_cell' ha hx]
    obtain ⟨h1, h2, h3, h4⟩ := hx
    exact times_any (gcells n m ls) HGC.out bb _ _ _ _ (by omega) w' hm HOKW.out)
  have HC2 := hid (fun c => count_le2 (n := n) (m := m) (t := lett m ls) (p := a) (c := c) ha hm1)
  have HS := hid (show (Try.prog.info? 44).map (·.size) = some (gcells n m ls).size by rw [HGC.out]; exact Try.size_grid)
  have HST := hid (fun b => show (Try.prog.info? 62).map (·.size) = some (tcells (gcells n m ls) b).size by rw [tcells_size HGC.out]; exact Try.size_trace)
  have HTO := hid (fun b => tcells_one HONE.out b)
  have HTZ := hid (fun b => show zeroT.size = (tcells (gcells n m ls) b).size by rw [tcells_size HGC.out]; rfl)
  have HWS := hid (fun (Bg Bp : Nat) (w' : World) h1 h2 => ways_stops 2 Bg Bp n m b (blen n m (lett m ls) b) ls rfl hl hn5 hm5 hb w' h1 h2)
  have HINB := hid (fun j (hj : j < blen n m (lett m ls) b) => blen_in (n := n) (m := m) (t := lett m ls) hj)
  have HGO := hid (show ∀ c, goesC n m (lett m ls) a c = decide (0 < (bcells n m (lett m ls) a).count c) from fun _ => rfl)
  have HRR := hid (show ((List.range (blen n m (lett m ls) b)).filter fun j => goesC n m (lett m ls) a (cellN m (bway n m (lett m ls) b j))).map (fun j => ((bway n m (lett m ls) b j).i, (bway n m (lett m ls) b j).k)) = metP n m (lett m ls) a b from rfl)
  have hL100 : blen n m (lett m ls) b ≤ 100 := by
    have h1 := blen_lt (t := lett m ls) hb
    have h2 : n * m ≤ 25 := Nat.mul_le_mul hn5 hm5
    omega
  clear hl hn1 hn5 hm1 hm5 ha hb
  generalize waysL (bway n m (lett m ls) a) (blen n m (lett m ls) a) = wl at *
  generalize bcells n m (lett m ls) a = bc at *
  generalize goesC n m (lett m ls) a = gc at *
  generalize metP n m (lett m ls) a b = RL at *
  generalize bway n m (lett m ls) b = bw at *
  generalize blen n m (lett m ls) b = L at *
  generalize gcells n m ls = cs at *
  have G0 := hid (heap_new0 w (.cells cs 44))
  have GB := hid ((Below.refl w.heap.size w).alloc (Nat.le_refl _) (.cells cs 44))
  have GS := hid (show (w.alloc (.cells cs 44)).heap.size = w.heap.size + 1 by simp)
  refine (callsIn_wide (n := 3)).1 ?_
  refine callsIn_of_wp_marks Try.func72 rfl trivial ?_ rfl
  simp only [Try.ntmps72, List.size_toArray, List.length_cons, List.length_nil, Nat.reduceAdd, Nat.reduceSub, Array.replicate_succ, Array.replicate_zero, List.push_toArray, List.append_toArray, List.nil_append, List.cons_append]
  gi_wp2_with (refine wpListIn_load_row (Open.wide _) rfl 44 _ rfl w.heap.size rfl 44 cs (0, 0) _ G0.out Try.underlying44 rfl HS.out ?_)
  generalize World.alloc w _ = X at G0 GB GS ⊢
  refine ⟨trivial, callsIn_wide.2 ((HNEW.out _).mono ?_)⟩
  rintro e w2 ⟨rfl, hm2, hb2⟩
  have HM2 := hid hm2
  have HB2 := hid hb2
  have HG2 := hid ((hb2.block _ (lt_of_block G0.out)).trans G0.out)
  clear hm2 hb2
  generalize hbb : X.heap.size + 2 = mb at *
  have HBB := hid (show w.heap.size + 3 = mb by rw [← hbb, GS.out])
  clear hbb
  have HN2 := hid (heap_new0 w2 (.cells zeroT 62))
  have HL2 := hid (setRow_heap (w2.alloc (.cells zeroT 62)) w2.heap.size zeroT (tcells cs mb) 62 (0, 0) (heap_new0 w2 _))
  have HM3 := hid (show MapOf ((w2.alloc (.cells zeroT 62)).setRow w2.heap.size (tcells cs mb)) mb ([] : List Wy) from (HM2.out.alloc _).kept (setRow_other _ _ _ _ (by have := HM2.out.lt; omega)))
  have HXW := hid (show w.heap.size ≤ X.heap.size by rw [GS.out]; omega)
  have HB3 := hid (show Below w.heap.size w ((w2.alloc (.cells zeroT 62)).setRow w2.heap.size (tcells cs mb)) from
    (GB.out.trans (HB2.out.mono HXW.out)).trans (below_setRow' ((Below.refl _ w2).alloc (by have := HB2.out.size; have := HXW.out; omega) _) (by have := HB2.out.size; have := HXW.out; omega) _))
  have HGY := hid (show ((w2.alloc (.cells zeroT 62)).setRow w2.heap.size (tcells cs mb)).heap[w.heap.size]? = some (.cells cs 44 (0, 0)) by
    rw [setRow_other _ _ _ _ (by have := lt_of_block HG2.out; omega), Below.heap_alloc _ _ _ (lt_of_block HG2.out)]; exact HG2.out)
  generalize hY : (w2.alloc (.cells zeroT 62)).setRow w2.heap.size (tcells cs mb) = Y at HL2 HM3 HB3 HGY
  have HY := hid hY
  clear hY
  gi_wp2_with (first
    | (refine wpListIn_store_row (Open.wide _) rfl 62 _ _ rfl w2.heap.size (tcells cs mb) rfl rfl 62 zeroT HN2.out (HST.out mb) (HTZ.out mb) (HTO.out mb) ?_; rw [HY.out])
    | refine wpListIn_load_row (Open.wide _) rfl 62 _ rfl w2.heap.size rfl 62 (tcells cs mb) (0, 0) _ HL2.out Try.underlying62 rfl (HST.out mb) ?_)
  refine ⟨trivial, callsIn_wide.2 ((HASK.out mb _ Y HM3.out).mono ?_)⟩
  rintro e w3 ⟨⟨v3, rfl⟩, hm3, hg3⟩
  have HT3 := hid (show w3.heap[w2.heap.size]? = some (.cells (tcells cs mb) 62 (0, 0)) from (hg3.block _ (lt_of_block HL2.out) (by have := HM2.out.lt; intro e; cases e; omega)).trans HL2.out)
  have HK3 := hid (show w3.heap[w.heap.size]? = some (.cells cs 44 (0, 0)) from (hg3.block _ (lt_of_block HGY.out) (by have := HBB.out; intro e; cases e; omega)).trans HGY.out)
  have HM4 := hid hm3
  have HB4 := hid (show Below w.heap.size w w3 from HB3.out.trans (below_grown hg3 HB3.out.size (by have := HBB.out; omega)))
  clear hm3 hg3
  have HS0 := hid (show ((w3.alloc (.cells #[] 55)).alloc (.cells #[.slice (some ⟨w3.heap.size, 0, none⟩) 0 0] 68)).heap[w.heap.size]? = some (.cells cs 44 (0, 0)) from (Below.heap_alloc _ _ _ (by have := lt_of_block HK3.out; simp; omega)).trans ((Below.heap_alloc _ _ _ (lt_of_block HK3.out)).trans HK3.out))
  gi_wp2_with (refine wpListIn_load_row (Open.wide _) rfl 44 _ rfl w.heap.size rfl 44 cs (0, 0) _ HS0.out Try.underlying44 rfl HS.out ?_)
  refine ⟨trivial, callsIn_wide.2 ((ways_any cs b _).mono ?_)⟩
  rintro e w5 ⟨rfl, hw5⟩
  have NB := hid ((HB4.out.alloc HB4.out.size (.cells #[] 55)).alloc (by have := HB4.out.size; simp; omega) (.cells #[.slice (some ⟨w3.heap.size, 0, none⟩) 0 0] 68))
  have K5 := hid (show Below w3.heap.size w3 w5 by rw [hw5]; exact ((((Below.refl _ w3).alloc (Nat.le_refl _) _).alloc (by simp) _).alloc (by simp; omega) _).alloc (by simp; omega) _)
  have KP := hid (show GrowPl w5 w.heap.size (.slice (some ⟨w3.heap.size, 0, none⟩) 0 0) (metL bw (fun y => gc (cellN m y)) ([] : List (Fin L))) by
    have := growPl_new w3 w.heap.size HB4.out.size
    rw [hw5]
    exact World.ownsRow.alloc (World.ownsRow.alloc (World.ownsRow.alloc this _) _) _)
  have KX := hid (show Boxed w5 (w3.heap.size + 1) 68 (.slice (some ⟨w3.heap.size, 0, none⟩) 0 0) by
    unfold Boxed
    have := heap_new2 (w3.alloc (.cells #[] 55)) (.cells #[.slice (some ⟨w3.heap.size, 0, none⟩) 0 0] 68) (.cells cs 44) (.cells #[.int .i64 (b : Int)] 3)
    rw [World.size_alloc] at this
    rw [hw5]; exact this)
  have KG := hid (show w5.heap[w3.heap.size + 2]? = some (.cells cs 44 (0, 0)) by
    have := heap_new1 ((w3.alloc (.cells #[] 55)).alloc (.cells #[.slice (some ⟨w3.heap.size, 0, none⟩) 0 0] 68)) (.cells cs 44) (.cells #[.int .i64 (b : Int)] 3)
    rw [World.size_alloc, World.size_alloc] at this
    rw [hw5]; exact this)
  have KQ := hid (show Boxed w5 (w3.heap.size + 3) 3 (.int .i64 (b : Int)) by
    unfold Boxed
    have := heap_new0 (((w3.alloc (.cells #[] 55)).alloc (.cells #[.slice (some ⟨w3.heap.size, 0, none⟩) 0 0] 68)).alloc (.cells cs 44)) (.cells #[.int .i64 (b : Int)] 3)
    rw [World.size_alloc, World.size_alloc, World.size_alloc] at this
    rw [hw5]; exact this)
  have KS := hid (show w5.heap.size = w3.heap.size + 4 by rw [hw5]; simp)
  have KB := hid (show Below w.heap.size w w5 from HB4.out.trans (K5.out.mono HB4.out.size))
  have KT := hid (show w5.heap[w2.heap.size]? = some (.cells (tcells cs mb) 62 (0, 0)) from (K5.out.block _ (lt_of_block HT3.out)).trans HT3.out)
  have KM := hid (show MapOf w5 mb wl from HM4.out.kept (K5.out.block _ HM4.out.lt))
  have KW := hid (show w.heap.size ≤ w3.heap.size from HB4.out.size)
  have KL2 := hid (show w2.heap.size < w3.heap.size from lt_of_block HT3.out)
  have KML := hid (show mb < w3.heap.size from HM4.out.lt)
  have e3 : ((w3.alloc (.cells #[] 55)).alloc (.cells #[.slice (some ⟨w3.heap.size, 0, none⟩) 0 0] 68)).heap.size = w3.heap.size + 2 := by simp
  rw [e3]
  clear hw5 e3
  gi_wp2
  refine wpIn_rangeFunc_ownH rfl (by omega) (gf := 88) (lb := #[.pointer (some ⟨w3.heap.size + 2, 0, none⟩), .pointer (some ⟨w3.heap.size + 3, 0, none⟩)]) rfl trivial (enters_of Try.func88 (by kernel_rfl) rfl)
    (HWS.out (w3.heap.size + 2) (w3.heap.size + 3) w5 KG.out KQ.out) KeepsW.trans (keepsW_b (lt_of_block KG.out)) (Below.refl _ _) (fun _ => rfl)
    (fun pre W => (((W.heap[w2.heap.size]? = some (.cells (tcells cs mb) 62 (0, 0)) ∧ W.heap[w3.heap.size + 2]? = some (.cells cs 44 (0, 0))) ∧ MapOf W mb wl) ∧ (∃ v, Boxed W (w3.heap.size + 1) 68 v ∧ W.ownsRow w.heap.size 55 2 v (metL bw (fun y => gc (cellN m y)) pre).length (plV (metL bw (fun y => gc (cellN m y)) pre)) ∧ True)) ∧ Below w.heap.size w5 W)
    (fun _ _ _ => False)
    (OwnFrom.and (OwnFrom.and (OwnFrom.and (OwnFrom.and (ownFrom_heap _ _ (fun _ => _) (fun _ => rfl)) (ownFrom_heap _ _ (fun _ => _) (fun _ => rfl))) (own_map mb _ (fun _ => wl) KM.out.lt)) (Own.from (holdsRow_own w.heap.size (w3.heap.size + 1) 68 55 2 (fun pre => (metL bw (fun y => gc (cellN m y)) pre).length) (fun pre => plV (metL bw (fun y => gc (cellN m y)) pre)) (fun _ _ => True)) _)) (ownFrom_below (by have := KS.out; have := KW.out; omega) (by have := KS.out; have := KW.out; omega)))
    (fun _ _ _ _ _ hs _ _ => hs)
    ⟨⟨⟨⟨KT.out, KG.out⟩, KM.out⟩, _, KX.out, KP.out, trivial⟩, Below.refl _ _⟩
    (fun x a' W => ∃ Bx, w5.heap.size ≤ Bx ∧ W.heap[Bx]? = some (.cells (wayC (bw x.val)) 58 (0, 0)) ∧ ∃ u0 u1 u2 u4 u5 u6 u10 u11 u12 u13 u14 u15 u16 u17 u18 u19 u20 u21 u22 u23 u24 u25 u26 u27 u28 u29 u30 : Value,
      a' = { tmps := #[u0, u1, u2, .pointer (some ⟨w.heap.size, 0, none⟩), u4, u5, u6, .pointer (some ⟨w2.heap.size, 0, none⟩), .pointer (some ⟨w3.heap.size + 1, 0, none⟩), .pointer (some ⟨Bx, 0, none⟩), u10, u11, u12, u13, u14, u15, u16, u17, u18, u19, u20, u21, u22, u23, u24, u25, u26, u27, u28, u29, u30], defers := [] })
    (fun x a' _ X Y row hs hg hr => by
      obtain ⟨Bx, h1, h2, h3⟩ := hs
      exact ⟨Bx, h1, ownFrom_heap _ Bx (fun (_ : Unit) => Obj.cells (wayC (bw x.val)) 58 (0, 0)) (fun _ => rfl) () X Y row h2 hg hr, h3⟩)
    ?assign ?body ?done ?stop
  case assign =>
    rintro l pre x W K ⟨⟨⟨⟨i0, i3⟩, i1⟩, v, iv, ir, _⟩, i2⟩ hK
    have J0 := hid i0
    have J3 := hid i3
    have J1 := hid i1
    have JV := hid iv
    have JR := hid ir
    have J2 := hid i2
    have JK := hid hK
    clear i0 i1 i2 i3 iv ir hK
    obtain ⟨y, hy⟩ : ∃ y, bw x.val = y := ⟨_, rfl⟩
    unfold encW
    rw [hy] at JK ⊢
    clear hy
    obtain ⟨iv, kv, dv⟩ := y
    simp only [wayV, wayC] at JK ⊢
    gi_wp2
    have hsz : w5.heap.size ≤ W.heap.size := J2.out.size
    exact JK.out _ _ ((KeepsOthers.alloc _ _).from _) (KeepsW.below ((Below.refl _ W).alloc (Nat.le_refl _) _) (by have := KS.out; omega))
      ⟨⟨⟨⟨(Below.heap_alloc _ _ _ (lt_of_block J0.out)).trans J0.out, (Below.heap_alloc _ _ _ (lt_of_block J3.out)).trans J3.out⟩, J1.out.alloc _⟩, v, JV.out.alloc _, JR.out.alloc _, trivial⟩, J2.out.alloc (by have := KS.out; have := KW.out; omega) _⟩
      ⟨W.heap.size, hsz, heap_new0 W _, _, _, _, _, _, _, _, _, _, _, _, _, _, _, _, _, _, _, _, _, _, _, _, _, _, _, _, rfl⟩
  case body =>
    rintro l pre x a' W hlw ⟨r, hr⟩ ⟨⟨⟨⟨i0, i3⟩, i1⟩, v, iv, ir, _⟩, i2⟩ ⟨Bx, hBx, hX, u0, u1, u2, u4, u5, u6, u10, u11, u12, u13, u14, u15, u16, u17, u18, u19, u20, u21, u22, u23, u24, u25, u26, u27, u28, u29, u30, rfl⟩ hlt
    have htim := hid (HTIM.out mb (bw x.val) W (HINB.out x.val x.isLt) i1)
    have hle := metL_le bw (fun y => gc (cellN m y)) pre
    have hy1 := metL_yes bw (fun y => gc (cellN m y)) pre x
    have hno := metL_no bw (fun y => gc (cellN m y)) pre x
    have irr : GrowPl W w.heap.size v (metL bw (fun y => gc (cellN m y)) pre) := ir
    clear ir
    have hga := HGO.out (cellN m (bw x.val))
    have hxb := HC2.out (cellN m (bw x.val))
    generalize bc.count (cellN m (bw x.val)) = xc at htim hga hxb
    generalize gc (cellN m (bw x.val)) = gv at hga hy1 hno
    obtain ⟨y, hy⟩ : ∃ y, bw x.val = y := ⟨_, rfl⟩
    rw [hy] at hX htim hy1
    clear hy
    obtain ⟨ii, kk, dv⟩ := y
    simp only at htim
    have HXB := hid hX
    have c0 : W.cell? ⟨Bx, 0, none⟩ = some (.int .i64 ii) := by rw [cell_of_row _ _ _ _ _ _ hX]; rfl
    have c1 : W.cell? ⟨Bx, 1, none⟩ = some (.int .i64 kk) := by rw [cell_of_row _ _ _ _ _ _ hX]; rfl
    generalize metL bw (fun y => gc (cellN m y)) pre = pl at irr hle hy1 hno
    obtain ⟨A', c', rfl⟩ := irr.slice
    have I0 := hid i0
    have I3 := hid i3
    have I1 := hid i1
    have IV := hid iv
    have IR := hid irr
    have I2 := hid i2
    have HYE := hid hy1
    have HNO := hid hno
    have HLEN := hid (show pl.length ≤ 1000000 by omega)
    clear i0 i1 i2 i3 iv irr hy1 hno hle hlt hr hX hlw
    gi_wp2_with (refine wpListIn_load_row (Open.round _ l) rfl 62 _ rfl w2.heap.size rfl 62 (tcells cs mb) (0, 0) _ I0.out Try.underlying62 rfl (HST.out mb) ?_)
    refine ⟨trivial, CallsIn.inRound l (callsIn_wide.2 (htim.out.mono ?_))⟩
    rintro e w6 ⟨rfl, hb6⟩
    have E0 := hid ((hb6.block _ (lt_of_block I0.out)).trans I0.out)
    have E3 := hid ((hb6.block _ (lt_of_block I3.out)).trans I3.out)
    have EM := hid (I1.out.kept (hb6.block _ I1.out.lt))
    have EV := hid (show Boxed w6 (w3.heap.size + 1) 68 (.slice A' pl.length c') from (hb6.block _ IV.out.lt).trans IV.out)
    have ER := hid (IR.out.below hb6)
    have E2 := hid (I2.out.trans (hb6.mono (Nat.le_trans KB.out.size I2.out.size)))
    have EK := hid (keeps_below hb6)
    have EW := hid (KeepsW.below (g := w3.heap.size + 2) (n0 := w5.heap.size) hb6 (by have := I2.out.size; have := KS.out; omega))
    have EX := hid ((hb6.block _ (lt_of_block HXB.out)).trans HXB.out)
    have ES := hid hb6.size
    clear hb6 c0 c1
    cases gv with
    | true =>
      have hxi : (0 : Int) < (xc : Int) := by have := of_decide_eq_true hga.symm; omega
      have HYX := hid (HYE.out rfl)
      have d0 : w6.cell? ⟨Bx, 0, none⟩ = some (.int .i64 ii) := by rw [cell_of_row _ _ _ _ _ _ EX.out]; rfl
      have d1 : w6.cell? ⟨Bx, 1, none⟩ = some (.int .i64 kk) := by rw [cell_of_row _ _ _ _ _ _ EX.out]; rfl
      have hcell := EV.out.cell
      clear hga
      gi_wp2_with (gi_at_builtin; refine wpListIn_appendP rfl _ _ rfl w.heap.size (.slice A' pl.length c') pl rfl (World.ownsRow.alloc ER.out _) w6.heap.size 1 rfl (ii, kk) (heap_new0 w6 _) HLEN.out (by have := ES.out; have := I2.out.size; have := KS.out; have := KW.out; simp; omega) ?_)
      intro gg cap w7 hown hgrow
      obtain ⟨hv1, hv2, hr2, hk2, hb2⟩ := EV.out.appended (by decide) ER.out (by have := ES.out; have := I2.out.size; have := KS.out; have := KW.out; omega) (by have := KW.out; omega) hown hgrow
      have hc1 := hv1.cell
      have hf1 := hv1.frozen
      have R0 := hid (grownPl_heap (World.ownsRow.alloc ER.out _) hgrow ((Below.heap_alloc _ _ _ (lt_of_block E0.out)).trans E0.out) (by decide))
      have R3 := hid (grownPl_heap (World.ownsRow.alloc ER.out _) hgrow ((Below.heap_alloc _ _ _ (lt_of_block E3.out)).trans E3.out) (by decide))
      have RM := hid (show MapOf w7 mb wl from grownPl_map (World.ownsRow.alloc ER.out _) hgrow (EM.out.alloc _))
      have RW := hid ((EW.out.trans (KeepsW.below ((Below.refl _ w6).alloc (Nat.le_refl _) (.cells #[.int .i64 ii, .int .i64 kk] 55)) (by have := ES.out; have := I2.out.size; have := KS.out; omega))).trans (KeepsW.grownPl (World.ownsRow.alloc ER.out _) hgrow ((Below.heap_alloc _ _ _ (lt_of_block E3.out)).trans E3.out)))
      have V2 := hid hv2
      have RR := hid hr2
      have RK := hid (EK.out.trans hk2)
      have RB := hid (E2.out.trans hb2)
      clear hv1 hv2 hr2 hk2 hb2 hgrow hown hcell d0 d1
      gi_wp2
      refine ⟨RK.out.from _, RW.out.trans (KeepsW.setCell _ _ _ (by omega) (by have := KS.out; omega)), ⟨⟨⟨⟨?_, ?_⟩, ?_⟩, _, V2.out, ?_, trivial⟩, RB.out⟩⟩
      · rw [Below.heap_setCell _ _ _ _ (by have := KL2.out; show w2.heap.size ≠ w3.heap.size + 1; omega)]; exact R0.out
      · rw [Below.heap_setCell _ _ _ _ (by simp)]; exact R3.out
      · exact RM.out.kept (Below.heap_setCell _ _ _ _ (by have := KML.out; show mb ≠ w3.heap.size + 1; omega))
      · rw [HYX.out]; exact RR.out
    | false =>
      have hxi : ¬ (0 : Int) < (xc : Int) := by have := of_decide_eq_false hga.symm; omega
      have HYX := hid (HNO.out rfl)
      clear hga
      gi_wp2
      refine ⟨EK.out.from _, EW.out, ⟨⟨⟨⟨E0.out, E3.out⟩, EM.out⟩, _, EV.out, ?_, trivial⟩, E2.out⟩⟩
      rw [HYX.out]; exact ER.out
  case done =>
    rintro D xs W hD rfl ⟨⟨⟨⟨i0, i3⟩, i1⟩, v, iv, ir, _⟩, i2⟩ hK
    rw [metL_all] at ir
    have irr : GrowPl W w.heap.size v (((List.range L).filter fun j => gc (cellN m (bw j))).map fun j => ((bw j).i, (bw j).k)) := ir
    rw [HRR.out] at irr
    have hcell := iv.cell
    have J2 := hid i2
    have JK := hid hK
    have JO := hid irr
    clear iv ir irr i0 i1 i2 i3 hK
    gi_wp2
    refine ⟨by simp, .inl ⟨_, _, rfl, run_takeDeferred JK.out, ?_⟩⟩
    refine ⟨_, results_tmp rfl _ _ _, v, rfl, Plcs.put JO.out JK.out, ?_⟩
    exact (KB.out.trans J2.out).trans (belowK_b (w := w) (Nat.le_refl _) _ D _ _ (by have := KS.out; have := KW.out; omega) JK.out rfl rfl)
  case stop =>
    rintro D c pre W _ _ h _
    exact h.elim
end Go.Proofs.Ytpbppkidglmacaa
