/- Settled texts in one file. Each begins with what it holds. -/
import Derived.Test.YtonhnmpgikmlpaaBunO
import Derived.Test.YtonhnmpgikmlpaaBunA
import Derived.Test.YtonhnmpgikmlpaaBunJ
/- The beam of a port, as its two ports; two beams compared; a region that draws its order and holds guarded operations. -/
namespace Go.Proofs.Ytonhnmpgikmlpaa
open Go.RowKit Go.Shelf

theorem Try.size_beam : (Try.prog.info? 126).map (·.size) = some 2 := by kernel_rfl
def beamC (p b : Nat) : Array Value := #[.int .i64 (if (p : Int) < (b : Int) then (p : Int) else (b : Int)), .int .i64 (if (p : Int) < (b : Int) then (b : Int) else (p : Int))]

set_option maxRecDepth 100000 in
set_option maxHeartbeats 2000000 in
theorem beam_any (n m p : Nat) (ls : List UInt8) (w : World) (hl : ls.length = 25) (hn1 : 1 ≤ n) (hn : n ≤ 5) (hm1 : 1 ≤ m) (hm : m ≤ 5) (hp : p < 2 * (n + m)) :
    Calls Try.prog 115 #[.agg (gcells n m ls), .int .i64 p] w fun e w' => e = .returned (.agg (beamC p (bend_ n m (lett m ls) p))) ∧ Below w.heap.size w w' := by
  have HP := hid (fun w' => partner_any n m p ls w' hl hn1 hn hm1 hm hp)
  have HG := hid (show (Try.prog.info? 63).map (·.size) = some (gcells n m ls).size by rw [gcells_size hl]; exact Try.size_grid)
  have H0 := hid (fun o => heap_new1 w (.cells (gcells n m ls) 63) o)
  generalize gcells n m ls = cs at *
  generalize bend_ n m (lett m ls) p = bp at *
  clear hl hn1 hn hm1 hm hp
  go_enter Try.func115, Try.ntmps115
  go_wp2_with (refine wpList_load_row rfl 63 _ rfl w.heap.size rfl 63 cs (0, 0) _ (H0.out _) Try.underlying63 rfl HG.out ?_)
  refine (HP.out _).mono ?_
  rintro e w1 ⟨rfl, hb⟩
  have HB := hid (show Below w.heap.size w w1 from (((Below.refl _ w).alloc (Nat.le_refl _) _).alloc (by simp) _).trans (hb.mono (by simp; omega)))
  have HR := hid (show w1.heap[w.heap.size + 1]? = some (.cells #[.int .i64 0, .int .i64 0] 126 (0, 0)) from (hb.block _ (by simp)).trans (by simpa using heap_new0 (w.alloc (.cells cs 63)) (.cells #[.int .i64 0, .int .i64 0] 126)))
  clear hb
  have fin : ∀ x y : Int, (#[.int .i64 x, .int .i64 y] : Array Value) = beamC p bp → ∀ tmps : Array Value, tmps.getD 4 undef = .pointer (some ⟨w.heap.size + 1, 0, none⟩) →
      bodyPost Try.prog Try.f115 (fun e w' => e = .returned (.agg (beamC p bp)) ∧ Below w.heap.size w w') .ret { tmps := tmps, defers := [] } ((w1.setCell ⟨w.heap.size + 1, 0, none⟩ (.int .i64 x)).setCell ⟨w.heap.size + 1, 1, none⟩ (.int .i64 y)) := fun x y hxy tmps ht => by
    have r1 := heap_setCell_same _ _ 1 _ _ (.int .i64 y) (heap_setCell_same _ _ 0 _ _ (.int .i64 x) HR.out)
    refine bodyPost_ret (results_cell_row Try.results115 _ _ (w.heap.size + 1) 126 #[.int .i64 x, .int .i64 y] (0, 0) _ ht r1 Try.underlying126 rfl Try.size_beam) rfl ?_
    exact ⟨by rw [hxy], (HB.out.setCell (by show w.heap.size ≤ w.heap.size + 1; omega) _).setCell (by show w.heap.size ≤ w.heap.size + 1; omega) _⟩
  have k0 : w1.cell? ⟨w.heap.size + 1, 0, none⟩ = some (.int .i64 0) := by rw [cell_of_row _ _ _ _ _ _ HR.out]; rfl
  have k1 : w1.cell? ⟨w.heap.size + 1, 1, none⟩ = some (.int .i64 0) := by rw [cell_of_row _ _ _ _ _ _ HR.out]; rfl
  have f0 : w1.frozen? ⟨w.heap.size + 1, 0, none⟩ = false := frozen_of_row _ _ _ _ _ HR.out
  have f1 : w1.frozen? ⟨w.heap.size + 1, 1, none⟩ = false := frozen_of_row _ _ _ _ _ HR.out
  by_cases hlt : (p : Int) < (bp : Int)
  · have hE := hid (show (#[.int .i64 (p : Int), .int .i64 (bp : Int)] : Array Value) = beamC p bp by unfold beamC; rw [if_pos hlt, if_pos hlt])
    go_wp2_with fail
    refine fin _ _ hE.out _ ?_; rfl
  · have hE := hid (show (#[.int .i64 (bp : Int), .int .i64 (p : Int)] : Array Value) = beamC p bp by unfold beamC; rw [if_neg hlt, if_neg hlt])
    have hle : (bp : Int) ≤ (p : Int) := by omega
    by_cases hl2 : (bp : Int) < (p : Int)
    · go_wp2_with fail
      refine fin _ _ hE.out _ ?_; rfl
    · obtain rfl : bp = p := by omega
      go_wp2_with fail
      refine fin _ _ hE.out _ ?_; rfl

/-- Two beams are the same just if they have an end in common. -/
def loC (p b : Nat) : Int := if (p : Int) < (b : Int) then (p : Int) else (b : Int)
def hiC (p b : Nat) : Int := if (p : Int) < (b : Int) then (b : Int) else (p : Int)
theorem beamC_eq (p b : Nat) : beamC p b = #[.int .i64 (loC p b), .int .i64 (hiC p b)] := rfl
theorem beam_same {p q P Q : Nat} (h : p = q → P = Q) (h1 : P = q → Q = p) : decide (loC p P = loC q Q ∧ hiC p P = hiC q Q) = decide (p = q ∨ P = q) := by
  rw [decide_eq_decide]
  unfold loC hiC
  constructor
  · rintro ⟨a, b⟩
    split at a <;> split at a <;> simp_all <;> omega
  · rintro (e | e)
    · have := h e
      subst e
      subst this
      exact ⟨rfl, rfl⟩
    · have := h1 e
      subst e
      subst this
      constructor <;> split <;> split <;> omega

theorem run_eq_beam (ac : Act) (x y : Operand) (a b c d : Int) (w : World) (hx : ac.eval x = .agg #[.int .i64 a, .int .i64 b]) (hy : ac.eval y = .agg #[.int .i64 c, .int .i64 d]) (o : Oper) (ho : o.op = Op.binOp .eql 126 x y 126) :
    (execOp ac.eval o).run Try.prog w = .ok (.value (.bool (decide (a = c ∧ b = d)))) w := by
  unfold execOp
  simp only [ho, hx, hy]
  go_simp
  by_cases h1 : a = c <;> by_cases h2 : b = d <;> simp [h1, h2]
end Go.Proofs.Ytonhnmpgikmlpaa

/- The places at which two beams meet, by the contract of meetings. -/
namespace Go.Proofs.Ytonhnmpgikmlpaa
open Go.RowKit Go.Shelf
attribute [local go_sem] Oper.semAt_some

/-- The places of the ways with something among those that have come. -/
def metL {L : Nat} (bw : Nat → Wy) (g : Wy → Bool) (pre : List (Fin L)) : List (Int × Int) := (pre.filter fun x => g (bw x.val)).map fun x => ((bw x.val).i, (bw x.val).k)
theorem metL_yes {L : Nat} (bw : Nat → Wy) (g : Wy → Bool) (pre : List (Fin L)) (x : Fin L) (h : g (bw x.val) = true) : metL bw g (pre ++ [x]) = metL bw g pre ++ [((bw x.val).i, (bw x.val).k)] := by
  simp [metL, List.filter_append, h]
theorem metL_no {L : Nat} (bw : Nat → Wy) (g : Wy → Bool) (pre : List (Fin L)) (x : Fin L) (h : g (bw x.val) = false) : metL bw g (pre ++ [x]) = metL bw g pre := by
  simp [metL, List.filter_append, h]
theorem metL_le {L : Nat} (bw : Nat → Wy) (g : Wy → Bool) (pre : List (Fin L)) : (metL bw g pre).length ≤ pre.length := by
  unfold metL
  rw [List.length_map]
  exact List.length_filter_le _ _
theorem metL_all (L : Nat) (bw : Nat → Wy) (g : Wy → Bool) : metL bw g (List.finRange L) = ((List.range L).filter fun j => g (bw j)).map fun j => ((bw j).i, (bw j).k) := by
  unfold metL
  have e := upto_val (N := L) (k := L) (Nat.le_refl _)
  rw [upto_all] at e
  rw [← e, List.filter_map, List.map_map]
  rfl
theorem times_cell' {n m : Nat} {t : Int → Int → UInt8} {p : Nat} {x : Wy} (hp : p < 2 * (n + m)) (hx : inG n m x) : upT (fun d => goesTo (bway n m t p) (blen n m t p) ⟨x.i, x.k, d⟩) 4 = (bcells n m t p).count (cellN m x) := by
  obtain ⟨h1, h2, h3, h4⟩ := hx
  have e := times_count (n := n) (m := m) (t := t) (p := p) (i := x.i.toNat) (k := x.k.toNat) hp (by omega)
  rw [Int.toNat_of_nonneg h1, Int.toNat_of_nonneg h3] at e
  exact e
/-- All of them. -/
def metP (n m : Nat) (t : Int → Int → UInt8) (a b : Nat) : List (Int × Int) := ((List.range (blen n m t b)).filter fun j => goesC n m t a (cellN m (bway n m t b j))).map fun j => ((bway n m t b j).i, (bway n m t b j).k)
theorem KeepsW.grownPl {g n0 base : Nat} {W W' : World} {v : Value} {l : List (Int × Int)} {cs : Array Value} (hrow : GrowPl W base v l) (hg : W.grownBy W' v.ownBlock) (hB : W.heap[g]? = some (.cells cs 63 (0, 0))) : KeepsW g n0 W W' :=
  ⟨hg.size, (grownPl_heap hrow hg hB (by decide)).trans hB.symm, fun _ _ _ hb => grownPl_heap hrow hg hb (by decide)⟩

set_option maxRecDepth 100000 in
set_option maxHeartbeats 4000000 in
theorem meetings_any (n m a b : Nat) (ls : List UInt8) (w : World) (hl : ls.length = 25) (hn1 : 1 ≤ n) (hn5 : n ≤ 5) (hm1 : 1 ≤ m) (hm5 : m ≤ 5) (ha : a < 2 * (n + m)) (hb : b < 2 * (n + m)) :
    Calls Try.prog 66 #[.agg (gcells n m ls), .int .i64 (a : Int), .int .i64 (b : Int)] w fun e w' => ∃ v, e = .returned v ∧ GrowPl w' w.heap.size v (metP n m (lett m ls) a b) ∧ Below w.heap.size w w' := by
  have HGC := hid (show (gcells n m ls).size = 27 from gcells_size hl)
  have HONE := hid (gcells_one n m ls)
  have HNEW := hid (fun w' => newTrace_any (gcells n m ls) HGC.out HONE.out w')
  have HASK := hid (show ∀ bb xs w', MapOf w' bb xs → Calls Try.prog 118 #[.agg (tcells (gcells n m ls) bb), .int .i64 (a : Int)] w' fun e w'' => (∃ v, e = .returned v) ∧ MapOf w'' bb (waysL (bway n m (lett m ls) a) (blen n m (lett m ls) a)) ∧ w'.grownBy w'' (some bb) from fun bb xs w' hm => ask_any n m a _ bb ls xs w' rfl hl hn5 hm5 ha hm)
  have HOKW := hid (okW_ways (t := lett m ls) (q := a) hn5 hm5)
  have HTIM := hid (show ∀ (bb : Nat) (x : Wy) (w' : World), inG n m x → MapOf w' bb (waysL (bway n m (lett m ls) a) (blen n m (lett m ls) a)) → Calls Try.prog 120 #[.agg (tcells (gcells n m ls) bb), .agg #[.int .i64 x.i, .int .i64 x.k]] w' fun e w'' => e = .returned (.int .i64 (((bcells n m (lett m ls) a).count (cellN m x) : Nat) : Int)) ∧ Below w'.heap.size w' w'' from fun bb x w' hx hm => by
    rw [← times_cell' ha hx]
    obtain ⟨h1, h2, h3, h4⟩ := hx
    exact times_any (gcells n m ls) HGC.out bb _ _ _ _ (by omega) w' hm HOKW.out)
  have HC2 := hid (fun c => count_le2 (n := n) (m := m) (t := lett m ls) (p := a) (c := c) ha hm1)
  have HS := hid (show (Try.prog.info? 63).map (·.size) = some (gcells n m ls).size by rw [HGC.out]; exact Try.size_grid)
  have HST := hid (fun b => show (Try.prog.info? 131).map (·.size) = some (tcells (gcells n m ls) b).size by rw [tcells_size HGC.out]; exact Try.size_trace)
  have HTO := hid (fun b => tcells_one HONE.out b)
  have HTZ := hid (fun b => show zeroT.size = (tcells (gcells n m ls) b).size by rw [tcells_size HGC.out]; rfl)
  have HWS := hid (fun (Bg Bp : Nat) (w' : World) h1 h2 => ways_stops 2 Bg Bp n m b (blen n m (lett m ls) b) ls rfl hl hn5 hm5 hb w' h1 h2)
  have HINB := hid (fun j (hj : j < blen n m (lett m ls) b) => blen_in (n := n) (m := m) (t := lett m ls) hj)
  have HGO := hid (show ∀ c, goesC n m (lett m ls) a c = decide (0 < (bcells n m (lett m ls) a).count c) from fun _ => rfl)
  have HRR := hid (show ((List.range (blen n m (lett m ls) b)).filter fun j => goesC n m (lett m ls) a (cellN m (bway n m (lett m ls) b j))).map (fun j => ((bway n m (lett m ls) b j).i, (bway n m (lett m ls) b j).k)) = metP n m (lett m ls) a b from rfl)
  have hL100 : blen n m (lett m ls) b ≤ 100 := by
    have h1 := blen_lt (t := lett m ls) hb
    have h2 : n * m ≤ 25 := Nat.mul_le_mul hn5 hm5
    omega
  clear hl hn1 hn5 hm1 hm5 ha hb
  generalize waysL (bway n m (lett m ls) a) (blen n m (lett m ls) a) = wl at *
  generalize bcells n m (lett m ls) a = bc at *
  generalize goesC n m (lett m ls) a = gc at *
  generalize metP n m (lett m ls) a b = RL at *
  generalize bway n m (lett m ls) b = bw at *
  generalize blen n m (lett m ls) b = L at *
  generalize gcells n m ls = cs at *
  have G0 := hid (heap_new0 w (.cells cs 63))
  have GB := hid ((Below.refl w.heap.size w).alloc (Nat.le_refl _) (.cells cs 63))
  have GS := hid (show (w.alloc (.cells cs 63)).heap.size = w.heap.size + 1 by simp)
  refine (callsIn_wide (n := 3)).1 ?_
  refine callsIn_of_wp_marks Try.func66 rfl trivial ?_ rfl
  simp only [Try.ntmps66, List.size_toArray, List.length_cons, List.length_nil, Nat.reduceAdd, Nat.reduceSub, Array.replicate_succ, Array.replicate_zero, List.push_toArray, List.append_toArray, List.nil_append, List.cons_append]
  gi_wp2_with (refine wpListIn_load_row (Open.wide _) rfl 63 _ rfl w.heap.size rfl 63 cs (0, 0) _ G0.out Try.underlying63 rfl HS.out ?_)
  generalize World.alloc w _ = X at G0 GB GS ⊢
  refine ⟨trivial, callsIn_wide.2 ((HNEW.out _).mono ?_)⟩
  rintro e w2 ⟨rfl, hm2, hb2⟩
  have HM2 := hid hm2
  have HB2 := hid hb2
  have HG2 := hid ((hb2.block _ (lt_of_block G0.out)).trans G0.out)
  clear hm2 hb2
  generalize hbb : X.heap.size + 2 = mb at *
  have HBB := hid (show w.heap.size + 3 = mb by rw [← hbb, GS.out])
  clear hbb
  have HN2 := hid (heap_new0 w2 (.cells zeroT 131))
  have HL2 := hid (setRow_heap (w2.alloc (.cells zeroT 131)) w2.heap.size zeroT (tcells cs mb) 131 (0, 0) (heap_new0 w2 _))
  have HM3 := hid (show MapOf ((w2.alloc (.cells zeroT 131)).setRow w2.heap.size (tcells cs mb)) mb ([] : List Wy) from (HM2.out.alloc _).kept (setRow_other _ _ _ _ (by have := HM2.out.lt; omega)))
  have HXW := hid (show w.heap.size ≤ X.heap.size by rw [GS.out]; omega)
  have HB3 := hid (show Below w.heap.size w ((w2.alloc (.cells zeroT 131)).setRow w2.heap.size (tcells cs mb)) from
    (GB.out.trans (HB2.out.mono HXW.out)).trans (below_setRow' ((Below.refl _ w2).alloc (by have := HB2.out.size; have := HXW.out; omega) _) (by have := HB2.out.size; have := HXW.out; omega) _))
  have HGY := hid (show ((w2.alloc (.cells zeroT 131)).setRow w2.heap.size (tcells cs mb)).heap[w.heap.size]? = some (.cells cs 63 (0, 0)) by
    rw [setRow_other _ _ _ _ (by have := lt_of_block HG2.out; omega), Below.heap_alloc _ _ _ (lt_of_block HG2.out)]; exact HG2.out)
  generalize hY : (w2.alloc (.cells zeroT 131)).setRow w2.heap.size (tcells cs mb) = Y at HL2 HM3 HB3 HGY
  have HY := hid hY
  clear hY
  gi_wp2_with (first
    | (refine wpListIn_store_row (Open.wide _) rfl 131 _ _ rfl w2.heap.size (tcells cs mb) rfl rfl 131 zeroT HN2.out (HST.out mb) (HTZ.out mb) (HTO.out mb) ?_; rw [HY.out])
    | refine wpListIn_load_row (Open.wide _) rfl 131 _ rfl w2.heap.size rfl 131 (tcells cs mb) (0, 0) _ HL2.out Try.underlying131 rfl (HST.out mb) ?_)
  refine ⟨trivial, callsIn_wide.2 ((HASK.out mb _ Y HM3.out).mono ?_)⟩
  rintro e w3 ⟨⟨v3, rfl⟩, hm3, hg3⟩
  have HT3 := hid (show w3.heap[w2.heap.size]? = some (.cells (tcells cs mb) 131 (0, 0)) from (hg3.block _ (lt_of_block HL2.out) (by have := HM2.out.lt; intro e; cases e; omega)).trans HL2.out)
  have HK3 := hid (show w3.heap[w.heap.size]? = some (.cells cs 63 (0, 0)) from (hg3.block _ (lt_of_block HGY.out) (by have := HBB.out; intro e; cases e; omega)).trans HGY.out)
  have HM4 := hid hm3
  have HB4 := hid (show Below w.heap.size w w3 from HB3.out.trans (below_grown hg3 HB3.out.size (by have := HBB.out; omega)))
  clear hm3 hg3
  have HS0 := hid (show ((w3.alloc (.cells #[] 97)).alloc (.cells #[.slice (some ⟨w3.heap.size, 0, none⟩) 0 0] 67)).heap[w.heap.size]? = some (.cells cs 63 (0, 0)) from (Below.heap_alloc _ _ _ (by have := lt_of_block HK3.out; simp; omega)).trans ((Below.heap_alloc _ _ _ (lt_of_block HK3.out)).trans HK3.out))
  gi_wp2_with (refine wpListIn_load_row (Open.wide _) rfl 63 _ rfl w.heap.size rfl 63 cs (0, 0) _ HS0.out Try.underlying63 rfl HS.out ?_)
  refine ⟨trivial, callsIn_wide.2 ((ways_any cs b _).mono ?_)⟩
  rintro e w5 ⟨rfl, hw5⟩
  have NB := hid ((HB4.out.alloc HB4.out.size (.cells #[] 97)).alloc (by have := HB4.out.size; simp; omega) (.cells #[.slice (some ⟨w3.heap.size, 0, none⟩) 0 0] 67))
  have K5 := hid (show Below w3.heap.size w3 w5 by rw [hw5]; exact ((((Below.refl _ w3).alloc (Nat.le_refl _) _).alloc (by simp) _).alloc (by simp; omega) _).alloc (by simp; omega) _)
  have KP := hid (show GrowPl w5 w.heap.size (.slice (some ⟨w3.heap.size, 0, none⟩) 0 0) (metL bw (fun y => gc (cellN m y)) ([] : List (Fin L))) by
    have := growPl_new w3 w.heap.size HB4.out.size
    rw [hw5]
    exact World.ownsRow.alloc (World.ownsRow.alloc (World.ownsRow.alloc this _) _) _)
  have KX := hid (show Boxed w5 (w3.heap.size + 1) 67 (.slice (some ⟨w3.heap.size, 0, none⟩) 0 0) by
    unfold Boxed
    have := heap_new2 (w3.alloc (.cells #[] 97)) (.cells #[.slice (some ⟨w3.heap.size, 0, none⟩) 0 0] 67) (.cells cs 63) (.cells #[.int .i64 (b : Int)] 3)
    rw [World.size_alloc] at this
    rw [hw5]; exact this)
  have KG := hid (show w5.heap[w3.heap.size + 2]? = some (.cells cs 63 (0, 0)) by
    have := heap_new1 ((w3.alloc (.cells #[] 97)).alloc (.cells #[.slice (some ⟨w3.heap.size, 0, none⟩) 0 0] 67)) (.cells cs 63) (.cells #[.int .i64 (b : Int)] 3)
    rw [World.size_alloc, World.size_alloc] at this
    rw [hw5]; exact this)
  have KQ := hid (show Boxed w5 (w3.heap.size + 3) 3 (.int .i64 (b : Int)) by
    unfold Boxed
    have := heap_new0 (((w3.alloc (.cells #[] 97)).alloc (.cells #[.slice (some ⟨w3.heap.size, 0, none⟩) 0 0] 67)).alloc (.cells cs 63)) (.cells #[.int .i64 (b : Int)] 3)
    rw [World.size_alloc, World.size_alloc, World.size_alloc] at this
    rw [hw5]; exact this)
  have KS := hid (show w5.heap.size = w3.heap.size + 4 by rw [hw5]; simp)
  have KB := hid (show Below w.heap.size w w5 from HB4.out.trans (K5.out.mono HB4.out.size))
  have KT := hid (show w5.heap[w2.heap.size]? = some (.cells (tcells cs mb) 131 (0, 0)) from (K5.out.block _ (lt_of_block HT3.out)).trans HT3.out)
  have KM := hid (show MapOf w5 mb wl from HM4.out.kept (K5.out.block _ HM4.out.lt))
  have KW := hid (show w.heap.size ≤ w3.heap.size from HB4.out.size)
  have KL2 := hid (show w2.heap.size < w3.heap.size from lt_of_block HT3.out)
  have KML := hid (show mb < w3.heap.size from HM4.out.lt)
  have e3 : ((w3.alloc (.cells #[] 97)).alloc (.cells #[.slice (some ⟨w3.heap.size, 0, none⟩) 0 0] 67)).heap.size = w3.heap.size + 2 := by simp
  rw [e3]
  clear hw5 e3
  gi_wp2
  refine wpIn_rangeFunc_ownH rfl (by omega) (gf := 160) (lb := #[.pointer (some ⟨w3.heap.size + 2, 0, none⟩), .pointer (some ⟨w3.heap.size + 3, 0, none⟩)]) rfl trivial (enters_of Try.func160 (by kernel_rfl) rfl)
    (HWS.out (w3.heap.size + 2) (w3.heap.size + 3) w5 KG.out KQ.out) KeepsW.trans (keepsW_b (lt_of_block KG.out)) (Below.refl _ _) (fun _ => rfl)
    (fun pre W => (((W.heap[w2.heap.size]? = some (.cells (tcells cs mb) 131 (0, 0)) ∧ W.heap[w3.heap.size + 2]? = some (.cells cs 63 (0, 0))) ∧ MapOf W mb wl) ∧ (∃ v, Boxed W (w3.heap.size + 1) 67 v ∧ W.ownsRow w.heap.size 97 2 v (metL bw (fun y => gc (cellN m y)) pre).length (plV (metL bw (fun y => gc (cellN m y)) pre)) ∧ True)) ∧ Below w.heap.size w5 W)
    (fun _ _ _ => False)
    (OwnFrom.and (OwnFrom.and (OwnFrom.and (OwnFrom.and (ownFrom_heap _ _ (fun _ => _) (fun _ => rfl)) (ownFrom_heap _ _ (fun _ => _) (fun _ => rfl))) (own_map mb _ (fun _ => wl) KM.out.lt)) (Own.from (holdsRow_own w.heap.size (w3.heap.size + 1) 67 97 2 (fun pre => (metL bw (fun y => gc (cellN m y)) pre).length) (fun pre => plV (metL bw (fun y => gc (cellN m y)) pre)) (fun _ _ => True)) _)) (ownFrom_below (by have := KS.out; have := KW.out; omega) (by have := KS.out; have := KW.out; omega)))
    (fun _ _ _ _ _ hs _ _ => hs)
    ⟨⟨⟨⟨KT.out, KG.out⟩, KM.out⟩, _, KX.out, KP.out, trivial⟩, Below.refl _ _⟩
    (fun x a' W => ∃ Bx, w5.heap.size ≤ Bx ∧ W.heap[Bx]? = some (.cells (wayC (bw x.val)) 139 (0, 0)) ∧ ∃ u0 u1 u2 u4 u5 u6 u10 u11 u12 u13 u14 u15 u16 u17 u18 u19 u20 u21 u22 u23 u24 u25 u26 u27 u28 u29 u30 : Value,
      a' = { tmps := #[u0, u1, u2, .pointer (some ⟨w.heap.size, 0, none⟩), u4, u5, u6, .pointer (some ⟨w2.heap.size, 0, none⟩), .pointer (some ⟨w3.heap.size + 1, 0, none⟩), .pointer (some ⟨Bx, 0, none⟩), u10, u11, u12, u13, u14, u15, u16, u17, u18, u19, u20, u21, u22, u23, u24, u25, u26, u27, u28, u29, u30], defers := [] })
    (fun x a' _ X Y row hs hg hr => by
      obtain ⟨Bx, h1, h2, h3⟩ := hs
      exact ⟨Bx, h1, ownFrom_heap _ Bx (fun (_ : Unit) => Obj.cells (wayC (bw x.val)) 139 (0, 0)) (fun _ => rfl) () X Y row h2 hg hr, h3⟩)
    ?assign ?body ?done ?stop
  case assign =>
    rintro l pre x W K ⟨⟨⟨⟨i0, i3⟩, i1⟩, v, iv, ir, _⟩, i2⟩ hK
    have J0 := hid i0
    have J3 := hid i3
    have J1 := hid i1
    have JV := hid iv
    have JR := hid ir
    have J2 := hid i2
    have JK := hid hK
    clear i0 i1 i2 i3 iv ir hK
    obtain ⟨y, hy⟩ : ∃ y, bw x.val = y := ⟨_, rfl⟩
    unfold encW
    rw [hy] at JK ⊢
    clear hy
    obtain ⟨iv, kv, dv⟩ := y
    simp only [wayV, wayC] at JK ⊢
    gi_wp2
    have hsz : w5.heap.size ≤ W.heap.size := J2.out.size
    exact JK.out _ _ ((KeepsOthers.alloc _ _).from _) (KeepsW.below ((Below.refl _ W).alloc (Nat.le_refl _) _) (by have := KS.out; omega))
      ⟨⟨⟨⟨(Below.heap_alloc _ _ _ (lt_of_block J0.out)).trans J0.out, (Below.heap_alloc _ _ _ (lt_of_block J3.out)).trans J3.out⟩, J1.out.alloc _⟩, v, JV.out.alloc _, JR.out.alloc _, trivial⟩, J2.out.alloc (by have := KS.out; have := KW.out; omega) _⟩
      ⟨W.heap.size, hsz, heap_new0 W _, _, _, _, _, _, _, _, _, _, _, _, _, _, _, _, _, _, _, _, _, _, _, _, _, _, _, _, rfl⟩
  case body =>
    rintro l pre x a' W hlw ⟨r, hr⟩ ⟨⟨⟨⟨i0, i3⟩, i1⟩, v, iv, ir, _⟩, i2⟩ ⟨Bx, hBx, hX, u0, u1, u2, u4, u5, u6, u10, u11, u12, u13, u14, u15, u16, u17, u18, u19, u20, u21, u22, u23, u24, u25, u26, u27, u28, u29, u30, rfl⟩ hlt
    have htim := hid (HTIM.out mb (bw x.val) W (HINB.out x.val x.isLt) i1)
    have hle := metL_le bw (fun y => gc (cellN m y)) pre
    have hy1 := metL_yes bw (fun y => gc (cellN m y)) pre x
    have hno := metL_no bw (fun y => gc (cellN m y)) pre x
    have irr : GrowPl W w.heap.size v (metL bw (fun y => gc (cellN m y)) pre) := ir
    clear ir
    have hga := HGO.out (cellN m (bw x.val))
    have hxb := HC2.out (cellN m (bw x.val))
    generalize bc.count (cellN m (bw x.val)) = xc at htim hga hxb
    generalize gc (cellN m (bw x.val)) = gv at hga hy1 hno
    obtain ⟨y, hy⟩ : ∃ y, bw x.val = y := ⟨_, rfl⟩
    rw [hy] at hX htim hy1
    clear hy
    obtain ⟨ii, kk, dv⟩ := y
    simp only at htim
    have HXB := hid hX
    have c0 : W.cell? ⟨Bx, 0, none⟩ = some (.int .i64 ii) := by rw [cell_of_row _ _ _ _ _ _ hX]; rfl
    have c1 : W.cell? ⟨Bx, 1, none⟩ = some (.int .i64 kk) := by rw [cell_of_row _ _ _ _ _ _ hX]; rfl
    generalize metL bw (fun y => gc (cellN m y)) pre = pl at irr hle hy1 hno
    obtain ⟨A', c', rfl⟩ := irr.slice
    have I0 := hid i0
    have I3 := hid i3
    have I1 := hid i1
    have IV := hid iv
    have IR := hid irr
    have I2 := hid i2
    have HYE := hid hy1
    have HNO := hid hno
    have HLEN := hid (show pl.length ≤ 1000000 by omega)
    clear i0 i1 i2 i3 iv irr hy1 hno hle hlt hr hX hlw
    gi_wp2_with (refine wpListIn_load_row (Open.round _ l) rfl 131 _ rfl w2.heap.size rfl 131 (tcells cs mb) (0, 0) _ I0.out Try.underlying131 rfl (HST.out mb) ?_)
    refine ⟨trivial, CallsIn.inRound l (callsIn_wide.2 (htim.out.mono ?_))⟩
    rintro e w6 ⟨rfl, hb6⟩
    have E0 := hid ((hb6.block _ (lt_of_block I0.out)).trans I0.out)
    have E3 := hid ((hb6.block _ (lt_of_block I3.out)).trans I3.out)
    have EM := hid (I1.out.kept (hb6.block _ I1.out.lt))
    have EV := hid (show Boxed w6 (w3.heap.size + 1) 67 (.slice A' pl.length c') from (hb6.block _ IV.out.lt).trans IV.out)
    have ER := hid (IR.out.below hb6)
    have E2 := hid (I2.out.trans (hb6.mono (Nat.le_trans KB.out.size I2.out.size)))
    have EK := hid (keeps_below hb6)
    have EW := hid (KeepsW.below (g := w3.heap.size + 2) (n0 := w5.heap.size) hb6 (by have := I2.out.size; have := KS.out; omega))
    have EX := hid ((hb6.block _ (lt_of_block HXB.out)).trans HXB.out)
    have ES := hid hb6.size
    clear hb6 c0 c1
    cases gv with
    | true =>
      have hxi : (0 : Int) < (xc : Int) := by have := of_decide_eq_true hga.symm; omega
      have HYX := hid (HYE.out rfl)
      have d0 : w6.cell? ⟨Bx, 0, none⟩ = some (.int .i64 ii) := by rw [cell_of_row _ _ _ _ _ _ EX.out]; rfl
      have d1 : w6.cell? ⟨Bx, 1, none⟩ = some (.int .i64 kk) := by rw [cell_of_row _ _ _ _ _ _ EX.out]; rfl
      have hcell := EV.out.cell
      clear hga
      gi_wp2_with (gi_at_builtin; refine wpListIn_appendP rfl _ _ rfl w.heap.size (.slice A' pl.length c') pl rfl (World.ownsRow.alloc ER.out _) w6.heap.size 1 rfl (ii, kk) (heap_new0 w6 _) HLEN.out (by have := ES.out; have := I2.out.size; have := KS.out; have := KW.out; simp; omega) ?_)
      intro gg cap w7 hown hgrow
      obtain ⟨hv1, hv2, hr2, hk2, hb2⟩ := EV.out.appended (by decide) ER.out (by have := ES.out; have := I2.out.size; have := KS.out; have := KW.out; omega) (by have := KW.out; omega) hown hgrow
      have hc1 := hv1.cell
      have hf1 := hv1.frozen
      have R0 := hid (grownPl_heap (World.ownsRow.alloc ER.out _) hgrow ((Below.heap_alloc _ _ _ (lt_of_block E0.out)).trans E0.out) (by decide))
      have R3 := hid (grownPl_heap (World.ownsRow.alloc ER.out _) hgrow ((Below.heap_alloc _ _ _ (lt_of_block E3.out)).trans E3.out) (by decide))
      have RM := hid (show MapOf w7 mb wl from grownPl_map (World.ownsRow.alloc ER.out _) hgrow (EM.out.alloc _))
      have RW := hid ((EW.out.trans (KeepsW.below ((Below.refl _ w6).alloc (Nat.le_refl _) (.cells #[.int .i64 ii, .int .i64 kk] 97)) (by have := ES.out; have := I2.out.size; have := KS.out; omega))).trans (KeepsW.grownPl (World.ownsRow.alloc ER.out _) hgrow ((Below.heap_alloc _ _ _ (lt_of_block E3.out)).trans E3.out)))
      have V2 := hid hv2
      have RR := hid hr2
      have RK := hid (EK.out.trans hk2)
      have RB := hid (E2.out.trans hb2)
      clear hv1 hv2 hr2 hk2 hb2 hgrow hown hcell d0 d1
      gi_wp2
      refine ⟨RK.out.from _, RW.out.trans (KeepsW.setCell _ _ _ (by omega) (by have := KS.out; omega)), ⟨⟨⟨⟨?_, ?_⟩, ?_⟩, _, V2.out, ?_, trivial⟩, RB.out⟩⟩
      · rw [Below.heap_setCell _ _ _ _ (by have := KL2.out; show w2.heap.size ≠ w3.heap.size + 1; omega)]; exact R0.out
      · rw [Below.heap_setCell _ _ _ _ (by simp)]; exact R3.out
      · exact RM.out.kept (Below.heap_setCell _ _ _ _ (by have := KML.out; show mb ≠ w3.heap.size + 1; omega))
      · rw [HYX.out]; exact RR.out
    | false =>
      have hxi : ¬ (0 : Int) < (xc : Int) := by have := of_decide_eq_false hga.symm; omega
      have HYX := hid (HNO.out rfl)
      clear hga
      gi_wp2
      refine ⟨EK.out.from _, EW.out, ⟨⟨⟨⟨E0.out, E3.out⟩, EM.out⟩, _, EV.out, ?_, trivial⟩, E2.out⟩⟩
      rw [HYX.out]; exact ER.out
  case done =>
    rintro D xs W hD rfl ⟨⟨⟨⟨i0, i3⟩, i1⟩, v, iv, ir, _⟩, i2⟩ hK
    rw [metL_all] at ir
    have irr : GrowPl W w.heap.size v (((List.range L).filter fun j => gc (cellN m (bw j))).map fun j => ((bw j).i, (bw j).k)) := ir
    rw [HRR.out] at irr
    have hcell := iv.cell
    have J2 := hid i2
    have JK := hid hK
    have JO := hid irr
    clear iv ir irr i0 i1 i2 i3 hK
    gi_wp2
    refine ⟨by simp, .inl ⟨_, _, rfl, run_takeDeferred JK.out, ?_⟩⟩
    refine ⟨_, results_tmp rfl _ _ _, v, rfl, Plcs.put JO.out JK.out, ?_⟩
    exact (KB.out.trans J2.out).trans (belowK_b (w := w) (Nat.le_refl _) _ D _ _ (by have := KS.out; have := KW.out; omega) JK.out rfl rfl)
  case stop =>
    rintro D c pre W _ _ h _
    exact h.elim
end Go.Proofs.Ytonhnmpgikmlpaa

/- gridWithBeams of the program, by its contract. -/
namespace Go.Proofs.Ytonhnmpgikmlpaa
open Go.RowKit Go.Shelf

/-- What gridWithBeams comes to. -/
def GBEnd (ss : List ByteArray) (p q : Int) (e : Ending) : Prop :=
  (∃ n m a b, MeetIn ss p q n m a b ∧ e = .returned (.tuple #[.agg (gcells n m (pad (flat ss))), .bool true])) ∨ ((∀ n m a b, ¬ MeetIn ss p q n m a b) ∧ e = .returned (.tuple #[.agg zeroG, .bool false]))

set_option maxRecDepth 100000 in
set_option maxHeartbeats 4000000 in
theorem gridWithBeams_any (A : Option Addr) (c : Nat) (ss : List ByteArray) (p q : Int) (w : World) (h : Strs w w.heap.size A ss) (hn : ss.length ≤ 1048576) (hs : ∀ s ∈ ss, s.size ≤ 1048576) :
    Calls Try.prog 64 #[.slice A ss.length c, .int .i64 p, .int .i64 q] w fun e w' => Below w.heap.size w w' ∧ GBEnd ss p q e := by
  have HR := hid (fun w' (hb : Below w.heap.size w w') => gridWithPort_any A c ss p w' ((h.below hb (Nat.le_refl _)).more hb.size) hn hs)
  clear h hs
  have H0 := hid (heap_new0 w (.cells zeroG 63))
  have HB0 := hid ((Below.refl w.heap.size w).alloc (Nat.le_refl _) (.cells zeroG 63))
  go_enter Try.func64, Try.ntmps64
  go_wp2_with fail
  generalize World.alloc w _ = Y0 at H0 HB0 ⊢
  refine (HR.out Y0 HB0.out).mono ?_
  rintro e w1 ⟨hbel, hcase⟩
  have I0 := hid ((hbel.block _ (lt_of_block H0.out)).trans H0.out)
  have IB := hid (HB0.out.trans (hbel.mono HB0.out.size))
  have IL := hid (show w.heap.size < w1.heap.size from lt_of_block I0.out)
  clear hbel
  rcases hcase with ⟨n, m, a, ha, rfl⟩ | ⟨hno, rfl⟩
  · have hg := ha.1
    obtain rfl := ha.2.1
    have HA := hid ha
    have hn1 := hg.2.1
    have hm1 := hg.2.2.2.1
    have hn5 := hg.2.2.1
    have hm5 := hg.2.2.2.2.1
    have HGr := hid hg
    have HGC := hid (show (gcells n m (pad (flat ss))).size = 27 from hg.csize)
    have HONE := hid (gcells_one n m (pad (flat ss)))
    have HHP := hid (fun w' => hasPort_any n m (pad (flat ss)) q w' hg.plen hn5 hm5)
    have HBO := hid (fun a' w' h => beam_any n m a' (pad (flat ss)) w' hg.plen hn1 hn5 hm1 hm5 h)
    have HS := hid (show (Try.prog.info? 63).map (·.size) = some (gcells n m (pad (flat ss))).size by rw [HGC.out]; exact Try.size_grid)
    have HZ := hid (show zeroG.size = (gcells n m (pad (flat ss))).size by rw [HGC.out]; rfl)
    have HOUT := hid (show ∀ b, MeetIn ss (a : Int) q n m a b → GBEnd ss (a : Int) q (.returned (.tuple #[.agg (gcells n m (pad (flat ss))), .bool true])) from fun b h => .inl ⟨n, m, a, b, h, rfl⟩)
    clear ha hg
    generalize gcells n m (pad (flat ss)) = cs at *
    have HL := hid (setRow_heap (w1.alloc (.cells zeroG 63)) w1.heap.size zeroG cs 63 (0, 0) (heap_new0 w1 _))
    have HW := hid (IB.out.trans (below_setRow' ((Below.refl _ w1).alloc IB.out.size (.cells zeroG 63)) IB.out.size cs))
    have HL0 := hid (show ((w1.alloc (.cells zeroG 63)).setRow w1.heap.size cs).heap[w.heap.size]? = some (.cells zeroG 63 (0, 0)) by
      rw [setRow_other _ _ _ _ (by have := IL.out; omega), Below.heap_alloc _ _ _ IL.out]; exact I0.out)
    generalize hX : (w1.alloc (.cells zeroG 63)).setRow w1.heap.size cs = X at HL HW HL0
    have HX := hid hX
    clear hX
    by_cases hqp : 0 ≤ q ∧ q < ((2 * (n + m) : Nat) : Int)
    · obtain ⟨b, rfl⟩ : ∃ b : Nat, q = (b : Int) := ⟨q.toNat, by omega⟩
      have hb : b < 2 * (n + m) := by omega
      have HBq := hid (show PortIn ss b n m b from ⟨HGr.out, rfl, hb⟩)
      have HDQ := hid (decide_eq_true hqp)
      rw [HDQ.out] at HHP
      have HBA := hid (fun w' => HBO.out a w' HA.out.2.2)
      have HBB := hid (fun w' => HBO.out b w' hb)
      have hba := (back_facts (n := n) (m := m) (t := lett m (pad (flat ss))) hn1 hm1 HA.out.2.2).2
      have hbb := (back_facts (n := n) (m := m) (t := lett m (pad (flat ss))) hn1 hm1 hb).2
      have HSAME := hid (beam_same (p := a) (q := b) (P := bend_ n m (lett m (pad (flat ss))) a) (Q := bend_ n m (lett m (pad (flat ss))) b) (fun e => by rw [e]) (fun e => by rw [← e]; exact hba))
      have HNO2 := hid (fun hh => meet_none_same HA.out HBq.out hh)
      simp only [beamC_eq] at HBA HBB
      clear HBO HDQ hqp
      obtain ⟨la, hla⟩ : ∃ x, loC a (bend_ n m (lett m (pad (flat ss))) a) = x := ⟨_, rfl⟩
      obtain ⟨ha', hha⟩ : ∃ x, hiC a (bend_ n m (lett m (pad (flat ss))) a) = x := ⟨_, rfl⟩
      obtain ⟨lb, hlb⟩ : ∃ x, loC b (bend_ n m (lett m (pad (flat ss))) b) = x := ⟨_, rfl⟩
      obtain ⟨hb', hhb⟩ : ∃ x, hiC b (bend_ n m (lett m (pad (flat ss))) b) = x := ⟨_, rfl⟩
      rw [hla, hha] at HBA
      rw [hlb, hhb] at HBB
      rw [hla, hha, hlb, hhb] at HSAME
      obtain ⟨sm, hsm⟩ : ∃ sm, decide (la = lb ∧ ha' = hb') = sm := ⟨_, rfl⟩
      have HSM := hid hsm
      have HSA := hid (show sm = decide (a = b ∨ bend_ n m (lett m (pad (flat ss))) a = b) by rw [← hsm]; exact HSAME.out)
      clear hla hha hlb hhb hsm HSAME
      go_wp2_with (refine wpList_store_row rfl 63 _ _ rfl w1.heap.size cs rfl rfl 63 zeroG (heap_new0 w1 _) HS.out HZ.out HONE.out ?_; rw [HX.out])
      refine wp_region_quiet (C := Cls X) (by kernel_rfl) (by kernel_rfl) (Below.refl _ X).drew ?_
      quiet_step ((intro _; rfl))
      quiet_step ((intro _; rfl))
      quiet_step ((intro _; rfl))
      refine wpQuiet_load_rowW (by go_simp) 63 _ rfl w1.heap.size rfl 63 cs (0, 0) _ (fun w' hw => (hw.block _ (lt_of_block HL.out)).trans HL.out) Try.underlying63 rfl HS.out ?_
      quiet_step ((intro _; rfl))
      refine wpQuiet_callW (by go_simp) 114 #[.agg cs, .int .i64 b] (.bool true) (fun w _ => by go_simp) (fun w' hw => (HHP.out w').mono fun e w'' ⟨he, hb'⟩ => ⟨he, hw.trans (hb'.mono hw.size)⟩) ?_
      quiet_step ((intro _; rfl))
      quiet_step ((intro _; rfl))
      quiet_step ((intro _; rfl))
      refine wpQuiet_load_rowW (by go_simp) 63 _ rfl w1.heap.size rfl 63 cs (0, 0) _ (fun w' hw => (hw.block _ (lt_of_block HL.out)).trans HL.out) Try.underlying63 rfl HS.out ?_
      quiet_step ((intro _; rfl))
      refine wpQuiet_callW (by go_simp) 115 #[.agg cs, .int .i64 a] (.agg #[.int .i64 la, .int .i64 ha']) (fun w _ => by go_simp) (fun w' hw => (HBA.out w').mono fun e w'' ⟨he, hb'⟩ => ⟨he, hw.trans (hb'.mono hw.size)⟩) ?_
      refine wpQuiet_load_rowW (by go_simp) 63 _ rfl w1.heap.size rfl 63 cs (0, 0) _ (fun w' hw => (hw.block _ (lt_of_block HL.out)).trans HL.out) Try.underlying63 rfl HS.out ?_
      quiet_step ((intro _; rfl))
      refine wpQuiet_callW (by go_simp) 115 #[.agg cs, .int .i64 b] (.agg #[.int .i64 lb, .int .i64 hb']) (fun w _ => by go_simp) (fun w' hw => (HBB.out w').mono fun e w'' ⟨he, hb'⟩ => ⟨he, hw.trans (hb'.mono hw.size)⟩) ?_
      refine wpQuiet_valueW (by go_simp) (.bool sm) (fun w' _ => by rw [run_eq_beam _ _ _ la ha' lb hb' w' (by go_simp) (by go_simp) _ rfl, HSM.out]) ?_
      quiet_step ((intro _; rfl))
      refine wpQuiet_nil ?_
      intro w2 hw2
      have HW2 := hid (HW.out.trans (hw2.mono HW.out.size))
      have HL2 := hid ((hw2.block _ (lt_of_block HL.out)).trans HL.out)
      have HZ2 := hid ((hw2.block _ (lt_of_block HL0.out)).trans HL0.out)
      clear hw2
      cases sm with
      | true =>
        have HNN := hid (HNO2.out (of_decide_eq_true HSA.out.symm))
        go_wp2_with (refine wpList_store_row rfl 63 _ _ rfl w.heap.size zeroG rfl rfl 63 zeroG HZ2.out Try.size_grid rfl (gcells_one 0 0 (pad [])) ?_)
        refine bodyPost_ret (results_row_tmp Try.results64 _ w.heap.size 63 _ (0, 0) _ (by rfl) (setRow_heap _ _ _ _ _ _ HZ2.out) Try.underlying63 rfl Try.size_grid) rfl ⟨?_, .inr ⟨HNN.out, rfl⟩⟩
        exact below_setRow' HW2.out (Nat.le_refl _) _
      | false =>
        have hne := of_decide_eq_false HSA.out.symm
        have HNN := hid (HOUT.out b ⟨HA.out, HBq.out, fun e => hne (.inl e), fun e => hne (.inr e)⟩)
        clear hne
        go_wp2_with (first
          | refine wpList_load_row rfl 63 _ rfl w1.heap.size rfl 63 cs (0, 0) _ HL2.out Try.underlying63 rfl HS.out ?_
          | refine wpList_store_row rfl 63 _ _ rfl w.heap.size cs rfl rfl 63 zeroG HZ2.out HS.out HZ.out HONE.out ?_)
        refine bodyPost_ret (results_row_tmp Try.results64 _ w.heap.size 63 _ (0, 0) _ (by rfl) (setRow_heap _ _ _ _ _ _ HZ2.out) Try.underlying63 rfl HS.out) rfl ⟨?_, HNN.out⟩
        exact below_setRow' HW2.out (Nat.le_refl _) _
    · have HDQ := hid (decide_eq_false hqp)
      have HNo := hid (show ∀ n m a' b, ¬ MeetIn ss a q n m a' b from meet_none_q fun n' m' b' hb' => by
        obtain ⟨rfl, rfl⟩ := HGr.out.uniq hb'.1
        refine hqp ?_
        have h1 := hb'.2.1
        have h2 := hb'.2.2
        omega)
      rw [HDQ.out] at HHP
      clear HBO HDQ hqp
      go_wp2_with (refine wpList_store_row rfl 63 _ _ rfl w1.heap.size cs rfl rfl 63 zeroG (heap_new0 w1 _) HS.out HZ.out HONE.out ?_; rw [HX.out])
      refine wp_region_quiet (C := Cls X) (by kernel_rfl) (by kernel_rfl) (Below.refl _ X).drew ?_
      quiet_step ((intro _; rfl))
      quiet_step ((intro _; rfl))
      quiet_step ((intro _; rfl))
      refine wpQuiet_load_rowW (by go_simp) 63 _ rfl w1.heap.size rfl 63 cs (0, 0) _ (fun w' hw => (hw.block _ (lt_of_block HL.out)).trans HL.out) Try.underlying63 rfl HS.out ?_
      quiet_step ((intro _; rfl))
      refine wpQuiet_callW (by go_simp) 114 #[.agg cs, .int .i64 q] (.bool false) (fun w _ => by go_simp) (fun w' hw => (HHP.out w').mono fun e w'' ⟨he, hb'⟩ => ⟨he, hw.trans (hb'.mono hw.size)⟩) ?_
      quiet_step ((intro _; rfl))
      quiet_step ((intro _; rfl))
      refine wpQuiet_value_skips 7 rfl (.bool true) (fun w _ => by go_simp) (by kernel_rfl) ?_
      simp only [List.drop_succ_cons, List.drop_zero]
      quiet_step ((intro _; rfl))
      refine wpQuiet_nil ?_
      intro w2 hw2
      have HW2 := hid (HW.out.trans (hw2.mono HW.out.size))
      have HZ2 := hid ((hw2.block _ (lt_of_block HL0.out)).trans HL0.out)
      clear hw2
      go_wp2_with (refine wpList_store_row rfl 63 _ _ rfl w.heap.size zeroG rfl rfl 63 zeroG HZ2.out Try.size_grid rfl (gcells_one 0 0 (pad [])) ?_)
      refine bodyPost_ret (results_row_tmp Try.results64 _ w.heap.size 63 _ (0, 0) _ (by rfl) (setRow_heap _ _ _ _ _ _ HZ2.out) Try.underlying63 rfl Try.size_grid) rfl ⟨?_, .inr ⟨HNo.out, rfl⟩⟩
      exact below_setRow' HW2.out (Nat.le_refl _) _
  · have HNo := hid (meet_none_p (q := q) hno)
    clear hno
    have HL0 := hid (show ((w1.alloc (.cells zeroG 63)).setRow w1.heap.size zeroG).heap[w.heap.size]? = some (.cells zeroG 63 (0, 0)) by
      rw [setRow_other _ _ _ _ (by have := IL.out; omega), Below.heap_alloc _ _ _ IL.out]; exact I0.out)
    have HW := hid (IB.out.trans (below_setRow' ((Below.refl _ w1).alloc IB.out.size (.cells zeroG 63)) IB.out.size zeroG))
    go_wp2_with (refine wpList_store_row rfl 63 _ _ rfl w1.heap.size zeroG rfl rfl 63 zeroG (heap_new0 w1 _) Try.size_grid rfl (gcells_one 0 0 (pad [])) ?_)
    generalize (w1.alloc (.cells zeroG 63)).setRow w1.heap.size zeroG = X at HW HL0 ⊢
    refine wp_region_quiet (C := Cls X) (by kernel_rfl) (by kernel_rfl) (Below.refl _ X).drew ?_
    quiet_step ((intro _; rfl))
    quiet_step ((intro _; rfl))
    refine wpQuiet_value_skips 4 rfl (.bool true) (fun w _ => by go_simp) (by kernel_rfl) ?_
    simp only [List.drop_succ_cons, List.drop_zero]
    quiet_step ((intro _; rfl))
    refine wpQuiet_value_skips 7 rfl (.bool true) (fun w _ => by go_simp) (by kernel_rfl) ?_
    simp only [List.drop_succ_cons, List.drop_zero]
    quiet_step ((intro _; rfl))
    refine wpQuiet_nil ?_
    intro w2 hw2
    have HW2 := hid (HW.out.trans (hw2.mono HW.out.size))
    have HZ2 := hid ((hw2.block _ (lt_of_block HL0.out)).trans HL0.out)
    clear hw2
    go_wp2_with (refine wpList_store_row rfl 63 _ _ rfl w.heap.size zeroG rfl rfl 63 zeroG HZ2.out Try.size_grid rfl (gcells_one 0 0 (pad [])) ?_)
    refine bodyPost_ret (results_row_tmp Try.results64 _ w.heap.size 63 _ (0, 0) _ (by rfl) (setRow_heap _ _ _ _ _ _ HZ2.out) Try.underlying63 rfl Try.size_grid) rfl ⟨?_, .inr ⟨HNo.out, rfl⟩⟩
    exact below_setRow' HW2.out (Nat.le_refl _) _
end Go.Proofs.Ytonhnmpgikmlpaa

/- BeamMeets and CrossBetween of the program, by their contracts. -/
namespace Go.Proofs.Ytonhnmpgikmlpaa
open Go.RowKit Go.Shelf

theorem metP_length {n m : Nat} {t : Int → Int → UInt8} {a b : Nat} (hn : 1 ≤ n) (hm : 1 ≤ m) (ha : a < 2 * (n + m)) (hb : b < 2 * (n + m)) (h1 : a ≠ b) (h2 : a ≠ bend_ n m t b) : (metP n m t a b).length = meetN n m t a b := by
  unfold metP
  rw [List.length_map, ← List.countP_eq_length_filter]
  exact meet_count hn hm ha hb h1 h2
theorem metP_in {n m : Nat} {t : Int → Int → UInt8} {a b : Nat} : ∀ p ∈ metP n m t a b, 0 ≤ p.1 ∧ p.1 < n ∧ 0 ≤ p.2 ∧ p.2 < m := fun p hp => by
  unfold metP at hp
  obtain ⟨j, hj, rfl⟩ := List.mem_map.1 hp
  exact blen_in (List.mem_range.1 (List.mem_filter.1 hj).1)
theorem empty_way {n m : Nat} {t : Int → Int → UInt8} {x : Wy} (hx : inG n m x) : emptyC m t (cellN m x) = (t x.i x.k == 46) := by
  obtain ⟨h1, h2, h3, h4⟩ := hx
  have hm : 0 < m := by omega
  have hk : x.k.toNat < m := by omega
  unfold emptyC cellN
  rw [show (x.i.toNat * m + x.k.toNat) / m = x.i.toNat by rw [Nat.mul_comm, Nat.mul_add_div hm, Nat.div_eq_of_lt hk, Nat.add_zero], show (x.i.toNat * m + x.k.toNat) % m = x.k.toNat by rw [Nat.mul_comm, Nat.mul_add_mod, Nat.mod_eq_of_lt hk], Int.toNat_of_nonneg h1, Int.toNat_of_nonneg h3]
theorem empt_metP {n m : Nat} {ls : List UInt8} {a b : Nat} (hn : 1 ≤ n) (hm : 1 ≤ m) (ha : a < 2 * (n + m)) (hb : b < 2 * (n + m)) (h1 : a ≠ b) (h2 : a ≠ bend_ n m (lett m ls) b) : emptN m ls (metP n m (lett m ls) a b) = bothN n m (lett m ls) a b := by
  unfold emptN metP
  rw [countP_filter_map]
  have e : (List.range (blen n m (lett m ls) b)).countP (fun j => goesC n m (lett m ls) a (cellN m (bway n m (lett m ls) b j)) && lett m ls (bway n m (lett m ls) b j).i (bway n m (lett m ls) b j).k == 46) = (bcells n m (lett m ls) b).countP fun c => goesC n m (lett m ls) a c && emptyC m (lett m ls) c := by
    unfold bcells
    rw [List.countP_map]
    refine List.countP_congr fun j hj => ?_
    simp only [Function.comp]
    rw [empty_way (n := n) (blen_in (List.mem_range.1 hj))]
  rw [e, countP_sum, sum_swap _ (n * m) _ bcells_lt]
  unfold bothN
  rw [← sumN_countP]
  refine sumN_congr _ fun c _ => ?_
  cases he : emptyC m (lett m ls) c with
  | false => simp
  | true =>
    by_cases hc : 0 < (bcells n m (lett m ls) a).count c
    · have h3 := count_other hn hm ha hb h1 h2 hc
      have hg : goesC n m (lett m ls) a c = true := decide_eq_true hc
      rw [hg]
      by_cases hd : 0 < (bcells n m (lett m ls) b).count c
      · have hg2 : goesC n m (lett m ls) b c = true := decide_eq_true hd
        rw [hg2]
        simp
        omega
      · have hg2 : goesC n m (lett m ls) b c = false := decide_eq_false hd
        rw [hg2]
        simp
        omega
    · have hg : goesC n m (lett m ls) a c = false := decide_eq_false hc
      rw [hg]
      simp

/-- What CrossBetween comes to. -/
def BothOut (ss : List ByteArray) (p q x : Int) (ok : Bool) : Prop :=
  (∃ n m a b, MeetIn ss p q n m a b ∧ x = ((bothN n m (lett m (pad (flat ss))) a b : Nat) : Int) ∧ ok = true) ∨ ((∀ n m a b, ¬ MeetIn ss p q n m a b) ∧ x = 0 ∧ ok = false)
theorem BothOut.uniq {ss : List ByteArray} {p q x x' : Int} {ok ok' : Bool} (h : BothOut ss p q x ok) (h' : BothOut ss p q x' ok') : x' = x ∧ ok' = ok := by
  rcases h with ⟨n, m, a, b, h1, rfl, rfl⟩ | ⟨h1, rfl, rfl⟩ <;> rcases h' with ⟨n', m', a', b', h1', rfl, rfl⟩ | ⟨h1', rfl, rfl⟩
  · obtain ⟨rfl, rfl, rfl⟩ := h1.1.uniq h1'.1
    obtain ⟨_, _, rfl⟩ := h1.2.1.uniq h1'.2.1
    exact ⟨rfl, rfl⟩
  · exact absurd h1 (h1' _ _ _ _)
  · exact absurd h1' (h1 _ _ _ _)
  · exact ⟨rfl, rfl⟩
/-- What the operations of CrossBetween's last statement hand back. -/
def betweenRel (m : Nat) (ls : List UInt8) (cs : Array Value) (a b : Nat) (mp : List (Int × Int)) (i : Nat) (v : Value) (W : World) : Prop :=
  match i with
  | 0 => v = .agg cs
  | 1 => v = .agg cs
  | 2 => v = .int .i64 (a : Int)
  | 3 => v = .int .i64 (b : Int)
  | 4 => ∃ A c, v = .slice A mp.length c ∧ Plcs W A mp
  | 5 => v = .int .i64 ((emptN m ls mp : Nat) : Int)
  | 6 => v = .int .i64 ((emptN m ls mp : Nat) : Int)
  | 7 => v = .bool true
  | _ => True

set_option maxRecDepth 100000 in
set_option maxHeartbeats 4000000 in
theorem implCrossBetween_any (A : Option Addr) (c : Nat) (ss : List ByteArray) (p q : Int) (w : World) (h : Strs w w.heap.size A ss) (hn : ss.length ≤ 1048576) (hs : ∀ s ∈ ss, s.size ≤ 1048576) :
    Calls Try.prog 16 #[.slice A ss.length c, .int .i64 p, .int .i64 q] w fun e w' => Below w.heap.size w w' ∧ ∃ x ok, e = .returned (.tuple #[.int .i64 x, .bool ok]) ∧ BothOut ss p q x ok := by
  have HR := hid (gridWithBeams_any A c ss p q w h hn hs)
  clear h hs
  go_enter Try.func16, Try.ntmps16
  go_wp2_with fail
  refine HR.out.mono ?_
  rintro e w1 ⟨hbel, ⟨n, m, a, b, hm, rfl⟩ | ⟨hno, rfl⟩⟩
  · have HB := hid hbel
    have hg := hm.1.1
    obtain rfl := hm.1.2.1
    obtain rfl := hm.2.1.2.1
    have HMI := hid hm
    have hn5 := hg.2.2.1
    have hm5 := hg.2.2.2.2.1
    have hn1 := hg.2.1
    have hm1 := hg.2.2.2.1
    have ha := hm.1.2.2
    have hb := hm.2.1.2.2
    have hab := hm.2.2.1
    have hba : a ≠ bend_ n m (lett m (pad (flat ss))) b := fun e => hm.2.2.2 (by rw [e]; exact (back_facts hn1 hm1 hb).2)
    have HGC := hid (show (gcells n m (pad (flat ss))).size = 27 from hg.csize)
    have HONE := hid (gcells_one n m (pad (flat ss)))
    have HME := hid (fun w' => meetings_any n m a b (pad (flat ss)) w' hg.plen hn1 hn5 hm1 hm5 ha hb)
    have HRR := hid (show ((emptN m (pad (flat ss)) (metP n m (lett m (pad (flat ss))) a b) : Nat) : Int) = ((bothN n m (lett m (pad (flat ss))) a b : Nat) : Int) by rw [empt_metP hn1 hm1 ha hb hab hba])
    have HML := hid (show (metP n m (lett m (pad (flat ss))) a b).length ≤ 100 by
      rw [metP_length hn1 hm1 ha hb hab hba]
      unfold meetN
      have := List.countP_le_length (p := fun c => goesC n m (lett m (pad (flat ss))) a c && goesC n m (lett m (pad (flat ss))) b c) (l := List.range (n * m))
      rw [List.length_range] at this
      have := hg.le25
      omega)
    have HEM := hid (fun A c w' (h : Plcs w' A (metP n m (lett m (pad (flat ss))) a b)) => empties_any n m (pad (flat ss)) A c (metP n m (lett m (pad (flat ss))) a b) w' hg.plen hn5 hm5 HML.out metP_in h)
    clear hbel hm
    generalize metP n m (lett m (pad (flat ss))) a b = mp at *
    generalize gcells n m (pad (flat ss)) = cs at *
    clear hg hab hba
    have HS := hid (show (Try.prog.info? 63).map (·.size) = some cs.size by rw [HGC.out]; exact Try.size_grid)
    have HZ := hid (show zeroG.size = cs.size by rw [HGC.out]; rfl)
    have HL := hid (setRow_heap (w1.alloc (.cells zeroG 63)) w1.heap.size zeroG cs 63 (0, 0) (heap_new0 w1 _))
    have HW := hid (HB.out.trans (below_setRow' ((Below.refl _ w1).alloc HB.out.size (.cells zeroG 63)) HB.out.size cs))
    generalize hX : (w1.alloc (.cells zeroG 63)).setRow w1.heap.size cs = X at HL HW
    have HX := hid hX
    clear hX
    go_wp2_with (refine wpList_store_row rfl 63 _ _ rfl w1.heap.size cs rfl rfl 63 zeroG (heap_new0 w1 _) HS.out HZ.out HONE.out ?_; rw [HX.out])
    have HRX := hid (show ∀ x : Int, x = ((emptN m (pad (flat ss)) mp : Nat) : Int) → x = ((bothN n m (lett m (pad (flat ss))) a b : Nat) : Int) from fun x hx => by rw [hx]; exact HRR.out)
    refine wp_region_rel (by kernel_rfl) (by kernel_rfl) 8 rfl (fun us => { tmps := #[.slice A ss.length c, .int .i64 (a : Int), .int .i64 (b : Int), undef, undef, undef, us 6, us 7, .pointer (some ⟨w1.heap.size, 0, none⟩), .bool true, .tuple #[.agg cs, .bool true], .slice A ss.length c, .int .i64 (a : Int), .int .i64 (b : Int), .tuple #[.agg cs, .bool true],
      .agg cs, .bool true, .bool true, .bool false, us 0, us 1, us 2, us 3, us 4, us 5], defers := [] }) (fun k => if k = 6 then .int .i64 0 else if k = 7 then .bool false else undef) rfl (betweenRel m (pad (flat ss)) cs a b mp) (fun i v W W' h hb => ?_) (fun i us v hi => ?_) (fun i us W hi hb hd => ?_) (fun us W hb hr => ?_)
    · unfold betweenRel at h ⊢
      split at h <;> try exact h
      obtain ⟨A', c', h1, h2⟩ := h
      exact ⟨A', c', h1, h2.below hb⟩
    · match i, hi with
      | 0, _ => rfl
      | 1, _ => rfl
      | 2, _ => rfl
      | 3, _ => rfl
      | 4, _ => rfl
      | 5, _ => rfl
      | 6, _ => rfl
      | 7, _ => rfl
    · have L0 := hid ((hb.block _ (lt_of_block HL.out)).trans HL.out)
      match i, hi with
      | 0, _ => exact wpOp_val rfl rfl (exec_load_row 63 _ rfl w1.heap.size rfl 63 cs (0, 0) _ L0.out Try.underlying63 rfl HS.out) rfl
      | 1, _ => exact wpOp_val rfl rfl (exec_load_row 63 _ rfl w1.heap.size rfl 63 cs (0, 0) _ L0.out Try.underlying63 rfl HS.out) rfl
      | 2, _ => exact wpOp_val rfl rfl (by go_simp) rfl
      | 3, _ => exact wpOp_val rfl rfl (by go_simp) rfl
      | 4, _ =>
        have h1 : us 1 = _ := hd _ rfl { on := 1, ground := .data } (by simp) rfl
        have h2 : us 2 = _ := hd _ rfl { on := 2, ground := .data } (by simp) rfl
        have h3 : us 3 = _ := hd _ rfl { on := 3, ground := .data } (by simp) rfl
        rw [h1, h2, h3]
        exact wpOp_call rfl rfl (by go_simp) ((HME.out W).mono fun e w'' ⟨v, he, hgp, hb'⟩ => by
          obtain ⟨A', c', rfl, hpl⟩ := hgp.plcs
          exact ⟨_, he, ⟨A', c', rfl, hpl⟩, hb'⟩)
      | 5, _ =>
        have h0 : us 0 = _ := hd _ rfl { on := 0, ground := .data } (by simp) rfl
        obtain ⟨A', c', h2, hpl⟩ : ∃ A c, us 4 = .slice A mp.length c ∧ Plcs W A mp := hd _ rfl { on := 4, ground := .data } (by simp) rfl
        rw [h0, h2]
        exact wpOp_call rfl rfl (by go_simp) ((HEM.out A' c' W hpl).mono fun e w'' ⟨he, hb'⟩ => ⟨_, he, rfl, hb'⟩)
      | 6, _ =>
        have h3 : us 5 = _ := hd _ rfl { on := 5, ground := .data } (by simp) rfl
        rw [h3]
        exact wpOp_val rfl rfl (by go_simp) rfl
      | 7, _ => exact wpOp_val rfl rfl (by go_simp) rfl
    · have h4 : us 6 = _ := hr 6 (by omega)
      have h5 : us 7 = _ := hr 7 (by omega)
      rw [h4, h5]
      have HB5 := hid (HW.out.trans (hb.mono HW.out.size))
      clear hr hb
      go_wp2_with fail
      refine bodyPost_ret (results_tmp2 rfl _ _ _) rfl ?_
      exact ⟨HB5.out, _, true, rfl, .inl ⟨n, m, a, b, HMI.out, HRX.out _ rfl, rfl⟩⟩
  · have HB := hid hbel
    have HGr := hid hno
    clear hbel hno
    go_wp2_with (refine wpList_store_row rfl 63 _ _ rfl w1.heap.size zeroG rfl rfl 63 zeroG (heap_new0 w1 _) Try.size_grid rfl (gcells_one 0 0 (pad [])) ?_)
    refine bodyPost_ret (results_tmp2 rfl _ _ _) rfl ?_
    exact ⟨HB.out.trans (below_setRow' ((Below.refl _ w1).alloc HB.out.size _) HB.out.size _), 0, false, rfl, .inr ⟨HGr.out, rfl, rfl⟩⟩
end Go.Proofs.Ytonhnmpgikmlpaa
