/- The places through which a traced beam goes twice, by the contract of twice. -/
import Derived.Test.YtagnecclhmbofaaEmpties
import Derived.Test.YtagnecclhmbofaaTwiceM
import Derived.Test.YtagnecclhmbofaaTimes
namespace Go.Proofs.Ytagnecclhmbofaa
open Go.RowKit Go.Shelf
attribute [local go_sem] Oper.semAt_some

/-- The place of a cell. -/
def plcI (m c : Nat) : Int × Int := (((c / m : Nat) : Int), ((c % m : Nat) : Int))
/-- The places gone through twice among those that have come. -/
def twL {N : Nat} (m : Nat) (g : Nat → Nat) (pre : List (Fin N)) : List (Int × Int) := (pre.filter fun x => g x.val == 2).map fun x => plcI m x.val
theorem twL_yes {N m : Nat} (g : Nat → Nat) (pre : List (Fin N)) (x : Fin N) (h : (g x.val == 2) = true) : twL m g (pre ++ [x]) = twL m g pre ++ [plcI m x.val] := by
  simp [twL, List.filter_append, h]
theorem twL_no {N m : Nat} (g : Nat → Nat) (pre : List (Fin N)) (x : Fin N) (h : (g x.val == 2) = false) : twL m g (pre ++ [x]) = twL m g pre := by
  simp [twL, List.filter_append, h]
theorem twL_le {N m : Nat} (g : Nat → Nat) (pre : List (Fin N)) : (twL m g pre).length ≤ pre.length := by
  unfold twL
  rw [List.length_map]
  exact List.length_filter_le _ _
/-- All of them. -/
def twP (n m : Nat) (t : Int → Int → UInt8) (q : Nat) : List (Int × Int) := ((List.range (n * m)).filter fun c => (bcells n m t q).count c == 2).map (plcI m)
theorem twL_all (N m : Nat) (g : Nat → Nat) : twL m g (List.finRange N) = ((List.range N).filter fun c => g c == 2).map (plcI m) := by
  unfold twL
  have e := upto_val (N := N) (k := N) (Nat.le_refl _)
  rw [upto_all] at e
  rw [← e, List.filter_map, List.map_map]
  rfl
theorem nat_beq2' (a : Nat) : ((a : Int) == 2) = (a == 2) := by
  rw [Bool.eq_iff_iff, beq_iff_eq, beq_iff_eq]; omega
def placeC' (m x : Nat) : Array Value := #[.int .i64 ((x / m : Nat) : Int), .int .i64 ((x % m : Nat) : Int)]
theorem KeepsAt.grownPl {g base : Nat} {W W' : World} {v : Value} {l : List (Int × Int)} {cs : Array Value} (hrow : GrowPl W base v l) (hg : W.grownBy W' v.ownBlock) (hB : W.heap[g]? = some (.cells cs 46 (0, 0))) : KeepsAt g W W' :=
  ⟨hg.size, (grownPl_heap hrow hg hB (by decide)).trans hB.symm⟩
theorem grownPl_map {base b : Nat} {W W' : World} {v : Value} {l : List (Int × Int)} {xs : List Wy} (hrow : GrowPl W base v l) (hg : W.grownBy W' v.ownBlock) (h : MapOf W b xs) : MapOf W' b xs := by
  refine h.kept (hg.block b h.lt ?_)
  obtain ⟨es, clock, hb⟩ := h.isMap
  rcases hrow.2 with ⟨rfl, _⟩ | ⟨g', cap, cur, rfl, _, hgb, _⟩
  · simp [Value.ownBlock]
  · intro e'
    have : b = g' := by simpa [Value.ownBlock] using e'
    subst this
    rw [hb] at hgb
    cases hgb
theorem Plcs.put {W : World} {base D : Nat} {v : Value} {l : List (Int × Int)} {o' : Obj} (h : GrowPl W base v l) (hk : W.heap[D]? = some (.deferred (some []))) : GrowPl (W.putObj D o') base v l := by
  rcases h with ⟨h1, h | ⟨g, cap, cur, e, hlo, hg, r⟩⟩
  · exact ⟨h1, .inl h⟩
  · refine ⟨h1, .inr ⟨g, cap, cur, e, hlo, ?_, r⟩⟩
    rw [World.putObj_heap_other (fun e => by subst e; rw [hg] at hk; cases hk)]
    exact hg

set_option maxRecDepth 100000 in
set_option maxHeartbeats 2000000 in
theorem twice_any (n m q b : Nat) (ls : List UInt8) (w : World) (hl : ls.length = 25) (hn5 : n ≤ 5) (hm1 : 1 ≤ m) (hm5 : m ≤ 5) (hq : q < 2 * (n + m)) (hmap : MapOf w b (waysL (bway n m (lett m ls) q) (blen n m (lett m ls) q))) :
    Calls Try.prog 46 #[.agg (tcells (gcells n m ls) b)] w fun e w' => ∃ v, e = .returned v ∧ GrowPl w' w.heap.size v (twP n m (lett m ls) q) ∧ Below w.heap.size w w' := by
  have HGC := hid (show (gcells n m ls).size = 27 from gcells_size hl)
  have HOKW := hid (okW_ways (t := lett m ls) (q := q) hn5 hm5)
  have h25 : n * m ≤ 25 := Nat.mul_le_mul hn5 hm5
  have HTIM := hid (show ∀ (c : Nat) (w' : World), c < n * m → MapOf w' b (waysL (bway n m (lett m ls) q) (blen n m (lett m ls) q)) → Calls Try.prog 75 #[.agg (tcells (gcells n m ls) b), .agg #[.int .i64 ((c / m : Nat) : Int), .int .i64 ((c % m : Nat) : Int)]] w' fun e w'' => e = .returned (.int .i64 (((bcells n m (lett m ls) q).count c : Nat) : Int)) ∧ Below w'.heap.size w' w'' from fun c w' hc hm => by
    rw [← times_at hq hm1]
    have h1 : c / m ≤ c := Nat.div_le_self _ _
    have h2 : c % m ≤ c := Nat.mod_le _ _
    have hbd : ∀ a b : Nat, a ≤ c → b ≤ c → (-100 : Int) ≤ (a : Int) ∧ (a : Int) ≤ 100 ∧ (-100 : Int) ≤ (b : Int) ∧ (b : Int) ≤ 100 := fun a b h1 h2 => by omega
    exact times_any (gcells n m ls) HGC.out b _ _ _ _ (hbd _ _ h1 h2) w' hm HOKW.out)
  have HCS := hid (fun (Bg : Nat) (w' : World) h => cells_stops 2 Bg n m (n * m) rfl ls hl hn5 hm1 hm5 w' h)
  have HTC := hid (show (tcells (gcells n m ls) b).size = 28 by rw [tcells_size HGC.out])
  have HP := hid (tcells_pre (gcells n m ls) b)
  have HRR := hid (show ((List.range (n * m)).filter fun c => (bcells n m (lett m ls) q).count c == 2).map (plcI m) = twP n m (lett m ls) q from rfl)
  have HM := hid hmap
  have HBW := hid hmap.lt
  have HST := hid (show (Try.prog.info? 51).map (·.size) = some (tcells (gcells n m ls) b).size by rw [tcells_size HGC.out]; exact Try.size_trace)
  have HS := hid (show (Try.prog.info? 46).map (·.size) = some (gcells n m ls).size by rw [HGC.out]; exact Try.size_grid)
  clear hmap hl hn5 hm1 hm5 hq
  generalize bcells n m (lett m ls) q = bc at *
  generalize waysL (bway n m (lett m ls) q) (blen n m (lett m ls) q) = wl at *
  generalize gcells n m ls = cs at *
  generalize tcells cs b = ts at *
  have N0 := hid (show ((w.alloc (.cells ts 51)).alloc (.cells #[] 90) |>.alloc (.cells #[.slice (some ⟨w.heap.size + 1, 0, none⟩) 0 0] 54)).heap[w.heap.size]? = some (.cells ts 51 (0, 0)) from heap_new2 w _ _ _)
  refine (callsIn_wide (n := 3)).1 ?_
  refine callsIn_of_wp_marks Try.func46 rfl trivial ?_ rfl
  simp only [Try.ntmps46, List.size_toArray, List.length_cons, List.length_nil, Nat.reduceAdd, Nat.reduceSub, Array.replicate_succ, Array.replicate_zero, List.push_toArray, List.append_toArray, List.nil_append, List.cons_append]
  gi_wp2_with (refine wpListIn_load_head (Open.wide _) rfl 46 _ rfl w.heap.size rfl 51 ts (0, 0) cs _ N0.out HP.out Try.underlying46 rfl HS.out ?_)
  have PB := hid (show GrowPl (((w.alloc (.cells ts 51)).alloc (.cells #[] 90)).alloc (.cells #[.slice (some ⟨w.heap.size + 1, 0, none⟩) 0 0] 54)) w.heap.size (.slice (some ⟨w.heap.size + 1, 0, none⟩) 0 0) [] by
    have := growPl_new (w.alloc (.cells ts 51)) w.heap.size (by simp)
    rw [World.size_alloc] at this
    exact World.ownsRow.alloc this _)
  have NX := hid (show Boxed (((w.alloc (.cells ts 51)).alloc (.cells #[] 90)).alloc (.cells #[.slice (some ⟨w.heap.size + 1, 0, none⟩) 0 0] 54)) (w.heap.size + 2) 54 (.slice (some ⟨w.heap.size + 1, 0, none⟩) 0 0) by
    unfold Boxed
    have := heap_new0 ((w.alloc (.cells ts 51)).alloc (.cells #[] 90)) (.cells #[.slice (some ⟨w.heap.size + 1, 0, none⟩) 0 0] 54)
    rw [World.size_alloc, World.size_alloc] at this
    exact this)
  have NM := hid (((HM.out.alloc (.cells ts 51)).alloc (.cells #[] 90)).alloc (.cells #[.slice (some ⟨w.heap.size + 1, 0, none⟩) 0 0] 54))
  have NB := hid ((((Below.refl w.heap.size w).alloc (Nat.le_refl _) (.cells ts 51)).alloc (by simp) (.cells #[] 90)).alloc (by simp; omega) (.cells #[.slice (some ⟨w.heap.size + 1, 0, none⟩) 0 0] 54))
  have NS := hid (show (((w.alloc (.cells ts 51)).alloc (.cells #[] 90)).alloc (.cells #[.slice (some ⟨w.heap.size + 1, 0, none⟩) 0 0] 54)).heap.size = w.heap.size + 3 by simp)
  generalize World.alloc (World.alloc (World.alloc w _) _) _ = Y at N0 PB NX NM NB NS ⊢
  refine ⟨trivial, callsIn_wide.2 ((cells_any cs _).mono ?_)⟩
  rintro e w4 ⟨rfl, hw4⟩
  have K3 := hid (show w4.heap[w.heap.size + 3]? = some (.cells cs 46 (0, 0)) by
    rw [hw4, ← NS.out]; exact heap_new0 Y (.cells cs 46))
  have K34 := hid (show Below Y.heap.size Y w4 by rw [hw4]; exact (Below.refl _ Y).alloc (Nat.le_refl _) _)
  have KS := hid (show w4.heap.size = w.heap.size + 4 by rw [hw4]; simp [NS.out])
  have KB := hid (show Below w.heap.size w w4 from NB.out.trans (K34.out.mono NB.out.size))
  have KT := hid (show w4.heap[w.heap.size]? = some (.cells ts 51 (0, 0)) from (K34.out.block _ (lt_of_block N0.out)).trans N0.out)
  have KM := hid (show MapOf w4 b wl from NM.out.kept (K34.out.block _ NM.out.lt))
  have KX := hid (show Boxed w4 (w.heap.size + 2) 54 (.slice (some ⟨w.heap.size + 1, 0, none⟩) 0 0) from (K34.out.block _ NX.out.lt).trans NX.out)
  have KP := hid (show w4.ownsRow w.heap.size 90 2 (.slice (some ⟨w.heap.size + 1, 0, none⟩) 0 0) (twL m (fun c => bc.count c) ([] : List (Fin (n * m)))).length (plV (twL m (fun c => bc.count c) ([] : List (Fin (n * m))))) from PB.out.below K34.out)
  have HYS := NS.out
  rw [HYS]
  clear hw4
  gi_wp2
  refine wpIn_rangeFunc_ownH rfl (by omega) (gf := 98) (lb := #[.pointer (some ⟨w.heap.size + 3, 0, none⟩)]) rfl trivial (enters_of Try.func98 (by kernel_rfl) rfl)
    (HCS.out (w.heap.size + 3) w4 K3.out) KeepsAt.trans (keepsAt_b (lt_of_block K3.out)) (Below.refl _ _) (fun _ => rfl)
    (fun pre W => (((W.heap[w.heap.size]? = some (.cells ts 51 (0, 0)) ∧ W.heap[w.heap.size + 3]? = some (.cells cs 46 (0, 0))) ∧ MapOf W b wl) ∧ (∃ v, Boxed W (w.heap.size + 2) 54 v ∧ W.ownsRow w.heap.size 90 2 v (twL m (fun c => bc.count c) pre).length (plV (twL m (fun c => bc.count c) pre)) ∧ True)) ∧ Below w.heap.size w4 W)
    (fun _ _ _ => False)
    (OwnFrom.and (OwnFrom.and (OwnFrom.and (OwnFrom.and (ownFrom_heap _ _ (fun _ => _) (fun _ => rfl)) (ownFrom_heap _ _ (fun _ => _) (fun _ => rfl))) (own_map b _ (fun _ => wl) KM.out.lt)) (Own.from (holdsRow_own w.heap.size (w.heap.size + 2) 54 90 2 (fun pre => (twL m (fun c => bc.count c) pre).length) (fun pre => plV (twL m (fun c => bc.count c) pre)) (fun _ _ => True)) _)) (ownFrom_below (by have := KS.out; omega) (by have := KS.out; omega)))
    (fun _ _ _ _ _ hs _ _ => hs)
    ⟨⟨⟨⟨KT.out, K3.out⟩, KM.out⟩, _, KX.out, KP.out, trivial⟩, Below.refl _ _⟩
    (fun x a' W => ∃ Bx, w4.heap.size ≤ Bx ∧ W.heap[Bx]? = some (.cells (placeC' m x.val) 90 (0, 0)) ∧ ∃ u0 u2 u5 u6 u7 u8 u9 u10 u11 u12 u13 u14 u15 u16 u17 u18 u19 : Value,
      a' = { tmps := #[u0, .pointer (some ⟨w.heap.size, 0, none⟩), u2, .pointer (some ⟨w.heap.size + 2, 0, none⟩), .pointer (some ⟨Bx, 0, none⟩), u5, u6, u7, u8, u9, u10, u11, u12, u13, u14, u15, u16, u17, u18, u19], defers := [] })
    (fun x a' _ X Y row hs hg hr => by
      obtain ⟨Bx, h1, h2, h3⟩ := hs
      exact ⟨Bx, h1, ownFrom_heap _ Bx (fun (_ : Unit) => Obj.cells (placeC' m x.val) 90 (0, 0)) (fun _ => rfl) () X Y row h2 hg hr, h3⟩)
    ?assign ?body ?done ?stop
  case assign =>
    rintro l pre x W K ⟨⟨⟨⟨i0, i3⟩, i1⟩, v, iv, ir, _⟩, i2⟩ hK
    have J0 := hid i0
    have J3 := hid i3
    have J1 := hid i1
    have JV := hid iv
    have JR := hid ir
    have J2 := hid i2
    have JK := hid hK
    clear i0 i1 i2 i3 iv ir hK
    unfold encs
    simp only [placeC'] at JK ⊢
    generalize ((x.val / m : Nat) : Int) = iv at *
    generalize ((x.val % m : Nat) : Int) = kv at *
    generalize (ls.getD x.val 0).toNat = bv at *
    gi_wp2
    have hsz : w4.heap.size ≤ W.heap.size := J2.out.size
    exact JK.out _ _ ((KeepsOthers.alloc _ _).from _) (KeepsAt.below ((Below.refl _ W).alloc (Nat.le_refl _) _) (by have := KS.out; omega))
      ⟨⟨⟨⟨(Below.heap_alloc _ _ _ (lt_of_block J0.out)).trans J0.out, (Below.heap_alloc _ _ _ (lt_of_block J3.out)).trans J3.out⟩, J1.out.alloc _⟩, v, JV.out.alloc _, JR.out.alloc _, trivial⟩, J2.out.alloc (by have := KS.out; omega) _⟩
      ⟨W.heap.size, hsz, heap_new0 W _, _, _, _, _, _, _, _, _, _, _, _, _, _, _, _, _, _, rfl⟩
  case body =>
    rintro l pre x a' W hlw ⟨r, hr⟩ ⟨⟨⟨⟨i0, i3⟩, i1⟩, v, iv, ir, _⟩, i2⟩ ⟨Bx, hBx, hX, u0, u2, u5, u6, u7, u8, u9, u10, u11, u12, u13, u14, u15, u16, u17, u18, u19, rfl⟩ hlt
    have htim := hid (HTIM.out x.val W x.isLt i1)
    have hle := twL_le (m := m) (fun c => bc.count c) pre
    have hy := twL_yes (m := m) (fun c => bc.count c) pre x
    have hno := twL_no (m := m) (fun c => bc.count c) pre x
    have irr : GrowPl W w.heap.size v (twL m (fun c => bc.count c) pre) := ir
    clear ir
    have hne := nat_beq2' (bc.count x.val)
    obtain ⟨bb, hbb⟩ : ∃ bb : Nat, bc.count x.val = bb := ⟨_, rfl⟩
    simp only [hbb] at hy hno
    rw [hbb] at hne htim
    have hpx : plcI m x.val = (((x.val / m : Nat) : Int), ((x.val % m : Nat) : Int)) := rfl
    rw [hpx] at hy
    simp only [placeC'] at hX
    have HPX := hid (show ∀ pl : Int × Int, pl = (((x.val / m : Nat) : Int), ((x.val % m : Nat) : Int)) → pl = plcI m x.val from fun pl h => h)
    clear HPX hpx
    generalize ((x.val / m : Nat) : Int) = ii at *
    generalize ((x.val % m : Nat) : Int) = kk at *
    obtain ⟨bv, hbv⟩ : ∃ bv : Int, (bb : Int) = bv := ⟨_, rfl⟩
    rw [hbv] at hne htim
    have HXB := hid hX
    have c0 : W.cell? ⟨Bx, 0, none⟩ = some (.int .i64 ii) := by rw [cell_of_row _ _ _ _ _ _ hX]; rfl
    have c1 : W.cell? ⟨Bx, 1, none⟩ = some (.int .i64 kk) := by rw [cell_of_row _ _ _ _ _ _ hX]; rfl
    generalize twL m (fun c => bc.count c) pre = pl at irr hle hy hno
    obtain ⟨A', c', rfl⟩ := irr.slice
    have I0 := hid i0
    have I3 := hid i3
    have I1 := hid i1
    have IV := hid iv
    have IR := hid irr
    have I2 := hid i2
    have HY := hid hy
    have HNO := hid hno
    have HLEN := hid (show pl.length ≤ 1000000 by omega)
    clear i0 i1 i2 i3 iv irr hy hno hle hlt hbv hbb hr hX hlw
    gi_wp2_with (refine wpListIn_load_row (Open.round _ l) rfl 51 _ rfl w.heap.size rfl 51 ts (0, 0) _ I0.out Try.underlying51 rfl HST.out ?_)
    refine ⟨trivial, CallsIn.inRound l (callsIn_wide.2 (htim.out.mono ?_))⟩
    rintro e w5 ⟨rfl, hb5⟩
    have E0 := hid ((hb5.block _ (lt_of_block I0.out)).trans I0.out)
    have E3 := hid ((hb5.block _ (lt_of_block I3.out)).trans I3.out)
    have EM := hid (I1.out.kept (hb5.block _ I1.out.lt))
    have EV := hid (show Boxed w5 (w.heap.size + 2) 54 (.slice A' pl.length c') from (hb5.block _ IV.out.lt).trans IV.out)
    have ER := hid (IR.out.below hb5)
    have E2 := hid (I2.out.trans (hb5.mono (Nat.le_trans KB.out.size I2.out.size)))
    have EK := hid (keeps_below hb5)
    have EW := hid (KeepsAt.below (g := w.heap.size + 3) hb5 (by have := I2.out.size; have := KS.out; omega))
    have EX := hid ((hb5.block _ (lt_of_block HXB.out)).trans HXB.out)
    have ES := hid hb5.size
    clear hb5 c0 c1
    cases hb : (bb == 2) with
    | true =>
      rw [hb] at hne
      have HYX := hid (HY.out hb)
      have d0 : w5.cell? ⟨Bx, 0, none⟩ = some (.int .i64 ii) := by rw [cell_of_row _ _ _ _ _ _ EX.out]; rfl
      have d1 : w5.cell? ⟨Bx, 1, none⟩ = some (.int .i64 kk) := by rw [cell_of_row _ _ _ _ _ _ EX.out]; rfl
      have hcell := EV.out.cell
      clear hb
      gi_wp2_with (gi_at_builtin; refine wpListIn_appendP rfl _ _ rfl w.heap.size (.slice A' pl.length c') pl rfl (World.ownsRow.alloc ER.out _) w5.heap.size 1 rfl (ii, kk) (heap_new0 w5 _) HLEN.out (by have := ES.out; have := I2.out.size; have := KS.out; simp; omega) ?_)
      intro gg cap w6 hown hgrow
      obtain ⟨hv1, hv2, hr2, hk2, hb2⟩ := EV.out.appended (by decide) ER.out (by have := ES.out; have := I2.out.size; have := KS.out; omega) (by omega) hown hgrow
      have hc1 := hv1.cell
      have hf1 := hv1.frozen
      have R0 := hid (grownPl_heap (World.ownsRow.alloc ER.out _) hgrow ((Below.heap_alloc _ _ _ (lt_of_block E0.out)).trans E0.out) (by decide))
      have R3 := hid (grownPl_heap (World.ownsRow.alloc ER.out _) hgrow ((Below.heap_alloc _ _ _ (lt_of_block E3.out)).trans E3.out) (by decide))
      have RM := hid (show MapOf w6 b wl from grownPl_map (World.ownsRow.alloc ER.out _) hgrow (EM.out.alloc _))
      have RW := hid ((EW.out.trans (KeepsAt.below ((Below.refl _ w5).alloc (Nat.le_refl _) (.cells #[.int .i64 ii, .int .i64 kk] 90)) (by have := ES.out; have := I2.out.size; have := KS.out; omega))).trans (KeepsAt.grownPl (World.ownsRow.alloc ER.out _) hgrow ((Below.heap_alloc _ _ _ (lt_of_block E3.out)).trans E3.out)))
      have V2 := hid hv2
      have RR := hid hr2
      have RK := hid (EK.out.trans hk2)
      have RB := hid (E2.out.trans hb2)
      clear hv1 hv2 hr2 hk2 hb2 hgrow hown hcell d0 d1
      gi_wp2
      refine ⟨RK.out.from _, RW.out.trans ⟨by simp, Below.heap_setCell _ _ _ _ (by simp)⟩, ⟨⟨⟨⟨?_, ?_⟩, ?_⟩, _, V2.out, ?_, trivial⟩, RB.out⟩⟩
      · rw [Below.heap_setCell _ _ _ _ (by simp)]; exact R0.out
      · rw [Below.heap_setCell _ _ _ _ (by simp)]; exact R3.out
      · exact RM.out.kept (Below.heap_setCell _ _ _ _ (by have := HBW.out; show b ≠ w.heap.size + 2; omega))
      · rw [HYX.out]; exact RR.out
    | false =>
      rw [hb] at hne
      have HYX := hid (HNO.out hb)
      clear hb
      gi_wp2
      refine ⟨EK.out.from _, EW.out, ⟨⟨⟨⟨E0.out, E3.out⟩, EM.out⟩, _, EV.out, ?_, trivial⟩, E2.out⟩⟩
      rw [HYX.out]; exact ER.out
  case done =>
    rintro D xs W hD rfl ⟨⟨⟨⟨i0, i3⟩, i1⟩, v, iv, ir, _⟩, i2⟩ hK
    rw [twL_all] at ir
    have irr : GrowPl W w.heap.size v (((List.range (n * m)).filter fun c => bc.count c == 2).map (plcI m)) := ir
    rw [HRR.out] at irr
    have hcell := iv.cell
    have J2 := hid i2
    have JK := hid hK
    have JO := hid irr
    clear iv ir irr i0 i1 i2 i3 hK
    gi_wp2
    refine ⟨by simp, .inl ⟨_, _, rfl, run_takeDeferred JK.out, ?_⟩⟩
    refine ⟨_, results_tmp rfl _ _ _, v, rfl, Plcs.put JO.out JK.out, ?_⟩
    exact (KB.out.trans J2.out).trans (belowK_b (w := w) (Nat.le_refl _) _ D _ _ (by have := KS.out; omega) JK.out rfl rfl)
  case stop =>
    rintro D c pre W _ _ h _
    exact h.elim
end Go.Proofs.Ytagnecclhmbofaa
