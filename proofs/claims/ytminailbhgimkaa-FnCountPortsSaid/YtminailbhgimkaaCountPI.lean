/- CountPorts of the program, by its contract. -/
import Derived.Test.YtminailbhgimkaaCountI
import Derived.Test.YtminailbhgimkaaBunO
namespace Go.Proofs.Ytminailbhgimkaa
open Go.RowKit Go.Shelf
attribute [local go_sem] Oper.semAt_some

/-- Where the beam of the port 0 ends in the full grid of a number. -/
def endF (n m x : Nat) : Nat := bend_ n m (lett m (fullL (n * m) x)) 0
theorem endF_lt {n m : Nat} (hn : 1 ≤ n) (hm : 1 ≤ m) (x : Nat) : endF n m x < 2 * (n + m) := (bend_facts hn hm (by omega)).2.1
/-- In how many full grids each port is the partner of the port 0. -/
def portsR (n m : Nat) : List Int := portsL (2 * (n + m)) (endF n m) (List.range (2 ^ (n * m)))
/-- What CountPorts comes to. -/
def CPortsOut (a b : Int) (l : List Int) (ok : Bool) : Prop :=
  (∃ n m, MostIn a b n m ∧ l = portsR n m ∧ ok = true) ∨ ((∀ n m, ¬ MostIn a b n m) ∧ l = [] ∧ ok = false)
theorem CPortsOut.uniq {a b : Int} {l l' : List Int} {ok ok' : Bool} (h : CPortsOut a b l ok) (h' : CPortsOut a b l' ok') : l' = l ∧ ok' = ok := by
  rcases h with ⟨n, m, h1, rfl, rfl⟩ | ⟨h1, rfl, rfl⟩ <;> rcases h' with ⟨n', m', h1', rfl, rfl⟩ | ⟨h1', rfl, rfl⟩
  · obtain rfl : n = n' := by have := h1.1; have := h1'.1; omega
    obtain rfl : m = m' := by have := h1.2.1; have := h1'.2.1; omega
    exact ⟨rfl, rfl⟩
  · exact absurd h1 (h1' _ _)
  · exact absurd h1' (h1 _ _)
  · exact ⟨rfl, rfl⟩
theorem portsR_len {n m : Nat} (hn : 1 ≤ n) (hm : 1 ≤ m) : (portsR n m).length = 2 * (n + m) := portsL_length (endF_lt hn hm) _
theorem CPortsOut.len {a b : Int} {l : List Int} {ok : Bool} (h : CPortsOut a b l ok) : l.length ≤ 1048576 := by
  rcases h with ⟨n, m, h1, rfl, _⟩ | ⟨_, rfl, _⟩
  · obtain ⟨_, _, h1, h2, h3, h4, _⟩ := h1
    rw [portsR_len h1 h3]
    omega
  · simp
/-- The counts of those that have come. -/
def ptsX (n m : Nat) {M : Nat} (pre : List (Fin M)) : List Int := portsL (2 * (n + m)) (endF n m) (pre.map (·.val))
theorem ptsX_nil (n m M : Nat) : ptsX n m ([] : List (Fin M)) = List.replicate (2 * (n + m)) 0 := rfl
theorem ptsX_length {n m : Nat} (hn : 1 ≤ n) (hm : 1 ≤ m) {M : Nat} (pre : List (Fin M)) : (ptsX n m pre).length = 2 * (n + m) := portsL_length (endF_lt hn hm) _
theorem ptsX_snoc {n m : Nat} (hn : 1 ≤ n) (hm : 1 ≤ m) {M : Nat} (pre : List (Fin M)) (x : Fin M) : ptsX n m (pre ++ [x]) = (ptsX n m pre).set (endF n m x.val) ((ptsX n m pre).getD (endF n m x.val) 0 + 1) := by
  unfold ptsX
  rw [List.map_append]
  exact portsL_snoc (endF_lt hn hm) _ _
theorem ptsX_all (n m M : Nat) : ptsX n m (List.finRange M) = portsL (2 * (n + m)) (endF n m) (List.range M) := by
  have e := upto_val (N := M) (k := M) (Nat.le_refl _)
  rw [upto_all] at e
  unfold ptsX
  rw [e]
theorem ptsX_bound {n m : Nat} {M : Nat} (pre : List (Fin M)) (hp : pre.length ≤ 512) (k : Nat) : 0 ≤ (ptsX n m pre).getD k 0 ∧ (ptsX n m pre).getD k 0 ≤ 512 := by
  have := portsL_bound (2 * (n + m)) (endF n m) k (pre.map (·.val))
  rw [List.length_map] at this
  unfold ptsX
  omega
/-- A new row of zeros is a list of zeros. -/
theorem growI_made {w : World} {B P base : Nat} (h : w.heap[B]? = some (.cells (madeCells #[.int .i64 0] P) 3 (0, 0))) (hB : base ≤ B) (hP : P ≤ 1000) : GrowI w base (.slice (some ⟨B, 0, none⟩) P P) (List.replicate P 0) := by
  refine ⟨by simp [intsV], .inr ⟨B, P, _, by simp, hB, h, by simp, by unfold maxLen; omega, by rw [size_madeCells]; simp, ?_⟩⟩
  rw [List.length_replicate]
  refine List.ext_getElem? fun j => ?_
  by_cases hj : j < P
  · rw [List.getElem?_take_of_lt (by omega)]
    have h1 : (madeCells #[Value.int .i64 0] P).toList[j]? = some (.int .i64 0) := by
      rw [Array.getElem?_toList]
      simp [madeCells, hj, Nat.mod_one]
    rw [h1]
    simp [intsV, hj]
  · rw [List.getElem?_eq_none (by rw [List.length_take]; omega), List.getElem?_eq_none (by simp [intsV]; omega)]

theorem own3_put {W : World} {lo D : Nat} {A : Option Addr} {l : List Int} {o' : Obj} (h : Own3 W lo A l) (hk : W.heap[D]? = some (.deferred (some []))) : Own3 (W.putObj D o') lo A l := by
  rcases h with h | ⟨g, rfl, hg, cs, hc, hx⟩
  · exact .inl h
  · refine .inr ⟨g, rfl, hg, cs, ?_, hx⟩
    rw [World.putObj_heap_other (fun e => by subst e; rw [hc] at hk; cases hk)]
    exact hc
/-- What the operations of a round hand back. -/
def ptsRel (gc : Array Value) (z P p : Nat) (y : Int) (i : Nat) (v : Value) (_ : World) : Prop :=
  match i with
  | 0 => v = .slice (some ⟨z, 0, none⟩) P P
  | 1 => v = .agg gc
  | 2 => v = .int .i64 (p : Int)
  | 3 => v = .pointer (some ⟨z, p, none⟩)
  | 4 => v = .int .i64 y
  | 5 => v = .int .i64 (y + 1)
  | 6 => v = .pointer (some ⟨z, p, none⟩)
  | _ => True

set_option maxRecDepth 100000 in
set_option maxHeartbeats 8000000 in
theorem implCountPorts_any (a b : Int) (w : World) :
    Calls Try.prog 25 #[.int .i64 a, .int .i64 b] w fun e w' => Below w.heap.size w w' ∧ ∃ A c l ok, e = .returned (.tuple #[.slice A l.length c, .bool ok]) ∧ CPortsOut a b l ok ∧ Own3 w' w.heap.size A l := by
  have HT := hid (fun w => tried_any 9 a b 9 w rfl)
  refine (callsIn_wide (n := 3)).1 ?_
  refine callsIn_of_wp_marks Try.func25 rfl trivial ?_ rfl
  simp only [Try.ntmps25, List.size_toArray, List.length_cons, List.length_nil, Nat.reduceAdd, Nat.reduceSub, Array.replicate_succ, Array.replicate_zero, List.push_toArray, List.append_toArray, List.nil_append, List.cons_append]
  gi_wp2_with fail
  refine ⟨trivial, callsIn_wide.2 ((HT.out _).mono ?_)⟩
  rintro e w' ⟨⟨ok, rfl, ⟨rfl, n, m, hin⟩ | ⟨rfl, hno⟩⟩, rfl⟩
  · obtain ⟨rfl, rfl, hn1, hn5, hm1, hm5, hN9⟩ := hin
    have HYES := hid (show MostIn (n : Int) (m : Int) n m from ⟨rfl, rfl, hn1, hn5, hm1, hm5, hN9⟩)
    obtain ⟨N, hN⟩ : ∃ N, n * m = N := ⟨_, rfl⟩
    obtain ⟨M, hM⟩ : ∃ M, 2 ^ N = M := ⟨_, rfl⟩
    have HNN := hid hN
    have HMM := hid hM
    have hM512 : M ≤ 512 := by rw [← hM]; exact Nat.pow_le_pow_right (by omega) (show N ≤ 9 by omega)
    have HBND := hid (fun (pre : List (Fin M)) (hp : pre.length ≤ 512) => ptsX_bound (n := n) (m := m) pre hp)
    have HLEN := hid (fun (pre : List (Fin M)) => ptsX_length hn1 hm1 pre)
    have HSN := hid (fun (pre : List (Fin M)) x => ptsX_snoc hn1 hm1 pre x)
    have HEL := hid (fun x => endF_lt hn1 hm1 x)
    have hN9' : N ≤ 9 := by rw [← hN]; exact hN9
    have HALL := hid (show ptsX n m (List.finRange M) = portsR n m by rw [ptsX_all]; unfold portsR; rw [hN, hM])
    have HPO := hid (fun W => ports_any n m (pad []) W hn5 hm5)
    have HPA := hid (fun x W => partner_any n m 0 (fullL (n * m) x) W (fullL_length _ _) hn1 hn5 hm1 hm5 (by omega))
    have HNIL := hid (ptsX_nil n m M)
    clear hN hM hN9 HT
    obtain ⟨P, hP⟩ : ∃ P, 2 * (n + m) = P := ⟨_, rfl⟩
    have hP20 : P ≤ 20 := by omega
    have HPP := hid hP
    rw [hP] at HPO HLEN HEL HNIL
    have hmk := run_make_row' (P := Try.prog) 25 3 (.int .i64 0) 8 Try.underlying25 Try.info_int rfl .i64 .i64 P (by omega) (by omega)
    clear hP
    gi_wp2_with fail
    refine ⟨trivial, callsIn_wide.2 ((HPO.out _).mono ?_)⟩
    rintro e wp ⟨rfl, hbp⟩
    have HBP := hid hbp
    clear hbp
    gi_wp2_with fail
    have NX := hid (show Boxed ((wp.alloc (.cells (madeCells #[.int .i64 0] P) 3)).alloc (.cells #[.slice (some ⟨wp.heap.size, 0, none⟩) P P] 25)) (wp.heap.size + 1) 25 (.slice (some ⟨wp.heap.size, 0, none⟩) P P) by
      have := Boxed.new (wp.alloc (.cells (madeCells #[.int .i64 0] P) 3)) 25 (.slice (some ⟨wp.heap.size, 0, none⟩) P P)
      rwa [World.size_alloc] at this)
    have NG := hid (show GrowI ((wp.alloc (.cells (madeCells #[.int .i64 0] P) 3)).alloc (.cells #[.slice (some ⟨wp.heap.size, 0, none⟩) P P] 25)) w.heap.size (.slice (some ⟨wp.heap.size, 0, none⟩) P P) (List.replicate P 0) from World.ownsRow.alloc (growI_made (heap_new0 wp _) HBP.out.size (by omega)) _)
    have NB := hid ((HBP.out.alloc HBP.out.size (.cells (madeCells #[.int .i64 0] P) 3)).alloc (Nat.le_trans HBP.out.size (by simp)) (.cells #[.slice (some ⟨wp.heap.size, 0, none⟩) P P] 25))
    have NS := hid (show ((wp.alloc (.cells (madeCells #[.int .i64 0] P) 3)).alloc (.cells #[.slice (some ⟨wp.heap.size, 0, none⟩) P P] 25)).heap.size = wp.heap.size + 2 by simp)
    generalize World.alloc (World.alloc wp _) _ = Y at NX NG NB NS ⊢
    have HWZ := hid HBP.out.size
    obtain ⟨z, hz⟩ : ∃ z, wp.heap.size = z := ⟨_, rfl⟩
    rw [hz] at NX NG NS HWZ ⊢
    clear hz HBP hmk
    refine ⟨trivial, callsIn_wide.2 ((fullGrids_any n m _).mono ?_)⟩
    rintro e w1 ⟨rfl, hw1⟩
    have K1 := hid (show Boxed w1 (z + 2) 3 (.int .i64 (n : Int)) by
      rw [hw1, ← NS.out]; exact (Boxed.new Y 3 (.int .i64 (n : Int))).alloc _)
    have K2 := hid (show Boxed w1 (z + 2 + 1) 3 (.int .i64 (m : Int)) by
      have h := Boxed.new (Y.alloc (.cells #[.int .i64 (n : Int)] 3)) 3 (.int .i64 (m : Int))
      rw [World.size_alloc, NS.out] at h
      rw [hw1]; exact h)
    have KX := hid (show Boxed w1 (z + 1) 25 (.slice (some ⟨z, 0, none⟩) P P) by rw [hw1]; exact (NX.out.alloc _).alloc _)
    have KG := hid (show w1.ownsRow w.heap.size 3 1 (.slice (some ⟨z, 0, none⟩) P P) (ptsX n m ([] : List (Fin M))).length (intsV (ptsX n m ([] : List (Fin M)))) by
      rw [hw1, HNIL.out]; exact World.ownsRow.alloc (World.ownsRow.alloc NG.out _) _)
    have KB := hid (show Below w.heap.size w w1 by rw [hw1]; exact (NB.out.alloc NB.out.size _).alloc (Nat.le_trans NB.out.size (by simp)) _)
    have KS := hid (show w1.heap.size = z + 4 by rw [hw1]; simp [NS.out])
    have HYS := NS.out
    rw [HYS]
    clear hw1 HYS NX NG NB
    gi_wp2
    refine wpIn_rangeFunc_ownH rfl (by omega) (gf := 82) (lb := #[.pointer (some ⟨z + 2, 0, none⟩), .pointer (some ⟨z + 2 + 1, 0, none⟩)]) rfl trivial (enters_of Try.func82 (by kernel_rfl) rfl)
      (full_stops 2 (z + 2) (z + 2 + 1) n m N M HNN.out.symm HMM.out.symm hn1 hn5 hm1 hm5 hN9' w1 K1.out K2.out) KeepsTwo.trans (keepsTwo_b K1.out.lt K2.out.lt) (Below.refl _ _) (fun _ => rfl)
      (fun pre W => (∃ v, Boxed W (z + 1) 25 v ∧ W.ownsRow w.heap.size 3 1 v (ptsX n m pre).length (intsV (ptsX n m pre)) ∧ v = .slice (some ⟨z, 0, none⟩) P P) ∧ Below w.heap.size w1 W)
      (fun _ _ _ => False)
      (OwnFrom.and (Own.from (holdsRow_own w.heap.size (z + 1) 25 3 1 (fun pre => (ptsX n m pre).length) (fun pre => intsV (ptsX n m pre)) (fun _ v => v = .slice (some ⟨z, 0, none⟩) P P)) _) (ownFrom_below KB.out.size KB.out.size))
      (fun _ _ _ _ _ hs _ _ => hs)
      ⟨⟨_, KX.out, KG.out, rfl⟩, Below.refl _ _⟩
      (fun x a' W => ∃ Bx, z + 4 ≤ Bx ∧ W.heap[Bx]? = some (.cells (gcells n m (fullL (n * m) x.val)) 57 (0, 0)) ∧ ∃ u0 u1 u2 u3 u4 u5 u8 u9 u10 u11 u12 u13 u14 u15 u16 u17 u18 u19 u20 u21 u22 u23 u24 u25 u26 u27 u28 : Value,
        a' = { tmps := #[u0, u1, u2, u3, u4, u5, .pointer (some ⟨z + 1, 0, none⟩), .pointer (some ⟨Bx, 0, none⟩), u8, u9, u10, u11, u12, u13, u14, u15, u16, u17, u18, u19, u20, u21, u22, u23, u24, u25, u26, u27, u28], defers := [] })
      (fun x a' _ X Y row hs hg hr => by
        obtain ⟨Bx, h1, h2, h3⟩ := hs
        exact ⟨Bx, h1, ownFrom_heap _ Bx (fun (_ : Unit) => Obj.cells (gcells n m (fullL (n * m) x.val)) 57 (0, 0)) (fun _ => rfl) () X Y row h2 hg hr, h3⟩)
      ?assign ?body ?done ?stop
    case assign =>
      rintro l pre x W Kk ⟨⟨v, iv, ir, ig⟩, i3⟩ hK
      have JV := hid iv
      have JR := hid ir
      have J3 := hid i3
      have JK := hid hK
      have JG := hid ig
      clear iv ir i3 hK ig
      unfold encsF
      have hsz : z + 4 ≤ W.heap.size := by rw [← KS.out]; exact J3.out.size
      have HGE := hid (show (Try.prog.info? 57).map (·.size) = some (gcells n m (fullL (n * m) x.val)).size by rw [gcells_size (fullL_length _ _)]; exact Try.size_grid)
      have HGZ := hid (show zeroG.size = (gcells n m (fullL (n * m) x.val)).size by rw [gcells_size (fullL_length _ _)]; rfl)
      gi_wp2_with (first
        | refine wpListIn_store_row (Open.wide _) rfl 57 _ _ rfl W.heap.size (gcells n m (fullL (n * m) x.val)) rfl rfl 57 zeroG (heap_new0 W _) HGE.out HGZ.out (gcells_one _ _ _) ?_
        | refine wpListIn_store_row (Open.round _ l) rfl 57 _ _ rfl W.heap.size (gcells n m (fullL (n * m) x.val)) rfl rfl 57 zeroG (heap_new0 W _) HGE.out HGZ.out (gcells_one _ _ _) ?_)
      have HBW := below_setRow' ((Below.refl _ W).alloc (Nat.le_refl _) (.cells zeroG 57)) (Nat.le_refl _) (gcells n m (fullL (n * m) x.val))
      have hwz := HWZ.out
      exact JK.out _ _ ((keeps_below HBW).from _) (KeepsTwo.below HBW (by omega) (by omega))
        ⟨⟨v, (HBW.block _ JV.out.lt).trans JV.out, World.ownsRow.kept JR.out (Cls.grown HBW) (by cases v.ownBlock with | none => exact .inl rfl | some k => exact .inr (fun e => by cases e)), JG.out⟩, J3.out.trans (HBW.mono (by omega))⟩
        ⟨W.heap.size, hsz, setRow_heap _ _ _ _ _ _ (heap_new0 W _), _, _, _, _, _, _, _, _, _, _, _, _, _, _, _, _, _, _, _, _, _, _, _, _, _, _, _, rfl⟩
    case body =>
      rintro l pre x a' W hlw ⟨r, hr⟩ ⟨⟨v, iv, ir, rfl⟩, i3⟩ ⟨Bx, hBx, hX, u0, u1, u2, u3, u4, u5, u8, u9, u10, u11, u12, u13, u14, u15, u16, u17, u18, u19, u20, u21, u22, u23, u24, u25, u26, u27, u28, rfl⟩ hlt
      have hsn := HSN.out pre x
      have hlen := HLEN.out pre
      have hbd := HBND.out pre (by omega) (endF n m x.val)
      have irr : GrowI W w.heap.size (.slice (some ⟨z, 0, none⟩) P P) (ptsX n m pre) := ir
      clear ir
      generalize ptsX n m pre = cl at irr hsn hlen hbd
      have hpl := HEL.out x.val
      have HPX := hid (show ∀ W', Calls Try.prog 54 #[.agg (gcells n m (fullL (n * m) x.val)), .int .i64 0] W' fun e w' => e = .returned (.int .i64 ((endF n m x.val : Nat) : Int)) ∧ Below W'.heap.size W' w' from fun W' => HPA.out x.val W')
      obtain ⟨p, hp⟩ : ∃ p, endF n m x.val = p := ⟨_, rfl⟩
      rw [hp] at hsn hbd hpl HPX
      obtain ⟨y, hy⟩ : ∃ y, cl[p]? = some y := ⟨_, List.getElem?_eq_getElem (by rw [hlen]; exact hpl)⟩
      have hyd : cl.getD p 0 = y := by rw [List.getD_eq_getElem?_getD, hy]; rfl
      rw [hyd] at hsn hbd
      obtain ⟨hy0, hy1⟩ := hbd
      have hpi : (p : Int) < (P : Int) := by omega
      have hp0 : (0 : Int) ≤ (p : Int) := by omega
      have IR := hid irr
      have IV := hid iv
      have J3 := hid i3
      have JX := hid hX
      have HS2 := hid hsn
      have HYY := hid hy
      have HZ := hid (show z + 4 ≤ W.heap.size by rw [← KS.out]; exact i3.size)
      have HGE := hid (show (Try.prog.info? 57).map (·.size) = some (gcells n m (fullL (n * m) x.val)).size by rw [gcells_size (fullL_length _ _)]; exact Try.size_grid)
      clear iv irr i3 hX hsn hr hlt hBx hy hyd hp hlen
      generalize gcells n m (fullL (n * m) x.val) = gc at *
      gi_wp2_with fail
      refine wpIn_region_rel_tail (by kernel_rfl) 7 (by kernel_rfl) (fun us => { tmps := #[u0, u1, u2, u3, u4, u5, .pointer (some ⟨z + 1, 0, none⟩), .pointer (some ⟨Bx, 0, none⟩), u8, u9, u10, u11, u12, u13, u14, u15, u16, u17, u18, u19, u20, us 0, us 1, us 2, us 3, us 4, us 5, us 6, u28], defers := [] }) (fun j => ([u21, u22, u23, u24, u25, u26, u27] : List Value).getD j undef) rfl (ptsRel gc z P p y) (fun i v W W' h hb => h) (fun i us v hi => ?_) (fun i us W2 hi hb hd => ?_) (fun us W2 hb hr => ?_)
      · match i, hi with
        | 0, _ => rfl
        | 1, _ => rfl
        | 2, _ => rfl
        | 3, _ => rfl
        | 4, _ => rfl
        | 5, _ => rfl
        | 6, _ => rfl
      · have hcell := (show Boxed W2 (z + 1) 25 (.slice (some ⟨z, 0, none⟩) P P) from (hb.block _ IV.out.lt).trans IV.out).cell
        have hcp := growI_at (IR.out.belowC hb) HYY.out
        have HXW := hid ((hb.block _ (lt_of_block JX.out)).trans JX.out)
        match i, hi with
        | 0, _ => exact wpOpIn_relval (Open.round _ l) rfl rfl (by intro c e; cases e) (by go_simp) rfl (Below.refl _ _)
        | 1, _ => exact wpOpIn_relval (Open.round _ l) rfl rfl (by intro c e; cases e) (exec_load_row 57 _ rfl Bx rfl 57 gc (0, 0) _ HXW.out Try.underlying57 rfl HGE.out) rfl (Below.refl _ _)
        | 2, _ =>
          have h0 : us 1 = _ := hd _ rfl { on := 1, ground := .data } (by simp) rfl
          rw [h0]
          exact wpOpIn_relcall (Open.round _ l) rfl rfl (by intro c e; cases e) (by go_simp) ((HPX.out W2).mono fun e w'' ⟨he, hb'⟩ => ⟨_, he, rfl, hb'⟩)
        | 3, _ =>
          have h0 : us 0 = _ := hd _ rfl { on := 0, ground := .data } (by simp) rfl
          have h1 : us 2 = _ := hd _ rfl { on := 2, ground := .data } (by simp) rfl
          rw [h0, h1]
          exact wpOpIn_relval (Open.round _ l) rfl rfl (by intro c e; cases e) (by go_simp) rfl (Below.refl _ _)
        | 4, _ =>
          have h0 : us 3 = _ := hd _ rfl { on := 3, ground := .data } (by simp) rfl
          rw [h0]
          exact wpOpIn_relval (Open.round _ l) rfl rfl (by intro c e; cases e) (by go_simp) rfl (Below.refl _ _)
        | 5, _ =>
          have h0 : us 4 = _ := hd _ rfl { on := 4, ground := .data } (by simp) rfl
          rw [h0]
          exact wpOpIn_relval (Open.round _ l) rfl rfl (by intro c e; cases e) (by go_simp; first | exact IntWalk.wrap64_in _ (by omega) | (rw [IntKind.wrap_i64]; omega)) rfl (Below.refl _ _)
        | 6, _ =>
          have h0 : us 0 = _ := hd _ rfl { on := 0, ground := .data } (by simp) rfl
          have h1 : us 2 = _ := hd _ rfl { on := 2, ground := .data } (by simp) rfl
          rw [h0, h1]
          exact wpOpIn_relval (Open.round _ l) rfl rfl (by intro c e; cases e) (by go_simp) rfl (Below.refl _ _)
      · have h5 : us 5 = _ := hr 5 (by omega)
        have h6 : us 6 = _ := hr 6 (by omega)
        rw [h5, h6]
        have QR := hid (IR.out.belowC hb)
        have QV := hid (show Boxed W2 (z + 1) 25 (.slice (some ⟨z, 0, none⟩) P P) from (hb.block _ IV.out.lt).trans IV.out)
        have QB := hid hb
        have hcp := growI_at QR.out HYY.out
        obtain ⟨hfr, hb1, hb2⟩ := growI_free (j := p) QR.out
        have HB1 := hid hb1
        clear hr hb h5 h6 hb1 hb2
        simp only [List.drop_succ_cons, List.drop_zero]
        gi_wp2
        have hz := HZ.out
        have hqs := QB.out.size
        have hwz := HWZ.out
        refine ⟨((keeps_below QB.out).trans (KeepsOthers.setCell _ _ _)).from _,
          (KeepsTwo.below QB.out (by omega) (by omega)).trans ⟨by simp, Below.heap_setCell _ _ _ _ (by simp), Below.heap_setCell _ _ _ _ (by simp; omega)⟩,
          ⟨_, (Below.heap_setCell _ _ _ _ (by simp)).trans QV.out, ?_, rfl⟩, ?_⟩
        · rw [HS2.out]
          exact growI_put QR.out
        · exact (J3.out.trans (QB.out.mono (by omega))).setCell (p := ⟨z, p, none⟩) HB1.out _
    case done =>
      rintro D xs W hD rfl ⟨⟨v, iv, ir, rfl⟩, i3⟩ hK
      rw [HALL.out] at ir
      have irr : GrowI W w.heap.size (.slice (some ⟨z, 0, none⟩) P P) (portsR n m) := ir
      have hcell := iv.cell
      have J3 := hid i3
      have JK := hid hK
      obtain ⟨A', c', he, hown⟩ := irr.own
      have hPl : P = (portsR n m).length := by cases he; rfl
      have HO := hid hown
      clear ir irr i3 hK hown
      subst hPl
      cases he
      gi_wp2
      refine ⟨by simp, .inl ⟨_, _, rfl, run_takeDeferred JK.out, ?_⟩⟩
      refine ⟨_, results_tmp2 rfl _ _ _, ?_, _, _, portsR n m, true, rfl, .inl ⟨n, m, HYES.out, rfl, rfl⟩, ?_⟩
      · exact (KB.out.trans J3.out).trans (belowK_b (w := w) (Nat.le_refl _) _ D _ _ (by have := KS.out; have := HWZ.out; omega) JK.out rfl rfl)
      · exact own3_put HO.out JK.out
    case stop =>
      rintro D c pre W _ _ h _
      exact h.elim
  · have HNo := hid hno
    clear hno HT
    gi_wp2_with fail
    refine ⟨_, results_tmp2 rfl _ _ _, ?_, _, _, [], false, rfl, .inr ⟨HNo.out, rfl, rfl⟩, .inl ⟨rfl, rfl⟩⟩
    exact Below.refl _ _
end Go.Proofs.Ytminailbhgimkaa
