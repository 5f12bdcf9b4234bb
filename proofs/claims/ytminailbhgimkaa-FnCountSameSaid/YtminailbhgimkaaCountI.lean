/- CountRounds and CountTotal of the program, by their contracts. -/
import Derived.Test.YtminailbhgimkaaCountW
import Derived.Test.YtminailbhgimkaaMostI
import Derived.Test.YtminailbhgimkaaBunF
namespace Go.Proofs.Ytminailbhgimkaa
open Go.RowKit Go.Shelf
attribute [local go_sem] Oper.semAt_some

/-- How many full grids have so many rounds. -/
def countsR (n m : Nat) : List Int := cntL (cntF n m) (List.range (2 ^ (n * m)))
/-- What CountRounds comes to. -/
def CountOut (a b : Int) (l : List Int) (ok : Bool) : Prop :=
  (∃ n m, MostIn a b n m ∧ l = countsR n m ∧ ok = true) ∨ ((∀ n m, ¬ MostIn a b n m) ∧ l = [] ∧ ok = false)
theorem CountOut.uniq {a b : Int} {l l' : List Int} {ok ok' : Bool} (h : CountOut a b l ok) (h' : CountOut a b l' ok') : l' = l ∧ ok' = ok := by
  rcases h with ⟨n, m, h1, rfl, rfl⟩ | ⟨h1, rfl, rfl⟩ <;> rcases h' with ⟨n', m', h1', rfl, rfl⟩ | ⟨h1', rfl, rfl⟩
  · obtain rfl : n = n' := by have := h1.1; have := h1'.1; omega
    obtain rfl : m = m' := by have := h1.2.1; have := h1'.2.1; omega
    exact ⟨rfl, rfl⟩
  · exact absurd h1 (h1' _ _)
  · exact absurd h1' (h1 _ _)
  · exact ⟨rfl, rfl⟩
theorem countsR_len {n m : Nat} (h : n * m ≤ 9) : (countsR n m).length ≤ 37 := cntL_len _ (fun _ => cntF_le h) _
theorem countsR_bound {n m : Nat} (h : n * m ≤ 9) (k : Nat) : 0 ≤ (countsR n m).getD k 0 ∧ (countsR n m).getD k 0 ≤ 512 := by
  have h1 := cntL_bound (cntF n m) k (List.range (2 ^ (n * m)))
  rw [List.length_range] at h1
  have h2 : 2 ^ (n * m) ≤ 2 ^ 9 := Nat.pow_le_pow_right (by omega) h
  have h3 : (2 : Nat) ^ 9 = 512 := rfl
  unfold countsR
  omega
theorem CountOut.len {a b : Int} {l : List Int} {ok : Bool} (h : CountOut a b l ok) : l.length ≤ 1048576 := by
  rcases h with ⟨n, m, h1, rfl, _⟩ | ⟨_, rfl, _⟩
  · have := countsR_len h1.2.2.2.2.2.2
    omega
  · simp
/-- What CountTotal comes to. -/
def TotalOut (a b x : Int) (ok : Bool) : Prop :=
  (∃ n m, MostIn a b n m ∧ x = weigh (countsR n m) ∧ ok = true) ∨ ((∀ n m, ¬ MostIn a b n m) ∧ x = 0 ∧ ok = false)
theorem TotalOut.uniq {a b x x' : Int} {ok ok' : Bool} (h : TotalOut a b x ok) (h' : TotalOut a b x' ok') : x' = x ∧ ok' = ok := by
  rcases h with ⟨n, m, h1, rfl, rfl⟩ | ⟨h1, rfl, rfl⟩ <;> rcases h' with ⟨n', m', h1', rfl, rfl⟩ | ⟨h1', rfl, rfl⟩
  · obtain rfl : n = n' := by have := h1.1; have := h1'.1; omega
    obtain rfl : m = m' := by have := h1.2.1; have := h1'.2.1; omega
    exact ⟨rfl, rfl⟩
  · exact absurd h1 (h1' _ _)
  · exact absurd h1' (h1 _ _)
  · exact ⟨rfl, rfl⟩
theorem countsR_weigh {n m : Nat} (h : n * m ≤ 9) (k : Nat) (hk : k ≤ (countsR n m).length) : 0 ≤ weighTo (countsR n m) k ∧ weighTo (countsR n m) k ≤ 1000000 := by
  have h1 := weighTo_bound (B := 512) (fun k => countsR_bound h k) k
  have h2 := countsR_len h
  have h3 : k * k ≤ 37 * 37 := Nat.mul_le_mul (by omega) (by omega)
  have h4 : k * k * 512 ≤ 37 * 37 * 512 := Nat.mul_le_mul_right 512 h3
  omega
/-- The counts of those that have come. -/
def cntX (n m : Nat) {M : Nat} (pre : List (Fin M)) : List Int := cntL (cntF n m) (pre.map (·.val))
theorem cntX_nil (n m M : Nat) : cntX n m ([] : List (Fin M)) = [] := rfl
theorem cntX_snoc (n m : Nat) {M : Nat} (pre : List (Fin M)) (x : Fin M) : cntX n m (pre ++ [x]) = addAt (cntX n m pre) (cntF n m x.val) 1 := by
  unfold cntX
  rw [List.map_append]
  exact cntL_snoc _ _ _
theorem cntX_all (n m M : Nat) : cntX n m (List.finRange M) = cntL (cntF n m) (List.range M) := by
  have e := upto_val (N := M) (k := M) (Nat.le_refl _)
  rw [upto_all] at e
  unfold cntX
  rw [e]
theorem cntX_bound {n m : Nat} (h : n * m ≤ 9) {M : Nat} (pre : List (Fin M)) (hp : pre.length ≤ 512) : (cntX n m pre).length ≤ 37 ∧ ∀ k, 0 ≤ (cntX n m pre).getD k 0 ∧ (cntX n m pre).getD k 0 ≤ 512 := by
  refine ⟨cntL_len _ (fun _ => cntF_le h) _, fun k => ?_⟩
  have := cntL_bound (cntF n m) k (pre.map (·.val))
  rw [List.length_map] at this
  unfold cntX
  omega

/-- What the operations of a round hand back. -/
def cntRel (gc : Array Value) (n m N4 K : Nat) (vs : Value) (t : Int → Int → UInt8) (i : Nat) (v : Value) (W : World) : Prop :=
  match i with
  | 0 => v = vs
  | 1 => v = .agg gc
  | 2 => ∃ g, v = .agg (chartC gc g N4) ∧ StepsM W g n m t (fun _ => True) N4
  | 3 => ∃ A c, v = .slice A K c
  | 4 => v = .int .i64 (K : Int)
  | _ => True

set_option maxRecDepth 100000 in
set_option maxHeartbeats 8000000 in
theorem triedRounds_any (n m : Nat) (w : World) (hn1 : 1 ≤ n) (hn5 : n ≤ 5) (hm1 : 1 ≤ m) (hm5 : m ≤ 5) (hN9 : n * m ≤ 9) :
    Calls Try.prog 45 #[.int .i64 (n : Int), .int .i64 (m : Int)] w fun e w' => Below w.heap.size w w' ∧ ∃ v, e = .returned v ∧ GrowI w' w.heap.size v (countsR n m) := by
  refine (callsIn_wide (n := 3)).1 ?_
  refine callsIn_of_wp_marks Try.func45 rfl trivial ?_ rfl
  simp only [Try.ntmps45, List.size_toArray, List.length_cons, List.length_nil, Nat.reduceAdd, Nat.reduceSub, Array.replicate_succ, Array.replicate_zero, List.push_toArray, List.append_toArray, List.nil_append, List.cons_append]
  obtain ⟨N, hN⟩ : ∃ N, n * m = N := ⟨_, rfl⟩
  obtain ⟨M, hM⟩ : ∃ M, 2 ^ N = M := ⟨_, rfl⟩
  have HNN := hid hN
  have HMM := hid hM
  have hM512 : M ≤ 512 := by rw [← hM]; exact Nat.pow_le_pow_right (by omega) (show N ≤ 9 by omega)
  have HLE := hid (fun (pre : List (Fin M)) (hp : pre.length ≤ 512) => cntX_bound (n := n) (m := m) hN9 pre hp)
  have HCL := hid (fun x => cntF_le (n := n) (m := m) (x := x) hN9)
  have hN9' : N ≤ 9 := by rw [← hN]; exact hN9
  have HALL := hid (show cntX n m (List.finRange M) = countsR n m by rw [cntX_all]; unfold countsR; rw [hN, hM])
  clear hN hM hN9
  have NX := hid (show Boxed ((w.alloc (.cells #[] 3)).alloc (.cells #[.slice (some ⟨w.heap.size, 0, none⟩) 0 0] 25)) (w.heap.size + 1) 25 (.slice (some ⟨w.heap.size, 0, none⟩) 0 0) by
    have := Boxed.new (w.alloc (.cells #[] 3)) 25 (.slice (some ⟨w.heap.size, 0, none⟩) 0 0)
    rwa [World.size_alloc] at this)
  have NG := hid (show GrowI ((w.alloc (.cells #[] 3)).alloc (.cells #[.slice (some ⟨w.heap.size, 0, none⟩) 0 0] 25)) w.heap.size (.slice (some ⟨w.heap.size, 0, none⟩) 0 0) [] from World.ownsRow.alloc (growI_new w w.heap.size (Nat.le_refl _)) _)
  have NB := hid (((Below.refl w.heap.size w).alloc (Nat.le_refl _) (.cells #[] 3)).alloc (by simp) (.cells #[.slice (some ⟨w.heap.size, 0, none⟩) 0 0] 25))
  have NS := hid (show ((w.alloc (.cells #[] 3)).alloc (.cells #[.slice (some ⟨w.heap.size, 0, none⟩) 0 0] 25)).heap.size = w.heap.size + 2 by simp)
  gi_wp2_with fail
  generalize World.alloc (World.alloc w _) _ = Y at NX NG NB NS ⊢
  refine ⟨trivial, callsIn_wide.2 ((fullGrids_any n m _).mono ?_)⟩
  rintro e w1 ⟨rfl, hw1⟩
  have K1 := hid (show Boxed w1 (w.heap.size + 2) 3 (.int .i64 (n : Int)) by
    rw [hw1, ← NS.out]; exact (Boxed.new Y 3 (.int .i64 (n : Int))).alloc _)
  have K2 := hid (show Boxed w1 (w.heap.size + 2 + 1) 3 (.int .i64 (m : Int)) by
    have h := Boxed.new (Y.alloc (.cells #[.int .i64 (n : Int)] 3)) 3 (.int .i64 (m : Int))
    rw [World.size_alloc, NS.out] at h
    rw [hw1]; exact h)
  have KX := hid (show Boxed w1 (w.heap.size + 1) 25 (.slice (some ⟨w.heap.size, 0, none⟩) 0 0) by rw [hw1]; exact (NX.out.alloc _).alloc _)
  have KG := hid (show w1.ownsRow w.heap.size 3 1 (.slice (some ⟨w.heap.size, 0, none⟩) 0 0) (cntX n m ([] : List (Fin M))).length (intsV (cntX n m ([] : List (Fin M)))) by
    rw [hw1]; exact World.ownsRow.alloc (World.ownsRow.alloc NG.out _) _)
  have KB := hid (show Below w.heap.size w w1 by rw [hw1]; exact (NB.out.alloc NB.out.size _).alloc (Nat.le_trans NB.out.size (by simp)) _)
  have KS := hid (show w1.heap.size = w.heap.size + 4 by rw [hw1]; simp [NS.out])
  have HYS := NS.out
  rw [HYS]
  clear hw1 HYS NX NG NB
  gi_wp2
  refine wpIn_rangeFunc_ownH rfl (by omega) (gf := 82) (lb := #[.pointer (some ⟨w.heap.size + 2, 0, none⟩), .pointer (some ⟨w.heap.size + 2 + 1, 0, none⟩)]) rfl trivial (enters_of Try.func82 (by kernel_rfl) rfl)
    (full_stops 2 (w.heap.size + 2) (w.heap.size + 2 + 1) n m N M HNN.out.symm HMM.out.symm hn1 hn5 hm1 hm5 hN9' w1 K1.out K2.out) KeepsTwo.trans (keepsTwo_b K1.out.lt K2.out.lt) (Below.refl _ _) (fun _ => rfl)
    (fun pre W => (∃ v, Boxed W (w.heap.size + 1) 25 v ∧ W.ownsRow w.heap.size 3 1 v (cntX n m pre).length (intsV (cntX n m pre)) ∧ (∃ g k c, v = .slice (some ⟨g, 0, none⟩) k c ∧ g ≠ w.heap.size + 2 ∧ g ≠ w.heap.size + 3)) ∧ Below w.heap.size w1 W)
    (fun _ _ _ => False)
    (OwnFrom.and (Own.from (holdsRow_own w.heap.size (w.heap.size + 1) 25 3 1 (fun pre => (cntX n m pre).length) (fun pre => intsV (cntX n m pre)) (fun _ v => ∃ g k c, v = .slice (some ⟨g, 0, none⟩) k c ∧ g ≠ w.heap.size + 2 ∧ g ≠ w.heap.size + 3)) _) (ownFrom_below KB.out.size KB.out.size))
    (fun _ _ _ _ _ hs _ _ => hs)
    ⟨⟨_, KX.out, KG.out, w.heap.size, 0, 0, rfl, by omega, by omega⟩, Below.refl _ _⟩
    (fun x a' W => ∃ Bx, w.heap.size + 4 ≤ Bx ∧ W.heap[Bx]? = some (.cells (gcells n m (fullL (n * m) x.val)) 57 (0, 0)) ∧ ∃ u0 u1 u2 u3 u4 u7 u8 u9 u10 u11 u12 u13 u14 u15 u16 u17 u18 : Value,
      a' = { tmps := #[u0, u1, u2, u3, u4, .pointer (some ⟨w.heap.size + 1, 0, none⟩), .pointer (some ⟨Bx, 0, none⟩), u7, u8, u9, u10, u11, u12, u13, u14, u15, u16, u17, u18], defers := [] })
    (fun x a' _ X Y row hs hg hr => by
      obtain ⟨Bx, h1, h2, h3⟩ := hs
      exact ⟨Bx, h1, ownFrom_heap _ Bx (fun (_ : Unit) => Obj.cells (gcells n m (fullL (n * m) x.val)) 57 (0, 0)) (fun _ => rfl) () X Y row h2 hg hr, h3⟩)
    ?assign ?body ?done ?stop
  case assign =>
    rintro l pre x W Kk ⟨⟨v, iv, ir, ig⟩, i3⟩ hK
    have JV := hid iv
    have JR := hid ir
    have J3 := hid i3
    have JK := hid hK
    have JG := hid ig
    clear iv ir i3 hK ig
    unfold encsF
    have hsz : w.heap.size + 4 ≤ W.heap.size := by rw [← KS.out]; exact J3.out.size
    have HGE := hid (show (Try.prog.info? 57).map (·.size) = some (gcells n m (fullL (n * m) x.val)).size by rw [gcells_size (fullL_length _ _)]; exact Try.size_grid)
    have HGZ := hid (show zeroG.size = (gcells n m (fullL (n * m) x.val)).size by rw [gcells_size (fullL_length _ _)]; rfl)
    gi_wp2_with (first
      | refine wpListIn_store_row (Open.wide _) rfl 57 _ _ rfl W.heap.size (gcells n m (fullL (n * m) x.val)) rfl rfl 57 zeroG (heap_new0 W _) HGE.out HGZ.out (gcells_one _ _ _) ?_
      | refine wpListIn_store_row (Open.round _ l) rfl 57 _ _ rfl W.heap.size (gcells n m (fullL (n * m) x.val)) rfl rfl 57 zeroG (heap_new0 W _) HGE.out HGZ.out (gcells_one _ _ _) ?_)
    have HBW := below_setRow' ((Below.refl _ W).alloc (Nat.le_refl _) (.cells zeroG 57)) (Nat.le_refl _) (gcells n m (fullL (n * m) x.val))
    exact JK.out _ _ ((keeps_below HBW).from _) (KeepsTwo.below HBW (by omega) (by omega))
      ⟨⟨v, (HBW.block _ JV.out.lt).trans JV.out, World.ownsRow.kept JR.out (Cls.grown HBW) (by cases v.ownBlock with | none => exact .inl rfl | some k => exact .inr (fun e => by cases e)), JG.out⟩, J3.out.trans (HBW.mono (by omega))⟩
      ⟨W.heap.size, hsz, setRow_heap _ _ _ _ _ _ (heap_new0 W _), _, _, _, _, _, _, _, _, _, _, _, _, _, _, _, _, _, rfl⟩
  case body =>
    rintro l pre x a' W hlw ⟨r, hr⟩ ⟨⟨v, iv, ir, gg, kk, cc, rfl, ig1, ig2⟩, i3⟩ ⟨Bx, hBx, hX, u0, u1, u2, u3, u4, u7, u8, u9, u10, u11, u12, u13, u14, u15, u16, u17, u18, rfl⟩ hlt
    have hsn := cntX_snoc n m pre x
    obtain ⟨hle, hbd⟩ := HLE.out pre (by omega)
    have hck := HCL.out x.val
    have irr : GrowI W w.heap.size (.slice (some ⟨gg, 0, none⟩) kk cc) (cntX n m pre) := ir
    clear ir
    generalize cntX n m pre = cl at irr hsn hle hbd
    have hKd : (leads n m (lett m (fullL (n * m) x.val))).length = cntF n m x.val := rfl
    obtain ⟨K, hK⟩ : ∃ K, cntF n m x.val = K := ⟨_, rfl⟩
    rw [hK] at hck hsn hKd
    obtain rfl : kk = cl.length := by
      rcases irr.2 with ⟨h0, _⟩ | ⟨g', cap, cur, hv, _⟩
      · cases h0
      · cases hv; rfl
    have IR := hid irr
    have IV := hid iv
    have J3 := hid i3
    have JX := hid hX
    have HSN := hid hsn
    have HG12 := hid (And.intro ig1 ig2)
    have HZ := hid (show w.heap.size + 4 ≤ W.heap.size by rw [← KS.out]; exact i3.size)
    have HBX := hid hBx
    have HBD := hid hbd
    have hpl := fullL_length (n * m) x.val
    have HNC := hid (show ∀ w', Calls Try.prog 51 #[.agg (gcells n m (fullL (n * m) x.val))] w' fun e w'' => ∃ v, e = .returned v ∧ cntRel (gcells n m (fullL (n * m) x.val)) n m (4 * (n * m)) K (.slice (some ⟨gg, 0, none⟩) cl.length cc) (lett m (fullL (n * m) x.val)) 2 v w'' ∧ Below w'.heap.size w' w'' from fun w' => (newChart_any n m (4 * (n * m)) (n * m) (fullL (n * m) x.val) w' hpl hn5 hm1 hm5 rfl rfl).mono fun e w'' ⟨g, _, he, hst, hb⟩ => ⟨_, he, ⟨g, rfl, hst⟩, hb⟩)
    have HRS := hid (show ∀ g w', StepsM w' g n m (lett m (fullL (n * m) x.val)) (fun _ => True) (4 * (n * m)) → Calls Try.prog 52 #[.agg (chartC (gcells n m (fullL (n * m) x.val)) g (4 * (n * m)))] w' fun e w'' => ∃ v, e = .returned v ∧ cntRel (gcells n m (fullL (n * m) x.val)) n m (4 * (n * m)) K (.slice (some ⟨gg, 0, none⟩) cl.length cc) (lett m (fullL (n * m) x.val)) 3 v w'' ∧ Below w'.heap.size w' w'' from fun g w' hst => (rounds_any n m g (4 * (n * m)) (fullL (n * m) x.val) w' hpl hn5 hm5 rfl hst).mono fun e w'' ⟨v, he, hro, hb⟩ => ⟨v, he, (by obtain ⟨A1, c1, e⟩ := hro.sliceP; rw [leadsTo_all, hKd] at e; exact ⟨A1, c1, e⟩), hb⟩)
    have HGE := hid (show (Try.prog.info? 57).map (·.size) = some (gcells n m (fullL (n * m) x.val)).size by rw [gcells_size hpl]; exact Try.size_grid)
    have hK36 : (K : Int) ≤ 36 := by omega
    have HLT := hid hlt
    clear iv irr i3 hX hsn hKd hK hr hlt hBx hpl hbd ig1 ig2
    generalize gcells n m (fullL (n * m) x.val) = gc at *
    generalize lett m (fullL (n * m) x.val) = t at *
    gi_wp2_with fail
    refine wpIn_region_rel_tail (by kernel_rfl) 5 (by kernel_rfl) (fun us => { tmps := #[u0, u1, u2, u3, u4, .pointer (some ⟨w.heap.size + 1, 0, none⟩), .pointer (some ⟨Bx, 0, none⟩), u7, u8, u9, u10, u11, us 0, us 1, us 2, us 3, us 4, u17, u18], defers := [] }) (fun j => ([u12, u13, u14, u15, u16] : List Value).getD j undef) rfl (cntRel gc n m (4 * (n * m)) K (.slice (some ⟨gg, 0, none⟩) cl.length cc) t) (fun i v W W' h hb => ?_) (fun i us v hi => ?_) (fun i us W2 hi hb hd => ?_) (fun us W2 hb hr => ?_)
    · unfold cntRel at h ⊢
      split at h <;> try exact h
      obtain ⟨g, h1, h2⟩ := h
      exact ⟨g, h1, h2.below hb⟩
    · match i, hi with
      | 0, _ => rfl
      | 1, _ => rfl
      | 2, _ => rfl
      | 3, _ => rfl
      | 4, _ => rfl
    · have hcell := (show Boxed W2 (w.heap.size + 1) 25 (.slice (some ⟨gg, 0, none⟩) cl.length cc) from (hb.block _ IV.out.lt).trans IV.out).cell
      have HXW := hid ((hb.block _ (lt_of_block JX.out)).trans JX.out)
      match i, hi with
      | 0, _ => exact wpOpIn_relval (Open.round _ l) rfl rfl (by intro c e; cases e) (by go_simp) rfl (Below.refl _ _)
      | 1, _ => exact wpOpIn_relval (Open.round _ l) rfl rfl (by intro c e; cases e) (exec_load_row 57 _ rfl Bx rfl 57 gc (0, 0) _ HXW.out Try.underlying57 rfl HGE.out) rfl (Below.refl _ _)
      | 2, _ =>
        have h0 : us 1 = _ := hd _ rfl { on := 1, ground := .data } (by simp) rfl
        rw [h0]
        exact wpOpIn_relcall (Open.round _ l) rfl rfl (by intro c e; cases e) (by go_simp) (HNC.out W2)
      | 3, _ =>
        obtain ⟨g, h0, hst⟩ : ∃ g, us 2 = .agg (chartC gc g (4 * (n * m))) ∧ StepsM W2 g n m t (fun _ => True) (4 * (n * m)) := hd _ rfl { on := 2, ground := .data } (by simp) rfl
        rw [h0]
        exact wpOpIn_relcall (Open.round _ l) rfl rfl (by intro c e; cases e) (by go_simp) (HRS.out g W2 hst)
      | 4, _ =>
        obtain ⟨A1, c1, h0⟩ : ∃ A1 c1, us 3 = .slice A1 K c1 := hd _ rfl { on := 3, ground := .data } (by simp) rfl
        rw [h0]
        exact wpOpIn_relval (Open.round _ l) rfl rfl (by intro c e; cases e) (by go_simp) rfl (Below.refl _ _)
    · have h0 : us 0 = _ := hr 0 (by omega)
      have h4 : us 4 = _ := hr 4 (by omega)
      rw [h0, h4]
      have QR := hid (IR.out.belowC hb)
      have QV := hid (show Boxed W2 (w.heap.size + 1) 25 (.slice (some ⟨gg, 0, none⟩) cl.length cc) from (hb.block _ IV.out.lt).trans IV.out)
      have QS := hid hb.size
      have QB := hid hb
      have HWR := hid (withRounds_any w.heap.size gg cc K cl 1 W2 QR.out (by omega) (by omega) (by omega) (fun k => by have := HBD.out k; omega) (by have := QS.out; have := HZ.out; omega))
      clear hr hb h0 h4
      simp only [List.drop_succ_cons, List.drop_zero]
      gi_wp2_with fail
      first
        | refine ⟨trivial, callsIn_wide.2 (HWR.out.mono ?_)⟩
        | refine ⟨trivial, (fun h => by cases h), callsIn_wide.2 (HWR.out.mono ?_)⟩
      rintro e w3 ⟨g2, c2, rfl, hown, hgw, hg2⟩
      have hv1 : Boxed w3 (w.heap.size + 1) 25 (.slice (some ⟨gg, 0, none⟩) cl.length cc) := QV.out.kept hgw (QV.out.not_row (by decide) QR.out)
      have hc1 := hv1.cell
      have hf1 := hv1.frozen
      have V1 := hid hv1
      have RR := hid hown
      have RW := hid hgw
      have RG := hid hg2
      clear hv1 hown hgw hg2
      gi_wp2
      have hz := HZ.out
      have hqs := QS.out
      have hrs := RW.out.size
      obtain ⟨hne1, hne2⟩ := HG12.out
      refine ⟨(((keeps_below QB.out).trans (KeepsOthers.of_grownBy RW.out fun j o ej hj => by
          obtain rfl : j = gg := by cases ej; rfl
          rcases QR.out.2 with ⟨h0, _⟩ | ⟨g', cap, cur, hv, _, hgb, _⟩
          · cases h0
          · cases hv
            rw [hgb] at hj
            cases hj
            rfl)).trans (KeepsOthers.setCell _ _ _)).from _,
        (KeepsTwo.below QB.out (by omega) (by omega)).trans ⟨by simp; omega, (Below.heap_setCell _ _ _ _ (by simp)).trans (RW.out.block _ (by omega) (fun e => hne1 (by cases e; rfl))), (Below.heap_setCell _ _ _ _ (by simp)).trans (RW.out.block _ (by omega) (fun e => hne2 (by cases e; rfl)))⟩,
        ⟨_, V1.out.set _, ?_, g2, _, c2, rfl, ?_⟩, ?_⟩
      · rw [HSN.out]
        exact World.ownsRow.kept RR.out (grownBy_setCell' w3 (w.heap.size + 1) _) (.inr (V1.out.not_row (by decide) RR.out).symm)
      · rcases RG.out with rfl | h
        · exact ⟨hne1, hne2⟩
        · exact ⟨by omega, by omega⟩
      · have hgb := (growI_free (j := 0) QR.out).2.1
        exact ((J3.out.trans (QB.out.mono (by omega))).grown RW.out (by omega) (fun k e => by cases e; exact hgb)).setCell (p := ⟨w.heap.size + 1, 0, none⟩) (by simp) _
  case done =>
    rintro D xs W hD rfl ⟨⟨v, iv, ir, _⟩, i3⟩ hK
    rw [HALL.out] at ir
    have irr : GrowI W w.heap.size v (countsR n m) := ir
    have hcell := iv.cell
    have J3 := hid i3
    have JK := hid hK
    have JR := hid irr
    clear ir irr i3 hK
    obtain ⟨A', c', rfl, _⟩ := JR.out.own
    gi_wp2
    refine ⟨by simp, .inl ⟨_, _, rfl, run_takeDeferred JK.out, ?_⟩⟩
    refine ⟨_, results_tmp rfl _ _ _, (KB.out.trans J3.out).trans (belowK_b (w := w) (Nat.le_refl _) _ D _ _ (by have := KS.out; omega) JK.out rfl rfl), _, rfl, ?_⟩
    exact ownsRow_putObj JR.out _ JK.out rfl
  case stop =>
    rintro D c pre W _ _ h _
    exact h.elim

set_option maxRecDepth 100000 in
set_option maxHeartbeats 2000000 in
theorem implCountRounds_any (a b : Int) (w : World) :
    Calls Try.prog 15 #[.int .i64 a, .int .i64 b] w fun e w' => Below w.heap.size w w' ∧ ∃ A c l ok, e = .returned (.tuple #[.slice A l.length c, .bool ok]) ∧ CountOut a b l ok ∧ Own3 w' w.heap.size A l := by
  have HT := hid (tried_any 9 a b 9 w rfl)
  go_enter Try.func15, Try.ntmps15
  go_wp2_with fail
  refine HT.out.mono ?_
  rintro e w' ⟨⟨ok, rfl, ⟨rfl, n, m, hin⟩ | ⟨rfl, hno⟩⟩, rfl⟩
  · obtain ⟨rfl, rfl, hn1, hn5, hm1, hm5, hN9⟩ := hin
    have HIN := hid (show MostIn (n : Int) (m : Int) n m from ⟨rfl, rfl, hn1, hn5, hm1, hm5, hN9⟩)
    have HTR := hid (triedRounds_any n m w hn1 hn5 hm1 hm5 hN9)
    clear HT hN9
    go_wp2_with fail
    refine HTR.out.mono ?_
    rintro e w1 ⟨hb, v, rfl, hgr⟩
    obtain ⟨A', c', rfl, hown⟩ := hgr.own
    have HB := hid hb
    have HO := hid hown
    clear hb hgr hown
    go_wp2_with fail
    refine bodyPost_ret (results_tmp2 rfl _ _ _) rfl ?_
    exact ⟨HB.out, A', c', _, true, rfl, .inl ⟨n, m, HIN.out, rfl, rfl⟩, HO.out⟩
  · have HNo := hid hno
    clear hno HT
    go_wp2_with fail
    refine bodyPost_ret (results_tmp2 rfl _ _ _) rfl ?_
    exact ⟨Below.refl _ _, _, _, [], false, rfl, .inr ⟨HNo.out, rfl, rfl⟩, .inl ⟨rfl, rfl⟩⟩

set_option maxRecDepth 100000 in
set_option maxHeartbeats 4000000 in
theorem implCountTotal_any (a b : Int) (w : World) :
    Calls Try.prog 22 #[.int .i64 a, .int .i64 b] w fun e w' => Below w.heap.size w w' ∧ ∃ x ok, e = .returned (.tuple #[.int .i64 x, .bool ok]) ∧ TotalOut a b x ok := by
  have HT := hid (tried_any 9 a b 9 w rfl)
  go_enter Try.func22, Try.ntmps22
  go_wp2_with fail
  refine HT.out.mono ?_
  rintro e w' ⟨⟨ok, rfl, ⟨rfl, n, m, hin⟩ | ⟨rfl, hno⟩⟩, rfl⟩
  · obtain ⟨rfl, rfl, hn1, hn5, hm1, hm5, hN9⟩ := hin
    have HIN := hid (show MostIn (n : Int) (m : Int) n m from ⟨rfl, rfl, hn1, hn5, hm1, hm5, hN9⟩)
    have HTR := hid (triedRounds_any n m w hn1 hn5 hm1 hm5 hN9)
    have HLN := hid (countsR_len hN9)
    have HBD := hid (countsR_bound hN9)
    have HWB := hid (fun k hk => countsR_weigh hN9 k hk)
    have HSU := hid (fun k => weighTo_succ (countsR n m) k)
    have HWE := hid (show weighTo (countsR n m) (countsR n m).length = weigh (countsR n m) from rfl)
    clear HT hN9
    go_wp2_with fail
    refine HTR.out.mono ?_
    rintro e w1 ⟨hb, v, rfl, hgr⟩
    obtain ⟨A', c', rfl, hint⟩ := hgr.ints
    have HB := hid hb
    have HI := hid hint
    clear hb hgr hint HTR
    obtain ⟨cl, hcl⟩ : ∃ cl, countsR n m = cl := ⟨_, rfl⟩
    rw [hcl] at HLN HBD HWB HSU HWE HI ⊢
    have HCE := hid hcl
    clear hcl
    obtain ⟨L, hL⟩ : ∃ L, cl.length = L := ⟨_, rfl⟩
    have HL := hid hL
    have hL37 : L ≤ 37 := by rw [← hL]; exact HLN.out
    rw [hL] at HWB HWE ⊢
    clear hL
    go_wp2_with fail
    go_loopw [6, 7, 8, 17] (fun (v _ _ iv : Value) (wr : World) => ∃ k : Nat, k ≤ L ∧ iv = .int .i64 k ∧ v = .int .i64 (weighTo cl k) ∧ wr = w1) (fun _ _ _ i _ => L - (intOf i).toNat)
    case atStart => exact ⟨0, Nat.zero_le _, rfl, rfl, rfl⟩
    case round =>
      obtain ⟨k, hk, rfl, rfl, rfl⟩ := hrel
      by_cases hlt : k < L
      · obtain ⟨bb, off, y, rfl, hbb, hks, hc⟩ := HI.out.at_ (k := k) (by rw [HL.out]; exact hlt)
        have hki : (k : Int) < (L : Int) := by omega
        have hk0 : (0 : Int) ≤ (k : Int) := by omega
        have hL37i : (L : Int) ≤ 37 := by omega
        have hyd : cl.getD k 0 = y := by rw [List.getD_eq_getElem?_getD, hks]; rfl
        have hs := HSU.out k
        have hwb := HWB.out k hk
        have hwb2 := HWB.out (k + 1) (by omega)
        have hyb := HBD.out k
        rw [hyd] at hs hyb
        obtain ⟨p, hp⟩ : ∃ p, (k : Int) * y = p := ⟨_, rfl⟩
        rw [hp] at hs
        obtain ⟨q, hq⟩ : ∃ q, weighTo cl k = q := ⟨_, rfl⟩
        rw [hq] at hs hwb ⊢
        rw [hs] at hwb2
        obtain ⟨hq0, hq1⟩ := hwb
        obtain ⟨hr0, hr1⟩ := hwb2
        obtain ⟨hy0, hy1⟩ := hyb
        have hp0 : 0 ≤ p := by rw [← hp]; exact Int.mul_nonneg hk0 hy0
        have hp1 : p ≤ 1000000 := by omega
        have HS := hid hs
        clear hs hks hyd hq
        go_wp2_with fail
        go_roundw
        case rel => exact ⟨k + 1, by omega, by go_num, by rw [HS.out], by first | rfl | trivial⟩
        case measure => simp [intOf]; omega
      · obtain rfl : k = L := by omega
        go_wp2_with fail
        refine bodyPost_ret (results_tmp2 rfl _ _ _) rfl ?_
        exact ⟨HB.out, _, true, rfl, .inl ⟨n, m, HIN.out, by rw [HCE.out, HWE.out], rfl⟩⟩
  · have HNo := hid hno
    clear hno HT
    go_wp2_with fail
    refine bodyPost_ret (results_tmp2 rfl _ _ _) rfl ?_
    exact ⟨Below.refl _ _, 0, false, rfl, .inr ⟨HNo.out, rfl, rfl⟩⟩
end Go.Proofs.Ytminailbhgimkaa
