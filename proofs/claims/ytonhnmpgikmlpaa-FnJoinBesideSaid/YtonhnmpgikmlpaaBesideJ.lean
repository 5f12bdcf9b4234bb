/- Two pairings joined: beside of the program, by its contract. -/
import Derived.Test.YtonhnmpgikmlpaaJoinN
namespace Go.Proofs.Ytonhnmpgikmlpaa
open Go.RowKit Go.Shelf

theorem run_slice_joined2 {l l' : List Int} (h : l.length = 20) (h' : l'.length = 20) (n m r n' m' r' : Nat) (w : World) : (Instr.buildSlice 178 2 #[(0, .agg (pairC (joinL l n m r))), (1, .agg (pairC (joinL l' n' m' r')))]).run Try.prog w = .ok (.slice (some ⟨w.heap.size, 0, none⟩) 2 2) (w.alloc (.cells (pairC (joinL l n m r ++ joinL l' n' m' r')) 101)) := by
  obtain ⟨i0, hi⟩ : ∃ i, Try.prog.info? 101 = some i := info_of_underlying Try.underlying101
  have hz : i0.zero = some (.agg zeroJ) := by
    have e : (Try.prog.info? 101).bind (·.zero) = some (.agg zeroJ) := by kernel_rfl
    rw [hi] at e
    exact e
  have hs : i0.size = 23 := by
    have e := Try.size_joined
    rw [hi] at e
    exact Option.some.inj e
  refine run_buildSlice w 178 101 2 _ _ i0 _ Try.underlying178 hi hz (by rw [hs]; decide) (by rw [hs]; decide) ?_
  rw [hs]
  obtain ⟨a0, a1, a2, a3, a4, a5, a6, a7, a8, a9, b0, b1, b2, b3, b4, b5, b6, b7, b8, b9, rfl⟩ := lits20 h
  obtain ⟨c0, c1, c2, c3, c4, c5, c6, c7, c8, c9, d0, d1, d2, d3, d4, d5, d6, d7, d8, d9, rfl⟩ := lits20 h'
  kernel_rfl
theorem exec_slice2 {o : Oper} {a : Act} {w : World} (x y : Operand) (ho : o.op = Op.buildSlice 178 2 #[(0, x), (1, y)]) (l l' : List Int) (n m r n' m' r' : Nat) (hl : l.length = 20) (hl' : l'.length = 20) (hx : a.eval x = .agg (pairC (joinL l n m r))) (hy : a.eval y = .agg (pairC (joinL l' n' m' r'))) :
    (execOp a.eval o).run Try.prog w = .ok (.value (.slice (some ⟨w.heap.size, 0, none⟩) 2 2)) (w.alloc (.cells (pairC (joinL l n m r ++ joinL l' n' m' r')) 101)) := by
  unfold execOp
  simp only [ho]
  have : (#[(0, x), (1, y)] : Array (Nat × Operand)).map (fun p => (p.1, a.eval p.2)) = #[(0, .agg (pairC (joinL l n m r))), (1, .agg (pairC (joinL l' n' m' r')))] := by simp [hx, hy]
  rw [this]
  simp only [Sem.run_bind, run_slice_joined2 hl hl' n m r n' m' r' w, Result.andThen_ok, Sem.run_pure]
theorem two_at0 {l l' : List Int} (j : Nat) (v : Value) (h : (pairC l)[j]? = some v) : (pairC (l ++ l'))[j]? = some v := by
  have hlt := (Array.getElem?_eq_some_iff.1 h).1
  rw [pairC_size] at hlt
  have e : l[j]? = some l[j] := List.getElem?_eq_getElem hlt
  rw [pairC_at e] at h
  rw [← h]
  exact pairC_at (by rw [List.getElem?_append_left hlt, e])
theorem two_at1 {l l' : List Int} (j : Nat) (v : Value) (h : (pairC l')[j]? = some v) : (pairC (l ++ l'))[l.length + j]? = some v := by
  have hlt := (Array.getElem?_eq_some_iff.1 h).1
  rw [pairC_size] at hlt
  have e : l'[j]? = some l'[j] := List.getElem?_eq_getElem hlt
  rw [pairC_at e] at h
  rw [← h]
  exact pairC_at (by rw [List.getElem?_append_right (by omega), Nat.add_sub_cancel_left, e])

/-- What the operations hand back that tell the ports of a row to be sewn. -/
def besRel (g m j p z z' : Nat) (sv CA CB pc : Array Value) (i : Nat) (v : Value) (_ : World) : Prop :=
  match i with
  | 0 => v = .agg sv
  | 1 => v = .agg CA
  | 2 => v = .int .i64 (j : Int)
  | 3 => v = .int .i64 ((m + j : Nat) : Int)
  | 4 => v = .pointer (some ⟨g, 0, none⟩)
  | 5 => v = .agg pc
  | 6 => v = .int .i64 (p : Int)
  | 7 => v = .agg CB
  | 8 => v = .int .i64 (j : Int)
  | 9 => v = .int .i64 (z' : Int)
  | 10 => v = .int .i64 (z : Int)
  | _ => True
/-- What the operations hand back that make the whole. -/
def wholeRel (g B n m k mk : Nat) (i : Nat) (v : Value) (W : World) : Prop :=
  match i with
  | 0 => v = .agg (pairC idL)
  | 1 => v = .pointer (some ⟨g, 20, none⟩)
  | 2 => v = .int .i64 (n : Int)
  | 3 => v = .pointer (some ⟨g, 21, none⟩)
  | 4 => v = .int .i64 (m : Int)
  | 5 => v = .pointer (some ⟨g + 1, 21, none⟩)
  | 6 => v = .int .i64 (k : Int)
  | 7 => v = .int .i64 (mk : Int)
  | 8 => v = .agg (pairC (joinL idL n mk 0))
  | 9 => ∃ g', v = .pointer (some ⟨g', 0, none⟩) ∧ W.heap[g']? = some (.cells zeroJ 101 (0, 0)) ∧ B ≤ g'
  | _ => True
/-- What the operations hand back that tell the rounds of the whole. -/
def sumRel (g g7 ra rb R s1 rr : Nat) (sv : Array Value) (i : Nat) (v : Value) (_ : World) : Prop :=
  match i with
  | 0 => v = .pointer (some ⟨g, 22, none⟩)
  | 1 => v = .int .i64 (ra : Int)
  | 2 => v = .pointer (some ⟨g + 1, 22, none⟩)
  | 3 => v = .int .i64 (rb : Int)
  | 4 => v = .int .i64 (s1 : Int)
  | 5 => v = .agg sv
  | 6 => v = .int .i64 (R : Int)
  | 7 => v = .int .i64 (rr : Int)
  | 8 => v = .pointer (some ⟨g7, 22, none⟩)
  | _ => True
/-- What the operations hand back that tell the loose ports of both. -/
def looseRel (g gs B m p q M g1 c1 : Nat) (T : Nat → Nat) (sv pc : Array Value) (i : Nat) (v : Value) (W : World) : Prop :=
  match i with
  | 0 => v = .agg sv
  | 1 => v = .pointer (some ⟨g, 0, none⟩)
  | 2 => v = .agg pc
  | 3 => v = .int .i64 (p : Int)
  | 4 => GrowI W B v (natsI (looseL T 0 p))
  | 5 => v = .pointer (some ⟨g, 21, none⟩)
  | 6 => v = .int .i64 (m : Int)
  | 7 => v = .agg sv
  | 8 => v = .pointer (some ⟨g, 0, none⟩)
  | 9 => v = .agg pc
  | 10 => v = .int .i64 (p : Int)
  | 11 => v = .pointer (some ⟨gs, 0, none⟩)
  | 12 => v = .slice (some ⟨g1, 0, none⟩) M c1
  | 13 => v = .int .i64 (M : Int)
  | 14 => GrowI W B v (natsI (looseL T p q))
  | _ => True


set_option maxRecDepth 100000 in
set_option maxHeartbeats 8000000 in
theorem beside_any (a b : List Int) (n m k ra rb : Nat) (w : World) (ha : IsPair a) (hb : IsPair b) (hn1 : 1 ≤ n) (hn : n ≤ 5) (hm1 : 1 ≤ m) (hk1 : 1 ≤ k) (hmk : m + k ≤ 5) (hla : a.length = 2 * (n + m)) (hlb : b.length = 2 * (n + k)) (hra : ra ≤ 1000) (hrb : rb ≤ 1000) :
    Calls Try.prog 154 #[.agg (pairC (joinL (padTo a) n m ra)), .agg (pairC (joinL (padTo b) n k rb))] w fun e w' => e = .returned (.agg (pairC (joinL (padTo (joinedL n m a b)) n (m + k) (ra + rb + joinedR n m a b)))) ∧ Below w.heap.size w w' := by
  have hpa := padTo_length ha.2.1
  have hpb := padTo_length hb.2.1
  have HNS := hid (fun g c W (hr0 : W.rangeAt g 0 (pairC (joinL (padTo a) n m ra)).toList) (hr1 : W.rangeAt g 23 (pairC (joinL (padTo b) n k rb)).toList) (hg : g < W.heap.size) => newSewing_any g 2 c [(a, n, m, ra), (b, n, k, rb)] W rfl (by omega) (fun i e he => by
    match i, he with
    | 0, he =>
      simp at he
      subst he
      exact ⟨by rw [Nat.zero_mul]; exact hr0, ha⟩
    | 1, he =>
      simp at he
      subst he
      exact ⟨by rw [Nat.one_mul]; exact hr1, hb⟩
    | i + 2, he => simp at he) hg)
  simp only [List.map_cons, List.map_nil] at HNS
  rw [catI_two ha hb, listS_length] at HNS
  have HRE := hid (fun j W (hj : j < n) => rightEnd_any (padTo a) n m ra j W hpa (by omega) (by omega))
  have HLE := hid (fun j W (hj : j < n) => leftEnd_any (padTo b) n k rb j W hpb hn (by omega) hj)
  have HPO := hid (fun W => pports_any (padTo a) W hpa)
  rw [ha.ports] at HPO
  have HSW := hid (twoA_sewn (n := n) (m := m) ha hb (by omega))
  have HM := hid (joinS_mates (n := n) (m := m) ha hb (by omega) (by omega))
  have HAO := hid (fun j (hj : j < joinP n a b) => around_ok (n := n) (m := m) (a := a) (b := b) (by omega) (by omega) hj)
  have HAN := hid (fun j (hj : j < joinP n a b) => name_around (n := n) (m := m) (p := a.length) (r := b.length - n) (j := j) (by omega) hj)
  have HAR := hid (around_list (n := n) (m := m) (p := a.length) (q := b.length) (by omega) (by omega))
  have HL0 := hid (loose0_length (n := n) (m := m) (p := a.length) (q := b.length) (by omega) (by omega))
  have HJL := hid (show padTo (joinedL n m a b) = padTo (listS (joinP n a b) (renS (fun q => q) (fun q => q) (joinS n m a b))) from rfl)
  have HJP := hid (show joinP n a b = 2 * (n + (m + k)) by unfold joinP; omega)
  have HSJ := hid (size_joinL hpa n m ra)
  have HSJ2 := hid (size_joinL hpb n k rb)
  have HSP := hid (size_pairL hpa)
  have HPRE := hid (fun (j : Nat) (v : Value) (h : (pairC (padTo a))[j]? = some v) => joinL_pre (n := n) (m := m) (r := ra) h)
  have HA0 := hid (joinL_rows hpa n m ra)
  have HA1 := hid (joinL_columns hpa n m ra)
  have HA2 := hid (joinL_rounds hpa n m ra)
  have HB1 := hid (joinL_columns hpb n k rb)
  have HB2 := hid (joinL_rounds hpb n k rb)
  have HPAD := hid (And.intro hpa hpb)
  have HR0 := hid (fun (j : Nat) (v : Value) (h : (pairC (joinL (padTo a) n m ra))[j]? = some v) => two_at0 (l' := joinL (padTo b) n k rb) j v h)
  have HR1 := hid (show ∀ (j : Nat) (v : Value), (pairC (joinL (padTo b) n k rb))[j]? = some v → (pairC (joinL (padTo a) n m ra ++ joinL (padTo b) n k rb))[23 + j]? = some v from fun j v h => by
    have := two_at1 (l := joinL (padTo a) n m ra) j v h
    rwa [joinL_length hpa] at this)
  obtain ⟨S, hS⟩ : ∃ S, twoS a.length (mateN a) (mateN b) = S := ⟨_, rfl⟩
  obtain ⟨T, hT⟩ : ∃ T, sewT n m (a.length + b.length) = T := ⟨_, rfl⟩
  have HRR := hid (show joinedR n m a b = roundsTo (a.length + b.length) S T (a.length + b.length) by rw [← hS, ← hT]; rfl)
  have HFE := hid (show ∀ j, j < joinP n a b → aroundN n m a.length (b.length - n) (joinS n m a b j) = pend (a.length + b.length) S T (aroundN n m a.length (b.length - n) j) from fun j hj => by
    obtain ⟨h1, h2⟩ := around_ok (n := n) (m := m) (a := a) (b := b) (by omega) (by omega) hj
    have hs := twoA_sewn (n := n) (m := m) ha hb (by omega)
    have h3 := loose_end hs h1 h2
    have h4 := (sewT_loose (by omega) (pend_lt hs h1)).1 h3
    rw [← hS, ← hT]
    unfold joinS
    exact around_name (by omega))
  have HAI := hid (show (natsI (looseL T 0 a.length)).take m ++ natsI (looseL T a.length b.length) ++ (natsI (looseL T 0 a.length)).drop m = numsI (aroundN n m a.length (b.length - n)) (joinP n a b) by
    have h1 := HAR.out
    rw [hT] at h1
    have h2 := congrArg natsI h1
    unfold natsI at h2 ⊢
    rw [List.map_append, List.map_append, List.map_take, List.map_drop, List.map_map] at h2
    exact h2)
  rw [show twoA a b = S from hS, show sewA n m a b = T from hT] at HSW
  rw [hS] at HNS
  simp only [show sewA n m a b = T from hT] at HAO
  simp only [hT] at HL0
  have HJP2 := hid (show joinP n a b = a.length - n + (b.length - n) from rfl)
  obtain ⟨p, hp⟩ : ∃ p, a.length = p := ⟨_, rfl⟩
  obtain ⟨q, hq⟩ : ∃ q, b.length = q := ⟨_, rfl⟩
  have HPQ := hid (And.intro (show p = 2 * (n + m) by omega) (show q = 2 * (n + k) by omega))
  simp only [hp, hq] at HNS HPO HSW HAO HAN HL0 HRR HFE HAI HJP2
  have HZT := hid (sewT_zero m (p + q))
  have HOS := hid (fun j (hj : j < n) => othersL_sew (N := p + q) (m := m) (k := j) (by omega))
  have HON := hid (othersL_none (p + q))
  rw [hp, hq] at hT
  obtain ⟨TT, hTT⟩ : ∃ TT, (fun j => sewT j m (p + q)) = TT := ⟨_, rfl⟩
  have HTT := hid (fun j => congrFun hTT j)
  have HTN := hid (show TT n = T by rw [← hTT]; exact hT)
  have HM40 := hid (show p + q ≤ 40 by omega)
  have HM1 := hid (show 1 ≤ p + q ∧ p ≤ p + q by omega)
  obtain ⟨M, hM⟩ : ∃ M, p + q = M := ⟨_, rfl⟩
  have HMM := hid hM
  simp only [hM] at HNS HSW HAO HRR HFE HZT HOS HON HTT HM40 HM1
  obtain ⟨P, hPe⟩ : ∃ P, joinP n a b = P := ⟨_, rfl⟩
  have HP20 := hid (show P ≤ 20 by rw [← hPe, HJP.out]; omega)
  simp only [hPe] at HM HAO HAN HJL HJP HFE HAI HJP2
  have HAN2 := hid (show ∀ j, j < P → nameN n m p (q - n) (aroundN n m p (q - n) j) = j from fun j hj => HAN.out j hj)
  have HRLE := hid (show joinedR n m a b ≤ M by rw [HRR.out]; exact roundsTo_le M)
  have HJTL := hid (show (padTo (joinedL n m a b)).length = 20 from padTo_length (by rw [joinedL_length, hPe]; exact HP20.out))
  have HH0 := hid (show (looseL T 0 p)[0]? = some 0 from looseL_head (by
    rw [← hT]
    unfold sewT
    rw [if_neg (by omega), if_neg (by have := HPQ.out; have := HMM.out; omega)]) (by have := HPQ.out; omega))
  have HHp := hid (show (looseL T p q)[0]? = some p from looseL_head (by
    rw [← hT]
    unfold sewT
    rw [if_neg (by have := HPQ.out; omega), if_neg (by have := HPQ.out; have := HMM.out; omega)]) (by have := HPQ.out; omega))
  generalize joinedR n m a b = R at *
  generalize padTo (joinedL n m a b) = TL at *
  generalize joinS n m a b = js at *
  generalize aroundN n m p (q - n) = f at *
  generalize nameN n m p (q - n) = gN at *
  generalize hCA : pairC (joinL (padTo a) n m ra) = CA at *
  generalize hCB : pairC (joinL (padTo b) n k rb) = CB at *
  have HCA := hid hCA
  have HCB := hid hCB
  obtain ⟨mk, hmk2⟩ : ∃ mk, m + k = mk := ⟨_, rfl⟩
  have HMK := hid hmk2
  obtain ⟨rr, hrr⟩ : ∃ rr, ra + rb + R = rr := ⟨_, rfl⟩
  have HRRR := hid hrr
  rw [hmk2, hrr]
  rw [hmk2] at HJP hmk
  clear hmk2 hrr
  clear hCA hCB hPe hM hTT hT hS hp hq ha hb hla hlb hpa hpb HAR HAN
  have H0 := hid (heap_new2 w (.cells CA 101) (.cells CB 101) (.cells zeroJ 101))
  have H1 := hid (heap_new1 (w.alloc (.cells CA 101)) (.cells CB 101) (.cells zeroJ 101))
  have H2 := hid (heap_new0 ((w.alloc (.cells CA 101)).alloc (.cells CB 101)) (.cells zeroJ 101))
  have HB := hid ((((Below.refl w.heap.size w).alloc (Nat.le_refl _) (.cells CA 101)).alloc (by simp) (.cells CB 101)).alloc (by simp; omega) (.cells zeroJ 101))
  rw [World.size_alloc] at H1
  rw [World.size_alloc, World.size_alloc] at H2
  go_enter Try.func154, Try.ntmps154
  go_wp2_with (first
    | refine wpList_load_row rfl 101 _ rfl w.heap.size rfl 101 CA (0, 0) _ H0.out Try.underlying101 rfl HSJ.out ?_
    | refine wpList_load_row rfl 101 _ rfl (w.heap.size + 1) rfl 101 CB (0, 0) _ H1.out Try.underlying101 rfl HSJ2.out ?_
    | refine wpList_exec rfl (exec_slice2 _ _ rfl (padTo a) (padTo b) n m ra n k rb HPAD.out.1 HPAD.out.2 (by rw [HCA.out]; rfl) (by rw [HCB.out]; rfl)) ?_)
  have G3 := hid (heap_new0 (((w.alloc (.cells CA 101)).alloc (.cells CB 101)).alloc (.cells zeroJ 101)) (.cells (pairC (joinL (padTo a) n m ra ++ joinL (padTo b) n k rb)) 101))
  have G0 := hid ((Below.heap_alloc _ (.cells (pairC (joinL (padTo a) n m ra ++ joinL (padTo b) n k rb)) 101) _ (lt_of_block H0.out)).trans H0.out)
  have G1 := hid ((Below.heap_alloc _ (.cells (pairC (joinL (padTo a) n m ra ++ joinL (padTo b) n k rb)) 101) _ (lt_of_block H1.out)).trans H1.out)
  have G2 := hid ((Below.heap_alloc _ (.cells (pairC (joinL (padTo a) n m ra ++ joinL (padTo b) n k rb)) 101) _ (lt_of_block H2.out)).trans H2.out)
  have GB := hid (HB.out.alloc HB.out.size (.cells (pairC (joinL (padTo a) n m ra ++ joinL (padTo b) n k rb)) 101))
  generalize World.alloc (World.alloc (World.alloc (World.alloc w _) _) _) _ = Y at G0 G1 G2 G3 GB ⊢
  have HG3S : (((w.alloc (.cells CA 101)).alloc (.cells CB 101)).alloc (.cells zeroJ 101)).heap.size = w.heap.size + 1 + 1 + 1 := by simp
  rw [HG3S] at G3
  have HYS := hid (show w.heap.size + 1 + 1 + 1 < Y.heap.size from lt_of_block G3.out)
  clear HG3S
  refine (HNS.out _ 2 Y (rangeAt_head G3.out HR0.out) (fun j v hj => by
    rw [cell_of_row _ _ _ _ _ _ G3.out]
    exact HR1.out j v (by simpa using hj)) HYS.out).mono ?_
  rintro e w1 ⟨⟨v1, v2, rfl, hg1, hg2, hab⟩, hb1⟩
  rw [HON.out] at hg2
  obtain ⟨g1, c1, cs1, rfl, _, _, _⟩ := hg1.head' (by rw [listS_length]; have := HM1.out; omega)
  obtain ⟨g2, c2, cs2, rfl, _, _, hlo2⟩ := hg2.head' (by rw [othersL_length]; have := HM1.out; omega)
  rw [listS_length] at hg1 hab
  rw [othersL_length] at hg2 hab
  have HLO := hid (show w.heap.size + 1 + 1 + 1 < g2 by have := HYS.out; omega)
  have H12 := hid (show g1 ≠ g2 from fun e => hab g1 rfl (by rw [e]; rfl))
  have I0 := hid ((hb1.block _ (lt_of_block G0.out)).trans G0.out)
  have I1 := hid ((hb1.block _ (lt_of_block G1.out)).trans G1.out)
  have I2 := hid ((hb1.block _ (lt_of_block G2.out)).trans G2.out)
  have IB := hid (GB.out.trans (hb1.mono GB.out.size))
  have IG1 := hid hg1
  have IG2 := hid hg2
  have IL := hid (show w.heap.size + 1 + 1 + 1 < w1.heap.size from Nat.lt_of_lt_of_le HYS.out hb1.size)
  have HWL := hid (show g2 < w1.heap.size from (World.ownsRow.lt hg2 g2 rfl).2)
  rw [listS_length, othersL_length]
  clear hg1 hg2 hab hb1 hlo2
  have HSO := hid (sew_one (.slice (some ⟨g1, 0, none⟩) M c1) (.slice (some ⟨g2, 0, none⟩) M c2) rfl rfl)
  have N0 := hid (heap_new0 w1 (.cells zeroSew 165))
  have HXB := hid (show Below w1.heap.size w1 ((w1.alloc (.cells zeroSew 165)).setRow w1.heap.size #[.slice (some ⟨g1, 0, none⟩) M c1, .slice (some ⟨g2, 0, none⟩) M c2]) from below_setRow' ((Below.refl w1.heap.size w1).alloc (Nat.le_refl _) _) (Nat.le_refl _) _)
  have XS := hid (setRow_heap _ _ _ #[.slice (some ⟨g1, 0, none⟩) M c1, .slice (some ⟨g2, 0, none⟩) M c2] _ _ N0.out)
  generalize hX : (w1.alloc (.cells zeroSew 165)).setRow w1.heap.size #[.slice (some ⟨g1, 0, none⟩) M c1, .slice (some ⟨g2, 0, none⟩) M c2] = X at HXB XS
  have HX := hid hX
  have X0 := hid ((HXB.out.block _ (lt_of_block I0.out)).trans I0.out)
  have X1 := hid ((HXB.out.block _ (lt_of_block I1.out)).trans I1.out)
  have X2 := hid ((HXB.out.block _ (lt_of_block I2.out)).trans I2.out)
  have XG1 := hid (IG1.out.belowC HXB.out)
  have XG2 := hid (IG2.out.belowC HXB.out)
  have XB := hid (IB.out.trans (HXB.out.mono IB.out.size))
  have hcell : X.cell? ⟨w.heap.size, 20, none⟩ = some (.int .i64 (n : Int)) := by rw [cell_of_row _ _ _ _ _ _ X0.out]; exact HA0.out
  clear hX
  go_wp2_with (refine wpList_store_row rfl 165 _ _ rfl w1.heap.size #[.slice (some ⟨g1, 0, none⟩) M c1, .slice (some ⟨g2, 0, none⟩) M c2] rfl rfl 165 zeroSew N0.out Try.size_sewing rfl HSO.out ?_; rw [HX.out])
  clear hcell
  generalize hgs : w1.heap.size = gs at *
  have HGS := hid hgs
  clear hgs
  have HTN0 := hid (show (fun i => i) = TT 0 by rw [← HTT.out, HZT.out])
  go_loopw [17] (fun (iv : Value) (wr : World) => ∃ j : Nat, j ≤ n ∧ iv = .int .i64 j ∧ GrowI wr Y.heap.size (.slice (some ⟨g1, 0, none⟩) M c1) (listS M S) ∧ GrowI wr Y.heap.size (.slice (some ⟨g2, 0, none⟩) M c2) (othersL M (TT j)) ∧ wr.heap[gs]? = some (.cells #[.slice (some ⟨g1, 0, none⟩) M c1, .slice (some ⟨g2, 0, none⟩) M c2] 165 (0, 0)) ∧ wr.heap[w.heap.size]? = some (.cells CA 101 (0, 0)) ∧ wr.heap[w.heap.size + 1]? = some (.cells CB 101 (0, 0)) ∧ wr.heap[w.heap.size + 1 + 1]? = some (.cells zeroJ 101 (0, 0)) ∧ Below w.heap.size w wr) (fun i _ => n - (intOf i).toNat)
  case atStart => exact ⟨0, by omega, rfl, XG1.out, by rw [← HTN0.out]; exact XG2.out, XS.out, X0.out, X1.out, X2.out, XB.out⟩
  case round =>
    obtain ⟨j, hj, rfl, hg1, hg2, hs, h0, h1, h2, hb⟩ := hrel
    have L1 := hid hg1
    have L2 := hid hg2
    have BS := hid hs
    have B0 := hid h0
    have B1 := hid h1
    have B2 := hid h2
    have BB := hid hb
    clear hg1 hg2 hs h0 h1 h2 hb
    by_cases hlt : j < n
    · have hji : (j : Int) < (n : Int) := by omega
      go_wp2_with fail
      obtain ⟨z', hz'⟩ : ∃ z', 2 * n + 2 * k - 1 - j = z' := ⟨_, rfl⟩
      obtain ⟨z, hz⟩ : ∃ z, M - 1 - j = z := ⟨_, rfl⟩
      have HZZ := hid (show p + z' = z by have := HPQ.out; have := HMM.out; omega)
      have HLE2 := hid (fun W => HLE.out j W hlt)
      rw [hz'] at HLE2
      have hpi : (p : Int) ≤ 20 := by have := HPQ.out; have := HMK.out; omega
      have hzi' : (z' : Int) ≤ 20 := by have := HPQ.out; have := HMK.out; omega
      have hwz : IntKind.i64.wrap ((p : Int) + (z' : Int)) = (z : Int) := by
        rw [← HZZ.out, IntWalk.i64_in _ (by omega)]
        rfl
      have HWZ := hid hwz
      clear hwz
      refine wp_region_rel_tail (by kernel_rfl) 11 (by kernel_rfl) (fun us => { tmps := #[.agg CA, .agg CB, .pointer (some ⟨w.heap.size, 0, none⟩), .pointer (some ⟨w.heap.size + 1, 0, none⟩), .pointer (some ⟨w.heap.size + 1 + 1, 0, none⟩), .pointer (some ⟨gs, 0, none⟩), .int .i64 (j : Int), undef, undef, undef, undef, .agg CA, .agg CB, .slice (some ⟨w.heap.size + 1 + 1 + 1, 0, none⟩) 2 2, .agg #[.slice (some ⟨g1, 0, none⟩) M c1, .slice (some ⟨g2, 0, none⟩) M c2], .pointer (some ⟨w.heap.size, 20, none⟩), .int .i64 (n : Int), .int .i64 (j : Int), .bool true, .int .i64 (j : Int), us 0, us 1, us 2, us 3, us 4, us 5, us 6, us 7, us 8, us 9, us 10, u31, u32, undef, undef, undef, undef, undef, undef, undef, undef, undef, undef, undef, undef, undef, undef, undef, undef, undef, undef, undef, undef, undef, undef, undef, undef, undef, undef, undef, undef, undef, undef, undef, undef, undef, undef, undef, undef, undef, undef, undef, undef, undef, undef, undef, undef, undef, undef, undef, undef, undef, undef, undef], defers := [] }) (fun i => if i = 0 then u20 else if i = 1 then u21 else if i = 2 then u22 else if i = 3 then u23 else if i = 4 then u24 else if i = 5 then u25 else if i = 6 then u26 else if i = 7 then u27 else if i = 8 then u28 else if i = 9 then u29 else u30) rfl (besRel w.heap.size m j p z z' #[.slice (some ⟨g1, 0, none⟩) M c1, .slice (some ⟨g2, 0, none⟩) M c2] CA CB (pairC (padTo a))) (fun i v W W' h hb => h) (fun i us v hi => ?_) (fun i us W hi hb hd => ?_) (fun us W hb hr => ?_)
      · match i, hi with
        | 0, _ => rfl
        | 1, _ => rfl
        | 2, _ => rfl
        | 3, _ => rfl
        | 4, _ => rfl
        | 5, _ => rfl
        | 6, _ => rfl
        | 7, _ => rfl
        | 8, _ => rfl
        | 9, _ => rfl
        | 10, _ => rfl
      · have Q0 := hid ((hb.block _ (lt_of_block B0.out)).trans B0.out)
        have Q1 := hid ((hb.block _ (lt_of_block B1.out)).trans B1.out)
        have QS := hid ((hb.block _ (lt_of_block BS.out)).trans BS.out)
        match i, hi with
        | 0, _ => exact wpOp_val rfl rfl (exec_load_row 165 _ rfl gs rfl 165 #[.slice (some ⟨g1, 0, none⟩) M c1, .slice (some ⟨g2, 0, none⟩) M c2] (0, 0) _ QS.out Try.underlying165 rfl Try.size_sewing) rfl
        | 1, _ => exact wpOp_val rfl rfl (exec_load_row 101 _ rfl w.heap.size rfl 101 CA (0, 0) _ Q0.out Try.underlying101 rfl HSJ.out) rfl
        | 2, _ => exact wpOp_val rfl rfl (by go_simp) rfl
        | 3, _ =>
          have h0 : us 1 = _ := hd _ rfl { on := 1, ground := .data } (by simp) rfl
          have h1 : us 2 = _ := hd _ rfl { on := 2, ground := .data } (by simp) rfl
          rw [h0, h1]
          exact wpOp_call rfl rfl (by go_simp) ((HRE.out j W hlt).mono fun e w'' ⟨he, hb'⟩ => ⟨_, he, rfl, hb'⟩)
        | 4, _ => exact wpOp_val rfl rfl (by go_simp) rfl
        | 5, _ =>
          have h0 : us 4 = _ := hd _ rfl { on := 4, ground := .data } (by simp) rfl
          rw [h0]
          exact wpOp_val rfl rfl (exec_load_head 82 _ rfl w.heap.size rfl 101 CA (0, 0) (pairC (padTo a)) _ Q0.out HPRE.out Try.underlying82 rfl HSP.out) rfl
        | 6, _ =>
          have h0 : us 5 = _ := hd _ rfl { on := 5, ground := .data } (by simp) rfl
          rw [h0]
          exact wpOp_call rfl rfl (by go_simp) ((HPO.out W).mono fun e w'' ⟨he, hb'⟩ => ⟨_, he, rfl, hb'⟩)
        | 7, _ => exact wpOp_val rfl rfl (exec_load_row 101 _ rfl (w.heap.size + 1) rfl 101 CB (0, 0) _ Q1.out Try.underlying101 rfl HSJ2.out) rfl
        | 8, _ => exact wpOp_val rfl rfl (by go_simp) rfl
        | 9, _ =>
          have h0 : us 7 = _ := hd _ rfl { on := 7, ground := .data } (by simp) rfl
          have h1 : us 8 = _ := hd _ rfl { on := 8, ground := .data } (by simp) rfl
          rw [h0, h1]
          exact wpOp_call rfl rfl (by go_simp) ((HLE2.out W).mono fun e w'' ⟨he, hb'⟩ => ⟨_, he, rfl, hb'⟩)
        | 10, _ =>
          have h0 : us 6 = _ := hd _ rfl { on := 6, ground := .data } (by simp) rfl
          have h1 : us 9 = _ := hd _ rfl { on := 9, ground := .data } (by simp) rfl
          rw [h0, h1]
          have hwz := HWZ.out
          exact wpOp_val rfl rfl (by go_simp) rfl
      · have h0 : us 0 = _ := hr 0 (by omega)
        have h1 : us 1 = _ := hr 1 (by omega)
        have h2 : us 2 = _ := hr 2 (by omega)
        have h3 : us 3 = _ := hr 3 (by omega)
        have h4 : us 4 = _ := hr 4 (by omega)
        have h5 : us 5 = _ := hr 5 (by omega)
        have h6 : us 6 = _ := hr 6 (by omega)
        have h7 : us 7 = _ := hr 7 (by omega)
        have h8 : us 8 = _ := hr 8 (by omega)
        have h9 : us 9 = _ := hr 9 (by omega)
        have h10 : us 10 = _ := hr 10 (by omega)
        rw [h0, h1, h2, h3, h4, h5, h6, h7, h8, h9, h10]
        have Q0 := hid ((hb.block _ (lt_of_block B0.out)).trans B0.out)
        have Q1 := hid ((hb.block _ (lt_of_block B1.out)).trans B1.out)
        have Q2 := hid ((hb.block _ (lt_of_block B2.out)).trans B2.out)
        have QS := hid ((hb.block _ (lt_of_block BS.out)).trans BS.out)
        have QL1 := hid (L1.out.belowC hb)
        have QL2 := hid (L2.out.belowC hb)
        have QB := hid (BB.out.trans (hb.mono BB.out.size))
        clear h0 h1 h2 h3 h4 h5 h6 h7 h8 h9 h10 hr hb
        obtain ⟨y, hy⟩ : ∃ y, m + j = y := ⟨_, rfl⟩
        rw [hy]
        obtain ⟨g', c', cs2, hv, hh2, hsz, _⟩ := QL2.out.head' (by rw [othersL_length]; have := HM1.out; omega)
        obtain rfl : g2 = g' := by simpa [Value.ownBlock] using congrArg Value.ownBlock hv
        rw [othersL_length] at hsz
        have HH2 := hid hh2
        have HSE := hid (sew_any (some ⟨g1, 0, none⟩) c1 c2 g2 M y z cs2 W hh2 hsz (by have := HPQ.out; have := HMM.out; omega) (by have := HPQ.out; have := HMM.out; omega) (by have := HPQ.out; have := HMM.out; omega))
        have HOSj := hid (HOS.out j hlt)
        rw [hy, hz, HTT.out, HTT.out] at HOSj
        clear hv hh2 hsz hy hz hz'
        go_wp2_with fail
        refine HSE.out.mono ?_
        rintro e w3 ⟨rfl, hpr⟩
        have DG2 := hid (show GrowI w3 Y.heap.size (.slice (some ⟨g2, 0, none⟩) M c2) (othersL M (TT (j + 1))) by rw [← HOSj.out]; exact QL2.out.paired HH2.out hpr)
        have DG1 := hid (QL1.out.but hpr.2 (fun b e => by cases e; exact H12.out))
        have D0 := hid ((hpr.2.block _ (lt_of_block Q0.out) (by have := HLO.out; omega)).trans Q0.out)
        have D1 := hid ((hpr.2.block _ (lt_of_block Q1.out) (by have := HLO.out; omega)).trans Q1.out)
        have D2 := hid ((hpr.2.block _ (lt_of_block Q2.out) (by have := HLO.out; omega)).trans Q2.out)
        have DS := hid ((hpr.2.block _ (lt_of_block QS.out) (by have := HWL.out; omega)).trans QS.out)
        have DB := hid (QB.out.trans (hpr.2.below (by have := HLO.out; omega) QB.out.size))
        clear hpr
        go_wp2_with fail
        go_roundw
        case rel => exact ⟨j + 1, by omega, by go_num, DG1.out, DG2.out, DS.out, D0.out, D1.out, D2.out, DB.out⟩
        case measure => simp [intOf]; omega
    · obtain rfl : j = n := by omega
      go_wp2_with fail
      have HREAD := hid (show ∀ W, Below wr.heap.size wr W → SewR W W.heap.size (.agg #[.slice (some ⟨g1, 0, none⟩) M c1, .slice (some ⟨g2, 0, none⟩) M c2]) M S T from fun W hb => ⟨_, _, _, _, rfl, (L1.out.belowC hb).ints'.2, by rw [← HTN.out]; exact (L2.out.belowC hb).ints'.2⟩)
      have HBW := hid (show w.heap.size + 1 + 1 < wr.heap.size from lt_of_block B2.out)
      have hmi : (m : Int) ≤ 5 := by have := HMK.out; omega
      have hki : (k : Int) ≤ 5 := by have := HMK.out; omega
      refine wp_region_rel_tail (by kernel_rfl) 10 (by kernel_rfl) (fun us => { tmps := #[.agg CA, .agg CB, .pointer (some ⟨w.heap.size, 0, none⟩), .pointer (some ⟨w.heap.size + 1, 0, none⟩), .pointer (some ⟨w.heap.size + 1 + 1, 0, none⟩), .pointer (some ⟨gs, 0, none⟩), u6, us 9, undef, undef, undef, .agg CA, .agg CB, .slice (some ⟨w.heap.size + 1 + 1 + 1, 0, none⟩) 2 2, .agg #[.slice (some ⟨g1, 0, none⟩) M c1, .slice (some ⟨g2, 0, none⟩) M c2], .pointer (some ⟨w.heap.size, 20, none⟩), .int .i64 (j : Int), .int .i64 (j : Int), .bool false, u19, u20, u21, u22, u23, u24, u25, u26, u27, u28, u29, u30, u31, u32, us 0, us 1, us 2, us 3, us 4, us 5, us 6, us 7, us 8, undef, undef, undef, undef, undef, undef, undef, undef, undef, undef, undef, undef, undef, undef, undef, undef, undef, undef, undef, undef, undef, undef, undef, undef, undef, undef, undef, undef, undef, undef, undef, undef, undef, undef, undef, undef, undef, undef, undef, undef, undef, undef], defers := [] }) (fun _ => undef) rfl (wholeRel w.heap.size wr.heap.size j m k mk) (fun i v W W' h hb => ?_) (fun i us v hi => ?_) (fun i us W hi hb hd => ?_) (fun us W hb hr => ?_)
      · unfold wholeRel at h ⊢
        split at h <;> try exact h
        obtain ⟨g', h1, h2, h3⟩ := h
        exact ⟨g', h1, (hb.block _ (lt_of_block h2)).trans h2, h3⟩
      · match i, hi with
        | 0, _ => rfl
        | 1, _ => rfl
        | 2, _ => rfl
        | 3, _ => rfl
        | 4, _ => rfl
        | 5, _ => rfl
        | 6, _ => rfl
        | 7, _ => rfl
        | 8, _ => rfl
        | 9, _ => rfl
      · have Q0 := hid ((hb.block _ (lt_of_block B0.out)).trans B0.out)
        have Q1 := hid ((hb.block _ (lt_of_block B1.out)).trans B1.out)
        match i, hi with
        | 0, _ => exact wpOp_call rfl rfl (by go_simp) ((unpaired_any W).mono fun e w'' ⟨he, hb'⟩ => ⟨_, he, rfl, hb'⟩)
        | 1, _ => exact wpOp_val rfl rfl (by go_simp) rfl
        | 2, _ =>
          have h0 : us 1 = _ := hd _ rfl { on := 1, ground := .data } (by simp) rfl
          rw [h0]
          have hc : W.cell? ⟨w.heap.size, 20, none⟩ = some (.int .i64 (j : Int)) := by rw [cell_of_row _ _ _ _ _ _ Q0.out]; exact HA0.out
          exact wpOp_val rfl rfl (by go_simp) rfl
        | 3, _ => exact wpOp_val rfl rfl (by go_simp) rfl
        | 4, _ =>
          have h0 : us 3 = _ := hd _ rfl { on := 3, ground := .data } (by simp) rfl
          rw [h0]
          have hc : W.cell? ⟨w.heap.size, 21, none⟩ = some (.int .i64 (m : Int)) := by rw [cell_of_row _ _ _ _ _ _ Q0.out]; exact HA1.out
          exact wpOp_val rfl rfl (by go_simp) rfl
        | 5, _ => exact wpOp_val rfl rfl (by go_simp) rfl
        | 6, _ =>
          have h0 : us 5 = _ := hd _ rfl { on := 5, ground := .data } (by simp) rfl
          rw [h0]
          have hc : W.cell? ⟨w.heap.size + 1, 21, none⟩ = some (.int .i64 (k : Int)) := by rw [cell_of_row _ _ _ _ _ _ Q1.out]; exact HB1.out
          exact wpOp_val rfl rfl (by go_simp) rfl
        | 7, _ =>
          have h0 : us 4 = _ := hd _ rfl { on := 4, ground := .data } (by simp) rfl
          have h1 : us 6 = _ := hd _ rfl { on := 6, ground := .data } (by simp) rfl
          rw [h0, h1]
          have hw : IntKind.i64.wrap ((m : Int) + (k : Int)) = (mk : Int) := by rw [IntWalk.i64_in _ (by omega), ← HMK.out]; rfl
          exact wpOp_val rfl rfl (by go_simp) rfl
        | 8, _ =>
          have h0 : us 0 = _ := hd _ rfl { on := 0, ground := .data } (by simp) rfl
          have h2 : us 2 = _ := hd _ rfl { on := 2, ground := .data } (by simp) rfl
          have h7 : us 7 = _ := hd _ rfl { on := 7, ground := .data } (by simp) rfl
          rw [h0, h2, h7]
          exact wpOp_val rfl rfl (exec_build3 _ _ _ rfl idL j mk rfl rfl rfl rfl) rfl
        | 9, _ => exact wpOp_make (u := .pointer (some ⟨W.heap.size, 0, none⟩)) (w' := W.alloc (.cells zeroJ 101)) rfl rfl (by go_simp) ⟨_, rfl, heap_new0 W _, hb.size⟩ ((Below.refl _ W).alloc (Nat.le_refl _) _)
      · obtain ⟨g7, h9, hg7, hlg7⟩ : ∃ g', us 9 = .pointer (some ⟨g', 0, none⟩) ∧ W.heap[g']? = some (.cells zeroJ 101 (0, 0)) ∧ wr.heap.size ≤ g' := hr 9 (by omega)
        have h0 : us 0 = _ := hr 0 (by omega)
        have h1 : us 1 = _ := hr 1 (by omega)
        have h2 : us 2 = _ := hr 2 (by omega)
        have h3 : us 3 = _ := hr 3 (by omega)
        have h4 : us 4 = _ := hr 4 (by omega)
        have h5 : us 5 = _ := hr 5 (by omega)
        have h6 : us 6 = _ := hr 6 (by omega)
        have h7 : us 7 = _ := hr 7 (by omega)
        have h8 : us 8 = _ := hr 8 (by omega)
        rw [h0, h1, h2, h3, h4, h5, h6, h7, h8, h9]
        clear h0 h1 h2 h3 h4 h5 h6 h7 h8 h9 hr
        have HG7 := hid hlg7
        have HSI := hid (size_joinL (l := idL) rfl j mk 0)
        have HZI := hid (zero_joinL (l := idL) rfl j mk 0)
        have Q0 := hid ((hb.block _ (lt_of_block B0.out)).trans B0.out)
        have Q1 := hid ((hb.block _ (lt_of_block B1.out)).trans B1.out)
        have Q2 := hid ((hb.block _ (lt_of_block B2.out)).trans B2.out)
        have QS := hid ((hb.block _ (lt_of_block BS.out)).trans BS.out)
        have QG := hid hg7
        have HSW1 := hid (show gs < wr.heap.size from lt_of_block BS.out)
        have K7 := hid (setRow_heap _ _ _ (pairC (joinL idL j mk 0)) _ _ hg7)
        have K0 := hid (show (W.setRow g7 (pairC (joinL idL j mk 0))).heap[w.heap.size]? = some (.cells CA 101 (0, 0)) by rw [setRow_other _ _ _ _ (by have := HBW.out; omega)]; exact Q0.out)
        have K1 := hid (show (W.setRow g7 (pairC (joinL idL j mk 0))).heap[w.heap.size + 1]? = some (.cells CB 101 (0, 0)) by rw [setRow_other _ _ _ _ (by have := HBW.out; omega)]; exact Q1.out)
        have K2 := hid (show (W.setRow g7 (pairC (joinL idL j mk 0))).heap[w.heap.size + 1 + 1]? = some (.cells zeroJ 101 (0, 0)) by rw [setRow_other _ _ _ _ (by have := HBW.out; omega)]; exact Q2.out)
        have KS := hid ((setRow_other W g7 gs (pairC (joinL idL j mk 0)) (by have := HSW1.out; omega)).trans QS.out)
        have KB := hid (below_setRow' hb hlg7 (pairC (joinL idL j mk 0)))
        clear hb hg7 hlg7
        generalize hZ : W.setRow g7 (pairC (joinL idL j mk 0)) = Z at K0 K1 K2 K7 KS KB
        have HZZ := hid hZ
        clear hZ
        refine wpList_store_row rfl 101 _ _ rfl g7 (pairC (joinL idL j mk 0)) rfl rfl 101 zeroJ QG.out HSI.out HZI.out (pairC_one _) ?_
        rw [HZZ.out]
        go_wp2_with fail
        obtain ⟨s1, hs1⟩ : ∃ s1, ra + rb = s1 := ⟨_, rfl⟩
        have HS1 := hid hs1
        have hrai : (ra : Int) ≤ 1000 := by omega
        have hrbi : (rb : Int) ≤ 1000 := by omega
        have hRi : (R : Int) ≤ 40 := by have := HRLE.out; have := HM40.out; omega
        have hw1 : IntKind.i64.wrap ((ra : Int) + (rb : Int)) = (s1 : Int) := by rw [IntWalk.i64_in _ (by omega), ← hs1]; rfl
        have hw2 : IntKind.i64.wrap ((s1 : Int) + (R : Int)) = (rr : Int) := by rw [IntWalk.i64_in _ (by omega), ← HRRR.out, hs1]; rfl
        have HW12 := hid (And.intro hw1 hw2)
        have HSR := hid (fun W (hb : Below wr.heap.size wr W) => sewRounds_any _ W.heap.size M S T W HSW.out (HREAD.out W hb) (Nat.le_refl _) HM40.out)
        rw [← HRR.out] at HSR
        clear hw1 hw2 hs1
        refine wp_region_rel_tail (by kernel_rfl) 9 (by kernel_rfl) (fun us => { tmps := #[.agg CA, .agg CB, .pointer (some ⟨w.heap.size, 0, none⟩), .pointer (some ⟨w.heap.size + 1, 0, none⟩), .pointer (some ⟨w.heap.size + 1 + 1, 0, none⟩), .pointer (some ⟨gs, 0, none⟩), u6, .pointer (some ⟨g7, 0, none⟩), undef, undef, undef, .agg CA, .agg CB, .slice (some ⟨w.heap.size + 1 + 1 + 1, 0, none⟩) 2 2, .agg #[.slice (some ⟨g1, 0, none⟩) M c1, .slice (some ⟨g2, 0, none⟩) M c2], .pointer (some ⟨w.heap.size, 20, none⟩), .int .i64 (j : Int), .int .i64 (j : Int), .bool false, u19, u20, u21, u22, u23, u24, u25, u26, u27, u28, u29, u30, u31, u32, .agg (pairC idL), .pointer (some ⟨w.heap.size, 20, none⟩), .int .i64 (j : Int), .pointer (some ⟨w.heap.size, 21, none⟩), .int .i64 (m : Int), .pointer (some ⟨w.heap.size + 1, 21, none⟩), .int .i64 (k : Int), .int .i64 (mk : Int), .agg (pairC (joinL idL j mk 0)), us 0, us 1, us 2, us 3, us 4, us 5, us 6, us 7, us 8, undef, undef, undef, undef, undef, undef, undef, undef, undef, undef, undef, undef, undef, undef, undef, undef, undef, undef, undef, undef, undef, undef, undef, undef, undef, undef, undef, undef, undef, undef, undef, undef, undef], defers := [] }) (fun _ => undef) rfl (sumRel w.heap.size g7 ra rb R s1 rr #[.slice (some ⟨g1, 0, none⟩) M c1, .slice (some ⟨g2, 0, none⟩) M c2]) (fun i v W W' h hb => h) (fun i us v hi => ?_) (fun i us W2 hi hb hd => ?_) (fun us W2 hb hr => ?_)
        · match i, hi with
          | 0, _ => rfl
          | 1, _ => rfl
          | 2, _ => rfl
          | 3, _ => rfl
          | 4, _ => rfl
          | 5, _ => rfl
          | 6, _ => rfl
          | 7, _ => rfl
          | 8, _ => rfl
        · have P0 := hid ((hb.block _ (lt_of_block K0.out)).trans K0.out)
          have P1 := hid ((hb.block _ (lt_of_block K1.out)).trans K1.out)
          have PS := hid ((hb.block _ (lt_of_block KS.out)).trans KS.out)
          match i, hi with
          | 0, _ => exact wpOp_val rfl rfl (by go_simp) rfl
          | 1, _ =>
            have h0 : us 0 = _ := hd _ rfl { on := 0, ground := .data } (by simp) rfl
            rw [h0]
            have hc : W2.cell? ⟨w.heap.size, 22, none⟩ = some (.int .i64 (ra : Int)) := by rw [cell_of_row _ _ _ _ _ _ P0.out]; exact HA2.out
            exact wpOp_val rfl rfl (by go_simp) rfl
          | 2, _ => exact wpOp_val rfl rfl (by go_simp) rfl
          | 3, _ =>
            have h0 : us 2 = _ := hd _ rfl { on := 2, ground := .data } (by simp) rfl
            rw [h0]
            have hc : W2.cell? ⟨w.heap.size + 1, 22, none⟩ = some (.int .i64 (rb : Int)) := by rw [cell_of_row _ _ _ _ _ _ P1.out]; exact HB2.out
            exact wpOp_val rfl rfl (by go_simp) rfl
          | 4, _ =>
            have h0 : us 1 = _ := hd _ rfl { on := 1, ground := .data } (by simp) rfl
            have h1 : us 3 = _ := hd _ rfl { on := 3, ground := .data } (by simp) rfl
            rw [h0, h1]
            have hw := HW12.out.1
            exact wpOp_val rfl rfl (by go_simp) rfl
          | 5, _ => exact wpOp_val rfl rfl (exec_load_row 165 _ rfl gs rfl 165 #[.slice (some ⟨g1, 0, none⟩) M c1, .slice (some ⟨g2, 0, none⟩) M c2] (0, 0) _ PS.out Try.underlying165 rfl Try.size_sewing) rfl
          | 6, _ =>
            have h0 : us 5 = _ := hd _ rfl { on := 5, ground := .data } (by simp) rfl
            rw [h0]
            exact wpOp_call rfl rfl (by go_simp) ((HSR.out W2 (KB.out.trans (hb.mono KB.out.size))).mono fun e w'' ⟨he, hb'⟩ => ⟨_, he, rfl, hb'⟩)
          | 7, _ =>
            have h0 : us 4 = _ := hd _ rfl { on := 4, ground := .data } (by simp) rfl
            have h1 : us 6 = _ := hd _ rfl { on := 6, ground := .data } (by simp) rfl
            rw [h0, h1]
            have hw := HW12.out.2
            exact wpOp_val rfl rfl (by go_simp) rfl
          | 8, _ => exact wpOp_val rfl rfl (by go_simp) rfl
        · have h0 : us 0 = _ := hr 0 (by omega)
          have h1 : us 1 = _ := hr 1 (by omega)
          have h2 : us 2 = _ := hr 2 (by omega)
          have h3 : us 3 = _ := hr 3 (by omega)
          have h4 : us 4 = _ := hr 4 (by omega)
          have h5 : us 5 = _ := hr 5 (by omega)
          have h6 : us 6 = _ := hr 6 (by omega)
          have h7 : us 7 = _ := hr 7 (by omega)
          have h8 : us 8 = _ := hr 8 (by omega)
          rw [h0, h1, h2, h3, h4, h5, h6, h7, h8]
          clear h0 h1 h2 h3 h4 h5 h6 h7 h8 hr
          have P0 := hid ((hb.block _ (lt_of_block K0.out)).trans K0.out)
          have P2 := hid ((hb.block _ (lt_of_block K2.out)).trans K2.out)
          have PS := hid ((hb.block _ (lt_of_block KS.out)).trans KS.out)
          have P7 := hid ((hb.block _ (lt_of_block K7.out)).trans K7.out)
          have PB := hid (KB.out.trans (hb.mono KB.out.size))
          have hc7 : W2.cell? ⟨g7, 22, none⟩ = some (.int .i64 0) := by rw [cell_of_row _ _ _ _ _ _ P7.out]; exact joinL_rounds (l := idL) rfl j mk 0
          have hf7 : W2.frozen? ⟨g7, 22, none⟩ = false := frozen_of_row _ _ _ _ _ P7.out
          have hne0 : w.heap.size ≠ g7 := by have := HG7.out; have := HBW.out; omega
          have hne2 : w.heap.size + 1 + 1 ≠ g7 := by have := HG7.out; have := HBW.out; omega
          have hnes : gs ≠ g7 := by have := HG7.out; have := HSW1.out; omega
          have Z0 := hid ((Below.heap_setCell W2 ⟨g7, 22, none⟩ (.int .i64 (rr : Int)) w.heap.size hne0).trans P0.out)
          have Z2 := hid ((Below.heap_setCell W2 ⟨g7, 22, none⟩ (.int .i64 (rr : Int)) (w.heap.size + 1 + 1) hne2).trans P2.out)
          have ZS := hid ((Below.heap_setCell W2 ⟨g7, 22, none⟩ (.int .i64 (rr : Int)) gs hnes).trans PS.out)
          have Z7 := hid (show (W2.setCell ⟨g7, 22, none⟩ (.int .i64 (rr : Int))).heap[g7]? = some (.cells (pairC (joinL idL j mk rr)) 101 (0, 0)) by
            rw [← joinL_rset (l := idL) rfl j mk 0 rr, ← pairC_set]
            exact heap_setCell_same _ _ _ _ _ _ P7.out)
          have ZB := hid (PB.out.setCell (p := ⟨g7, 22, none⟩) HG7.out (.int .i64 (rr : Int)))
          clear hb
          go_wp2_with fail
          clear hc7 hf7
          generalize World.setCell W2 _ _ = V at Z0 Z2 ZS Z7 ZB ⊢
          have HLO0 := hid (fun W (hb : Below wr.heap.size wr W) => loose_any _ W.heap.size M 0 p S T W (HREAD.out W hb) (Nat.le_refl _) HM40.out (by have := HM1.out; omega))
          have HLOp := hid (fun W (hb : Below wr.heap.size wr W) => loose_any _ W.heap.size M p q S T W (HREAD.out W hb) (Nat.le_refl _) HM40.out (by have := HMM.out; omega))
          rw [Nat.zero_add] at HLO0
          rw [HMM.out] at HLOp
          refine wp_region_rel_tail (by kernel_rfl) 15 (by kernel_rfl) (fun us => { tmps := #[.agg CA, .agg CB, .pointer (some ⟨w.heap.size, 0, none⟩), .pointer (some ⟨w.heap.size + 1, 0, none⟩), .pointer (some ⟨w.heap.size + 1 + 1, 0, none⟩), .pointer (some ⟨gs, 0, none⟩), u6, .pointer (some ⟨g7, 0, none⟩), undef, undef, undef, .agg CA, .agg CB, .slice (some ⟨w.heap.size + 1 + 1 + 1, 0, none⟩) 2 2, .agg #[.slice (some ⟨g1, 0, none⟩) M c1, .slice (some ⟨g2, 0, none⟩) M c2], .pointer (some ⟨w.heap.size, 20, none⟩), .int .i64 (j : Int), .int .i64 (j : Int), .bool false, u19, u20, u21, u22, u23, u24, u25, u26, u27, u28, u29, u30, u31, u32, .agg (pairC idL), .pointer (some ⟨w.heap.size, 20, none⟩), .int .i64 (j : Int), .pointer (some ⟨w.heap.size, 21, none⟩), .int .i64 (m : Int), .pointer (some ⟨w.heap.size + 1, 21, none⟩), .int .i64 (k : Int), .int .i64 (mk : Int), .agg (pairC (joinL idL j mk 0)), .pointer (some ⟨w.heap.size, 22, none⟩), .int .i64 (ra : Int), .pointer (some ⟨w.heap.size + 1, 22, none⟩), .int .i64 (rb : Int), .int .i64 (s1 : Int), .agg #[.slice (some ⟨g1, 0, none⟩) M c1, .slice (some ⟨g2, 0, none⟩) M c2], .int .i64 (R : Int), .int .i64 (rr : Int), .pointer (some ⟨g7, 22, none⟩), us 0, us 1, us 2, us 3, us 4, us 5, us 6, us 7, us 8, us 9, us 10, us 11, us 12, us 13, us 14, undef, undef, undef, undef, undef, undef, undef, undef, undef, undef, undef, undef, undef, undef, undef, undef, undef, undef], defers := [] }) (fun _ => undef) rfl (looseRel w.heap.size gs wr.heap.size m p q M g1 c1 T #[.slice (some ⟨g1, 0, none⟩) M c1, .slice (some ⟨g2, 0, none⟩) M c2] (pairC (padTo a))) (fun i v W W' h hb => ?_) (fun i us v hi => ?_) (fun i us W3 hi hb hd => ?_) (fun us W3 hb hr => ?_)
          · unfold looseRel at h ⊢
            split at h <;> try exact h
            · exact h.belowC hb
            · exact h.belowC hb
          · match i, hi with
            | 0, _ => rfl
            | 1, _ => rfl
            | 2, _ => rfl
            | 3, _ => rfl
            | 4, _ => rfl
            | 5, _ => rfl
            | 6, _ => rfl
            | 7, _ => rfl
            | 8, _ => rfl
            | 9, _ => rfl
            | 10, _ => rfl
            | 11, _ => rfl
            | 12, _ => rfl
            | 13, _ => rfl
            | 14, _ => rfl
          · have P0 := hid ((hb.block _ (lt_of_block Z0.out)).trans Z0.out)
            have PS := hid ((hb.block _ (lt_of_block ZS.out)).trans ZS.out)
            have PBB := hid (ZB.out.trans (hb.mono ZB.out.size))
            match i, hi with
            | 0, _ => exact wpOp_val rfl rfl (exec_load_row 165 _ rfl gs rfl 165 #[.slice (some ⟨g1, 0, none⟩) M c1, .slice (some ⟨g2, 0, none⟩) M c2] (0, 0) _ PS.out Try.underlying165 rfl Try.size_sewing) rfl
            | 1, _ => exact wpOp_val rfl rfl (by go_simp) rfl
            | 2, _ =>
              have h0 : us 1 = _ := hd _ rfl { on := 1, ground := .data } (by simp) rfl
              rw [h0]
              exact wpOp_val rfl rfl (exec_load_head 82 _ rfl w.heap.size rfl 101 CA (0, 0) (pairC (padTo a)) _ P0.out HPRE.out Try.underlying82 rfl HSP.out) rfl
            | 3, _ =>
              have h0 : us 2 = _ := hd _ rfl { on := 2, ground := .data } (by simp) rfl
              rw [h0]
              exact wpOp_call rfl rfl (by go_simp) ((HPO.out W3).mono fun e w'' ⟨he, hb'⟩ => ⟨_, he, rfl, hb'⟩)
            | 4, _ =>
              have h0 : us 0 = _ := hd _ rfl { on := 0, ground := .data } (by simp) rfl
              have h1 : us 3 = _ := hd _ rfl { on := 3, ground := .data } (by simp) rfl
              rw [h0, h1]
              exact wpOp_call rfl rfl (by go_simp) ((HLO0.out W3 PBB.out).mono fun e w'' ⟨⟨v', he, hg⟩, hb'⟩ => ⟨v', he, hg.lower PBB.out.size, hb'⟩)
            | 5, _ => exact wpOp_val rfl rfl (by go_simp) rfl
            | 6, _ =>
              have h0 : us 5 = _ := hd _ rfl { on := 5, ground := .data } (by simp) rfl
              rw [h0]
              have hc : W3.cell? ⟨w.heap.size, 21, none⟩ = some (.int .i64 (m : Int)) := by rw [cell_of_row _ _ _ _ _ _ P0.out]; exact HA1.out
              exact wpOp_val rfl rfl (by go_simp) rfl
            | 7, _ => exact wpOp_val rfl rfl (exec_load_row 165 _ rfl gs rfl 165 #[.slice (some ⟨g1, 0, none⟩) M c1, .slice (some ⟨g2, 0, none⟩) M c2] (0, 0) _ PS.out Try.underlying165 rfl Try.size_sewing) rfl
            | 8, _ => exact wpOp_val rfl rfl (by go_simp) rfl
            | 9, _ =>
              have h0 : us 8 = _ := hd _ rfl { on := 8, ground := .data } (by simp) rfl
              rw [h0]
              exact wpOp_val rfl rfl (exec_load_head 82 _ rfl w.heap.size rfl 101 CA (0, 0) (pairC (padTo a)) _ P0.out HPRE.out Try.underlying82 rfl HSP.out) rfl
            | 10, _ =>
              have h0 : us 9 = _ := hd _ rfl { on := 9, ground := .data } (by simp) rfl
              rw [h0]
              exact wpOp_call rfl rfl (by go_simp) ((HPO.out W3).mono fun e w'' ⟨he, hb'⟩ => ⟨_, he, rfl, hb'⟩)
            | 11, _ => exact wpOp_val rfl rfl (by go_simp) rfl
            | 12, _ =>
              have h0 : us 11 = _ := hd _ rfl { on := 11, ground := .data } (by simp) rfl
              rw [h0]
              have hc : W3.cell? ⟨gs, 0, none⟩ = some (.slice (some ⟨g1, 0, none⟩) M c1) := by rw [cell_of_row _ _ _ _ _ _ PS.out]; rfl
              exact wpOp_val rfl rfl (by go_simp) rfl
            | 13, _ =>
              have h0 : us 12 = _ := hd _ rfl { on := 12, ground := .data } (by simp) rfl
              rw [h0]
              exact wpOp_val rfl rfl (by go_simp) rfl
            | 14, _ =>
              have h0 : us 7 = _ := hd _ rfl { on := 7, ground := .data } (by simp) rfl
              have h1 : us 10 = _ := hd _ rfl { on := 10, ground := .data } (by simp) rfl
              have h2 : us 13 = _ := hd _ rfl { on := 13, ground := .data } (by simp) rfl
              rw [h0, h1, h2]
              exact wpOp_call rfl rfl (by go_simp) ((HLOp.out W3 PBB.out).mono fun e w'' ⟨⟨v', he, hg⟩, hb'⟩ => ⟨v', he, hg.lower PBB.out.size, hb'⟩)
          · have h4 : GrowI W3 wr.heap.size (us 4) (natsI (looseL T 0 p)) := hr 4 (by omega)
            have h14 : GrowI W3 wr.heap.size (us 14) (natsI (looseL T p q)) := hr 14 (by omega)
            obtain ⟨l1, hl1⟩ : ∃ l1, natsI (looseL T 0 p) = l1 := ⟨_, rfl⟩
            obtain ⟨l2, hl2⟩ : ∃ l2, natsI (looseL T p q) = l2 := ⟨_, rfl⟩
            have HX1 := hid (show l1.length = p - j by rw [← hl1, natsI_length]; exact HL0.out.2.1)
            have HX2 := hid (show l2.length = q - j by rw [← hl2, natsI_length]; exact HL0.out.2.2)
            have HZ1 := hid (show l1[0]? = some 0 by rw [← hl1]; exact natsI_at HH0.out)
            have HZ2 := hid (show l2[0]? = some (p : Int) by rw [← hl2]; exact natsI_at HHp.out)
            rw [hl1, hl2] at HAI
            rw [hl1] at h4
            rw [hl2] at h14
            obtain ⟨ga, ca, csa, hva, hha, hsa, hloa⟩ := h4.head' (by have := HX1.out; have := HPQ.out; omega)
            obtain ⟨gb, cb, csb, hvb, _, _, _⟩ := h14.head' (by have := HX2.out; have := HPQ.out; omega)
            rw [hva] at h4
            rw [hvb] at h14
            have HGA := hid h4
            have HLOA := hid hloa
            have hne : gb ≠ ga := fun e => by
              have k1 := growI_cell h4 HZ1.out
              have k2 := growI_cell h14 HZ2.out
              rw [e, k1] at k2
              have k3 := Option.some.inj k2
              injection k3 with k4 k5
              have := HPQ.out
              omega
            have HIN := hid (insert_any wr.heap.size wr.heap.size ga gb ca cb m l1 l2 W3 h4 h14 hne (by have := HX1.out; have := HPQ.out; omega) (by have := HX2.out; have := HPQ.out; omega) (by have := HX1.out; have := HX2.out; have := HPQ.out; have := HMM.out; have := HM40.out; omega))
            rw [HAI.out] at HIN
            obtain ⟨x1, hx1⟩ : ∃ x1, l1.length = x1 := ⟨_, rfl⟩
            obtain ⟨x2, hx2⟩ : ∃ x2, l2.length = x2 := ⟨_, rfl⟩
            have HXP := hid (show x1 + x2 = P by have := HX1.out; have := HX2.out; have := HJP2.out; omega)
            rw [hx1, hx2] at HIN
            rw [hx1] at hva
            rw [hx2] at hvb
            have h0 : us 0 = _ := hr 0 (by omega)
            have h1 : us 1 = _ := hr 1 (by omega)
            have h2 : us 2 = _ := hr 2 (by omega)
            have h3 : us 3 = _ := hr 3 (by omega)
            have h5 : us 5 = _ := hr 5 (by omega)
            have h6 : us 6 = _ := hr 6 (by omega)
            have h7 : us 7 = _ := hr 7 (by omega)
            have h8 : us 8 = _ := hr 8 (by omega)
            have h9 : us 9 = _ := hr 9 (by omega)
            have h10 : us 10 = _ := hr 10 (by omega)
            have h11 : us 11 = _ := hr 11 (by omega)
            have h12 : us 12 = _ := hr 12 (by omega)
            have h13 : us 13 = _ := hr 13 (by omega)
            rw [h0, h1, h2, h3, hva, h5, h6, h7, h8, h9, h10, h11, h12, h13, hvb]
            have P2 := hid ((hb.block _ (lt_of_block Z2.out)).trans Z2.out)
            have PS := hid ((hb.block _ (lt_of_block ZS.out)).trans ZS.out)
            have P7 := hid ((hb.block _ (lt_of_block Z7.out)).trans Z7.out)
            have PBB := hid (ZB.out.trans (hb.mono ZB.out.size))
            clear h0 h1 h2 h3 h5 h6 h7 h8 h9 h10 h11 h12 h13 hva hvb h4 h14 hr hb hha hsa hloa hne hl1 hl2 hx1 hx2
            go_wp2_with fail
            refine HIN.out.mono ?_
            rintro e W4 ⟨⟨gi, ci, rfl, hint, hgi⟩, hbut⟩
            have N2 := HGA.out.notBlock P2.out (by decide)
            have NS := HGA.out.notBlock PS.out (by decide)
            have N7 := HGA.out.notBlock P7.out (by decide)
            have E2 := hid ((hbut.block _ (lt_of_block P2.out) (fun e => N2 (by rw [e]; rfl))).trans P2.out)
            have ES := hid ((hbut.block _ (lt_of_block PS.out) (fun e => NS (by rw [e]; rfl))).trans PS.out)
            have E7 := hid ((hbut.block _ (lt_of_block P7.out) (fun e => N7 (by rw [e]; rfl))).trans P7.out)
            have EB := hid (PBB.out.trans (hbut.below HLOA.out PBB.out.size))
            have HGI7 := hid (show gi ≠ g7 from fun e => by
              rcases hgi with h | h
              · exact N7 (by rw [← e, h]; rfl)
              · have := lt_of_block P7.out
                omega)
            have HINT := hid hint
            obtain ⟨bi, oi, hbe, hbl, hbc⟩ := hint (by rw [numsI_length]; have := HJP.out; omega)
            have hbe2 := Option.some.inj hbe
            injection hbe2 with hb1 hb2 hb3
            subst hb1
            subst hb2
            have HGIL := hid hbl
            have HGIC := hid (show ∀ jj, jj < P → W4.cell? ⟨gi, jj, none⟩ = some (.int .i64 ((f jj : Nat) : Int)) from fun jj hjj => by
              have := hbc jj _ (numsI_at hjj)
              rwa [Nat.zero_add] at this)
            have HOBJ := hid (show ∃ o, W4.heap[gi]? = some o from ⟨_, Array.getElem?_eq_getElem hbl⟩)
            rw [HXP.out]
            clear hgi hbut N2 NS N7 hbl hbc
            go_wp2_with fail
            have hPi : (P : Int) ≤ 20 := by have := HP20.out; omega
            go_loopw [69] (fun (iv : Value) (wr2 : World) => ∃ jj : Nat, jj ≤ P ∧ iv = .int .i64 jj ∧ ∃ L : List Int, Hid (PairsUp L P (fun x => x < jj) (fun x => x) js) ∧ wr2.heap[g7]? = some (.cells (pairC (joinL L j mk rr)) 101 (0, 0)) ∧ wr2.heap[gs]? = some (.cells #[.slice (some ⟨g1, 0, none⟩) M c1, .slice (some ⟨g2, 0, none⟩) M c2] 165 (0, 0)) ∧ wr2.heap[w.heap.size + 1 + 1]? = some (.cells zeroJ 101 (0, 0)) ∧ Hid (wr2.heap[gi]? = W4.heap[gi]?) ∧ Below wr.heap.size wr wr2) (fun i _ => P - (intOf i).toNat)
            case atStart => exact ⟨0, by omega, rfl, idL, hid (pairs_none (fun x hx => absurd hx (by omega))), E7.out, ES.out, E2.out, hid rfl, EB.out⟩
            case round =>
              obtain ⟨jj, hjj, rfl, L, hL, h7, hs, h2, hgi, hb⟩ := hrel
              have HL := hL
              have R7 := hid h7
              have RS := hid hs
              have R2 := hid h2
              have RI := hgi
              have RB := hid hb
              clear hL h7 hs h2 hgi hb
              by_cases hlt : jj < P
              · have hji : (jj : Int) < (P : Int) := by omega
                have hci : wr.cell? ⟨gi, jj, none⟩ = some (.int .i64 ((f jj : Nat) : Int)) := (cell_congr RI.out).trans (HGIC.out jj hlt)
                have hfl := HAO.out jj hlt
                have HEN := hid (end_any _ wr.heap.size M (f jj) S T wr HSW.out (HREAD.out wr RB.out) (Nat.le_refl _) HM40.out hfl.1)
                rw [← HFE.out jj hlt] at HEN
                have hjl := HM.out.lt jj hlt
                have hjn := HM.out.ne jj hlt
                have HIX := hid (fun W (hw : W.heap[gi]? = W4.heap[gi]?) => indexN_any (some ⟨gi, 0, none⟩) ci W.heap.size P (js jj) f gN W (fun _ => ⟨gi, 0, rfl, by
                  obtain ⟨o, ho⟩ := HOBJ.out
                  exact (Array.getElem?_eq_some_iff.1 (hw.trans ho)).1, fun x y hx => by
                  have hxP := (List.getElem?_eq_some_iff.1 hx).1
                  rw [numsI_length] at hxP
                  rw [numsI_at hxP] at hx
                  obtain rfl := Option.some.inj hx
                  rw [Nat.zero_add]
                  exact (cell_congr hw).trans (HGIC.out x hxP)⟩) (by have := HP20.out; omega) hjl HAN2.out)
                obtain ⟨z, hz⟩ : ∃ z, js jj = z := ⟨_, rfl⟩
                have HZ := hid hz
                rw [hz] at HEN HIX hjl hjn
                obtain ⟨fz, hfz⟩ : ∃ fz, f z = fz := ⟨_, rfl⟩
                rw [hfz] at HEN HIX
                obtain ⟨fj, hfj⟩ : ∃ fj, f jj = fj := ⟨_, rfl⟩
                rw [hfj] at HEN hci
                have HJ20 := hid (show jj < 20 ∧ z < 20 ∧ jj ≠ z by have := HP20.out; omega)
                clear hfl hz hfz hfj hjl hjn
                go_wp2_with (refine wpList_load_row rfl 165 _ rfl gs rfl 165 #[.slice (some ⟨g1, 0, none⟩) M c1, .slice (some ⟨g2, 0, none⟩) M c2] (0, 0) _ RS.out Try.underlying165 rfl Try.size_sewing ?_)
                refine HEN.out.mono ?_
                rintro e w5 ⟨rfl, hb5⟩
                have F7 := hid ((hb5.block _ (lt_of_block R7.out)).trans R7.out)
                have FS := hid ((hb5.block _ (lt_of_block RS.out)).trans RS.out)
                have F2 := hid ((hb5.block _ (lt_of_block R2.out)).trans R2.out)
                have FI := hid (show w5.heap[gi]? = W4.heap[gi]? from by
                  obtain ⟨o, ho⟩ := HOBJ.out
                  exact (hb5.block _ (Array.getElem?_eq_some_iff.1 (RI.out.trans ho)).1).trans RI.out)
                have FB := hid (RB.out.trans (hb5.mono RB.out.size))
                have HIX5 := hid (HIX.out w5 FI.out)
                clear hb5 hci
                go_wp2_with fail
                refine HIX5.out.mono ?_
                rintro e w6 ⟨rfl, d6, rfl⟩
                have HPA := hid (pair_any g7 jj z _ _ (w5.drewN d6) F7.out (by rw [pairC_size, joinL_length HL.out.1]; omega) HJ20.out.1 HJ20.out.2.1 HJ20.out.2.2)
                go_wp2_with fail
                refine HPA.out.mono ?_
                rintro e w7 ⟨rfl, hpr, hbut⟩
                have U7 := hid (hpr.trans (by rw [paired_joinL HL.out.1 HJ20.out.1 HJ20.out.2.1]))
                have hgs7 : gs ≠ g7 := by have := HG7.out; have := HSW1.out; omega
                have h27 : w.heap.size + 1 + 1 ≠ g7 := by have := HG7.out; have := HBW.out; omega
                have US := hid ((hbut.block gs (lt_of_block FS.out) hgs7).trans FS.out)
                have U2 := hid ((hbut.block _ (lt_of_block F2.out) h27).trans F2.out)
                have UI := hid (show w7.heap[gi]? = W4.heap[gi]? from by
                  obtain ⟨o, ho⟩ := HOBJ.out
                  exact (hbut.block gi (Array.getElem?_eq_some_iff.1 (FI.out.trans ho)).1 HGI7.out).trans FI.out)
                have UB := hid ((below_drewN' FB.out d6).trans (hbut.below HG7.out (below_drewN' FB.out d6).size))
                clear hpr hbut hgs7 h27
                go_wp2_with fail
                go_roundw
                case rel =>
                  refine ⟨jj + 1, by omega, by go_num, _, hid (pairs_step (g := fun x => x) (s := js) HP20.out (names_id P) HM.out HL.out hlt (V' := fun x => x < jj + 1) (fun x hx => by omega)), ?_, US.out, U2.out, UI, UB.out⟩
                  rw [HZ.out]
                  exact U7.out
                case measure => simp [intOf]; omega
              · obtain rfl : jj = P := by omega
                have HTL2 := hid (HJL.out.trans (pairs_done HP20.out (names_id jj) HM.out HL.out (fun x hx => .inl hx)).symm)
                rw [← HTL2.out] at R7
                have HSZ := hid (size_joinL HJTL.out j mk rr)
                have HZZ2 := hid (zero_joinL HJTL.out j mk rr)
                have RBB := hid (BB.out.trans (RB.out.mono BB.out.size))
                go_wp2_with (first
                  | refine wpList_load_row rfl 101 _ rfl g7 rfl 101 (pairC (joinL TL j mk rr)) (0, 0) _ R7.out Try.underlying101 rfl HSZ.out ?_
                  | refine wpList_store_row rfl 101 _ _ rfl (w.heap.size + 1 + 1) (pairC (joinL TL j mk rr)) rfl rfl 101 zeroJ R2.out HSZ.out HZZ2.out (pairC_one _) ?_)
                refine bodyPost_ret (results_cell_row Try.results154 _ _ (w.heap.size + 1 + 1) 101 _ (0, 0) _ (by rfl) (setRow_heap _ _ _ _ _ _ R2.out) Try.underlying101 rfl HSZ.out) rfl ⟨rfl, ?_⟩
                exact below_setRow' RBB.out (by omega) _
end Go.Proofs.Ytonhnmpgikmlpaa
