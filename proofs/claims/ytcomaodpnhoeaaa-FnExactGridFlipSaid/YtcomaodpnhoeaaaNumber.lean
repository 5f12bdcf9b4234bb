/- The number that tells a grid, by its contract. -/
import Derived.Test.YtcomaodpnhoeaaaMirrors
import Derived.Test.YtcomaodpnhoeaaaLetter
namespace Go.Proofs.Ytcomaodpnhoeaaa
open Go.RowKit Go.Shelf
attribute [local go_sem] Oper.semAt_some

/-- The digit of a letter. -/
def dig (b : UInt8) : Nat := if b == 114 then 1 else if b == 102 then 2 else 0
theorem dig_le (b : UInt8) : dig b ≤ 2 := by unfold dig; split <;> (try split) <;> omega
theorem dig_index (b : UInt8) (h : isLet b = true) : Lib.indexByte [46, 114, 102] b = (dig b : Int) := by
  simp only [isLet, Bool.or_eq_true, beq_iff_eq] at h
  rcases h with (rfl | rfl) | rfl <;> decide
/-- The number of the cells that have come, and the weight of the next one. -/
def numP {N : Nat} (ls : List UInt8) (pre : List (Fin N)) : Nat × Nat := pre.foldl (fun a x => (a.1 + a.2 * dig (ls.getD x.val 0), a.2 * 3)) (0, 1)
theorem numP_snoc {N : Nat} (ls : List UInt8) (pre : List (Fin N)) (x : Fin N) : numP ls (pre ++ [x]) = ((numP ls pre).1 + (numP ls pre).2 * dig (ls.getD x.val 0), (numP ls pre).2 * 3) := by
  simp [numP, List.foldl_append]
theorem numP_lt {N : Nat} (ls : List UInt8) (k : Nat) : ∀ (pre : List (Fin N)), pre.length = k → (numP ls pre).1 < (numP ls pre).2 ∧ (numP ls pre).2 = 3 ^ k := by
  induction k with
  | zero => intro pre h; obtain rfl := List.eq_nil_of_length_eq_zero h; simp [numP]
  | succ k ih =>
    intro pre h
    obtain ⟨ys, y, rfl⟩ : ∃ ys y, pre = ys ++ [y] := ⟨pre.dropLast, pre.getLast (by rintro rfl; simp at h), (List.dropLast_concat_getLast _).symm⟩
    have ⟨h1, h2⟩ := ih ys (by simpa using h)
    rw [numP_snoc]
    have hd := dig_le (ls.getD y.val 0)
    have hm : (numP ls ys).2 * dig (ls.getD y.val 0) ≤ (numP ls ys).2 * 2 := Nat.mul_le_mul_left _ hd
    refine ⟨by dsimp only; omega, by dsimp only; rw [h2, Nat.pow_succ]⟩

set_option maxRecDepth 100000 in
set_option maxHeartbeats 2000000 in
theorem number_any (n m : Nat) (ls : List UInt8) (w : World) (hl : ls.length = 25) (hN : n * m ≤ 20) (hlet : ∀ i, i < n * m → isLet (ls.getD i 0) = true) (hn5 : n ≤ 5) (hm : 1 ≤ m) (hm5 : m ≤ 5) :
    Calls Try.prog 112 #[.agg (gcells n m ls)] w fun e w' => e = .returned (.int .i64 (((numP ls (List.finRange (n * m))).1 : Nat) : Int)) ∧ Below w.heap.size w w' := by
  refine (callsIn_wide (n := 3)).1 ?_
  have HG := hid (show (Try.prog.info? 60).map (·.size) = some (gcells n m ls).size by rw [gcells_size hl]; exact Try.size_grid)
  have H0 := hid (show (((w.alloc (.cells (gcells n m ls) 60)).alloc (.cells #[.int .i64 0] 3)).alloc (.cells #[.int .i64 1] 3)).heap[w.heap.size]? = some (.cells (gcells n m ls) 60 (0, 0)) from heap_new2 w _ _ _)
  have B1 : Boxed ((w.alloc (.cells (gcells n m ls) 60)).alloc (.cells #[.int .i64 0] 3)) (w.heap.size + 1) 3 (.int .i64 0) := by
    simpa using Boxed.new (w.alloc (.cells (gcells n m ls) 60)) 3 (.int .i64 0)
  have F1 : Boxed (((w.alloc (.cells (gcells n m ls) 60)).alloc (.cells #[.int .i64 0] 3)).alloc (.cells #[.int .i64 1] 3)) (w.heap.size + 1) 3 (.int .i64 0) := B1.alloc _
  have F1' : Boxed (((w.alloc (.cells (gcells n m ls) 60)).alloc (.cells #[.int .i64 0] 3)).alloc (.cells #[.int .i64 1] 3)) (w.heap.size + 1 + 1) 3 (.int .i64 1) := by
    simpa using Boxed.new ((w.alloc (.cells (gcells n m ls) 60)).alloc (.cells #[.int .i64 0] 3)) 3 (.int .i64 1)
  have F2 : Below w.heap.size w (((w.alloc (.cells (gcells n m ls) 60)).alloc (.cells #[.int .i64 0] 3)).alloc (.cells #[.int .i64 1] 3)) := (((Below.refl _ w).alloc (Nat.le_refl _) _).alloc (by simp) _).alloc (by simp; omega) _
  have F3 : (((w.alloc (.cells (gcells n m ls) 60)).alloc (.cells #[.int .i64 0] 3)).alloc (.cells #[.int .i64 1] 3)).heap.size = w.heap.size + 3 := by simp
  have H1 := hid F1
  have H1' := hid F1'
  have H2 := hid F2
  have H3 := hid F3
  clear F1 F1' F2 F3 B1
  refine callsIn_of_wp_marks Try.func112 rfl trivial ?_ rfl
  simp only [Try.ntmps112, List.size_toArray, List.length_cons, List.length_nil, Nat.reduceAdd, Nat.reduceSub, Array.replicate_succ, Array.replicate_zero, List.push_toArray, List.append_toArray, List.nil_append, List.cons_append]
  gi_wp2_with (refine wpListIn_load_row (Open.wide _) rfl 60 _ rfl w.heap.size rfl 60 (gcells n m ls) (0, 0) _ H0.out Try.underlying60 rfl HG.out ?_)
  generalize World.alloc _ _ = W0 at H0 H1 H1' H2 H3
  refine ⟨trivial, callsIn_wide.2 ((cells_any (gcells n m ls) W0).mono ?_)⟩
  rintro e w1 ⟨rfl, hw1⟩
  have K1 := hid (show Boxed w1 (w.heap.size + 1) 3 (.int .i64 0) by rw [hw1]; exact H1.out.alloc _)
  have K2 := hid (show Boxed w1 (w.heap.size + 1 + 1) 3 (.int .i64 1) by rw [hw1]; exact H1'.out.alloc _)
  have K3 := hid (show w1.heap[W0.heap.size]? = some (.cells (gcells n m ls) 60 (0, 0)) by rw [hw1]; exact heap_new0 W0 _)
  have KB := hid (show Below w.heap.size w w1 by rw [hw1]; exact H2.out.alloc H2.out.size _)
  have KS := hid (show w1.heap.size = w.heap.size + 4 by rw [hw1, World.size_alloc, H3.out])
  have KW := hid H3.out
  have hnm : n * m ≤ 5 * 5 := Nat.mul_le_mul hn5 hm5
  clear hw1
  gi_wp2
  refine wpIn_rangeFunc_ownH rfl (by omega) (gf := 150) (lb := #[.pointer (some ⟨W0.heap.size, 0, none⟩)]) rfl trivial (enters_of Try.func150 (by kernel_rfl) rfl)
    (cells_stops 2 W0.heap.size n m (n * m) rfl ls hl hn5 hm hm5 w1 K3.out) KeepsAt.trans (keepsAt_b (lt_of_block K3.out)) (Below.refl _ _) (fun _ => rfl)
    (fun pre W => (Boxed W (w.heap.size + 1) 3 (.int .i64 (((numP ls pre).1 : Nat) : Int)) ∧ Boxed W (w.heap.size + 1 + 1) 3 (.int .i64 (((numP ls pre).2 : Nat) : Int))) ∧ Below w.heap.size w1 W)
    (fun _ _ _ => False)
    (OwnFrom.and (OwnFrom.and (Own.from (boxed_own _ _ (fun pre => .int .i64 (((numP ls pre).1 : Nat) : Int))) _) (Own.from (boxed_own _ _ (fun pre => .int .i64 (((numP ls pre).2 : Nat) : Int))) _)) (ownFrom_below (by rw [KS.out]; omega) (by rw [KS.out]; omega)))
    (fun _ _ _ _ _ hs _ _ => hs)
    ⟨⟨K1.out, K2.out⟩, Below.refl _ _⟩
    (fun x a' _ => ∃ u0 u1 u2 u5 u7 u8 u9 u10 u11 u12 u13 u14 u15 u16 u17 u18 u19 : Value,
      a' = { tmps := #[u0, u1, u2, .pointer (some ⟨w.heap.size + 1, 0, none⟩), .pointer (some ⟨w.heap.size + 1 + 1, 0, none⟩), u5, .int .u8 ((ls.getD x.val 0).toNat : Int), u7, u8, u9, u10, u11, u12, u13, u14, u15, u16, u17, u18, u19], defers := [] })
    (fun _ _ _ _ _ _ hs _ _ => hs)
    ?assign ?body ?done ?stop
  case assign =>
    rintro l pre x W K hi hK
    have J1 := hid hi
    have JK := hid hK
    clear hi hK
    unfold encs
    obtain ⟨bv, hbv⟩ : ∃ bv : Int, ((ls.getD x.val 0).toNat : Int) = bv := ⟨_, rfl⟩
    rw [hbv] at JK ⊢
    gi_wp2
    exact JK.out _ _ (KeepsFrom.refl _ _) ⟨Nat.le_refl _, rfl⟩ J1.out ⟨_, _, _, _, _, _, _, _, _, _, _, _, _, _, _, _, _, rfl⟩
  case body =>
    rintro l pre x a' W hlw ⟨r, hr⟩ ⟨⟨i1, i2⟩, i3⟩ ⟨u0, u1, u2, u5, u7, u8, u9, u10, u11, u12, u13, u14, u15, u16, u17, u18, u19, rfl⟩ hlt
    have hsn := numP_snoc ls pre x
    have hnl := numP_lt ls pre.length pre rfl
    have hpw : 3 ^ pre.length ≤ 3 ^ 19 := Nat.pow_le_pow_right (by omega) (by omega)
    have hdx := dig_index _ (hlet x.val x.isLt)
    have hdl := dig_le (ls.getD x.val 0)
    obtain ⟨bb, hbb⟩ : ∃ bb : UInt8, ls.getD x.val 0 = bb := ⟨_, rfl⟩
    rw [hbb] at hdx hdl hsn ⊢
    obtain ⟨dn, hdn⟩ : ∃ dn, dig bb = dn := ⟨_, rfl⟩
    obtain ⟨nn, hnn⟩ : ∃ nn, (numP ls pre).1 = nn := ⟨_, rfl⟩
    obtain ⟨vn, hvn⟩ : ∃ vn, (numP ls pre).2 = vn := ⟨_, rfl⟩
    rw [hdn] at hdx hdl hsn
    rw [hnn, hvn] at hnl hsn
    rw [hnn] at i1
    rw [hvn] at i2
    obtain ⟨p3, hp3⟩ : ∃ p3, (3 : Nat) ^ pre.length = p3 := ⟨_, rfl⟩
    rw [hp3] at hnl hpw
    have hpw' : p3 ≤ 1162261467 := hpw
    obtain ⟨hn1, hn2⟩ := hnl
    have hmul : vn * dn ≤ vn * 2 := Nat.mul_le_mul_left _ hdl
    obtain ⟨pn, hpn⟩ : ∃ pn, vn * dn = pn := ⟨_, rfl⟩
    rw [hpn] at hmul hsn
    have hvd : (vn : Int) * (dn : Int) = (pn : Int) := by rw [← hpn, Int.natCast_mul]
    have hib : Calls Try.prog 137 #[.string ⟨#[46, 114, 102]⟩, .int .u8 bb.toNat] W.drew fun e w' => e = .returned (.int .i64 (dn : Int)) ∧ W.drew = w' := by
      have := strings_IndexByte ⟨#[46, 114, 102]⟩ bb.toNat W.drew
      rw [show ((bb.toNat : Int).toNat.toUInt8) = bb by simp] at this
      rw [← hdx]
      exact this
    have b1 : (0 : Int) ≤ vn := Int.natCast_nonneg _
    have b2 : (vn : Int) ≤ 1162261467 := by omega
    have b3 : (0 : Int) ≤ nn := Int.natCast_nonneg _
    have b4 : (nn : Int) ≤ 1162261467 := by omega
    have b5 : (0 : Int) ≤ pn := Int.natCast_nonneg _
    have b6 : (pn : Int) ≤ 2324522934 := by omega
    obtain ⟨wd, hwd⟩ : ∃ wd, W.drew = wd := ⟨_, rfl⟩
    rw [hwd] at hib
    have D1 : Boxed wd (w.heap.size + 1) 3 (.int .i64 nn) := by rw [← hwd]; exact i1
    have D2 : Boxed wd (w.heap.size + 1 + 1) 3 (.int .i64 vn) := by rw [← hwd]; exact i2
    have D3 := hid (show Below w.heap.size w1 wd by rw [← hwd]; exact i3.drew)
    have DK := hid (show KeepsOthers W wd by rw [← hwd]; exact KeepsOthers.drew W)
    have DH := hid (show wd.heap = W.heap by rw [← hwd]; rfl)
    have HC1 := hid D1.cell
    have HC2 := hid D2.cell
    have hf1 := D1.frozen
    have hf2 := (D2.other (B' := w.heap.size + 1) (by omega) (.int .i64 (nn + pn))).frozen
    have hc2 := (D2.other (B' := w.heap.size + 1) (by omega) (.int .i64 (nn + pn))).cell
    have hc1 := (D1.set (.int .i64 (nn + pn))).cell
    have HD1 := hid D1
    have HD2 := hid D2
    have HWD := hid hwd
    have HIB := hid hib
    have HS := hid hsn
    clear i1 i2 i3 hsn hlt hbb hr hl hdx hdl hdn hnn hvn hp3 hpw hpw' hn1 hn2 hmul hpn hib hwd D1 D2 hnm hN hlet
    gi_wp2
    refine wpIn_region_quiet_tail (Open.round _ l) 6 (fun w' => w' = wd) (by kernel_rfl) (by kernel_rfl) HWD.out ?_
    simp only [List.take_succ_cons, List.take_zero, List.drop_succ_cons, List.drop_zero]
    refine wpQuiet_value rfl (.int .i64 nn) (fun w' hw' => by rw [hw']; have hc := HC1.out; go_simp) ?_
    refine wpQuiet_value rfl (.int .i64 vn) (fun w' hw' => by rw [hw']; have hc := HC2.out; go_simp) ?_
    quiet_step (fail)
    refine wpQuiet_call rfl 137 #[.string ⟨#[46, 114, 102]⟩, .int .u8 bb.toNat] (.int .i64 dn) (fun w _ => by go_simp) (fun w' hw' => by rw [hw']; exact HIB.out.mono fun e w'' ⟨he, hw''⟩ => ⟨he, hw''.symm⟩) ?_
    quiet_step (fail)
    quiet_step (fail)
    refine wpQuiet_nil ?_
    rintro w' rfl
    have hcc := HC1.out
    gi_wp2
    refine ⟨(DK.out.trans ((KeepsOthers.setCell _ _ _).trans (KeepsOthers.setCell _ _ _))).from _, ⟨by simp [DH.out], ?_⟩, ⟨⟨?_, ?_⟩, ?_⟩⟩
    · rw [Below.heap_setCell _ _ _ _ (by rw [KW.out]; simp), Below.heap_setCell _ _ _ _ (by rw [KW.out]; simp), DH.out]
    · rw [HS.out]
      exact (HD1.out.set _).other (by omega) _
    · rw [HS.out]
      exact (HD2.out.other (by omega) _).set _
    · exact (D3.out.setCell (p := ⟨w.heap.size + 1, 0, none⟩) (by simp) _).setCell (p := ⟨w.heap.size + 1 + 1, 0, none⟩) (by simp; omega) _
  case done =>
    rintro D xs W hD rfl ⟨⟨i1, i2⟩, i3⟩ hK
    have hcell := i1.cell
    have J2 := hid i3
    have JK := hid hK
    clear i1 i2 i3 hK
    gi_wp2
    refine ⟨by simp, .inl ⟨_, _, rfl, run_takeDeferred JK.out, ?_⟩⟩
    refine ⟨_, results_tmp rfl _ _ _, rfl, ?_⟩
    exact (KB.out.trans J2.out).trans (belowK_b (w := w) (Nat.le_refl _) _ D _ _ (by rw [KS.out] at hD; omega) JK.out rfl rfl)
  case stop =>
    rintro D c pre W _ _ h _
    exact h.elim

end Go.Proofs.Ytcomaodpnhoeaaa
