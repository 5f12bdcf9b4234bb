/- The number of mirrors, and whether all cells are full, by their contracts. -/
import Derived.Test.YtcomaodpnhoeaaaIter
namespace Go.Proofs.Ytcomaodpnhoeaaa
open Go.RowKit Go.Shelf
attribute [local go_sem] Oper.semAt_some

/-- The mirrors among the cells that have come. -/
def mirr {N : Nat} (ls : List UInt8) (pre : List (Fin N)) : Nat := pre.countP fun x => ls.getD x.val 0 != 46
theorem mirr_snoc {N : Nat} (ls : List UInt8) (pre : List (Fin N)) (x : Fin N) : mirr ls (pre ++ [x]) = mirr ls pre + (if (ls.getD x.val 0 != 46) = true then 1 else 0) := by
  simp [mirr, List.countP_append, List.countP_cons]
theorem mirr_le {N : Nat} (ls : List UInt8) (pre : List (Fin N)) : mirr ls pre ≤ pre.length := List.countP_le_length
theorem byte_bne (b : UInt8) : ((b.toNat : Int) != 46) = (b != 46) := by
  by_cases h : b = 46
  · subst h; rfl
  · have h' : b.toNat ≠ 46 := fun e => h (UInt8.toNat_inj.1 e)
    rw [bne_iff_ne.2 h, bne_iff_ne]; omega

theorem byte_beq46 (b : UInt8) : ((b.toNat : Int) == 46) = (b == 46) := by
  by_cases h : b = 46
  · subst h; rfl
  · have h' : b.toNat ≠ 46 := fun e => h (UInt8.toNat_inj.1 e)
    rw [beq_eq_false_iff_ne.2 h, beq_eq_false_iff_ne]; omega
theorem mirr_upto_lt {N k : Nat} (ls : List UInt8) (hk : k ≤ N) (h : mirr ls (upto N k) < (upto N k).length) : mirr ls (List.finRange N) < N := by
  have e : List.finRange N = upto N k ++ (List.finRange N).drop k := (List.take_append_drop k _).symm
  have h1 : mirr ls (List.finRange N) = mirr ls (upto N k) + mirr ls ((List.finRange N).drop k) := by
    unfold mirr
    conv => lhs; rw [e]
    rw [List.countP_append]
  have h2 := mirr_le ls ((List.finRange N).drop k)
  rw [upto_length hk] at h
  simp only [List.length_drop, List.length_finRange] at h2
  omega

set_option maxRecDepth 100000 in
set_option maxHeartbeats 2000000 in
theorem mirrors_any (n m : Nat) (ls : List UInt8) (w : World) (hl : ls.length = 25) (hn5 : n ≤ 5) (hm : 1 ≤ m) (hm5 : m ≤ 5) :
    Calls Try.prog 101 #[.agg (gcells n m ls)] w fun e w' => e = .returned (.int .i64 ((mirr ls (List.finRange (n * m)) : Nat) : Int)) ∧ Below w.heap.size w w' := by
  refine (callsIn_wide (n := 3)).1 ?_
  have HG := hid (show (Try.prog.info? 60).map (·.size) = some (gcells n m ls).size by rw [gcells_size hl]; exact Try.size_grid)
  have H0 := hid (show ((w.alloc (.cells (gcells n m ls) 60)).alloc (.cells #[.int .i64 0] 3)).heap[w.heap.size]? = some (.cells (gcells n m ls) 60 (0, 0)) from heap_new1 w _ _)
  have F1 : Boxed ((w.alloc (.cells (gcells n m ls) 60)).alloc (.cells #[.int .i64 0] 3)) (w.heap.size + 1) 3 (.int .i64 0) := by
    simpa using Boxed.new (w.alloc (.cells (gcells n m ls) 60)) 3 (.int .i64 0)
  have F2 : Below w.heap.size w ((w.alloc (.cells (gcells n m ls) 60)).alloc (.cells #[.int .i64 0] 3)) := ((Below.refl _ w).alloc (Nat.le_refl _) _).alloc (by simp) _
  have F3 : ((w.alloc (.cells (gcells n m ls) 60)).alloc (.cells #[.int .i64 0] 3)).heap.size = w.heap.size + 2 := by simp
  have H1 := hid F1
  have H2 := hid F2
  have H3 := hid F3
  clear F1 F2 F3
  refine callsIn_of_wp_marks Try.func101 rfl trivial ?_ rfl
  simp only [Try.ntmps101, List.size_toArray, List.length_cons, List.length_nil, Nat.reduceAdd, Nat.reduceSub, Array.replicate_succ, Array.replicate_zero, List.push_toArray, List.append_toArray, List.nil_append, List.cons_append]
  gi_wp2_with (refine wpListIn_load_row (Open.wide _) rfl 60 _ rfl w.heap.size rfl 60 (gcells n m ls) (0, 0) _ H0.out Try.underlying60 rfl HG.out ?_)
  generalize World.alloc _ _ = W0 at H0 H1 H2 H3
  refine ⟨trivial, callsIn_wide.2 ((cells_any (gcells n m ls) W0).mono ?_)⟩
  rintro e w1 ⟨rfl, hw1⟩
  have K1 := hid (show Boxed w1 (w.heap.size + 1) 3 (.int .i64 0) by rw [hw1]; exact H1.out.alloc _)
  have K3 := hid (show w1.heap[W0.heap.size]? = some (.cells (gcells n m ls) 60 (0, 0)) by rw [hw1]; exact heap_new0 W0 _)
  have KB := hid (show Below w.heap.size w w1 by rw [hw1]; exact H2.out.alloc H2.out.size _)
  have KS := hid (show w1.heap.size = w.heap.size + 3 by rw [hw1, World.size_alloc, H3.out])
  have KW := hid H3.out
  have hnm : n * m ≤ 5 * 5 := Nat.mul_le_mul hn5 hm5
  clear hw1
  gi_wp2
  refine wpIn_rangeFunc_ownH rfl (by omega) (gf := 150) (lb := #[.pointer (some ⟨W0.heap.size, 0, none⟩)]) rfl trivial (enters_of Try.func150 (by kernel_rfl) rfl)
    (cells_stops 2 W0.heap.size n m (n * m) rfl ls hl hn5 hm hm5 w1 K3.out) KeepsAt.trans (keepsAt_b (lt_of_block K3.out)) (Below.refl _ _) (fun _ => rfl)
    (fun pre W => Boxed W (w.heap.size + 1) 3 (.int .i64 ((mirr ls pre : Nat) : Int)) ∧ Below w.heap.size w1 W)
    (fun _ _ _ => False)
    (OwnFrom.and (Own.from (boxed_own _ _ (fun pre => .int .i64 ((mirr ls pre : Nat) : Int))) _) (ownFrom_below (by rw [KS.out]; omega) (by rw [KS.out]; omega)))
    (fun _ _ _ _ _ hs _ _ => hs)
    ⟨K1.out, Below.refl _ _⟩
    (fun x a' _ => ∃ u0 u1 u2 u4 u6 u7 u8 u9 u10 u11 u12 u13 u14 : Value,
      a' = { tmps := #[u0, u1, u2, .pointer (some ⟨w.heap.size + 1, 0, none⟩), u4, .int .u8 ((ls.getD x.val 0).toNat : Int), u6, u7, u8, u9, u10, u11, u12, u13, u14], defers := [] })
    (fun _ _ _ _ _ _ hs _ _ => hs)
    ?assign ?body ?done ?stop
  case assign =>
    rintro l pre x W K ⟨i1, i2⟩ hK
    have J1 := hid i1
    have J2 := hid i2
    have JK := hid hK
    clear i1 i2 hK
    unfold encs
    obtain ⟨bv, hbv⟩ : ∃ bv : Int, ((ls.getD x.val 0).toNat : Int) = bv := ⟨_, rfl⟩
    rw [hbv] at JK ⊢
    gi_wp2
    exact JK.out _ _ (KeepsFrom.refl _ _) ⟨Nat.le_refl _, rfl⟩ ⟨J1.out, J2.out⟩ ⟨_, _, _, _, _, _, _, _, _, _, _, _, _, rfl⟩
  case body =>
    rintro l pre x a' W hlw ⟨r, hr⟩ ⟨i1, i2⟩ ⟨u0, u1, u2, u4, u6, u7, u8, u9, u10, u11, u12, u13, u14, rfl⟩ hlt
    have hcell := i1.cell
    have hfr := i1.frozen
    have hle := mirr_le ls pre
    have hsn := mirr_snoc ls pre x
    have hne := byte_bne (ls.getD x.val 0)
    obtain ⟨bb, hbb⟩ : ∃ bb : UInt8, ls.getD x.val 0 = bb := ⟨_, rfl⟩
    rw [hbb] at hne hsn ⊢
    obtain ⟨bv, hbv⟩ : ∃ bv : Int, (bb.toNat : Int) = bv := ⟨_, rfl⟩
    rw [hbv] at hne ⊢
    obtain ⟨cv, hcv⟩ : ∃ cv : Int, ((mirr ls pre : Nat) : Int) = cv := ⟨_, rfl⟩
    have hc0 : 0 ≤ cv := by omega
    have hc1 : cv < 25 := by omega
    rw [hcv] at hcell
    have HC := hid hcv
    have I1 := hid i1
    have I2 := hid i2
    have HS := hid hsn
    clear hcv i1 i2 hsn hle hlt hbv hbb hr hl
    cases hb : (bb != 46) with
    | true =>
      rw [hb] at hne
      have HB := hid hb
      clear hb
      gi_wp2
      refine ⟨(KeepsOthers.setCell _ _ _).from _, ⟨by simp, ?_⟩, ?_, I2.out.setCell (p := ⟨w.heap.size + 1, 0, none⟩) (by simp) _⟩
      · exact Below.heap_setCell _ _ _ _ (by rw [KW.out]; simp)
      · have hx := HS.out
        rw [if_pos HB.out] at hx
        rw [hx, Int.natCast_add, HC.out]
        exact I1.out.set _
    | false =>
      rw [hb] at hne
      have HB := hid hb
      clear hb
      gi_wp2
      refine ⟨KeepsFrom.refl _ _, ⟨Nat.le_refl _, rfl⟩, ?_, I2.out⟩
      have hx := HS.out
      rw [if_neg (by rw [HB.out]; decide)] at hx
      rw [hx]
      exact I1.out
  case done =>
    rintro D xs W hD rfl ⟨i1, i2⟩ hK
    have hcell := i1.cell
    have J2 := hid i2
    have JK := hid hK
    clear i1 i2 hK
    gi_wp2
    refine ⟨by simp, .inl ⟨_, _, rfl, run_takeDeferred JK.out, ?_⟩⟩
    refine ⟨_, results_tmp rfl _ _ _, rfl, ?_⟩
    exact (KB.out.trans J2.out).trans (belowK_b (w := w) (Nat.le_refl _) _ D _ _ (by rw [KS.out] at hD; omega) JK.out rfl rfl)
  case stop =>
    rintro D c pre W _ _ h _
    exact h.elim

set_option maxRecDepth 100000 in
set_option maxHeartbeats 2000000 in
theorem full_any (n m : Nat) (ls : List UInt8) (w : World) (hl : ls.length = 25) (hn5 : n ≤ 5) (hm : 1 ≤ m) (hm5 : m ≤ 5) :
    Calls Try.prog 102 #[.agg (gcells n m ls)] w fun e w' => e = .returned (.bool (mirr ls (List.finRange (n * m)) == n * m)) ∧ Below w.heap.size w w' := by
  refine (callsIn_wide (n := 3)).1 ?_
  have HG := hid (show (Try.prog.info? 60).map (·.size) = some (gcells n m ls).size by rw [gcells_size hl]; exact Try.size_grid)
  have H0 := hid (show ((w.alloc (.cells (gcells n m ls) 60)).alloc (.cells #[.bool false] 4)).heap[w.heap.size]? = some (.cells (gcells n m ls) 60 (0, 0)) from heap_new1 w _ _)
  have F1 : Boxed ((w.alloc (.cells (gcells n m ls) 60)).alloc (.cells #[.bool false] 4)) (w.heap.size + 1) 4 (.bool false) := by
    simpa using Boxed.new (w.alloc (.cells (gcells n m ls) 60)) 4 (.bool false)
  have F2 : Below w.heap.size w ((w.alloc (.cells (gcells n m ls) 60)).alloc (.cells #[.bool false] 4)) := ((Below.refl _ w).alloc (Nat.le_refl _) _).alloc (by simp) _
  have F3 : ((w.alloc (.cells (gcells n m ls) 60)).alloc (.cells #[.bool false] 4)).heap.size = w.heap.size + 2 := by simp
  have H1 := hid F1
  have H2 := hid F2
  have H3 := hid F3
  clear F1 F2 F3
  refine callsIn_of_wp_marks Try.func102 rfl trivial ?_ rfl
  simp only [Try.ntmps102, List.size_toArray, List.length_cons, List.length_nil, Nat.reduceAdd, Nat.reduceSub, Array.replicate_succ, Array.replicate_zero, List.push_toArray, List.append_toArray, List.nil_append, List.cons_append]
  gi_wp2_with (refine wpListIn_load_row (Open.wide _) rfl 60 _ rfl w.heap.size rfl 60 (gcells n m ls) (0, 0) _ H0.out Try.underlying60 rfl HG.out ?_)
  generalize World.alloc _ _ = W0 at H0 H1 H2 H3
  refine ⟨trivial, callsIn_wide.2 ((cells_any (gcells n m ls) W0).mono ?_)⟩
  rintro e w1 ⟨rfl, hw1⟩
  have K1 := hid (show Boxed w1 (w.heap.size + 1) 4 (.bool false) by rw [hw1]; exact H1.out.alloc _)
  have K3 := hid (show w1.heap[W0.heap.size]? = some (.cells (gcells n m ls) 60 (0, 0)) by rw [hw1]; exact heap_new0 W0 _)
  have KB := hid (show Below w.heap.size w w1 by rw [hw1]; exact H2.out.alloc H2.out.size _)
  have KS := hid (show w1.heap.size = w.heap.size + 3 by rw [hw1, World.size_alloc, H3.out])
  have KW := hid H3.out
  have hnm : n * m ≤ 5 * 5 := Nat.mul_le_mul hn5 hm5
  clear hw1
  gi_wp2
  refine wpIn_rangeFunc_ownH rfl (by omega) (gf := 150) (lb := #[.pointer (some ⟨W0.heap.size, 0, none⟩)]) rfl trivial (enters_of Try.func150 (by kernel_rfl) rfl)
    (cells_stops 2 W0.heap.size n m (n * m) rfl ls hl hn5 hm hm5 w1 K3.out) KeepsAt.trans (keepsAt_b (lt_of_block K3.out)) (Below.refl _ _) (fun _ => rfl)
    (fun pre W => (Boxed W (w.heap.size + 1) 4 (.bool false) ∧ Below w.heap.size w1 W) ∧ mirr ls pre = pre.length)
    (fun c pre W => (Boxed W (w.heap.size + 1) 4 (.bool false) ∧ Below w.heap.size w1 W) ∧ c = .ret ∧ mirr ls pre < pre.length)
    (OwnFrom.and (OwnFrom.and (Own.from (boxed_own _ _ (fun _ => .bool false)) _) (ownFrom_below (by rw [KS.out]; omega) (by rw [KS.out]; omega))) (ownFrom_pure _ _))
    (fun c => OwnFrom.and (OwnFrom.and (Own.from (boxed_own _ _ (fun _ => .bool false)) _) (ownFrom_below (by rw [KS.out]; omega) (by rw [KS.out]; omega))) (ownFrom_pure _ _))
    ⟨⟨K1.out, Below.refl _ _⟩, rfl⟩
    (fun x a' _ => ∃ u0 u1 u3 u5 u6 u7 u8 u9 u10 : Value,
      a' = { tmps := #[u0, u1, .pointer (some ⟨w.heap.size + 1, 0, none⟩), u3, .int .u8 ((ls.getD x.val 0).toNat : Int), u5, u6, u7, u8, u9, u10], defers := [] })
    (fun _ _ _ _ _ _ hs _ _ => hs)
    ?assign ?body ?done ?stop
  case assign =>
    rintro l pre x W K hi hK
    have J1 := hid hi
    have JK := hid hK
    clear hi hK
    unfold encs
    obtain ⟨bv, hbv⟩ : ∃ bv : Int, ((ls.getD x.val 0).toNat : Int) = bv := ⟨_, rfl⟩
    rw [hbv] at JK ⊢
    gi_wp2
    exact JK.out _ _ (KeepsFrom.refl _ _) ⟨Nat.le_refl _, rfl⟩ J1.out ⟨_, _, _, _, _, _, _, _, _, rfl⟩
  case body =>
    rintro l pre x a' W hlw ⟨r, hr⟩ ⟨⟨i1, i2⟩, i3⟩ ⟨u0, u1, u3, u5, u6, u7, u8, u9, u10, rfl⟩ hlt
    have hcell := i1.cell
    have hfr := i1.frozen
    have hsn := mirr_snoc ls pre x
    have hne := byte_beq46 (ls.getD x.val 0)
    obtain ⟨bb, hbb⟩ : ∃ bb : UInt8, ls.getD x.val 0 = bb := ⟨_, rfl⟩
    rw [hbb] at hne hsn ⊢
    obtain ⟨bv, hbv⟩ : ∃ bv : Int, (bb.toNat : Int) = bv := ⟨_, rfl⟩
    rw [hbv] at hne ⊢
    have I1 := hid i1
    have I2 := hid i2
    have I3 := hid i3
    have HS := hid hsn
    clear i1 i2 i3 hsn hlt hbv hbb hr hl
    cases hb : (bb == 46) with
    | true =>
      rw [hb] at hne
      have HB := hid hb
      clear hb
      gi_wp2
      refine ⟨(KeepsOthers.setCell _ _ _).from _, ⟨?_, I2.out.setCell (p := ⟨w.heap.size + 1, 0, none⟩) (by simp) _⟩, rfl, ?_⟩
      · exact I1.out.set _
      · have hx := HS.out
        rw [if_neg (by simp only [bne, HB.out]; decide), I3.out] at hx
        rw [hx]; simp
    | false =>
      rw [hb] at hne
      have HB := hid hb
      clear hb
      gi_wp2
      refine ⟨KeepsFrom.refl _ _, ⟨Nat.le_refl _, rfl⟩, ⟨I1.out, I2.out⟩, ?_⟩
      have hx := HS.out
      rw [if_pos (by simp only [bne, HB.out]; decide), I3.out] at hx
      rw [hx]; simp
  case done =>
    rintro D xs W hD rfl ⟨⟨i1, i2⟩, i3⟩ hK
    have hcell := i1.cell
    have hfr := i1.frozen
    have I1 := hid i1
    have J2 := hid i2
    have J3 := hid i3
    have JK := hid hK
    clear i1 i2 i3 hK
    gi_wp2
    have hne : D ≠ w.heap.size + 1 := by rw [KS.out] at hD; omega
    have hK' := (KeepsOthers.setCell W ⟨w.heap.size + 1, 0, none⟩ (.bool true)).same D _ JK.out rfl
    have hc2 := (cell_kept (I1.out.set (.bool true)).cell (grownBy_putObj' _ D (.deferred none)) (fun r e => by cases e; exact ⟨_, hK', rfl⟩))
    refine ⟨by simp, .inl ⟨_, _, rfl, run_takeDeferred hK', ?_⟩⟩
    refine ⟨.bool true, by simp [results, Try.results102, go_sem, hc2], ?_, ?_⟩
    · rw [J3.out, List.length_finRange]; simp
    · exact (KB.out.trans (J2.out.setCell (p := ⟨w.heap.size + 1, 0, none⟩) (by simp) _)).trans (belowK_b (w := w) (Nat.le_refl _) _ D _ _ (by rw [KS.out] at hD; omega) hK' rfl rfl)
  case stop =>
    rintro D c pre W hD ⟨k, hk, rfl⟩ ⟨⟨i1, i2⟩, rfl, i3⟩ hK
    have hcell := i1.cell
    have I1 := hid i1
    have J2 := hid i2
    have J3 := hid i3
    have JK := hid hK
    clear i1 i2 i3 hK
    gi_wp2
    have hc2 := (cell_kept I1.out.cell (grownBy_putObj' _ D (.deferred none)) (fun r e => by cases e; exact ⟨_, JK.out, rfl⟩))
    refine ⟨by simp, .inl ⟨_, _, rfl, run_takeDeferred JK.out, ?_⟩⟩
    refine ⟨.bool false, by simp [results, Try.results102, go_sem, hc2], ?_, ?_⟩
    · have := mirr_upto_lt ls hk J3.out
      have h' : (mirr ls (List.finRange (n * m)) == n * m) = false := by rw [beq_eq_false_iff_ne]; omega
      rw [h']
    · exact (KB.out.trans J2.out).trans (belowK_b (w := w) (Nat.le_refl _) _ D _ _ (by rw [KS.out] at hD; omega) JK.out rfl rfl)

end Go.Proofs.Ytcomaodpnhoeaaa
