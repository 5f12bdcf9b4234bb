/- The grid turned, by its contract. -/
import Derived.Test.YtmdgbcepjnfbnaaIter
namespace Go.Proofs.Ytmdgbcepjnfbnaa
open Go.RowKit Go.Shelf
attribute [local go_sem] Oper.semAt_some

/-- The other letter. -/
def oth (b : UInt8) : UInt8 := if b = 114 then 102 else if b = 102 then 114 else b

set_option maxHeartbeats 400000 in
theorem exchanged_any (b : UInt8) (w : World) :
    Calls Try.prog 107 #[.int .u8 b.toNat] w fun e w' => e = .returned (.int .u8 (oth b).toNat) ∧ w = w' := by
  by_cases h1 : b = 114
  · subst h1
    change Calls Try.prog 107 #[.int .u8 114] w fun e w' => e = .returned (.int .u8 102) ∧ w = w'
    go_enter Try.func107, Try.ntmps107
    go_wp2
    go_ret
    exact ⟨rfl, rfl⟩
  by_cases h2 : b = 102
  · subst h2
    change Calls Try.prog 107 #[.int .u8 102] w fun e w' => e = .returned (.int .u8 114) ∧ w = w'
    go_enter Try.func107, Try.ntmps107
    go_wp2
    go_ret
    exact ⟨rfl, rfl⟩
  have e : oth b = b := by unfold oth; rw [if_neg h1, if_neg h2]
  have e1 : ((b.toNat : Int) == 114) = false := by
    rw [beq_eq_false_iff_ne]; intro e; exact h1 (UInt8.toNat_inj.1 (by have : (114 : UInt8).toNat = 114 := rfl; omega))
  have e2 : ((b.toNat : Int) == 102) = false := by
    rw [beq_eq_false_iff_ne]; intro e; exact h2 (UInt8.toNat_inj.1 (by have : (102 : UInt8).toNat = 102 := rfl; omega))
  rw [e]
  clear e h1 h2
  generalize (b.toNat : Int) = x at e1 e2
  go_enter Try.func107, Try.ntmps107
  go_wp2
  go_ret
  exact ⟨rfl, rfl⟩

/-- The letters of the grid turned. -/
def turnPos (n m k : Nat) : Nat := (k % m) * n + (n - 1 - k / m)
def turnVal (ls : List UInt8) (k : Nat) : UInt8 := oth (ls.getD k 0)

set_option maxRecDepth 100000 in
set_option maxHeartbeats 2000000 in
theorem turned_any (n m : Nat) (ls : List UInt8) (w : World) (hl : ls.length = 25) (hn : 1 ≤ n) (hn5 : n ≤ 5) (hm : 1 ≤ m) (hm5 : m ≤ 5) :
    Calls Try.prog 61 #[.agg (gcells n m ls)] w fun e w' => e = .returned (.agg (gcells m n (putAll (turnPos n m) (turnVal ls) (List.finRange (n * m)) (pad [])))) ∧ Below w.heap.size w w' := by
  refine (callsIn_wide (n := 3)).1 ?_
  have HG := hid (show (Try.prog.info? 57).map (·.size) = some (gcells n m ls).size by rw [gcells_size hl]; exact Try.size_grid)
  have HT := hid (show (Try.prog.info? 57).map (·.size) = some (gcells m n (pad [])).size by rw [gcells_size (by rfl)]; exact Try.size_grid)
  have g0 := gcells_0 n m ls
  have g1 := gcells_1 n m ls
  have F0 : ((((w.alloc (.cells (gcells n m ls) 57)).alloc (.cells zeroG 57)).alloc (.cells zeroG 57)).setRow (w.heap.size + 1 + 1) (gcells m n (pad []))).heap[w.heap.size]? = some (.cells (gcells n m ls) 57 (0, 0)) := by
    rw [setRow_other _ _ _ _ (by omega)]; exact heap_new2 w _ _ _
  have F1 : ((((w.alloc (.cells (gcells n m ls) 57)).alloc (.cells zeroG 57)).alloc (.cells zeroG 57)).setRow (w.heap.size + 1 + 1) (gcells m n (pad []))).heap[w.heap.size + 1]? = some (.cells zeroG 57 (0, 0)) := by
    rw [setRow_other _ _ _ _ (by omega)]; simpa using heap_new1 (w.alloc _) _ _
  have F2 : ((((w.alloc (.cells (gcells n m ls) 57)).alloc (.cells zeroG 57)).alloc (.cells zeroG 57)).setRow (w.heap.size + 1 + 1) (gcells m n (pad []))).heap[w.heap.size + 1 + 1]? = some (.cells (gcells m n (pad [])) 57 (0, 0)) :=
    setRow_heap _ _ zeroG _ _ _ (by simpa using heap_new0 ((w.alloc _).alloc _) _)
  have F3 : Below w.heap.size w ((((w.alloc (.cells (gcells n m ls) 57)).alloc (.cells zeroG 57)).alloc (.cells zeroG 57)).setRow (w.heap.size + 1 + 1) (gcells m n (pad []))) :=
    below_setRow' ((((Below.refl _ w).alloc (Nat.le_refl _) _).alloc (by simp) _).alloc (by simp; omega) _) (by omega) _
  have F4 : ((((w.alloc (.cells (gcells n m ls) 57)).alloc (.cells zeroG 57)).alloc (.cells zeroG 57)).setRow (w.heap.size + 1 + 1) (gcells m n (pad []))).heap.size = w.heap.size + 3 := by simp
  have H0 := hid F0
  have H1 := hid F1
  have H2 := hid F2
  have H3 := hid F3
  have H4 := hid F4
  clear F0 F1 F2 F3 F4
  refine callsIn_of_wp_marks Try.func61 rfl trivial ?_ rfl
  simp only [Try.ntmps61, List.size_toArray, List.length_cons, List.length_nil, Nat.reduceAdd, Nat.reduceSub, Array.replicate_succ, Array.replicate_zero, List.push_toArray, List.append_toArray, List.nil_append, List.cons_append]
  gi_wp2_with (first
    | refine wpListIn_store_row (Open.wide _) rfl 57 _ _ rfl (w.heap.size + 1 + 1) (gcells m n (pad [])) rfl rfl 57 zeroG (by simpa using heap_new0 ((w.alloc _).alloc _) _) HT.out (gcells_size (by rfl)).symm (gcells_one _ _ _) ?_
    | refine wpListIn_load_row (Open.wide _) rfl 57 _ rfl w.heap.size rfl 57 (gcells n m ls) (0, 0) _ H0.out Try.underlying57 rfl HG.out ?_)
  generalize World.setRow _ _ _ = W0 at H0 H1 H2 H3 H4
  refine ⟨trivial, callsIn_wide.2 ((cells_any (gcells n m ls) W0).mono ?_)⟩
  rintro e w1 ⟨rfl, hw1⟩
  have K0 := hid (show w1.heap[w.heap.size]? = some (.cells (gcells n m ls) 57 (0, 0)) by rw [hw1]; exact (Below.heap_alloc _ _ _ (lt_of_block H0.out)).trans H0.out)
  have K1 := hid (show w1.heap[w.heap.size + 1]? = some (.cells zeroG 57 (0, 0)) by rw [hw1]; exact (Below.heap_alloc _ _ _ (lt_of_block H1.out)).trans H1.out)
  have K2 := hid (show w1.heap[w.heap.size + 1 + 1]? = some (.cells (gcells m n (pad [])) 57 (0, 0)) by rw [hw1]; exact (Below.heap_alloc _ _ _ (lt_of_block H2.out)).trans H2.out)
  have K3 := hid (show w1.heap[W0.heap.size]? = some (.cells (gcells n m ls) 57 (0, 0)) by rw [hw1]; exact heap_new0 W0 _)
  have KB := hid (show Below w.heap.size w w1 by rw [hw1]; exact H3.out.alloc H3.out.size _)
  have KS := hid (show w1.heap.size = w.heap.size + 4 by rw [hw1, World.size_alloc, H4.out])
  have KW := hid H4.out
  clear hw1
  gi_wp2
  have hlen : ∀ pre : List (Fin (n * m)), (putAll (turnPos n m) (turnVal ls) pre (pad [])).length = 25 := fun pre => by rw [putAll_length]; rfl
  have HLEN := hid hlen
  clear hlen
  refine wpIn_rangeFunc_ownH rfl (by omega) (gf := 132) (lb := #[.pointer (some ⟨W0.heap.size, 0, none⟩)]) rfl trivial (enters_of Try.func132 (by kernel_rfl) rfl)
    (cells_stops 2 W0.heap.size n m (n * m) rfl ls hl hn5 hm hm5 w1 K3.out) KeepsAt.trans (keepsAt_b (lt_of_block K3.out)) (Below.refl _ _) (fun _ => rfl)
    (fun pre W => ((W.heap[w.heap.size]? = some (.cells (gcells n m ls) 57 (0, 0)) ∧ W.heap[w.heap.size + 1]? = some (.cells zeroG 57 (0, 0))) ∧ W.heap[w.heap.size + 1 + 1]? = some (.cells (gcells m n (putAll (turnPos n m) (turnVal ls) pre (pad []))) 57 (0, 0))) ∧ Below w.heap.size w1 W)
    (fun _ _ _ => False)
    (OwnFrom.and (OwnFrom.and (OwnFrom.and (ownFrom_heap _ _ (fun _ => _) (fun _ => rfl)) (ownFrom_heap _ _ (fun _ => _) (fun _ => rfl))) (ownFrom_heap _ _ (fun pre => .cells (gcells m n (putAll (turnPos n m) (turnVal ls) pre (pad []))) 57 (0, 0)) (fun _ => rfl))) (ownFrom_below (by rw [KS.out]; omega) (by rw [KS.out]; omega)))
    (fun _ _ _ _ _ hs _ _ => hs)
    ⟨⟨⟨K0.out, K1.out⟩, K2.out⟩, Below.refl _ _⟩
    (fun x a' W => ∃ Bx, w.heap.size + 4 ≤ Bx ∧ W.heap[Bx]? = some (.cells #[.int .i64 ((x.val / m : Nat) : Int), .int .i64 ((x.val % m : Nat) : Int)] 75 (0, 0)) ∧ ∃ u0 u6 u7 u8 u9 u10 u11 u12 u13 u14 u15 u16 u17 u18 u19 u20 u21 u22 u23 u24 u25 u26 u27 u28 : Value,
      a' = { tmps := #[u0, .pointer (some ⟨w.heap.size, 0, none⟩), .pointer (some ⟨w.heap.size + 1, 0, none⟩), .pointer (some ⟨w.heap.size + 1 + 1, 0, none⟩), .pointer (some ⟨Bx, 0, none⟩), .int .u8 ((ls.getD x.val 0).toNat : Int), u6, u7, u8, u9, u10, u11, u12, u13, u14, u15, u16, u17, u18, u19, u20, u21, u22, u23, u24, u25, u26, u27, u28], defers := [] })
    (fun x a' _ X Y row hs hg hr => by
      obtain ⟨Bx, h1, h2, h3⟩ := hs
      exact ⟨Bx, h1, ownFrom_heap _ Bx (fun (_ : Unit) => Obj.cells #[.int .i64 ((x.val / m : Nat) : Int), .int .i64 ((x.val % m : Nat) : Int)] 75 (0, 0)) (fun _ => rfl) () X Y row h2 hg hr, h3⟩)
    ?assign ?body ?done ?stop
  case assign =>
    rintro l pre x W K ⟨⟨⟨i0, i1⟩, i2⟩, i3⟩ hK
    have J0 := hid i0
    have J1 := hid i1
    have J2 := hid i2
    have J3 := hid i3
    have JK := hid hK
    clear i0 i1 i2 i3 hK
    unfold encs
    obtain ⟨qv, hqv⟩ : ∃ qv : Int, ((x.val / m : Nat) : Int) = qv := ⟨_, rfl⟩
    obtain ⟨rv, hrv⟩ : ∃ rv : Int, ((x.val % m : Nat) : Int) = rv := ⟨_, rfl⟩
    obtain ⟨bv, hbv⟩ : ∃ bv : Int, ((ls.getD x.val 0).toNat : Int) = bv := ⟨_, rfl⟩
    rw [hqv, hrv, hbv] at JK ⊢
    gi_wp2
    have hsz : w.heap.size + 4 ≤ W.heap.size := by rw [← KS.out]; exact J3.out.size
    exact JK.out _ _ ((KeepsOthers.alloc _ _).from _) ⟨by simp, Below.heap_alloc _ _ _ (by rw [KW.out]; omega)⟩
      ⟨⟨⟨(Below.heap_alloc _ _ _ (by omega)).trans J0.out, (Below.heap_alloc _ _ _ (by omega)).trans J1.out⟩, (Below.heap_alloc _ _ _ (by omega)).trans J2.out⟩, J3.out.alloc (by omega) _⟩
      ⟨W.heap.size, hsz, heap_new0 W _, _, _, _, _, _, _, _, _, _, _, _, _, _, _, _, _, _, _, _, _, _, _, _, _, rfl⟩
  case body =>
    rintro l pre x a' W hlw ⟨r, hr⟩ ⟨⟨⟨i0, i1⟩, i2⟩, i3⟩ ⟨Bx, hBx, hX, u0, u6, u7, u8, u9, u10, u11, u12, u13, u14, u15, u16, u17, u18, u19, u20, u21, u22, u23, u24, u25, u26, u27, u28, rfl⟩ hlt
    have hxk := x.isLt
    have hq5 : x.val / m < n := by rw [Nat.div_lt_iff_lt_mul (by omega)]; exact hxk
    have hr5 : x.val % m < m := Nat.mod_lt _ (by omega)
    have hmul : (x.val % m) * n ≤ (m - 1) * n := Nat.mul_le_mul_right _ (by omega)
    have hmul2 : m * n ≤ 5 * 5 := Nat.mul_le_mul hm5 hn5
    have hmul3 : (m - 1) * n + n = m * n := by rw [← Nat.succ_mul]; congr 1; omega
    have hsub : n - 1 - x.val / m ≤ n - 1 := Nat.sub_le _ _
    have hp : turnPos n m x.val < 25 := by
      unfold turnPos
      generalize n - 1 - x.val / m = Q at hsub
      omega
    obtain ⟨qv, hqv⟩ : ∃ qv : Int, ((x.val / m : Nat) : Int) = qv := ⟨_, rfl⟩
    obtain ⟨rv, hrv⟩ : ∃ rv : Int, ((x.val % m : Nat) : Int) = rv := ⟨_, rfl⟩
    have hpe : rv * (n : Int) + ((n : Int) - 1 - qv) = ((turnPos n m x.val : Nat) : Int) := by
      unfold turnPos
      rw [← hqv, ← hrv]
      have e : ((n - 1 - x.val / m : Nat) : Int) = (n : Int) - 1 - ((x.val / m : Nat) : Int) := by omega
      rw [Int.natCast_add, Int.natCast_mul, e]
    have b1 : 0 ≤ qv := by rw [← hqv]; exact Int.natCast_nonneg _
    have b2 : qv < (n : Int) := by rw [← hqv]; exact Int.ofNat_lt.2 hq5
    have b3 : 0 ≤ rv := by rw [← hrv]; exact Int.natCast_nonneg _
    have b4 : rv < (m : Int) := by rw [← hrv]; exact Int.ofNat_lt.2 hr5
    have hvl : (turnVal ls x.val) = oth (ls.getD x.val 0) := rfl
    obtain ⟨bb, hbb⟩ : ∃ bb : UInt8, ls.getD x.val 0 = bb := ⟨_, rfl⟩
    rw [hbb] at hvl ⊢
    rw [hqv, hrv] at hX
    have hex := hid (exchanged_any bb)
    have HVL := hid hvl
    have HPE := hid hpe
    have HP := hid hp
    clear hqv hrv hvl hpe hp hsub hmul hmul2 hmul3 hq5 hr5 hxk hbb hlt hl
    obtain ⟨wd, hwd⟩ : ∃ wd, W.drew = wd := ⟨_, rfl⟩
    have D0 := hid (show wd.heap[w.heap.size]? = some (.cells (gcells n m ls) 57 (0, 0)) by rw [← hwd]; exact i0)
    have D1 := hid (show wd.heap[w.heap.size + 1]? = some (.cells zeroG 57 (0, 0)) by rw [← hwd]; exact i1)
    have D2 := hid (show wd.heap[w.heap.size + 1 + 1]? = some (.cells (gcells m n (putAll (turnPos n m) (turnVal ls) pre (pad []))) 57 (0, 0)) by rw [← hwd]; exact i2)
    have D3 := hid (show Below w.heap.size w1 wd by rw [← hwd]; exact i3.drew)
    have DX : wd.heap[Bx]? = some (.cells #[.int .i64 qv, .int .i64 rv] 75 (0, 0)) := by rw [← hwd]; exact hX
    have DK := hid (show KeepsOthers W wd by rw [← hwd]; exact KeepsOthers.drew W)
    have DS := hid (show wd.heap.size = W.heap.size by rw [← hwd]; rfl)
    have DH := hid (show wd.heap = W.heap by rw [← hwd]; rfl)
    have c0 : wd.cell? ⟨Bx, 0, none⟩ = some (.int .i64 qv) := by rw [cell_of_row _ _ _ _ _ _ DX]; rfl
    have c1 : wd.cell? ⟨Bx, 1, none⟩ = some (.int .i64 rv) := by rw [cell_of_row _ _ _ _ _ _ DX]; rfl
    have c2 : wd.cell? ⟨w.heap.size, 0, none⟩ = some (.int .i64 n) := by rw [cell_of_row _ _ _ _ _ _ D0.out, gcells_0]
    have HWD := hid hwd
    have HTT := hid (show ∀ ks : List (Fin (n * m)), (Try.prog.info? 57).map (·.size) = some (gcells m n (putAll (turnPos n m) (turnVal ls) ks (pad []))).size from fun ks => by rw [gcells_size (HLEN.out ks)]; exact Try.size_grid)
    have HR := hid hr
    clear i0 i1 i2 i3 hX hwd DX hr g0 g1
    gi_wp2
    refine wpIn_region_quiet_tail (Open.round _ l) 12 (fun w' => w' = wd) (by kernel_rfl) (by kernel_rfl) HWD.out ?_
    simp only [List.take_succ_cons, List.take_zero, List.drop_succ_cons, List.drop_zero]
    refine wpQuiet_load_row rfl 57 _ rfl (w.heap.size + 1 + 1) rfl 57 _ (0, 0) _ (fun w' hw' => by rw [hw']; exact D2.out) Try.underlying57 rfl (HTT.out pre) ?_
    quiet_step (fail)
    quiet_step (fail)
    quiet_step (fail)
    quiet_step (fail)
    quiet_step (fail)
    quiet_step (fail)
    quiet_step (fail)
    quiet_step (fail)
    quiet_step (fail)
    quiet_step (fail)
    refine wpQuiet_call rfl 107 #[.int .u8 bb.toNat] (.int .u8 (oth bb).toNat) (fun w _ => by go_simp) (fun w' hw' => (hex.out w').mono fun e w'' ⟨he, hw''⟩ => ⟨he, hw''.symm.trans hw'⟩) ?_
    refine wpQuiet_nil ?_
    rintro w' rfl
    have hwith := hid ((with_any m n (putAll (turnPos n m) (turnVal ls) pre (pad [])) rv ((n : Int) - 1 - qv) (turnPos n m x.val) (oth bb) w' (HLEN.out pre) HP.out HPE.out ⟨b3, by omega⟩ hn5))
    gi_wp2_with fail
    refine ⟨trivial, CallsIn.inRound l (callsIn_wide.2 (hwith.out.mono ?_))⟩
    rintro e w2 ⟨rfl, hbel⟩
    have E0 := hid ((hbel.block _ (lt_of_block D0.out)).trans D0.out)
    have E1 := hid ((hbel.block _ (lt_of_block D1.out)).trans D1.out)
    have E2 := hid ((hbel.block _ (lt_of_block D2.out)).trans D2.out)
    have E3 := hid (D3.out.trans (hbel.mono (Nat.le_trans (by rw [KS.out]; omega) D3.out.size)))
    have EK := hid (DK.out.trans (keeps_below hbel))
    have EA := hid (show KeepsAt W0.heap.size W w2 from ⟨by rw [← DS.out]; exact hbel.size, by
      rw [hbel.block _ (by have := D3.out.size; rw [KS.out] at this; rw [KW.out]; omega), DH.out]⟩)
    clear hbel
    gi_wp2_with (refine wpListIn_store_row (Open.round _ l) rfl 57 _ _ rfl (w.heap.size + 1 + 1) (gcells m n ((putAll (turnPos n m) (turnVal ls) pre (pad [])).set (turnPos n m x.val) (oth bb))) rfl rfl 57 (gcells m n (putAll (turnPos n m) (turnVal ls) pre (pad []))) E2.out (by rw [gcells_size (by rw [List.length_set]; exact HLEN.out pre)]; exact Try.size_grid) (by rw [gcells_size (HLEN.out pre), gcells_size (by rw [List.length_set]; exact HLEN.out pre)]) (gcells_one _ _ _) ?_)
    refine ⟨(EK.out.trans (keeps_setRow _ _ _)).from _, EA.out.trans ⟨by simp, setRow_other _ _ _ _ (by rw [KW.out]; omega)⟩, ⟨⟨?_, ?_⟩, ?_⟩, ?_⟩
    · rw [setRow_other _ _ _ _ (by omega)]; exact E0.out
    · rw [setRow_other _ _ _ _ (by omega)]; exact E1.out
    · rw [putAll_snoc, HVL.out]; exact setRow_heap _ _ _ _ _ _ E2.out
    · exact below_setRow' E3.out (by omega) _
  case done =>
    rintro D xs W hD rfl ⟨⟨⟨i0, i1⟩, i2⟩, i3⟩ hK
    have J1 := hid i1
    have J2 := hid i2
    have J3 := hid i3
    have JK := hid hK
    clear i0 i1 i2 i3 hK
    gi_wp2_with (first
      | refine wpListIn_load_row (Open.wide _) rfl 57 _ rfl (w.heap.size + 1 + 1) rfl 57 _ (0, 0) _ J2.out Try.underlying57 rfl (by rw [gcells_size (HLEN.out _)]; exact Try.size_grid) ?_
      | refine wpListIn_store_row (Open.wide _) rfl 57 _ _ rfl (w.heap.size + 1) (gcells m n (putAll (turnPos n m) (turnVal ls) (List.finRange (n * m)) (pad []))) rfl rfl 57 zeroG J1.out (by rw [gcells_size (HLEN.out _)]; exact Try.size_grid) (by rw [gcells_size (HLEN.out _)]; rfl) (gcells_one _ _ _) ?_)
    have hne : w.heap.size + 1 ≠ D := by rw [KS.out] at hD; omega
    have hK' : (W.setRow (w.heap.size + 1) (gcells m n (putAll (turnPos n m) (turnVal ls) (List.finRange (n * m)) (pad [])))).heap[D]? = some (.deferred (some [])) := by
      rw [setRow_other _ _ _ _ (fun e => hne e.symm)]; exact JK.out
    refine ⟨by simp, .inl ⟨_, _, rfl, run_takeDeferred hK', ?_⟩⟩
    refine ⟨_, results_cell_row Try.results61 _ _ (w.heap.size + 1) 57 _ (0, 0) _ (by rfl) ((World.putObj_heap_other hne).trans (setRow_heap _ _ _ _ _ _ J1.out)) Try.underlying57 rfl (by rw [gcells_size (HLEN.out _)]; exact Try.size_grid), rfl, ?_⟩
    exact (KB.out.trans (below_setRow' J3.out (by omega) _)).trans (belowK_b (w := w) (Nat.le_refl _) _ D _ _ (by rw [KS.out] at hD; omega) hK' rfl rfl)
  case stop =>
    rintro D c pre W _ _ h _
    exact h.elim

end Go.Proofs.Ytmdgbcepjnfbnaa
