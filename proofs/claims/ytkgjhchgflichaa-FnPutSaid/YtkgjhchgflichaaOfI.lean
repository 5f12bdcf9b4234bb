/- numberedGrid and GridOf of the program, by their contracts. -/
import Derived.Test.YtkgjhchgflichaaOfM
import Derived.Test.YtkgjhchgflichaaBunC
namespace Go.Proofs.Ytkgjhchgflichaa
open Go.RowKit Go.Shelf
attribute [local go_sem] Oper.semAt_some

def NumEnd (a b x : Int) (w : World) (e : Ending) (w' : World) : Prop :=
  Below w.heap.size w w' ∧ ((∃ n m k, OfIn a b x n m k ∧ e = .returned (.tuple #[.agg (gcells n m (pad (ofL k (n * m)))), .bool true])) ∨ (OfNone a b x ∧ e = .returned (.tuple #[.agg zeroG, .bool false])))

def NumRelI (n m k N : Nat) (w : World) (x i : Value) (wr : World) : Prop :=
  ∃ c : Nat, c ≤ N ∧ i = .int .i64 c ∧ x = .int .i64 ((k / 3 ^ c : Nat) : Int) ∧ wr.heap[w.heap.size]? = some (.cells zeroG 57 (0, 0)) ∧ wr.heap[w.heap.size + 1]? = some (.cells (gcells n m (pad (ofL k c))) 57 (0, 0)) ∧ Below w.heap.size w wr

set_option maxRecDepth 100000 in
set_option maxHeartbeats 2000000 in
theorem numberedGrid_any (a b x : Int) (w : World) (hx : x ≤ 9223372036854775807) :
    Calls Try.prog 89 #[.int .i64 a, .int .i64 b, .int .i64 x] w (NumEnd a b x w) := by
  have g1 := hid (sideIn_any a)
  have g2 := hid (sideIn_any b)
  refine (callsIn_wide (n := 3)).1 ?_
  refine callsIn_of_wp Try.func89 rfl trivial ?_ rfl
  simp only [Try.ntmps89, List.size_toArray, List.length_cons, List.length_nil, Nat.reduceAdd, Nat.reduceSub, Array.replicate_succ, Array.replicate_zero, List.push_toArray, List.append_toArray, List.nil_append, List.cons_append]
  gi_wp2_with fail
  refine ⟨trivial, callsIn_wide.2 ((g1.out _).mono ?_)⟩
  rintro e w' ⟨rfl, rfl⟩
  by_cases ha : 1 ≤ a ∧ a ≤ 5
  · rw [show decide (1 ≤ a ∧ a ≤ 5) = true by simpa using ha]
    have HA := hid ha
    clear ha
    gi_wp2_with fail
    refine ⟨trivial, callsIn_wide.2 ((g2.out _).mono ?_)⟩
    rintro e w' ⟨rfl, rfl⟩
    by_cases hb : 1 ≤ b ∧ b ≤ 5
    · rw [show decide (1 ≤ b ∧ b ≤ 5) = true by simpa using hb]
      have HB := hid hb
      clear hb
      by_cases hx0 : x < 0
      · have HNo := hid (show OfNone a b x from fun n m k h => by have h3 := h.2.2.1; omega)
        gi_wp2_with (refine wpListIn_store_row (Open.wide _) rfl 57 _ _ rfl w.heap.size zeroG rfl rfl 57 zeroG (heap_new0 w _) Try.size_grid rfl (gcells_one 0 0 (pad [])) ?_)
        refine bodyPost_ret (results_row_tmp Try.results89 _ w.heap.size 57 zeroG (0, 0) _ (by rfl) (setRow_heap _ _ _ _ _ _ (heap_new0 w _)) Try.underlying57 rfl Try.size_grid) rfl ?_
        exact ⟨below_setRow' ((Below.refl _ w).alloc (Nat.le_refl _) _) (Nat.le_refl _) _, .inr ⟨HNo.out, rfl⟩⟩
      · obtain ⟨n, rfl⟩ : ∃ n : Nat, a = n := ⟨a.toNat, by have := HA.out.1; omega⟩
        obtain ⟨m, rfl⟩ : ∃ m : Nat, b = m := ⟨b.toNat, by have := HB.out.1; omega⟩
        obtain ⟨k, rfl⟩ : ∃ k : Nat, x = k := ⟨x.toNat, by omega⟩
        have hn1 : 1 ≤ n := by have := HA.out.1; omega
        have hn5 : n ≤ 5 := by have := HA.out.2; omega
        have hm1 : 1 ≤ m := by have := HB.out.1; omega
        have hm5 : m ≤ 5 := by have := HB.out.2; omega
        have hk0 : decide ((k : Int) < 0) = false := by simp
        obtain ⟨N, hN⟩ : ∃ N, n * m = N := ⟨_, rfl⟩
        have hN25 : N ≤ 5 * 5 := by rw [← hN]; exact Nat.mul_le_mul hn5 hm5
        have HN := hid hN
        have hpl : ∀ c, c ≤ 25 → (pad (ofL k c)).length = 25 := fun c hc => pad_length (by rw [ofL_length]; exact hc)
        have HPL := hid hpl
        have HG := hid (show ∀ c, c ≤ 25 → (Try.prog.info? 57).map (·.size) = some (gcells n m (pad (ofL k c))).size from fun c hc => by rw [gcells_size (hpl c hc)]; exact Try.size_grid)
        have HSz := hid (size_any n m (pad (ofL k 0)))
        clear hpl hN
        gi_wp2_with (first
          | refine wpListIn_store_row (Open.wide _) rfl 57 _ _ rfl (w.heap.size + 1) (gcells n m (pad (ofL k 0))) rfl rfl 57 zeroG (by simpa using heap_new0 (w.alloc _) _) (HG.out 0 (by omega)) (by rw [gcells_size (HPL.out 0 (by omega))]; rfl) (gcells_one _ _ _) ?_
          | refine wpListIn_load_row (Open.wide _) rfl 57 _ rfl (w.heap.size + 1) rfl 57 (gcells n m (pad (ofL k 0))) (0, 0) _ (setRow_heap _ _ zeroG _ _ _ (by simpa using heap_new0 (w.alloc _) _)) Try.underlying57 rfl (HG.out 0 (by omega)) ?_)
        have HW := hid (show Below w.heap.size w (((w.alloc (.cells zeroG 57)).alloc (.cells zeroG 57)).setRow (w.heap.size + 1) (gcells n m (pad (ofL k 0)))) from
          below_setRow' (((Below.refl _ w).alloc (Nat.le_refl _) _).alloc (by simp) _) (by omega) _)
        have HZ := hid (show (((w.alloc (.cells zeroG 57)).alloc (.cells zeroG 57)).setRow (w.heap.size + 1) (gcells n m (pad (ofL k 0)))).heap[w.heap.size]? = some (.cells zeroG 57 (0, 0)) by
          rw [setRow_other _ _ _ _ (by omega)]; exact heap_new1 w _ _)
        have HR := hid (show (((w.alloc (.cells zeroG 57)).alloc (.cells zeroG 57)).setRow (w.heap.size + 1) (gcells n m (pad (ofL k 0)))).heap[w.heap.size + 1]? = some (.cells (gcells n m (pad (ofL k 0))) 57 (0, 0)) from
          setRow_heap _ _ zeroG _ _ _ (by simpa using heap_new0 (w.alloc _) _))
        generalize World.setRow _ _ _ = W0 at HW HZ HR
        refine ⟨trivial, callsIn_wide.2 ((HSz.out W0 hn5 hm5).mono ?_)⟩
        rintro e w1 ⟨rfl, hb1⟩
        have HB1 := hid (HW.out.trans (hb1.mono HW.out.size))
        have HZ1 := hid ((hb1.block _ (lt_of_block HZ.out)).trans HZ.out)
        have HR1 := hid ((hb1.block _ (lt_of_block HR.out)).trans HR.out)
        have hNi : ((n * m : Nat) : Int) = (N : Int) := by rw [HN.out]
        rw [hNi]
        clear hb1 hNi
        gi_wp2
        gi_loopw [2, 29] (NumRelI n m k N w) (fun _ i _ => N - (intOf i).toNat)
        case atStart => exact ⟨0, Nat.zero_le _, rfl, by simp, HZ1.out, HR1.out, HB1.out⟩
        case round =>
          obtain ⟨c, hc, rfl, rfl, hz, hr, hbel⟩ := hrel
          have HZ2 := hid hz
          have HR2 := hid hr
          have HB2 := hid hbel
          clear hz hr hbel
          obtain ⟨kc, hkc⟩ : ∃ kc, k / 3 ^ c = kc := ⟨_, rfl⟩
          have hkk : kc ≤ k := by rw [← hkc]; exact Nat.div_le_self _ _
          have HK := hid hkc
          rw [hkc]
          clear hkc
          by_cases hlt : c < N
          · have hc25 : c < 25 := by omega
            have hci : (c : Int) < 25 := by omega
            have hci0 : 0 ≤ (c : Int) := by omega
            obtain ⟨dd, hdd⟩ : ∃ dd, kc % 3 = dd := ⟨_, rfl⟩
            have hd3 : dd = 0 ∨ dd = 1 ∨ dd = 2 := by omega
            have hdi : (kc : Int) % 3 = (dd : Int) := by omega
            have hdi' : (kc : Int).tmod 3 = (dd : Int) := by rw [Int.tmod_eq_emod_of_nonneg (by omega)]; exact hdi
            have HDD := hid hdd
            have HD3 := hid hd3
            clear hdd hd3
            have hq5 : c / m < 5 := by
              have : c / m < n := by rw [Nat.div_lt_iff_lt_mul (by omega), HN.out]; exact hlt
              omega
            have hdm : c / m * m + c % m = c := by rw [Nat.mul_comm]; exact Nat.div_add_mod c m
            obtain ⟨qn, hqn⟩ : ∃ qn, c / m = qn := ⟨_, rfl⟩
            obtain ⟨rn, hrn⟩ : ∃ rn, c % m = rn := ⟨_, rfl⟩
            rw [hqn, hrn] at hdm
            rw [hqn] at hq5
            have hde : (qn : Int) * (m : Int) + (rn : Int) = (c : Int) := by rw [← hdm, Int.natCast_add, Int.natCast_mul]
            have hpl : ∀ w', Cls wr w' → Calls Try.prog 85 #[.agg (gcells n m (pad (ofL k c))), .int .i64 c] w' fun e w'' => e = .returned (.agg #[.int .i64 (qn : Int), .int .i64 (rn : Int)]) ∧ Cls wr w'' := fun w' hw => by
              have h := place_any n m c (pad (ofL k c)) w' hm1 hm5 hc25
              rw [hqn, hrn] at h
              exact h.mono fun e w'' ⟨he, hb'⟩ => ⟨he, hw.trans (hb'.mono hw.size)⟩
            have hwi : ∀ w', Cls wr w' → Calls Try.prog 84 #[.agg (gcells n m (pad (ofL k c))), .agg #[.int .i64 (qn : Int), .int .i64 (rn : Int)], .int .u8 (letD dd).toNat] w' fun e w'' => e = .returned (.agg (gcells n m (pad (ofL k (c + 1))))) ∧ Cls wr w'' := fun w' hw => by
              have h := with_any n m (pad (ofL k c)) qn rn c (letD dd) w' (HPL.out c (by omega)) hc25 hde ⟨by omega, by omega⟩ hm5
              have e := pad_ofL k c hc25
              rw [HK.out, HDD.out] at e
              rw [e] at h
              exact h.mono fun e w'' ⟨he, hb'⟩ => ⟨he, hw.trans (hb'.mono hw.size)⟩
            have hrow : ∀ w', Cls wr w' → w'.heap[w.heap.size + 1]? = some (.cells (gcells n m (pad (ofL k c))) 57 (0, 0)) := fun w' hw => (hw.block _ (lt_of_block HR2.out)).trans HR2.out
            have HPC := hid hpl
            have HWI := hid hwi
            have HRW := hid hrow
            have hkd : kc / 3 ≤ k := Nat.le_trans (Nat.div_le_self _ _) hkk
            obtain ⟨kd, hkdd⟩ : ∃ kd, kc / 3 = kd := ⟨_, rfl⟩
            have hki : (kc : Int) / 3 = (kd : Int) := by omega
            have hki' : (kc : Int).tdiv 3 = (kd : Int) := by rw [Int.tdiv_eq_ediv_of_nonneg (by omega)]; exact hki
            have HKD := hid (show k / 3 ^ (c + 1) = kd by rw [div_pow, HK.out, hkdd])
            clear hqn hrn hdm hde hpl hwi hrow hkdd hkd
            gi_wp2
            refine wpIn_region_quiet_tail (Open.wide _) 9 (Cls wr) (by kernel_rfl) (by kernel_rfl) (Below.refl _ wr).drew ?_
            simp only [List.take_succ_cons, List.take_zero, List.drop_succ_cons, List.drop_zero]
            refine wpQuiet_load_row rfl 57 _ rfl (w.heap.size + 1) rfl 57 _ (0, 0) _ HRW.out Try.underlying57 rfl (HG.out c (by omega)) ?_
            refine wpQuiet_load_row rfl 57 _ rfl (w.heap.size + 1) rfl 57 _ (0, 0) _ HRW.out Try.underlying57 rfl (HG.out c (by omega)) ?_
            quiet_step ((intro _; rfl))
            refine wpQuiet_call rfl 85 #[.agg (gcells n m (pad (ofL k c))), .int .i64 c] (.agg #[.int .i64 (qn : Int), .int .i64 (rn : Int)]) (fun w _ => by go_simp) HPC.out ?_
            quiet_step ((intro _; rfl))
            quiet_step ((intro _; rfl))
            refine wpQuiet_value rfl (.int .i64 (dd : Int)) (fun w _ => by go_simp) ?_
            refine wpQuiet_value rfl (.int .u8 (letD dd).toNat) (fun w _ => by
              rcases HD3.out with rfl | rfl | rfl <;> go_simp <;> rfl) ?_
            refine wpQuiet_call rfl 84 #[.agg (gcells n m (pad (ofL k c))), .agg #[.int .i64 (qn : Int), .int .i64 (rn : Int)], .int .u8 (letD dd).toNat] (.agg (gcells n m (pad (ofL k (c + 1))))) (fun w _ => by go_simp) HWI.out ?_
            refine wpQuiet_nil ?_
            intro w2 hw2
            have HZ3 := hid ((hw2.block _ (lt_of_block HZ2.out)).trans HZ2.out)
            have HR3 := hid (HRW.out w2 hw2)
            have HB3 := hid (HB2.out.trans (hw2.mono HB2.out.size))
            clear hw2
            gi_wp2_with (refine wpListIn_store_row (Open.wide _) rfl 57 _ _ rfl (w.heap.size + 1) (gcells n m (pad (ofL k (c + 1)))) rfl rfl 57 (gcells n m (pad (ofL k c))) HR3.out (HG.out (c + 1) (by omega)) (by rw [gcells_size (HPL.out c (by omega)), gcells_size (HPL.out (c + 1) (by omega))]) (gcells_one _ _ _) ?_)
            go_roundw
            case rel =>
              refine ⟨c + 1, by omega, by go_num, by rw [HKD.out], ?_, setRow_heap _ _ _ _ _ _ HR3.out, below_setRow' HB3.out (by omega) _⟩
              rw [setRow_other _ _ _ _ (by omega)]; exact HZ3.out
            case measure => simp [intOf]; omega
          · obtain rfl : c = N := by omega
            by_cases hkz : 0 < kc
            · have HNo := hid (show OfNone n m k from fun n' m' k' h => by
                obtain ⟨h1, h2, h3, _, _, _, _, h8⟩ := h
                obtain rfl : n' = n := by omega
                obtain rfl : m' = m := by omega
                obtain rfl : k' = k := by omega
                rw [HN.out] at h8
                have := HK.out
                rw [Nat.div_eq_of_lt h8] at this
                omega)
              gi_wp2_with (refine wpListIn_store_row (Open.wide _) rfl 57 _ _ rfl w.heap.size zeroG rfl rfl 57 zeroG HZ2.out Try.size_grid rfl (gcells_one 0 0 (pad [])) ?_)
              refine bodyPost_ret (results_row_tmp Try.results89 _ w.heap.size 57 zeroG (0, 0) _ (by rfl) (setRow_heap _ _ _ _ _ _ HZ2.out) Try.underlying57 rfl Try.size_grid) rfl ?_
              exact ⟨below_setRow' HB2.out (Nat.le_refl _) _, .inr ⟨HNo.out, rfl⟩⟩
            · obtain rfl : kc = 0 := by omega
              have hlt3 : k < 3 ^ (n * m) := by
                rw [HN.out]
                have h0 := HK.out
                have hp : 0 < 3 ^ c := Nat.pow_pos (by omega)
                exact (Nat.div_eq_zero_iff_lt hp).1 h0
              have HYes := hid (show OfIn n m k n m k from ⟨rfl, rfl, rfl, hn1, hn5, hm1, hm5, hlt3⟩)
              clear hlt3
              gi_wp2_with (first
                | refine wpListIn_load_row (Open.wide _) rfl 57 _ rfl (w.heap.size + 1) rfl 57 _ (0, 0) _ HR2.out Try.underlying57 rfl (HG.out _ (by omega)) ?_
                | refine wpListIn_store_row (Open.wide _) rfl 57 _ _ rfl w.heap.size (gcells n m (pad (ofL k c))) rfl rfl 57 zeroG HZ2.out (HG.out _ (by omega)) (by rw [gcells_size (HPL.out _ (by omega))]; rfl) (gcells_one _ _ _) ?_)
              refine bodyPost_ret (results_row_tmp Try.results89 _ w.heap.size 57 _ (0, 0) _ (by rfl) (setRow_heap _ _ _ _ _ _ HZ2.out) Try.underlying57 rfl (HG.out _ (by omega))) rfl ?_
              exact ⟨below_setRow' HB2.out (Nat.le_refl _) _, .inl ⟨n, m, k, HYes.out, by rw [HN.out]; rfl⟩⟩
    · rw [show decide (1 ≤ b ∧ b ≤ 5) = false by simpa using hb]
      have HNo := hid (show OfNone a b x from fun n m k h => by have := h.2.1; have := h.2.2.2.2.2.1; have := h.2.2.2.2.2.2.1; omega)
      clear hb
      gi_wp2_with (refine wpListIn_store_row (Open.wide _) rfl 57 _ _ rfl w.heap.size zeroG rfl rfl 57 zeroG (heap_new0 w _) Try.size_grid rfl (gcells_one 0 0 (pad [])) ?_)
      refine bodyPost_ret (results_row_tmp Try.results89 _ w.heap.size 57 zeroG (0, 0) _ (by rfl) (setRow_heap _ _ _ _ _ _ (heap_new0 w _)) Try.underlying57 rfl Try.size_grid) rfl ?_
      exact ⟨below_setRow' ((Below.refl _ w).alloc (Nat.le_refl _) _) (Nat.le_refl _) _, .inr ⟨HNo.out, rfl⟩⟩
  · rw [show decide (1 ≤ a ∧ a ≤ 5) = false by simpa using ha]
    have HNo := hid (show OfNone a b x from fun n m k h => by have := h.1; have := h.2.2.2.1; have := h.2.2.2.2.1; omega)
    clear ha
    gi_wp2_with fail
    refine ⟨trivial, ?_⟩
    gi_wp2_with (refine wpListIn_store_row (Open.wide _) rfl 57 _ _ rfl w.heap.size zeroG rfl rfl 57 zeroG (heap_new0 w _) Try.size_grid rfl (gcells_one 0 0 (pad [])) ?_)
    refine bodyPost_ret (results_row_tmp Try.results89 _ w.heap.size 57 zeroG (0, 0) _ (by rfl) (setRow_heap _ _ _ _ _ _ (heap_new0 w _)) Try.underlying57 rfl Try.size_grid) rfl ?_
    exact ⟨below_setRow' ((Below.refl _ w).alloc (Nat.le_refl _) _) (Nat.le_refl _) _, .inr ⟨HNo.out, rfl⟩⟩

end Go.Proofs.Ytkgjhchgflichaa
