/- gridWithBeams of the program, by its contract. -/
import Derived.Test.YtpbppkidglmacaaMeetsM
import Derived.Test.YtpbppkidglmacaaBeamOf
import Derived.Test.YtpbppkidglmacaaSkips
import Derived.Test.YtpbppkidglmacaaPort
namespace Go.Proofs.Ytpbppkidglmacaa
open Go.RowKit Go.Shelf

/-- What gridWithBeams comes to. -/
def GBEnd (ss : List ByteArray) (p q : Int) (e : Ending) : Prop :=
  (∃ n m a b, MeetIn ss p q n m a b ∧ e = .returned (.tuple #[.agg (gcells n m (pad (flat ss))), .bool true])) ∨ ((∀ n m a b, ¬ MeetIn ss p q n m a b) ∧ e = .returned (.tuple #[.agg zeroG, .bool false]))

set_option maxRecDepth 100000 in
set_option maxHeartbeats 4000000 in
theorem gridWithBeams_any (A : Option Addr) (c : Nat) (ss : List ByteArray) (p q : Int) (w : World) (h : Strs w w.heap.size A ss) (hn : ss.length ≤ 1048576) (hs : ∀ s ∈ ss, s.size ≤ 1048576) :
    Calls Try.prog 71 #[.slice A ss.length c, .int .i64 p, .int .i64 q] w fun e w' => Below w.heap.size w w' ∧ GBEnd ss p q e := by
  have HR := hid (fun w' (hb : Below w.heap.size w w') => gridWithPort_any A c ss p w' ((h.below hb (Nat.le_refl _)).more hb.size) hn hs)
  clear h hs
  have H0 := hid (heap_new0 w (.cells zeroG 44))
  have HB0 := hid ((Below.refl w.heap.size w).alloc (Nat.le_refl _) (.cells zeroG 44))
  go_enter Try.func71, Try.ntmps71
  go_wp2_with fail
  generalize World.alloc w _ = Y0 at H0 HB0 ⊢
  refine (HR.out Y0 HB0.out).mono ?_
  rintro e w1 ⟨hbel, hcase⟩
  have I0 := hid ((hbel.block _ (lt_of_block H0.out)).trans H0.out)
  have IB := hid (HB0.out.trans (hbel.mono HB0.out.size))
  have IL := hid (show w.heap.size < w1.heap.size from lt_of_block I0.out)
  clear hbel
  rcases hcase with ⟨n, m, a, ha, rfl⟩ | ⟨hno, rfl⟩
  · have hg := ha.1
    obtain rfl := ha.2.1
    have HA := hid ha
    have hn1 := hg.2.1
    have hm1 := hg.2.2.2.1
    have hn5 := hg.2.2.1
    have hm5 := hg.2.2.2.2.1
    have HGr := hid hg
    have HGC := hid (show (gcells n m (pad (flat ss))).size = 27 from hg.csize)
    have HONE := hid (gcells_one n m (pad (flat ss)))
    have HHP := hid (fun w' => hasPort_any n m (pad (flat ss)) q w' hg.plen hn5 hm5)
    have HBO := hid (fun a' w' h => beam_any n m a' (pad (flat ss)) w' hg.plen hn1 hn5 hm1 hm5 h)
    have HS := hid (show (Try.prog.info? 44).map (·.size) = some (gcells n m (pad (flat ss))).size by rw [HGC.out]; exact Try.size_grid)
    have HZ := hid (show zeroG.size = (gcells n m (pad (flat ss))).size by rw [HGC.out]; rfl)
    have HOUT := hid (show ∀ b, MeetIn ss (a : Int) q n m a b → GBEnd ss (a : Int) q (.returned (.tuple #[.agg (gcells n m (pad (flat ss))), .bool true])) from fun b h => .inl ⟨n, m, a, b, h, rfl⟩)
    clear ha hg
    generalize gcells n m (pad (flat ss)) = cs at *
    have HL := hid (setRow_heap (w1.alloc (.cells zeroG 44)) w1.heap.size zeroG cs 44 (0, 0) (heap_new0 w1 _))
    have HW := hid (IB.out.trans (below_setRow' ((Below.refl _ w1).alloc IB.out.size (.cells zeroG 44)) IB.out.size cs))
    have HL0 := hid (show ((w1.alloc (.cells zeroG 44)).setRow w1.heap.size cs).heap[w.heap.size]? = some (.cells zeroG 44 (0, 0)) by
      rw [setRow_other _ _ _ _ (by have := IL.out; omega), Below.heap_alloc _ _ _ IL.out]; exact I0.out)
    generalize hX : (w1.alloc (.cells zeroG 44)).setRow w1.heap.size cs = X at HL HW HL0
    have HX := hid hX
    clear hX
    by_cases hqp : 0 ≤ q ∧ q < ((2 * (n + m) : Nat) : Int)
    · obtain ⟨b, rfl⟩ : ∃ b : Nat, q = (b : Int) := ⟨q.toNat, by omega⟩
      have hb : b < 2 * (n + m) := by omega
      have HBq := hid (show PortIn ss b n m b from ⟨HGr.out, rfl, hb⟩)
      have HDQ := hid (decide_eq_true hqp)
      rw [HDQ.out] at HHP
      have HBA := hid (fun w' => HBO.out a w' HA.out.2.2)
      have HBB := hid (fun w' => HBO.out b w' hb)
      have hba := (back_facts (n := n) (m := m) (t := lett m (pad (flat ss))) hn1 hm1 HA.out.2.2).2
      have hbb := (back_facts (n := n) (m := m) (t := lett m (pad (flat ss))) hn1 hm1 hb).2
      have HSAME := hid (beam_same (p := a) (q := b) (P := bend_ n m (lett m (pad (flat ss))) a) (Q := bend_ n m (lett m (pad (flat ss))) b) (fun e => by rw [e]) (fun e => by rw [← e]; exact hba))
      have HNO2 := hid (fun hh => meet_none_same HA.out HBq.out hh)
      simp only [beamC_eq] at HBA HBB
      clear HBO HDQ hqp
      obtain ⟨la, hla⟩ : ∃ x, loC a (bend_ n m (lett m (pad (flat ss))) a) = x := ⟨_, rfl⟩
      obtain ⟨ha', hha⟩ : ∃ x, hiC a (bend_ n m (lett m (pad (flat ss))) a) = x := ⟨_, rfl⟩
      obtain ⟨lb, hlb⟩ : ∃ x, loC b (bend_ n m (lett m (pad (flat ss))) b) = x := ⟨_, rfl⟩
      obtain ⟨hb', hhb⟩ : ∃ x, hiC b (bend_ n m (lett m (pad (flat ss))) b) = x := ⟨_, rfl⟩
      rw [hla, hha] at HBA
      rw [hlb, hhb] at HBB
      rw [hla, hha, hlb, hhb] at HSAME
      obtain ⟨sm, hsm⟩ : ∃ sm, decide (la = lb ∧ ha' = hb') = sm := ⟨_, rfl⟩
      have HSM := hid hsm
      have HSA := hid (show sm = decide (a = b ∨ bend_ n m (lett m (pad (flat ss))) a = b) by rw [← hsm]; exact HSAME.out)
      clear hla hha hlb hhb hsm HSAME
      go_wp2_with (refine wpList_store_row rfl 44 _ _ rfl w1.heap.size cs rfl rfl 44 zeroG (heap_new0 w1 _) HS.out HZ.out HONE.out ?_; rw [HX.out])
      refine wp_region_quiet (C := Cls X) (by kernel_rfl) (by kernel_rfl) (Below.refl _ X).drew ?_
      quiet_step ((intro _; rfl))
      quiet_step ((intro _; rfl))
      quiet_step ((intro _; rfl))
      refine wpQuiet_load_rowW (by go_simp) 44 _ rfl w1.heap.size rfl 44 cs (0, 0) _ (fun w' hw => (hw.block _ (lt_of_block HL.out)).trans HL.out) Try.underlying44 rfl HS.out ?_
      quiet_step ((intro _; rfl))
      refine wpQuiet_callW (by go_simp) 79 #[.agg cs, .int .i64 b] (.bool true) (fun w _ => by go_simp) (fun w' hw => (HHP.out w').mono fun e w'' ⟨he, hb'⟩ => ⟨he, hw.trans (hb'.mono hw.size)⟩) ?_
      quiet_step ((intro _; rfl))
      quiet_step ((intro _; rfl))
      quiet_step ((intro _; rfl))
      refine wpQuiet_load_rowW (by go_simp) 44 _ rfl w1.heap.size rfl 44 cs (0, 0) _ (fun w' hw => (hw.block _ (lt_of_block HL.out)).trans HL.out) Try.underlying44 rfl HS.out ?_
      quiet_step ((intro _; rfl))
      refine wpQuiet_callW (by go_simp) 96 #[.agg cs, .int .i64 a] (.agg #[.int .i64 la, .int .i64 ha']) (fun w _ => by go_simp) (fun w' hw => (HBA.out w').mono fun e w'' ⟨he, hb'⟩ => ⟨he, hw.trans (hb'.mono hw.size)⟩) ?_
      refine wpQuiet_load_rowW (by go_simp) 44 _ rfl w1.heap.size rfl 44 cs (0, 0) _ (fun w' hw => (hw.block _ (lt_of_block HL.out)).trans HL.out) Try.underlying44 rfl HS.out ?_
      quiet_step ((intro _; rfl))
      refine wpQuiet_callW (by go_simp) 96 #[.agg cs, .int .i64 b] (.agg #[.int .i64 lb, .int .i64 hb']) (fun w _ => by go_simp) (fun w' hw => (HBB.out w').mono fun e w'' ⟨he, hb'⟩ => ⟨he, hw.trans (hb'.mono hw.size)⟩) ?_
      refine wpQuiet_valueW (by go_simp) (.bool sm) (fun w' _ => by rw [run_eq_beam _ _ _ la ha' lb hb' w' (by go_simp) (by go_simp) _ rfl, HSM.out]) ?_
      quiet_step ((intro _; rfl))
      refine wpQuiet_nil ?_
      intro w2 hw2
      have HW2 := hid (HW.out.trans (hw2.mono HW.out.size))
      have HL2 := hid ((hw2.block _ (lt_of_block HL.out)).trans HL.out)
      have HZ2 := hid ((hw2.block _ (lt_of_block HL0.out)).trans HL0.out)
      clear hw2
      cases sm with
      | true =>
        have HNN := hid (HNO2.out (of_decide_eq_true HSA.out.symm))
        go_wp2_with (refine wpList_store_row rfl 44 _ _ rfl w.heap.size zeroG rfl rfl 44 zeroG HZ2.out Try.size_grid rfl (gcells_one 0 0 (pad [])) ?_)
        refine bodyPost_ret (results_row_tmp Try.results71 _ w.heap.size 44 _ (0, 0) _ (by rfl) (setRow_heap _ _ _ _ _ _ HZ2.out) Try.underlying44 rfl Try.size_grid) rfl ⟨?_, .inr ⟨HNN.out, rfl⟩⟩
        exact below_setRow' HW2.out (Nat.le_refl _) _
      | false =>
        have hne := of_decide_eq_false HSA.out.symm
        have HNN := hid (HOUT.out b ⟨HA.out, HBq.out, fun e => hne (.inl e), fun e => hne (.inr e)⟩)
        clear hne
        go_wp2_with (first
          | refine wpList_load_row rfl 44 _ rfl w1.heap.size rfl 44 cs (0, 0) _ HL2.out Try.underlying44 rfl HS.out ?_
          | refine wpList_store_row rfl 44 _ _ rfl w.heap.size cs rfl rfl 44 zeroG HZ2.out HS.out HZ.out HONE.out ?_)
        refine bodyPost_ret (results_row_tmp Try.results71 _ w.heap.size 44 _ (0, 0) _ (by rfl) (setRow_heap _ _ _ _ _ _ HZ2.out) Try.underlying44 rfl HS.out) rfl ⟨?_, HNN.out⟩
        exact below_setRow' HW2.out (Nat.le_refl _) _
    · have HDQ := hid (decide_eq_false hqp)
      have HNo := hid (show ∀ n m a' b, ¬ MeetIn ss a q n m a' b from meet_none_q fun n' m' b' hb' => by
        obtain ⟨rfl, rfl⟩ := HGr.out.uniq hb'.1
        refine hqp ?_
        have h1 := hb'.2.1
        have h2 := hb'.2.2
        omega)
      rw [HDQ.out] at HHP
      clear HBO HDQ hqp
      go_wp2_with (refine wpList_store_row rfl 44 _ _ rfl w1.heap.size cs rfl rfl 44 zeroG (heap_new0 w1 _) HS.out HZ.out HONE.out ?_; rw [HX.out])
      refine wp_region_quiet (C := Cls X) (by kernel_rfl) (by kernel_rfl) (Below.refl _ X).drew ?_
      quiet_step ((intro _; rfl))
      quiet_step ((intro _; rfl))
      quiet_step ((intro _; rfl))
      refine wpQuiet_load_rowW (by go_simp) 44 _ rfl w1.heap.size rfl 44 cs (0, 0) _ (fun w' hw => (hw.block _ (lt_of_block HL.out)).trans HL.out) Try.underlying44 rfl HS.out ?_
      quiet_step ((intro _; rfl))
      refine wpQuiet_callW (by go_simp) 79 #[.agg cs, .int .i64 q] (.bool false) (fun w _ => by go_simp) (fun w' hw => (HHP.out w').mono fun e w'' ⟨he, hb'⟩ => ⟨he, hw.trans (hb'.mono hw.size)⟩) ?_
      quiet_step ((intro _; rfl))
      quiet_step ((intro _; rfl))
      refine wpQuiet_value_skips 7 rfl (.bool true) (fun w _ => by go_simp) (by kernel_rfl) ?_
      simp only [List.drop_succ_cons, List.drop_zero]
      quiet_step ((intro _; rfl))
      refine wpQuiet_nil ?_
      intro w2 hw2
      have HW2 := hid (HW.out.trans (hw2.mono HW.out.size))
      have HZ2 := hid ((hw2.block _ (lt_of_block HL0.out)).trans HL0.out)
      clear hw2
      go_wp2_with (refine wpList_store_row rfl 44 _ _ rfl w.heap.size zeroG rfl rfl 44 zeroG HZ2.out Try.size_grid rfl (gcells_one 0 0 (pad [])) ?_)
      refine bodyPost_ret (results_row_tmp Try.results71 _ w.heap.size 44 _ (0, 0) _ (by rfl) (setRow_heap _ _ _ _ _ _ HZ2.out) Try.underlying44 rfl Try.size_grid) rfl ⟨?_, .inr ⟨HNo.out, rfl⟩⟩
      exact below_setRow' HW2.out (Nat.le_refl _) _
  · have HNo := hid (meet_none_p (q := q) hno)
    clear hno
    have HL0 := hid (show ((w1.alloc (.cells zeroG 44)).setRow w1.heap.size zeroG).heap[w.heap.size]? = some (.cells zeroG 44 (0, 0)) by
      rw [setRow_other _ _ _ _ (by have := IL.out; omega), Below.heap_alloc _ _ _ IL.out]; exact I0.out)
    have HW := hid (IB.out.trans (below_setRow' ((Below.refl _ w1).alloc IB.out.size (.cells zeroG 44)) IB.out.size zeroG))
    go_wp2_with (refine wpList_store_row rfl 44 _ _ rfl w1.heap.size zeroG rfl rfl 44 zeroG (heap_new0 w1 _) Try.size_grid rfl (gcells_one 0 0 (pad [])) ?_)
    generalize (w1.alloc (.cells zeroG 44)).setRow w1.heap.size zeroG = X at HW HL0 ⊢
    refine wp_region_quiet (C := Cls X) (by kernel_rfl) (by kernel_rfl) (Below.refl _ X).drew ?_
    quiet_step ((intro _; rfl))
    quiet_step ((intro _; rfl))
    refine wpQuiet_value_skips 4 rfl (.bool true) (fun w _ => by go_simp) (by kernel_rfl) ?_
    simp only [List.drop_succ_cons, List.drop_zero]
    quiet_step ((intro _; rfl))
    refine wpQuiet_value_skips 7 rfl (.bool true) (fun w _ => by go_simp) (by kernel_rfl) ?_
    simp only [List.drop_succ_cons, List.drop_zero]
    quiet_step ((intro _; rfl))
    refine wpQuiet_nil ?_
    intro w2 hw2
    have HW2 := hid (HW.out.trans (hw2.mono HW.out.size))
    have HZ2 := hid ((hw2.block _ (lt_of_block HL0.out)).trans HL0.out)
    clear hw2
    go_wp2_with (refine wpList_store_row rfl 44 _ _ rfl w.heap.size zeroG rfl rfl 44 zeroG HZ2.out Try.size_grid rfl (gcells_one 0 0 (pad [])) ?_)
    refine bodyPost_ret (results_row_tmp Try.results71 _ w.heap.size 44 _ (0, 0) _ (by rfl) (setRow_heap _ _ _ _ _ _ HZ2.out) Try.underlying44 rfl Try.size_grid) rfl ⟨?_, .inr ⟨HNo.out, rfl⟩⟩
    exact below_setRow' HW2.out (Nat.le_refl _) _
end Go.Proofs.Ytpbppkidglmacaa
