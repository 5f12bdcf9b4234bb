/- BeamMeets of the program, by its contract. -/
import Derived.Test.YtmfoajghlodkdaaMeetsM
import Derived.Test.YtmfoajghlodkdaaBeamOf
import Derived.Test.YtmfoajghlodkdaaQTail
namespace Go.Proofs.Ytmfoajghlodkdaa
open Go.RowKit Go.Shelf
attribute [local go_sem] Oper.semAt_some

/-- The ways with something among those that have come. -/
def metW {L : Nat} (g : Nat → Bool) (pre : List (Fin L)) : Nat := pre.countP fun x => g x.val
theorem metW_snoc {L : Nat} (g : Nat → Bool) (pre : List (Fin L)) (x : Fin L) : metW g (pre ++ [x]) = metW g pre + (if g x.val = true then 1 else 0) := by
  simp [metW, List.countP_append, List.countP_cons]
theorem metW_le {L : Nat} (g : Nat → Bool) (pre : List (Fin L)) : metW g pre ≤ pre.length := List.countP_le_length
theorem metW_all (L : Nat) (g : Nat → Bool) : metW g (List.finRange L) = (List.range L).countP g := by
  unfold metW
  have e := upto_val (N := L) (k := L) (Nat.le_refl _)
  rw [upto_all] at e
  rw [← e, List.countP_map]
  rfl
theorem times_cell {n m : Nat} {t : Int → Int → UInt8} {p : Nat} {x : Wy} (hp : p < 2 * (n + m)) (hx : inG n m x) : upT (fun d => goesTo (bway n m t p) (blen n m t p) ⟨x.i, x.k, d⟩) 4 = (bcells n m t p).count (cellN m x) := by
  obtain ⟨h1, h2, h3, h4⟩ := hx
  have e := times_count (n := n) (m := m) (t := t) (p := p) (i := x.i.toNat) (k := x.k.toNat) hp (by omega)
  rw [Int.toNat_of_nonneg h1, Int.toNat_of_nonneg h3] at e
  exact e

set_option maxRecDepth 100000 in
set_option maxHeartbeats 4000000 in
theorem implBeamMeets_any (A : Option Addr) (c : Nat) (ss : List ByteArray) (p q : Int) (w : World) (h : Strs w w.heap.size A ss) (hn : ss.length ≤ 1048576) (hs : ∀ s ∈ ss, s.size ≤ 1048576) :
    Calls Try.prog 77 #[.slice A ss.length c, .int .i64 p, .int .i64 q] w fun e w' => Below w.heap.size w w' ∧ ∃ x ok, e = .returned (.tuple #[.int .i64 x, .bool ok]) ∧ MeetOut ss p q x ok := by
  have HR := hid (gridWithPort_any A c ss p w h hn hs)
  clear h hs
  refine (callsIn_wide (n := 3)).1 ?_
  refine callsIn_of_wp_marks Try.func77 rfl trivial ?_ rfl
  simp only [Try.ntmps77, List.size_toArray, List.length_cons, List.length_nil, Nat.reduceAdd, Nat.reduceSub, Array.replicate_succ, Array.replicate_zero, List.push_toArray, List.append_toArray, List.nil_append, List.cons_append]
  gi_wp2_with fail
  refine ⟨trivial, callsIn_wide.2 (HR.out.mono ?_)⟩
  rintro e w1 ⟨hbel, ⟨n, m, a, ha, rfl⟩ | ⟨hno, rfl⟩⟩
  · have HB := hid hbel
    have hg := ha.1
    obtain rfl := ha.2.1
    have HA := hid ha
    have hn1 := hg.2.1
    have hm1 := hg.2.2.2.1
    have hn5 := hg.2.2.1
    have hm5 := hg.2.2.2.2.1
    have HGr := hid hg
    have HGC := hid (show (gcells n m (pad (flat ss))).size = 27 from hg.csize)
    have HONE := hid (gcells_one n m (pad (flat ss)))
    have HHP := hid (fun w' => hasPort_any n m (pad (flat ss)) q w' hg.plen hn5 hm5)
    have HBO := hid (fun a' w' h => beam_any n m a' (pad (flat ss)) w' hg.plen hn1 hn5 hm1 hm5 h)
    have HNEW := hid (fun w' => newTrace_any (gcells n m (pad (flat ss))) HGC.out HONE.out w')
    have HASK2 := hid (show ∀ b xs w', MapOf w' b xs → Calls Try.prog 120 #[.agg (tcells (gcells n m (pad (flat ss))) b), .int .i64 a] w' fun e w'' => (∃ v, e = .returned v) ∧ MapOf w'' b (waysL (bway n m (lett m (pad (flat ss))) a) (blen n m (lett m (pad (flat ss))) a)) ∧ w'.grownBy w'' (some b) from
      fun b xs w' hm => ask_any n m a _ b (pad (flat ss)) xs w' rfl hg.plen hn5 hm5 ha.2.2 hm)
    have HOKW := hid (okW_ways (t := lett m (pad (flat ss))) (q := a) hn5 hm5)
    have HTIM := hid (show ∀ (b : Nat) (x : Wy) (w' : World), inG n m x → MapOf w' b (waysL (bway n m (lett m (pad (flat ss))) a) (blen n m (lett m (pad (flat ss))) a)) → Calls Try.prog 128 #[.agg (tcells (gcells n m (pad (flat ss))) b), .agg #[.int .i64 x.i, .int .i64 x.k]] w' fun e w'' => e = .returned (.int .i64 (((bcells n m (lett m (pad (flat ss))) a).count (cellN m x) : Nat) : Int)) ∧ Below w'.heap.size w' w'' from fun b x w' hx hm => by
      rw [← times_cell ha.2.2 hx]
      obtain ⟨h1, h2, h3, h4⟩ := hx
      exact times_any (gcells n m (pad (flat ss))) HGC.out b _ _ _ _ (by omega) w' hm HOKW.out)
    have HC2 := hid (fun c => count_le2 (n := n) (m := m) (t := lett m (pad (flat ss))) (p := a) (c := c) ha.2.2 hm1)
    have hnm := hg.le25
    have HS := hid (show (Try.prog.info? 56).map (·.size) = some (gcells n m (pad (flat ss))).size by rw [HGC.out]; exact Try.size_grid)
    have HST := hid (fun b => show (Try.prog.info? 94).map (·.size) = some (tcells (gcells n m (pad (flat ss))) b).size by rw [tcells_size HGC.out]; exact Try.size_trace)
    have HTO := hid (fun b => tcells_one HONE.out b)
    have HTZ := hid (fun b => show zeroT.size = (tcells (gcells n m (pad (flat ss))) b).size by rw [tcells_size HGC.out]; rfl)
    have HZ := hid (show zeroG.size = (gcells n m (pad (flat ss))).size by rw [HGC.out]; rfl)
    have HWST := hid (fun (b : Nat) (hb : b < 2 * (n + m)) (Bg Bp : Nat) (w' : World) h1 h2 => ways_stops 2 Bg Bp n m b (blen n m (lett m (pad (flat ss))) b) (pad (flat ss)) rfl hg.plen hn5 hm5 hb w' h1 h2)
    clear hbel ha hg
    generalize gcells n m (pad (flat ss)) = cs at *
    have HL := hid (setRow_heap (w1.alloc (.cells zeroG 56)) w1.heap.size zeroG cs 56 (0, 0) (heap_new0 w1 _))
    have HW := hid (HB.out.trans (below_setRow' ((Below.refl _ w1).alloc HB.out.size (.cells zeroG 56)) HB.out.size cs))
    have HWS1 := hid (show ((w1.alloc (.cells zeroG 56)).setRow w1.heap.size cs).heap.size = w1.heap.size + 1 by simp)
    generalize hX : (w1.alloc (.cells zeroG 56)).setRow w1.heap.size cs = X at HL HW HWS1
    have HX := hid hX
    clear hX
    by_cases hqp : 0 ≤ q ∧ q < ((2 * (n + m) : Nat) : Int)
    · obtain ⟨b, rfl⟩ : ∃ b : Nat, q = (b : Int) := ⟨q.toNat, by omega⟩
      have hb : b < 2 * (n + m) := by omega
      have HBq := hid (show PortIn ss b n m b from ⟨HGr.out, rfl, hb⟩)
      have HDQ := hid (decide_eq_true hqp)
      rw [HDQ.out] at HHP
      have HBA := hid (fun w' => HBO.out a w' HA.out.2.2)
      have HBB := hid (fun w' => HBO.out b w' hb)
      have hba := (back_facts (n := n) (m := m) (t := lett m (pad (flat ss))) hn1 hm1 HA.out.2.2).2
      have hbb := (back_facts (n := n) (m := m) (t := lett m (pad (flat ss))) hn1 hm1 hb).2
      have HSAME := hid (beam_same (p := a) (q := b) (P := bend_ n m (lett m (pad (flat ss))) a) (Q := bend_ n m (lett m (pad (flat ss))) b) (fun e => by rw [e]) (fun e => by rw [← e]; exact hba))
      have HNO2 := hid (fun hh => meet_none_same HA.out HBq.out hh)
      have HMC := hid (fun h1 h2 => meet_count (n := n) (m := m) (t := lett m (pad (flat ss))) (p := a) (q := b) hn1 hm1 HA.out.2.2 hb h1 h2)
      have HINB := hid (fun j (hj : j < blen n m (lett m (pad (flat ss))) b) => blen_in (n := n) (m := m) (t := lett m (pad (flat ss))) hj)
      have hL100 : blen n m (lett m (pad (flat ss))) b ≤ 100 := by
        have h1 := blen_lt (t := lett m (pad (flat ss))) hb
        omega
      have HWS := hid (fun Bg Bp w' h1 h2 => HWST.out b hb Bg Bp w' h1 h2)
      have HGO := hid (show ∀ c, goesC n m (lett m (pad (flat ss))) a c = decide (0 < (bcells n m (lett m (pad (flat ss))) a).count c) from fun _ => rfl)
      simp only [beamC_eq] at HBA HBB
      clear HBO HDQ hqp
      obtain ⟨la, hla⟩ : ∃ x, loC a (bend_ n m (lett m (pad (flat ss))) a) = x := ⟨_, rfl⟩
      obtain ⟨ha', hha⟩ : ∃ x, hiC a (bend_ n m (lett m (pad (flat ss))) a) = x := ⟨_, rfl⟩
      obtain ⟨lb, hlb⟩ : ∃ x, loC b (bend_ n m (lett m (pad (flat ss))) b) = x := ⟨_, rfl⟩
      obtain ⟨hb', hhb⟩ : ∃ x, hiC b (bend_ n m (lett m (pad (flat ss))) b) = x := ⟨_, rfl⟩
      rw [hla, hha] at HBA
      rw [hlb, hhb] at HBB
      rw [hla, hha, hlb, hhb] at HSAME
      obtain ⟨sm, hsm⟩ : ∃ sm, decide (la = lb ∧ ha' = hb') = sm := ⟨_, rfl⟩
      have HSM := hid hsm
      have HSA := hid (show sm = decide (a = b ∨ bend_ n m (lett m (pad (flat ss))) a = b) by rw [← hsm]; exact HSAME.out)
      clear hla hha hlb hhb hsm HSAME
      gi_wp2_with (first
        | (refine wpListIn_store_row (Open.wide _) rfl 56 _ _ rfl w1.heap.size cs rfl rfl 56 zeroG (heap_new0 w1 _) HS.out HZ.out HONE.out ?_; rw [HX.out]))
      refine wpIn_region_quiet_tail (Open.wide _) 16 (Cls X) (by kernel_rfl) (by kernel_rfl) (Below.refl _ X).drew ?_
      simp only [List.take_succ_cons, List.take_zero, List.drop_succ_cons, List.drop_zero]
      quiet_step ((intro _; rfl))
      quiet_step ((intro _; rfl))
      quiet_step ((intro _; rfl))
      refine wpQuiet_load_rowW (by go_simp) 56 _ rfl w1.heap.size rfl 56 cs (0, 0) _ (fun w' hw => (hw.block _ (lt_of_block HL.out)).trans HL.out) Try.underlying56 rfl HS.out ?_
      quiet_step ((intro _; rfl))
      refine wpQuiet_callW (by go_simp) 130 #[.agg cs, .int .i64 b] (.bool true) (fun w _ => by go_simp) (fun w' hw => (HHP.out w').mono fun e w'' ⟨he, hb'⟩ => ⟨he, hw.trans (hb'.mono hw.size)⟩) ?_
      quiet_step ((intro _; rfl))
      quiet_step ((intro _; rfl))
      quiet_step ((intro _; rfl))
      refine wpQuiet_load_rowW (by go_simp) 56 _ rfl w1.heap.size rfl 56 cs (0, 0) _ (fun w' hw => (hw.block _ (lt_of_block HL.out)).trans HL.out) Try.underlying56 rfl HS.out ?_
      quiet_step ((intro _; rfl))
      refine wpQuiet_callW (by go_simp) 131 #[.agg cs, .int .i64 a] (.agg #[.int .i64 la, .int .i64 ha']) (fun w _ => by go_simp) (fun w' hw => (HBA.out w').mono fun e w'' ⟨he, hb'⟩ => ⟨he, hw.trans (hb'.mono hw.size)⟩) ?_
      refine wpQuiet_load_rowW (by go_simp) 56 _ rfl w1.heap.size rfl 56 cs (0, 0) _ (fun w' hw => (hw.block _ (lt_of_block HL.out)).trans HL.out) Try.underlying56 rfl HS.out ?_
      quiet_step ((intro _; rfl))
      refine wpQuiet_callW (by go_simp) 131 #[.agg cs, .int .i64 b] (.agg #[.int .i64 lb, .int .i64 hb']) (fun w _ => by go_simp) (fun w' hw => (HBB.out w').mono fun e w'' ⟨he, hb'⟩ => ⟨he, hw.trans (hb'.mono hw.size)⟩) ?_
      refine wpQuiet_valueW (by go_simp) (.bool sm) (fun w' _ => by rw [run_eq_beam _ _ _ la ha' lb hb' w' (by go_simp) (by go_simp) _ rfl, HSM.out]) ?_
      refine wpQuiet_nil ?_
      intro w2 hw2
      have HW2 := hid (HW.out.trans (hw2.mono HW.out.size))
      have HL2 := hid ((hw2.block _ (lt_of_block HL.out)).trans HL.out)
      have HX2 := hid hw2.size
      clear hw2
      cases sm with
      | true =>
        have HNN := hid (HNO2.out (of_decide_eq_true HSA.out.symm))
        gi_wp2
        exact ⟨_, results_tmp2 rfl _ _ _, HW2.out, 0, false, rfl, .inr ⟨HNN.out, rfl, rfl⟩⟩
      | false =>
        have hne := of_decide_eq_false HSA.out.symm
        have HMI := hid (show MeetIn ss a b n m a b from ⟨HA.out, HBq.out, fun e => hne (.inl e), fun e => hne (.inr e)⟩)
        have HFIN := hid (HMC.out (fun e => hne (.inl e)) (fun e => hne (.inr (by rw [e]; exact hbb))))
        clear hne hba hbb HMC HNO2 HSA HSM
        have HGAF := hid (show ∀ c, goesC n m (lett m (pad (flat ss))) a c = decide (0 < (bcells n m (lett m (pad (flat ss))) a).count c) from HGO.out)
        clear HGO HHP HBA HBB HWST
        generalize waysL (bway n m (lett m (pad (flat ss))) a) (blen n m (lett m (pad (flat ss))) a) = wl at *
        generalize goesC n m (lett m (pad (flat ss))) a = ga at *
        generalize bcells n m (lett m (pad (flat ss))) a = ba at *
        generalize bway n m (lett m (pad (flat ss))) b = bw at *
        generalize blen n m (lett m (pad (flat ss))) b = L at *
        gi_wp2_with (refine wpListIn_load_row (Open.wide _) rfl 56 _ rfl w1.heap.size rfl 56 cs (0, 0) _ HL2.out Try.underlying56 rfl HS.out ?_)
        refine ⟨trivial, callsIn_wide.2 ((HNEW.out w2).mono ?_)⟩
        rintro e w3 ⟨rfl, hm3, hb3⟩
        have HM3 := hid hm3
        have HB3 := hid hb3
        have HXW := hid (show w.heap.size ≤ w2.heap.size from HW2.out.size)
        have HG1 := hid (lt_of_block HL2.out)
        clear hm3 hb3
        generalize hmb : w2.heap.size + 2 = mb at *
        have HMB := hid hmb
        clear hmb
        have HN3 := hid (heap_new0 w3 (.cells zeroT 94))
        have HTR := hid (setRow_heap (w3.alloc (.cells zeroT 94)) w3.heap.size zeroT (tcells cs mb) 94 (0, 0) (heap_new0 w3 _))
        have HMY := hid (show MapOf ((w3.alloc (.cells zeroT 94)).setRow w3.heap.size (tcells cs mb)) mb ([] : List Wy) from (HM3.out.alloc _).kept (setRow_other _ _ _ _ (by have := HM3.out.lt; omega)))
        have HBY := hid (show Below w.heap.size w ((w3.alloc (.cells zeroT 94)).setRow w3.heap.size (tcells cs mb)) from
          (HW2.out.trans (HB3.out.mono HXW.out)).trans (below_setRow' ((Below.refl _ w3).alloc (by have := HB3.out.size; have := HXW.out; omega) _) (by have := HB3.out.size; have := HXW.out; omega) _))
        have HKG := hid (show ((w3.alloc (.cells zeroT 94)).setRow w3.heap.size (tcells cs mb)).heap[w1.heap.size]? = some (.cells cs 56 (0, 0)) by
          have h2 := HB3.out.size
          have h3 := HG1.out
          rw [setRow_other _ _ _ _ (by omega), Below.heap_alloc _ _ _ (by omega)]
          exact (HB3.out.block _ h3).trans HL2.out)
        generalize hY : (w3.alloc (.cells zeroT 94)).setRow w3.heap.size (tcells cs mb) = Y at HTR HMY HBY HKG
        have HY := hid hY
        clear hY
        gi_wp2_with (first
          | (refine wpListIn_store_row (Open.wide _) rfl 94 _ _ rfl w3.heap.size (tcells cs mb) rfl rfl 94 zeroT HN3.out (HST.out mb) (HTZ.out mb) (HTO.out mb) ?_; rw [HY.out])
          | refine wpListIn_load_row (Open.wide _) rfl 94 _ rfl w3.heap.size rfl 94 (tcells cs mb) (0, 0) _ HTR.out Try.underlying94 rfl (HST.out mb) ?_)
        refine ⟨trivial, callsIn_wide.2 ((HASK2.out mb _ Y HMY.out).mono ?_)⟩
        rintro e w4 ⟨⟨v4, rfl⟩, hm4, hg4⟩
        have HT4 := hid (show w4.heap[w3.heap.size]? = some (.cells (tcells cs mb) 94 (0, 0)) from (hg4.block _ (lt_of_block HTR.out) (by have := HM3.out.lt; intro e; cases e; omega)).trans HTR.out)
        have HM4 := hid hm4
        have HK4 := hid (show w4.heap[w1.heap.size]? = some (.cells cs 56 (0, 0)) from (hg4.block _ (lt_of_block HKG.out) (by have := HMB.out; have := HG1.out; intro e; cases e; omega)).trans HKG.out)
        have HB4 := hid (show Below w.heap.size w w4 from HBY.out.trans (below_grown hg4 HBY.out.size (by have := HMB.out; have := HXW.out; omega)))
        clear hm4 hg4
        have HS0 := hid (show (w4.alloc (.cells #[.int .i64 0] 3)).heap[w1.heap.size]? = some (.cells cs 56 (0, 0)) from (Below.heap_alloc _ _ _ (lt_of_block HK4.out)).trans HK4.out)
        gi_wp2_with (refine wpListIn_load_row (Open.wide _) rfl 56 _ rfl w1.heap.size rfl 56 cs (0, 0) _ HS0.out Try.underlying56 rfl HS.out ?_)
        refine ⟨trivial, callsIn_wide.2 ((ways_any cs b _).mono ?_)⟩
        rintro e w5 ⟨rfl, hw5⟩
        have K1 := hid (show Boxed w5 w4.heap.size 3 (.int .i64 ((metW (fun j => ga (cellN m (bw j))) ([] : List (Fin L)) : Nat) : Int)) by
          unfold Boxed
          rw [hw5]; exact heap_new2 w4 _ _ _)
        have KX := hid (show w5.heap[w4.heap.size + 1]? = some (.cells cs 56 (0, 0)) by
          rw [hw5]; simpa using heap_new1 (w4.alloc (.cells #[.int .i64 0] 3)) (.cells cs 56) (.cells #[.int .i64 b] 3))
        have KP := hid (show Boxed w5 (w4.heap.size + 2) 3 (.int .i64 b) by
          unfold Boxed
          rw [hw5]; simpa using heap_new0 ((w4.alloc (.cells #[.int .i64 0] 3)).alloc (.cells cs 56)) (.cells #[.int .i64 b] 3))
        have K45 := hid (show Below w4.heap.size w4 w5 by rw [hw5]; exact (((Below.refl _ w4).alloc (Nat.le_refl _) _).alloc (by simp) _).alloc (by simp; omega) _)
        have KS := hid (show w5.heap.size = w4.heap.size + 3 by rw [hw5]; simp)
        have KB := hid (show Below w.heap.size w w5 from HB4.out.trans (K45.out.mono HB4.out.size))
        have KT := hid (show w5.heap[w3.heap.size]? = some (.cells (tcells cs mb) 94 (0, 0)) from (K45.out.block _ (lt_of_block HT4.out)).trans HT4.out)
        have KM := hid (show MapOf w5 mb wl from HM4.out.kept (K45.out.block _ HM4.out.lt))
        have KW := hid (show w.heap.size ≤ w4.heap.size from HB4.out.size)
        have KL3 := hid (show w3.heap.size < w4.heap.size from lt_of_block HT4.out)
        have KML := hid (show mb < w4.heap.size from HM4.out.lt)
        clear hw5
        simp only [World.size_alloc]
        gi_wp2
        refine wpIn_rangeFunc_ownH rfl (by omega) (gf := 144) (lb := #[.pointer (some ⟨w4.heap.size + 1, 0, none⟩), .pointer (some ⟨w4.heap.size + 2, 0, none⟩)]) rfl trivial (enters_of Try.func144 (by kernel_rfl) rfl)
          (HWS.out (w4.heap.size + 1) (w4.heap.size + 2) w5 KX.out KP.out) KeepsW.trans (keepsW_b (lt_of_block KX.out)) (Below.refl _ _) (fun _ => rfl)
          (fun pre W => ((W.heap[w3.heap.size]? = some (.cells (tcells cs mb) 94 (0, 0)) ∧ MapOf W mb wl) ∧ Boxed W w4.heap.size 3 (.int .i64 ((metW (fun j => ga (cellN m (bw j))) pre : Nat) : Int))) ∧ Below w.heap.size w5 W)
          (fun _ _ _ => False)
          (OwnFrom.and (OwnFrom.and (OwnFrom.and (ownFrom_heap _ _ (fun _ => _) (fun _ => rfl)) (own_map mb _ (fun _ => wl) KM.out.lt)) (Own.from (boxed_own _ _ (fun pre => .int .i64 ((metW (fun j => ga (cellN m (bw j))) pre : Nat) : Int))) _)) (ownFrom_below (by have := KS.out; have := KW.out; omega) (by have := KS.out; have := KW.out; omega)))
          (fun _ _ _ _ _ hs _ _ => hs)
          ⟨⟨⟨KT.out, KM.out⟩, K1.out⟩, Below.refl _ _⟩
          (fun x a' W => ∃ Bx, w5.heap.size ≤ Bx ∧ W.heap[Bx]? = some (.cells (wayC (bw x.val)) 90 (0, 0)) ∧ ∃ u0 u1 u2 u3 u4 u5 u6 u7 u9 u13 u14 u15 u16 u17 u18 u19 u20 u21 u22 u23 u24 u25 u26 u27 u28 u29 u30 u31 u32 u33 u34 u35 u36 u37 u38 u39 u40 u41 u42 u43 u44 u45 u46 u47 u48 u49 u50 u51 u52 : Value,
            a' = { tmps := #[u0, u1, u2, u3, u4, u5, u6, u7, .pointer (some ⟨w1.heap.size, 0, none⟩), u9, .pointer (some ⟨w3.heap.size, 0, none⟩), .pointer (some ⟨w4.heap.size, 0, none⟩), .pointer (some ⟨Bx, 0, none⟩), u13, u14, u15, u16, u17, u18, u19, u20, u21, u22, u23, u24, u25, u26, u27, u28, u29, u30, u31, u32, u33, u34, u35, u36, u37, u38, u39, u40, u41, u42, u43, u44, u45, u46, u47, u48, u49, u50, u51, u52], defers := [] })
          (fun x a' _ X Y row hs hg hr => by
            obtain ⟨Bx, h1, h2, h3⟩ := hs
            exact ⟨Bx, h1, ownFrom_heap _ Bx (fun (_ : Unit) => Obj.cells (wayC (bw x.val)) 90 (0, 0)) (fun _ => rfl) () X Y row h2 hg hr, h3⟩)
          ?assign ?body ?done ?stop
        case assign =>
          rintro l pre x W K ⟨⟨⟨i0, i1⟩, i2⟩, i3⟩ hK
          have J0 := hid i0
          have J1 := hid i1
          have J2 := hid i2
          have J3 := hid i3
          have JK := hid hK
          clear i0 i1 i2 i3 hK
          obtain ⟨y, hy⟩ : ∃ y, bw x.val = y := ⟨_, rfl⟩
          unfold encW
          rw [hy] at JK ⊢
          clear hy
          obtain ⟨iv, kv, dv⟩ := y
          simp only [wayV, wayC] at JK ⊢
          gi_wp2
          have hsz : w5.heap.size ≤ W.heap.size := J3.out.size
          exact JK.out _ _ ((KeepsOthers.alloc _ _).from _) (KeepsW.below ((Below.refl _ W).alloc (Nat.le_refl _) _) (by have := KS.out; omega))
            ⟨⟨⟨(Below.heap_alloc _ _ _ (lt_of_block J0.out)).trans J0.out, J1.out.alloc _⟩, J2.out.alloc _⟩, J3.out.alloc (by have := KS.out; have := KW.out; omega) _⟩
            ⟨W.heap.size, hsz, heap_new0 W _, _, _, _, _, _, _, _, _, _, _, _, _, _, _, _, _, _, _, _, _, _, _, _, _, _, _, _, _, _, _, _, _, _, _, _, _, _, _, _, _, _, _, _, _, _, _, _, _, _, rfl⟩
        case body =>
          rintro l pre x a' W hlw ⟨r, hr⟩ ⟨⟨⟨i0, i1⟩, i2⟩, i3⟩ ⟨Bx, hBx, hX, u0, u1, u2, u3, u4, u5, u6, u7, u9, u13, u14, u15, u16, u17, u18, u19, u20, u21, u22, u23, u24, u25, u26, u27, u28, u29, u30, u31, u32, u33, u34, u35, u36, u37, u38, u39, u40, u41, u42, u43, u44, u45, u46, u47, u48, u49, u50, u51, u52, rfl⟩ hlt
          have htim := hid (HTIM.out mb (bw x.val) W (HINB.out x.val x.isLt) i1)
          have hle := metW_le (fun j => ga (cellN m (bw j))) pre
          have hsn : metW (fun j => ga (cellN m (bw j))) (pre ++ [x]) = metW (fun j => ga (cellN m (bw j))) pre + (if ga (cellN m (bw x.val)) = true then 1 else 0) := metW_snoc _ pre x
          have hga := HGAF.out (cellN m (bw x.val))
          have hxb := HC2.out (cellN m (bw x.val))
          generalize ba.count (cellN m (bw x.val)) = xc at htim hga hxb
          generalize ga (cellN m (bw x.val)) = gv at hga hsn
          obtain ⟨y, hy⟩ : ∃ y, bw x.val = y := ⟨_, rfl⟩
          rw [hy] at hX htim
          clear hy
          obtain ⟨iv, kv, dv⟩ := y
          simp only at htim
          have c0 : W.cell? ⟨Bx, 0, none⟩ = some (.int .i64 iv) := by rw [cell_of_row _ _ _ _ _ _ hX]; rfl
          have c1 : W.cell? ⟨Bx, 1, none⟩ = some (.int .i64 kv) := by rw [cell_of_row _ _ _ _ _ _ hX]; rfl
          obtain ⟨cv, hcv⟩ : ∃ cv : Int, ((metW (fun j => ga (cellN m (bw j))) pre : Nat) : Int) = cv := ⟨_, rfl⟩
          have hcb0 : 0 ≤ cv := by omega
          have hcb1 : cv < 100 := by omega
          rw [hcv] at i2
          have HC := hid hcv
          have I0 := hid i0
          have I1 := hid i1
          have I2 := hid i2
          have I3 := hid i3
          have HSN := hid hsn
          clear hcv i0 i1 i2 i3 hsn hle hlt hr hX hlw
          gi_wp2_with (refine wpListIn_load_row (Open.round _ l) rfl 94 _ rfl w3.heap.size rfl 94 (tcells cs mb) (0, 0) _ I0.out Try.underlying94 rfl (HST.out mb) ?_)
          refine ⟨trivial, CallsIn.inRound l (callsIn_wide.2 (htim.out.mono ?_))⟩
          rintro e w6 ⟨rfl, hb6⟩
          have E0 := hid ((hb6.block _ (lt_of_block I0.out)).trans I0.out)
          have EM := hid (I1.out.kept (hb6.block _ I1.out.lt))
          have E1 := hid (show Boxed w6 w4.heap.size 3 (.int .i64 cv) from (hb6.block _ I2.out.lt).trans I2.out)
          have E2 := hid (I3.out.trans (hb6.mono (by have := I3.out.size; have := KS.out; have := KW.out; omega)))
          have EK := hid (keeps_below hb6)
          have EW := hid (KeepsW.below (g := w4.heap.size + 1) (n0 := w5.heap.size) hb6 (by have := I3.out.size; have := KS.out; omega))
          have hcell := E1.out.cell
          have hfr := E1.out.frozen
          clear hb6 c0 c1
          cases gv with
          | true =>
            have hxi : (0 : Int) < (xc : Int) := by have := of_decide_eq_true hga.symm; omega
            have HSX := hid (show metW (fun j => ga (cellN m (bw j))) (pre ++ [x]) = metW (fun j => ga (cellN m (bw j))) pre + 1 by rw [HSN.out, if_pos rfl])
            clear hga
            gi_wp2
            refine ⟨(EK.out.trans (KeepsOthers.setCell _ _ _)).from _, EW.out.trans (KeepsW.setCell _ _ _ (by omega) (by have := KS.out; omega)), ⟨⟨?_, ?_⟩, ?_⟩, E2.out.setCell (p := ⟨w4.heap.size, 0, none⟩) KW.out _⟩
            · rw [Below.heap_setCell _ _ _ _ (by have := KL3.out; show w3.heap.size ≠ w4.heap.size; omega)]; exact E0.out
            · exact EM.out.kept (Below.heap_setCell _ _ _ _ (by have := KML.out; show mb ≠ w4.heap.size; omega))
            · rw [HSX.out, Int.natCast_add, HC.out]
              exact E1.out.set _
          | false =>
            have hxi : ¬ (0 : Int) < (xc : Int) := by have := of_decide_eq_false hga.symm; omega
            have HSX := hid (show metW (fun j => ga (cellN m (bw j))) (pre ++ [x]) = metW (fun j => ga (cellN m (bw j))) pre by rw [HSN.out, if_neg (by decide), Nat.add_zero])
            clear hga
            gi_wp2
            refine ⟨EK.out.from _, EW.out, ⟨⟨E0.out, EM.out⟩, ?_⟩, E2.out⟩
            rw [HSX.out, HC.out]
            exact E1.out
        case done =>
          rintro D xs W hD rfl ⟨⟨⟨i0, i1⟩, i2⟩, i3⟩ hK
          rw [metW_all, HFIN.out] at i2
          have hcell := i2.cell
          have J2 := hid i3
          have JK := hid hK
          clear i0 i1 i2 i3 hK
          gi_wp2
          refine ⟨by simp, .inl ⟨_, _, rfl, run_takeDeferred JK.out, ?_⟩⟩
          refine ⟨_, results_tmp2 rfl _ _ _, ?_, _, true, rfl, .inl ⟨n, m, a, b, HMI.out, rfl, rfl⟩⟩
          exact (KB.out.trans J2.out).trans (belowK_b (w := w) (Nat.le_refl _) _ D _ _ (by have := KS.out; have := KW.out; omega) JK.out rfl rfl)
        case stop =>
          rintro D c pre W _ _ h _
          exact h.elim
    · have HDQ := hid (decide_eq_false hqp)
      have HNo := hid (show ∀ n m a' b, ¬ MeetIn ss a q n m a' b from meet_none_q fun n' m' b' hb' => by
        obtain ⟨rfl, rfl⟩ := HGr.out.uniq hb'.1
        refine hqp ?_
        have h1 := hb'.2.1
        have h2 := hb'.2.2
        omega)
      rw [HDQ.out] at HHP
      clear HBO HDQ hqp
      gi_wp2_with (first
        | (refine wpListIn_store_row (Open.wide _) rfl 56 _ _ rfl w1.heap.size cs rfl rfl 56 zeroG (heap_new0 w1 _) HS.out HZ.out HONE.out ?_; rw [HX.out]))
      refine wpIn_region_quiet_tail (Open.wide _) 16 (Cls X) (by kernel_rfl) (by kernel_rfl) (Below.refl _ X).drew ?_
      simp only [List.take_succ_cons, List.take_zero, List.drop_succ_cons, List.drop_zero]
      quiet_step ((intro _; rfl))
      quiet_step ((intro _; rfl))
      quiet_step ((intro _; rfl))
      refine wpQuiet_load_rowW (by go_simp) 56 _ rfl w1.heap.size rfl 56 cs (0, 0) _ (fun w' hw => (hw.block _ (lt_of_block HL.out)).trans HL.out) Try.underlying56 rfl HS.out ?_
      quiet_step ((intro _; rfl))
      refine wpQuiet_callW (by go_simp) 130 #[.agg cs, .int .i64 q] (.bool false) (fun w _ => by go_simp) (fun w' hw => (HHP.out w').mono fun e w'' ⟨he, hb'⟩ => ⟨he, hw.trans (hb'.mono hw.size)⟩) ?_
      quiet_step ((intro _; rfl))
      quiet_step ((intro _; rfl))
      quiet_step ((intro _; rfl))
      quiet_step ((intro _; rfl))
      quiet_step ((intro _; rfl))
      quiet_step ((intro _; rfl))
      quiet_step ((intro _; rfl))
      quiet_step ((intro _; rfl))
      quiet_step ((intro _; rfl))
      quiet_step ((intro _; rfl))
      refine wpQuiet_nil ?_
      intro w2 hw2
      have HW2 := hid (HW.out.trans (hw2.mono HW.out.size))
      clear hw2
      gi_wp2
      exact ⟨_, results_tmp2 rfl _ _ _, HW2.out, 0, false, rfl, .inr ⟨HNo.out, rfl, rfl⟩⟩
  · have HB := hid hbel
    have HGr := hid (meet_none_p (q := q) hno)
    clear hbel hno
    gi_wp2_with (refine wpListIn_store_row (Open.wide _) rfl 56 _ _ rfl w1.heap.size zeroG rfl rfl 56 zeroG (heap_new0 w1 _) Try.size_grid rfl (gcells_one 0 0 (pad [])) ?_)
    have HW := hid (HB.out.trans (below_setRow' ((Below.refl _ w1).alloc HB.out.size (.cells zeroG 56)) HB.out.size zeroG))
    generalize (w1.alloc (.cells zeroG 56)).setRow w1.heap.size zeroG = X at HW ⊢
    refine wpIn_region_quiet_tail (Open.wide _) 16 (Cls X) (by kernel_rfl) (by kernel_rfl) (Below.refl _ X).drew ?_
    simp only [List.take_succ_cons, List.take_zero, List.drop_succ_cons, List.drop_zero]
    quiet_step ((intro _; rfl))
    quiet_step ((intro _; rfl))
    quiet_step ((intro _; rfl))
    quiet_step ((intro _; rfl))
    quiet_step ((intro _; rfl))
    quiet_step ((intro _; rfl))
    quiet_step ((intro _; rfl))
    quiet_step ((intro _; rfl))
    quiet_step ((intro _; rfl))
    quiet_step ((intro _; rfl))
    quiet_step ((intro _; rfl))
    quiet_step ((intro _; rfl))
    quiet_step ((intro _; rfl))
    quiet_step ((intro _; rfl))
    quiet_step ((intro _; rfl))
    quiet_step ((intro _; rfl))
    refine wpQuiet_nil ?_
    intro w2 hw2
    have HW2 := hid (HW.out.trans (hw2.mono HW.out.size))
    clear hw2
    gi_wp2
    exact ⟨_, results_tmp2 rfl _ _ _, HW2.out, 0, false, rfl, .inr ⟨HGr.out, rfl, rfl⟩⟩
end Go.Proofs.Ytmfoajghlodkdaa
