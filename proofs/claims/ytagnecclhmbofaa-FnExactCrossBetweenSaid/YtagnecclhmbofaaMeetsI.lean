/- BeamMeets and CrossBetween of the program, by their contracts. -/
import Derived.Test.YtagnecclhmbofaaMeetL
import Derived.Test.YtagnecclhmbofaaWithBeams
namespace Go.Proofs.Ytagnecclhmbofaa
open Go.RowKit Go.Shelf

theorem metP_length {n m : Nat} {t : Int → Int → UInt8} {a b : Nat} (hn : 1 ≤ n) (hm : 1 ≤ m) (ha : a < 2 * (n + m)) (hb : b < 2 * (n + m)) (h1 : a ≠ b) (h2 : a ≠ bend_ n m t b) : (metP n m t a b).length = meetN n m t a b := by
  unfold metP
  rw [List.length_map, ← List.countP_eq_length_filter]
  exact meet_count hn hm ha hb h1 h2
theorem metP_in {n m : Nat} {t : Int → Int → UInt8} {a b : Nat} : ∀ p ∈ metP n m t a b, 0 ≤ p.1 ∧ p.1 < n ∧ 0 ≤ p.2 ∧ p.2 < m := fun p hp => by
  unfold metP at hp
  obtain ⟨j, hj, rfl⟩ := List.mem_map.1 hp
  exact blen_in (List.mem_range.1 (List.mem_filter.1 hj).1)
theorem empty_way {n m : Nat} {t : Int → Int → UInt8} {x : Wy} (hx : inG n m x) : emptyC m t (cellN m x) = (t x.i x.k == 46) := by
  obtain ⟨h1, h2, h3, h4⟩ := hx
  have hm : 0 < m := by omega
  have hk : x.k.toNat < m := by omega
  unfold emptyC cellN
  rw [show (x.i.toNat * m + x.k.toNat) / m = x.i.toNat by rw [Nat.mul_comm, Nat.mul_add_div hm, Nat.div_eq_of_lt hk, Nat.add_zero], show (x.i.toNat * m + x.k.toNat) % m = x.k.toNat by rw [Nat.mul_comm, Nat.mul_add_mod, Nat.mod_eq_of_lt hk], Int.toNat_of_nonneg h1, Int.toNat_of_nonneg h3]
theorem empt_metP {n m : Nat} {ls : List UInt8} {a b : Nat} (hn : 1 ≤ n) (hm : 1 ≤ m) (ha : a < 2 * (n + m)) (hb : b < 2 * (n + m)) (h1 : a ≠ b) (h2 : a ≠ bend_ n m (lett m ls) b) : emptN m ls (metP n m (lett m ls) a b) = bothN n m (lett m ls) a b := by
  unfold emptN metP
  rw [countP_filter_map]
  have e : (List.range (blen n m (lett m ls) b)).countP (fun j => goesC n m (lett m ls) a (cellN m (bway n m (lett m ls) b j)) && lett m ls (bway n m (lett m ls) b j).i (bway n m (lett m ls) b j).k == 46) = (bcells n m (lett m ls) b).countP fun c => goesC n m (lett m ls) a c && emptyC m (lett m ls) c := by
    unfold bcells
    rw [List.countP_map]
    refine List.countP_congr fun j hj => ?_
    simp only [Function.comp]
    rw [empty_way (n := n) (blen_in (List.mem_range.1 hj))]
  rw [e, countP_sum, sum_swap _ (n * m) _ bcells_lt]
  unfold bothN
  rw [← sumN_countP]
  refine sumN_congr _ fun c _ => ?_
  cases he : emptyC m (lett m ls) c with
  | false => simp
  | true =>
    by_cases hc : 0 < (bcells n m (lett m ls) a).count c
    · have h3 := count_other hn hm ha hb h1 h2 hc
      have hg : goesC n m (lett m ls) a c = true := decide_eq_true hc
      rw [hg]
      by_cases hd : 0 < (bcells n m (lett m ls) b).count c
      · have hg2 : goesC n m (lett m ls) b c = true := decide_eq_true hd
        rw [hg2]
        simp
        omega
      · have hg2 : goesC n m (lett m ls) b c = false := decide_eq_false hd
        rw [hg2]
        simp
        omega
    · have hg : goesC n m (lett m ls) a c = false := decide_eq_false hc
      rw [hg]
      simp

/-- What CrossBetween comes to. -/
def BothOut (ss : List ByteArray) (p q x : Int) (ok : Bool) : Prop :=
  (∃ n m a b, MeetIn ss p q n m a b ∧ x = ((bothN n m (lett m (pad (flat ss))) a b : Nat) : Int) ∧ ok = true) ∨ ((∀ n m a b, ¬ MeetIn ss p q n m a b) ∧ x = 0 ∧ ok = false)
theorem BothOut.uniq {ss : List ByteArray} {p q x x' : Int} {ok ok' : Bool} (h : BothOut ss p q x ok) (h' : BothOut ss p q x' ok') : x' = x ∧ ok' = ok := by
  rcases h with ⟨n, m, a, b, h1, rfl, rfl⟩ | ⟨h1, rfl, rfl⟩ <;> rcases h' with ⟨n', m', a', b', h1', rfl, rfl⟩ | ⟨h1', rfl, rfl⟩
  · obtain ⟨rfl, rfl, rfl⟩ := h1.1.uniq h1'.1
    obtain ⟨_, _, rfl⟩ := h1.2.1.uniq h1'.2.1
    exact ⟨rfl, rfl⟩
  · exact absurd h1 (h1' _ _ _ _)
  · exact absurd h1' (h1 _ _ _ _)
  · exact ⟨rfl, rfl⟩
/-- What the operations of CrossBetween's last statement hand back. -/
def betweenRel (m : Nat) (ls : List UInt8) (cs : Array Value) (a b : Nat) (mp : List (Int × Int)) (i : Nat) (v : Value) (W : World) : Prop :=
  match i with
  | 0 => v = .agg cs
  | 1 => v = .agg cs
  | 2 => v = .int .i64 (a : Int)
  | 3 => v = .int .i64 (b : Int)
  | 4 => ∃ A c, v = .slice A mp.length c ∧ Plcs W A mp
  | 5 => v = .int .i64 ((emptN m ls mp : Nat) : Int)
  | 6 => v = .int .i64 ((emptN m ls mp : Nat) : Int)
  | 7 => v = .bool true
  | _ => True

set_option maxRecDepth 100000 in
set_option maxHeartbeats 4000000 in
theorem implBeamMeets_any (A : Option Addr) (c : Nat) (ss : List ByteArray) (p q : Int) (w : World) (h : Strs w w.heap.size A ss) (hn : ss.length ≤ 1048576) (hs : ∀ s ∈ ss, s.size ≤ 1048576) :
    Calls Try.prog 19 #[.slice A ss.length c, .int .i64 p, .int .i64 q] w fun e w' => Below w.heap.size w w' ∧ ∃ x ok, e = .returned (.tuple #[.int .i64 x, .bool ok]) ∧ MeetOut ss p q x ok := by
  have HR := hid (gridWithBeams_any A c ss p q w h hn hs)
  clear h hs
  go_enter Try.func19, Try.ntmps19
  go_wp2_with fail
  refine HR.out.mono ?_
  rintro e w1 ⟨hbel, ⟨n, m, a, b, hm, rfl⟩ | ⟨hno, rfl⟩⟩
  · have HB := hid hbel
    have hg := hm.1.1
    obtain rfl := hm.1.2.1
    obtain rfl := hm.2.1.2.1
    have HMI := hid hm
    have hn5 := hg.2.2.1
    have hm5 := hg.2.2.2.2.1
    have hn1 := hg.2.1
    have hm1 := hg.2.2.2.1
    have ha := hm.1.2.2
    have hb := hm.2.1.2.2
    have hab := hm.2.2.1
    have hba : a ≠ bend_ n m (lett m (pad (flat ss))) b := fun e => hm.2.2.2 (by rw [e]; exact (back_facts hn1 hm1 hb).2)
    have HGC := hid (show (gcells n m (pad (flat ss))).size = 27 from hg.csize)
    have HONE := hid (gcells_one n m (pad (flat ss)))
    have HME := hid (fun w' => meetings_any n m a b (pad (flat ss)) w' hg.plen hn1 hn5 hm1 hm5 ha hb)
    have HRR := hid (show (((metP n m (lett m (pad (flat ss))) a b).length : Nat) : Int) = ((meetN n m (lett m (pad (flat ss))) a b : Nat) : Int) by rw [metP_length hn1 hm1 ha hb hab hba])
    clear hbel hm
    generalize metP n m (lett m (pad (flat ss))) a b = mp at *
    generalize gcells n m (pad (flat ss)) = cs at *
    clear hg hab hba
    have HS := hid (show (Try.prog.info? 46).map (·.size) = some cs.size by rw [HGC.out]; exact Try.size_grid)
    have HZ := hid (show zeroG.size = cs.size by rw [HGC.out]; rfl)
    have HL := hid (setRow_heap (w1.alloc (.cells zeroG 46)) w1.heap.size zeroG cs 46 (0, 0) (heap_new0 w1 _))
    have HW := hid (HB.out.trans (below_setRow' ((Below.refl _ w1).alloc HB.out.size (.cells zeroG 46)) HB.out.size cs))
    generalize hX : (w1.alloc (.cells zeroG 46)).setRow w1.heap.size cs = X at HL HW
    have HX := hid hX
    clear hX
    go_wp2_with (first
      | (refine wpList_store_row rfl 46 _ _ rfl w1.heap.size cs rfl rfl 46 zeroG (heap_new0 w1 _) HS.out HZ.out HONE.out ?_; rw [HX.out])
      | refine wpList_load_row rfl 46 _ rfl w1.heap.size rfl 46 cs (0, 0) _ HL.out Try.underlying46 rfl HS.out ?_)
    refine (HME.out _).mono ?_
    rintro e w4 ⟨v, rfl, hgp, hb4⟩
    obtain ⟨A', c', rfl⟩ := hgp.slice
    have HB5 := hid (HW.out.trans (hb4.mono HW.out.size))
    clear hgp hb4
    go_wp2_with fail
    refine bodyPost_ret (results_tmp2 rfl _ _ _) rfl ?_
    exact ⟨HB5.out, _, true, rfl, .inl ⟨n, m, a, b, HMI.out, HRR.out, rfl⟩⟩
  · have HB := hid hbel
    have HGr := hid hno
    clear hbel hno
    go_wp2_with (refine wpList_store_row rfl 46 _ _ rfl w1.heap.size zeroG rfl rfl 46 zeroG (heap_new0 w1 _) Try.size_grid rfl (gcells_one 0 0 (pad [])) ?_)
    refine bodyPost_ret (results_tmp2 rfl _ _ _) rfl ?_
    exact ⟨HB.out.trans (below_setRow' ((Below.refl _ w1).alloc HB.out.size _) HB.out.size _), 0, false, rfl, .inr ⟨HGr.out, rfl, rfl⟩⟩

set_option maxRecDepth 100000 in
set_option maxHeartbeats 4000000 in
theorem implCrossBetween_any (A : Option Addr) (c : Nat) (ss : List ByteArray) (p q : Int) (w : World) (h : Strs w w.heap.size A ss) (hn : ss.length ≤ 1048576) (hs : ∀ s ∈ ss, s.size ≤ 1048576) :
    Calls Try.prog 21 #[.slice A ss.length c, .int .i64 p, .int .i64 q] w fun e w' => Below w.heap.size w w' ∧ ∃ x ok, e = .returned (.tuple #[.int .i64 x, .bool ok]) ∧ BothOut ss p q x ok := by
  have HR := hid (gridWithBeams_any A c ss p q w h hn hs)
  clear h hs
  go_enter Try.func21, Try.ntmps21
  go_wp2_with fail
  refine HR.out.mono ?_
  rintro e w1 ⟨hbel, ⟨n, m, a, b, hm, rfl⟩ | ⟨hno, rfl⟩⟩
  · have HB := hid hbel
    have hg := hm.1.1
    obtain rfl := hm.1.2.1
    obtain rfl := hm.2.1.2.1
    have HMI := hid hm
    have hn5 := hg.2.2.1
    have hm5 := hg.2.2.2.2.1
    have hn1 := hg.2.1
    have hm1 := hg.2.2.2.1
    have ha := hm.1.2.2
    have hb := hm.2.1.2.2
    have hab := hm.2.2.1
    have hba : a ≠ bend_ n m (lett m (pad (flat ss))) b := fun e => hm.2.2.2 (by rw [e]; exact (back_facts hn1 hm1 hb).2)
    have HGC := hid (show (gcells n m (pad (flat ss))).size = 27 from hg.csize)
    have HONE := hid (gcells_one n m (pad (flat ss)))
    have HME := hid (fun w' => meetings_any n m a b (pad (flat ss)) w' hg.plen hn1 hn5 hm1 hm5 ha hb)
    have HRR := hid (show ((emptN m (pad (flat ss)) (metP n m (lett m (pad (flat ss))) a b) : Nat) : Int) = ((bothN n m (lett m (pad (flat ss))) a b : Nat) : Int) by rw [empt_metP hn1 hm1 ha hb hab hba])
    have HML := hid (show (metP n m (lett m (pad (flat ss))) a b).length ≤ 100 by
      rw [metP_length hn1 hm1 ha hb hab hba]
      unfold meetN
      have := List.countP_le_length (p := fun c => goesC n m (lett m (pad (flat ss))) a c && goesC n m (lett m (pad (flat ss))) b c) (l := List.range (n * m))
      rw [List.length_range] at this
      have := hg.le25
      omega)
    have HEM := hid (fun A c w' (h : Plcs w' A (metP n m (lett m (pad (flat ss))) a b)) => empties_any n m (pad (flat ss)) A c (metP n m (lett m (pad (flat ss))) a b) w' hg.plen hn5 hm5 HML.out metP_in h)
    clear hbel hm
    generalize metP n m (lett m (pad (flat ss))) a b = mp at *
    generalize gcells n m (pad (flat ss)) = cs at *
    clear hg hab hba
    have HS := hid (show (Try.prog.info? 46).map (·.size) = some cs.size by rw [HGC.out]; exact Try.size_grid)
    have HZ := hid (show zeroG.size = cs.size by rw [HGC.out]; rfl)
    have HL := hid (setRow_heap (w1.alloc (.cells zeroG 46)) w1.heap.size zeroG cs 46 (0, 0) (heap_new0 w1 _))
    have HW := hid (HB.out.trans (below_setRow' ((Below.refl _ w1).alloc HB.out.size (.cells zeroG 46)) HB.out.size cs))
    generalize hX : (w1.alloc (.cells zeroG 46)).setRow w1.heap.size cs = X at HL HW
    have HX := hid hX
    clear hX
    go_wp2_with (refine wpList_store_row rfl 46 _ _ rfl w1.heap.size cs rfl rfl 46 zeroG (heap_new0 w1 _) HS.out HZ.out HONE.out ?_; rw [HX.out])
    have HRX := hid (show ∀ x : Int, x = ((emptN m (pad (flat ss)) mp : Nat) : Int) → x = ((bothN n m (lett m (pad (flat ss))) a b : Nat) : Int) from fun x hx => by rw [hx]; exact HRR.out)
    refine wp_region_rel (by kernel_rfl) (by kernel_rfl) 8 rfl (fun us => { tmps := #[.slice A ss.length c, .int .i64 (a : Int), .int .i64 (b : Int), undef, undef, undef, us 6, us 7, .pointer (some ⟨w1.heap.size, 0, none⟩), .bool true, .tuple #[.agg cs, .bool true], .slice A ss.length c, .int .i64 (a : Int), .int .i64 (b : Int), .tuple #[.agg cs, .bool true],
      .agg cs, .bool true, .bool true, .bool false, us 0, us 1, us 2, us 3, us 4, us 5], defers := [] }) (fun k => if k = 6 then .int .i64 0 else if k = 7 then .bool false else undef) rfl (betweenRel m (pad (flat ss)) cs a b mp) (fun i v W W' h hb => ?_) (fun i us v hi => ?_) (fun i us W hi hb hd => ?_) (fun us W hb hr => ?_)
    · unfold betweenRel at h ⊢
      split at h <;> try exact h
      obtain ⟨A', c', h1, h2⟩ := h
      exact ⟨A', c', h1, h2.below hb⟩
    · match i, hi with
      | 0, _ => rfl
      | 1, _ => rfl
      | 2, _ => rfl
      | 3, _ => rfl
      | 4, _ => rfl
      | 5, _ => rfl
      | 6, _ => rfl
      | 7, _ => rfl
    · have L0 := hid ((hb.block _ (lt_of_block HL.out)).trans HL.out)
      match i, hi with
      | 0, _ => exact wpOp_val rfl rfl (exec_load_row 46 _ rfl w1.heap.size rfl 46 cs (0, 0) _ L0.out Try.underlying46 rfl HS.out) rfl
      | 1, _ => exact wpOp_val rfl rfl (exec_load_row 46 _ rfl w1.heap.size rfl 46 cs (0, 0) _ L0.out Try.underlying46 rfl HS.out) rfl
      | 2, _ => exact wpOp_val rfl rfl (by go_simp) rfl
      | 3, _ => exact wpOp_val rfl rfl (by go_simp) rfl
      | 4, _ =>
        have h1 : us 1 = _ := hd _ rfl { on := 1, ground := .data } (by simp) rfl
        have h2 : us 2 = _ := hd _ rfl { on := 2, ground := .data } (by simp) rfl
        have h3 : us 3 = _ := hd _ rfl { on := 3, ground := .data } (by simp) rfl
        rw [h1, h2, h3]
        exact wpOp_call rfl rfl (by go_simp) ((HME.out W).mono fun e w'' ⟨v, he, hgp, hb'⟩ => by
          obtain ⟨A', c', rfl, hpl⟩ := hgp.plcs
          exact ⟨_, he, ⟨A', c', rfl, hpl⟩, hb'⟩)
      | 5, _ =>
        have h0 : us 0 = _ := hd _ rfl { on := 0, ground := .data } (by simp) rfl
        obtain ⟨A', c', h2, hpl⟩ : ∃ A c, us 4 = .slice A mp.length c ∧ Plcs W A mp := hd _ rfl { on := 4, ground := .data } (by simp) rfl
        rw [h0, h2]
        exact wpOp_call rfl rfl (by go_simp) ((HEM.out A' c' W hpl).mono fun e w'' ⟨he, hb'⟩ => ⟨_, he, rfl, hb'⟩)
      | 6, _ =>
        have h3 : us 5 = _ := hd _ rfl { on := 5, ground := .data } (by simp) rfl
        rw [h3]
        exact wpOp_val rfl rfl (by go_simp) rfl
      | 7, _ => exact wpOp_val rfl rfl (by go_simp) rfl
    · have h4 : us 6 = _ := hr 6 (by omega)
      have h5 : us 7 = _ := hr 7 (by omega)
      rw [h4, h5]
      have HB5 := hid (HW.out.trans (hb.mono HW.out.size))
      clear hr hb
      go_wp2_with fail
      refine bodyPost_ret (results_tmp2 rfl _ _ _) rfl ?_
      exact ⟨HB5.out, _, true, rfl, .inl ⟨n, m, a, b, HMI.out, HRX.out _ rfl, rfl⟩⟩
  · have HB := hid hbel
    have HGr := hid hno
    clear hbel hno
    go_wp2_with (refine wpList_store_row rfl 46 _ _ rfl w1.heap.size zeroG rfl rfl 46 zeroG (heap_new0 w1 _) Try.size_grid rfl (gcells_one 0 0 (pad [])) ?_)
    refine bodyPost_ret (results_tmp2 rfl _ _ _) rfl ?_
    exact ⟨HB.out.trans (below_setRow' ((Below.refl _ w1).alloc HB.out.size _) HB.out.size _), 0, false, rfl, .inr ⟨HGr.out, rfl, rfl⟩⟩
end Go.Proofs.Ytagnecclhmbofaa
