/- BeamMeets and CrossBetween of the program, by their contracts. -/
import Derived.Test.YtpbppkidglmacaaMeetL
import Derived.Test.YtpbppkidglmacaaWithBeams
namespace Go.Proofs.Ytpbppkidglmacaa
open Go.RowKit Go.Shelf

theorem metP_length {n m : Nat} {t : Int → Int → UInt8} {a b : Nat} (hn : 1 ≤ n) (hm : 1 ≤ m) (ha : a < 2 * (n + m)) (hb : b < 2 * (n + m)) (h1 : a ≠ b) (h2 : a ≠ bend_ n m t b) : (metP n m t a b).length = meetN n m t a b := by
  unfold metP
  rw [List.length_map, ← List.countP_eq_length_filter]
  exact meet_count hn hm ha hb h1 h2
theorem metP_in {n m : Nat} {t : Int → Int → UInt8} {a b : Nat} : ∀ p ∈ metP n m t a b, 0 ≤ p.1 ∧ p.1 < n ∧ 0 ≤ p.2 ∧ p.2 < m := fun p hp => by
  unfold metP at hp
  obtain ⟨j, hj, rfl⟩ := List.mem_map.1 hp
  exact blen_in (List.mem_range.1 (List.mem_filter.1 hj).1)
theorem empty_way {n m : Nat} {t : Int → Int → UInt8} {x : Wy} (hx : inG n m x) : emptyC m t (cellN m x) = (t x.i x.k == 46) := by
  obtain ⟨h1, h2, h3, h4⟩ := hx
  have hm : 0 < m := by omega
  have hk : x.k.toNat < m := by omega
  unfold emptyC cellN
  rw [show (x.i.toNat * m + x.k.toNat) / m = x.i.toNat by rw [Nat.mul_comm, Nat.mul_add_div hm, Nat.div_eq_of_lt hk, Nat.add_zero], show (x.i.toNat * m + x.k.toNat) % m = x.k.toNat by rw [Nat.mul_comm, Nat.mul_add_mod, Nat.mod_eq_of_lt hk], Int.toNat_of_nonneg h1, Int.toNat_of_nonneg h3]
theorem empt_metP {n m : Nat} {ls : List UInt8} {a b : Nat} (hn : 1 ≤ n) (hm : 1 ≤ m) (ha : a < 2 * (n + m)) (hb : b < 2 * (n + m)) (h1 : a ≠ b) (h2 : a ≠ bend_ n m (lett m ls) b) : emptN m ls (metP n m (lett m ls) a b) = bothN n m (lett m ls) a b := by
  unfold emptN metP
  rw [countP_filter_map]
  have e : (List.range (blen n m (lett m ls) b)).countP (fun j => goesC n m (lett m ls) a (cellN m (bway n m (lett m ls) b j)) && lett m ls (bway n m (lett m ls) b j).i (bway n m (lett m ls) b j).k == 46) = (bcells n m (lett m ls) b).countP fun c => goesC n m (lett m ls) a c && emptyC m (lett m ls) c := by
    unfold bcells
    rw [List.countP_map]
    refine List.countP_congr fun j hj => ?_
    simp only [Function.comp]
    rw [empty_way (n := n) (blen_in (List.mem_range.1 hj))]
  rw [e, countP_sum, sum_swap _ (n * m) _ bcells_lt]
  unfold bothN
  rw [← sumN_countP]
  refine sumN_congr _ fun c _ => ?_
  cases he : emptyC m (lett m ls) c with
  | false => simp
  | true =>
    by_cases hc : 0 < (bcells n m (lett m ls) a).count c
    · have h3 := count_other hn hm ha hb h1 h2 hc
      have hg : goesC n m (lett m ls) a c = true := decide_eq_true hc
      rw [hg]
      by_cases hd : 0 < (bcells n m (lett m ls) b).count c
      · have hg2 : goesC n m (lett m ls) b c = true := decide_eq_true hd
        rw [hg2]
        simp
        omega
      · have hg2 : goesC n m (lett m ls) b c = false := decide_eq_false hd
        rw [hg2]
        simp
        omega
    · have hg : goesC n m (lett m ls) a c = false := decide_eq_false hc
      rw [hg]
      simp

/-- What CrossBetween comes to. -/
def BothOut (ss : List ByteArray) (p q x : Int) (ok : Bool) : Prop :=
  (∃ n m a b, MeetIn ss p q n m a b ∧ x = ((bothN n m (lett m (pad (flat ss))) a b : Nat) : Int) ∧ ok = true) ∨ ((∀ n m a b, ¬ MeetIn ss p q n m a b) ∧ x = 0 ∧ ok = false)
theorem BothOut.uniq {ss : List ByteArray} {p q x x' : Int} {ok ok' : Bool} (h : BothOut ss p q x ok) (h' : BothOut ss p q x' ok') : x' = x ∧ ok' = ok := by
  rcases h with ⟨n, m, a, b, h1, rfl, rfl⟩ | ⟨h1, rfl, rfl⟩ <;> rcases h' with ⟨n', m', a', b', h1', rfl, rfl⟩ | ⟨h1', rfl, rfl⟩
  · obtain ⟨rfl, rfl, rfl⟩ := h1.1.uniq h1'.1
    obtain ⟨_, _, rfl⟩ := h1.2.1.uniq h1'.2.1
    exact ⟨rfl, rfl⟩
  · exact absurd h1 (h1' _ _ _ _)
  · exact absurd h1' (h1 _ _ _ _)
  · exact ⟨rfl, rfl⟩
/-- What the operations of CrossBetween's last statement hand back. -/
def betweenRel (m : Nat) (ls : List UInt8) (cs : Array Value) (a b : Nat) (mp : List (Int × Int)) (i : Nat) (v : Value) (W : World) : Prop :=
  match i with
  | 0 => v = .agg cs
  | 1 => v = .agg cs
  | 2 => v = .int .i64 (a : Int)
  | 3 => v = .int .i64 (b : Int)
  | 4 => ∃ A c, v = .slice A mp.length c ∧ Plcs W A mp
  | 5 => v = .int .i64 ((emptN m ls mp : Nat) : Int)
  | 6 => v = .int .i64 ((emptN m ls mp : Nat) : Int)
  | 7 => v = .bool true
  | _ => True

set_option maxRecDepth 100000 in
set_option maxHeartbeats 4000000 in
theorem implBeamMeets_any (A : Option Addr) (c : Nat) (ss : List ByteArray) (p q : Int) (w : World) (h : Strs w w.heap.size A ss) (hn : ss.length ≤ 1048576) (hs : ∀ s ∈ ss, s.size ≤ 1048576) :
    Calls Try.prog 41 #[.slice A ss.length c, .int .i64 p, .int .i64 q] w fun e w' => Below w.heap.size w w' ∧ ∃ x ok, e = .returned (.tuple #[.int .i64 x, .bool ok]) ∧ MeetOut ss p q x ok := by
  have HR := hid (gridWithBeams_any A c ss p q w h hn hs)
  clear h hs
  go_enter Try.func41, Try.ntmps41
  go_wp2_with fail
  refine HR.out.mono ?_
  rintro e w1 ⟨hbel, ⟨n, m, a, b, hm, rfl⟩ | ⟨hno, rfl⟩⟩
  · have HB := hid hbel
    have hg := hm.1.1
    obtain rfl := hm.1.2.1
    obtain rfl := hm.2.1.2.1
    have HMI := hid hm
    have hn5 := hg.2.2.1
    have hm5 := hg.2.2.2.2.1
    have hn1 := hg.2.1
    have hm1 := hg.2.2.2.1
    have ha := hm.1.2.2
    have hb := hm.2.1.2.2
    have hab := hm.2.2.1
    have hba : a ≠ bend_ n m (lett m (pad (flat ss))) b := fun e => hm.2.2.2 (by rw [e]; exact (back_facts hn1 hm1 hb).2)
    have HGC := hid (show (gcells n m (pad (flat ss))).size = 27 from hg.csize)
    have HONE := hid (gcells_one n m (pad (flat ss)))
    have HME := hid (fun w' => meetings_any n m a b (pad (flat ss)) w' hg.plen hn1 hn5 hm1 hm5 ha hb)
    have HRR := hid (show (((metP n m (lett m (pad (flat ss))) a b).length : Nat) : Int) = ((meetN n m (lett m (pad (flat ss))) a b : Nat) : Int) by rw [metP_length hn1 hm1 ha hb hab hba])
    clear hbel hm
    generalize metP n m (lett m (pad (flat ss))) a b = mp at *
    generalize gcells n m (pad (flat ss)) = cs at *
    clear hg hab hba
    have HS := hid (show (Try.prog.info? 44).map (·.size) = some cs.size by rw [HGC.out]; exact Try.size_grid)
    have HZ := hid (show zeroG.size = cs.size by rw [HGC.out]; rfl)
    have HL := hid (setRow_heap (w1.alloc (.cells zeroG 44)) w1.heap.size zeroG cs 44 (0, 0) (heap_new0 w1 _))
    have HW := hid (HB.out.trans (below_setRow' ((Below.refl _ w1).alloc HB.out.size (.cells zeroG 44)) HB.out.size cs))
    generalize hX : (w1.alloc (.cells zeroG 44)).setRow w1.heap.size cs = X at HL HW
    have HX := hid hX
    clear hX
    go_wp2_with (first
      | (refine wpList_store_row rfl 44 _ _ rfl w1.heap.size cs rfl rfl 44 zeroG (heap_new0 w1 _) HS.out HZ.out HONE.out ?_; rw [HX.out])
      | refine wpList_load_row rfl 44 _ rfl w1.heap.size rfl 44 cs (0, 0) _ HL.out Try.underlying44 rfl HS.out ?_)
    refine (HME.out _).mono ?_
    rintro e w4 ⟨v, rfl, hgp, hb4⟩
    obtain ⟨A', c', rfl⟩ := hgp.slice
    have HB5 := hid (HW.out.trans (hb4.mono HW.out.size))
    clear hgp hb4
    go_wp2_with fail
    refine bodyPost_ret (results_tmp2 rfl _ _ _) rfl ?_
    exact ⟨HB5.out, _, true, rfl, .inl ⟨n, m, a, b, HMI.out, HRR.out, rfl⟩⟩
  · have HB := hid hbel
    have HGr := hid hno
    clear hbel hno
    go_wp2_with (refine wpList_store_row rfl 44 _ _ rfl w1.heap.size zeroG rfl rfl 44 zeroG (heap_new0 w1 _) Try.size_grid rfl (gcells_one 0 0 (pad [])) ?_)
    refine bodyPost_ret (results_tmp2 rfl _ _ _) rfl ?_
    exact ⟨HB.out.trans (below_setRow' ((Below.refl _ w1).alloc HB.out.size _) HB.out.size _), 0, false, rfl, .inr ⟨HGr.out, rfl, rfl⟩⟩

end Go.Proofs.Ytpbppkidglmacaa
