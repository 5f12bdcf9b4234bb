/- The way behind a way, by its contract. -/
import Derived.Test.YtmdgbcepjnfbnaaStep
namespace Go.Proofs.Ytmdgbcepjnfbnaa
open Go.RowKit

theorem Try.size_way : (Try.prog.info? 79).map (·.size) = some 3 := by kernel_rfl
theorem Try.size_place : (Try.prog.info? 75).map (·.size) = some 2 := by kernel_rfl
/-- The cells of a way. -/
def wayC (x : Wy) : Array Value := #[.int .i64 x.i, .int .i64 x.k, .int .i64 ((x.d : Nat) : Int)]
theorem wayV_eq (x : Wy) : wayV x = .agg (wayC x) := rfl
theorem inG_cell {n m : Nat} {ls : List UInt8} {x : Wy} (hl : ls.length = 25) (hn : n ≤ 5) (hm : m ≤ 5) (hx : inG n m x) :
    ∃ p : Nat, p < 25 ∧ x.i * (m : Int) + x.k = (p : Int) ∧ ls[p]? = some (lett m ls x.i x.k) := by
  have h1 := cellN_int hx
  have h2 := cellN_lt hx
  have h3 : n * m ≤ 5 * 5 := Nat.mul_le_mul hn hm
  refine ⟨cellN m x, by omega, h1, ?_⟩
  unfold lett
  rw [h1, Int.toNat_natCast, List.getD_eq_getElem?_getD, List.getElem?_eq_getElem (by omega)]
  rfl

set_option maxRecDepth 100000 in
set_option maxHeartbeats 1000000 in
theorem onward_any (n m : Nat) (ls : List UInt8) (x : Wy) (w : World) (hl : ls.length = 25) (hn : n ≤ 5) (hm : m ≤ 5) (hx : inG n m x) (hd : x.d < 4) :
    Calls Try.prog 134 #[.agg (gcells n m ls), wayV x] w fun e w' => e = .returned (wayV (nxt (lett m ls) x)) ∧ Below w.heap.size w w' := by
  obtain ⟨p, hp, he, hb⟩ := inG_cell hl hn hm hx
  have hbd := bend_lt (lett m ls x.i x.k) hd
  obtain ⟨x1, x2, x3, x4⟩ := hx
  have HAT := hid (fun w' => at_any n m ls x.i x.k p (lett m ls x.i x.k) w' hl hp he ⟨x1, by omega⟩ hm hb)
  have HBE := hid (fun w' => behind_any (lett m ls x.i x.k) x.d hd w')
  have HNX := hid (fun w' => next_any x.i x.k (bend (lett m ls x.i x.k) x.d) hbd ⟨by omega, by omega⟩ ⟨by omega, by omega⟩ w')
  have HG := hid (show (Try.prog.info? 57).map (·.size) = some (gcells n m ls).size by rw [gcells_size hl]; exact Try.size_grid)
  unfold nxt
  rw [wayV_eq, wayV_eq]
  unfold wayC
  simp only
  generalize bend (lett m ls x.i x.k) x.d = d' at HBE HNX hbd ⊢
  generalize lett m ls x.i x.k = b at HAT HBE
  generalize hdd : ((x.d : Nat) : Int) = dv at HBE ⊢
  generalize x.i = i at *
  generalize x.k = k at *
  generalize hgc : gcells n m ls = cs at *
  clear hb he hp hbd x1 x2 x3 x4 hd hdd hl hgc
  go_enter Try.func134, Try.ntmps134
  go_wp2
  have F0 := heap_new2 w (.cells cs 57) (.cells #[.int .i64 i, .int .i64 k, .int .i64 dv] 79) (.cells #[.int .i64 0, .int .i64 0, .int .i64 0] 79)
  have F1 := heap_new1 (w.alloc (.cells cs 57)) (.cells #[.int .i64 i, .int .i64 k, .int .i64 dv] 79) (.cells #[.int .i64 0, .int .i64 0, .int .i64 0] 79)
  have F2 := heap_new0 ((w.alloc (.cells cs 57)).alloc (.cells #[.int .i64 i, .int .i64 k, .int .i64 dv] 79)) (.cells #[.int .i64 0, .int .i64 0, .int .i64 0] 79)
  have FB : Below w.heap.size w (((w.alloc (.cells cs 57)).alloc (.cells #[.int .i64 i, .int .i64 k, .int .i64 dv] 79)).alloc (.cells #[.int .i64 0, .int .i64 0, .int .i64 0] 79)) := (((Below.refl _ w).alloc (Nat.le_refl _) _).alloc (by simp) _).alloc (by simp; omega) _
  simp only [World.size_alloc] at F1 F2
  generalize World.alloc (World.alloc (World.alloc w _) _) _ = W at F0 F1 F2 FB ⊢
  have G0 := hid (show ∀ w', Cls W w' → w'.heap[w.heap.size]? = some (.cells cs 57 (0, 0)) from fun w' hw => (hw.block _ (lt_of_block F0)).trans F0)
  have G1 := hid (show ∀ w', Cls W w' → w'.heap[w.heap.size + 1]? = some (.cells #[.int .i64 i, .int .i64 k, .int .i64 dv] 79 (0, 0)) from fun w' hw => (hw.block _ (lt_of_block F1)).trans F1)
  have G2 := hid (show ∀ w', Cls W w' → w'.heap[w.heap.size + 1 + 1]? = some (.cells #[.int .i64 0, .int .i64 0, .int .i64 0] 79 (0, 0)) from fun w' hw => (hw.block _ (lt_of_block F2)).trans F2)
  have GB := hid FB
  have C0 := hid (show ∀ w', Cls W w' → w'.cell? ⟨w.heap.size + 1, 0, none⟩ = some (.int .i64 i) from fun w' hw => by rw [cell_of_row _ _ _ _ _ _ (G1.out w' hw)]; rfl)
  have C1 := hid (show ∀ w', Cls W w' → w'.cell? ⟨w.heap.size + 1, 1, none⟩ = some (.int .i64 k) from fun w' hw => by rw [cell_of_row _ _ _ _ _ _ (G1.out w' hw)]; rfl)
  have C2 := hid (show ∀ w', Cls W w' → w'.cell? ⟨w.heap.size + 1, 2, none⟩ = some (.int .i64 dv) from fun w' hw => by rw [cell_of_row _ _ _ _ _ _ (G1.out w' hw)]; rfl)
  clear F0 F1 F2 FB
  refine wp_region_quiet (C := Cls W) (by kernel_rfl) (by kernel_rfl) (Below.refl _ W).drew ?_
  quiet_step ((intro _; rfl))
  refine wpQuiet_value rfl (.int .i64 dv) (fun w' hw => by have hc := C2.out w' hw; go_simp) ?_
  refine wpQuiet_load_row rfl 57 _ rfl w.heap.size rfl 57 cs (0, 0) _ G0.out Try.underlying57 rfl HG.out ?_
  quiet_step ((intro _; rfl))
  refine wpQuiet_value rfl (.agg #[.int .i64 i, .int .i64 k]) (fun w' hw => by have hc := C0.out w' hw; have hc1 := C1.out w' hw; go_simp) ?_
  refine wpQuiet_call rfl 125 #[.agg cs, .agg #[.int .i64 i, .int .i64 k]] (.int .u8 b.toNat) (fun w _ => by go_simp) (fun w' hw => (HAT.out w').mono fun e w'' ⟨he, hb'⟩ => ⟨he, hw.trans (hb'.mono hw.size)⟩) ?_
  refine wpQuiet_call rfl 153 #[.int .i64 dv, .int .u8 b.toNat] (.int .i64 ((d' : Nat) : Int)) (fun w _ => by go_simp) (fun w' hw => (HBE.out w').mono fun e w'' ⟨he, hb'⟩ => ⟨he, by rw [← hb']; exact hw⟩) ?_
  quiet_step ((intro _; rfl))
  refine wpQuiet_nil ?_
  intro w2 hw2
  have c0 := C0.out w2 hw2
  have c1 := C1.out w2 hw2
  have g2 := hid (G2.out w2 hw2)
  have HB2 := hid (GB.out.trans (hw2.mono GB.out.size))
  clear hw2
  go_wp2_with fail
  refine (HNX.out _).mono ?_
  rintro e w3 ⟨rfl, hb3⟩
  have g3 := hid ((hb3.block _ (lt_of_block g2.out)).trans g2.out)
  have HB3 := hid (HB2.out.trans (hb3.mono HB2.out.size))
  clear hb3
  have k0 : w3.cell? ⟨w.heap.size + 1 + 1, 0, none⟩ = some (.int .i64 0) := by rw [cell_of_row _ _ _ _ _ _ g3.out]; rfl
  have k1 : w3.cell? ⟨w.heap.size + 1 + 1, 1, none⟩ = some (.int .i64 0) := by rw [cell_of_row _ _ _ _ _ _ g3.out]; rfl
  have k2 : w3.cell? ⟨w.heap.size + 1 + 1, 2, none⟩ = some (.int .i64 0) := by rw [cell_of_row _ _ _ _ _ _ g3.out]; rfl
  have f0 : w3.frozen? ⟨w.heap.size + 1 + 1, 0, none⟩ = false := frozen_of_row _ _ _ _ _ g3.out
  have f1 : w3.frozen? ⟨w.heap.size + 1 + 1, 1, none⟩ = false := frozen_of_row _ _ _ _ _ g3.out
  have f2 : w3.frozen? ⟨w.heap.size + 1 + 1, 2, none⟩ = false := frozen_of_row _ _ _ _ _ g3.out
  go_wp2
  have r0 := heap_setCell_same _ _ 0 _ _ (.int .i64 (stepI i d')) g3.out
  have r1 := heap_setCell_same _ _ 1 _ _ (.int .i64 (stepK k d')) r0
  have r2 := heap_setCell_same _ _ 2 _ _ (.int .i64 ((d' : Nat) : Int)) r1
  refine bodyPost_ret (results_cell_row Try.results134 _ _ (w.heap.size + 1 + 1) 79 #[.int .i64 (stepI i d'), .int .i64 (stepK k d'), .int .i64 ((d' : Nat) : Int)] (0, 0) _ (by rfl) r2 Try.underlying79 rfl Try.size_way) rfl ⟨rfl, ?_⟩
  exact ((HB3.out.setCell (p := ⟨w.heap.size + 1 + 1, 0, none⟩) (by simp; omega) _).setCell (p := ⟨w.heap.size + 1 + 1, 1, none⟩) (by simp; omega) _).setCell (p := ⟨w.heap.size + 1 + 1, 2, none⟩) (by simp; omega) _

/-- The way that stands in cells. -/
def readWay (cs : Array Value) : Wy := ⟨intOf (cs.getD 0 undef), intOf (cs.getD 1 undef), (intOf (cs.getD 2 undef)).toNat⟩
theorem readWay_wayC (x : Wy) : readWay (wayC x) = x := Wy.eq rfl rfl (by simp [readWay, wayC, intOf])
/-- The place of a way among the first ones. -/
def idxW (W : Nat → Wy) (L : Nat) (x : Wy) : Nat := (List.range (L + 1)).findIdx fun j => sameW (W j) x
theorem idxW_eq {W : Nat → Wy} {L j : Nat} (hj : j ≤ L) (hne : ∀ a b, a < b → b ≤ L → W a ≠ W b) : idxW W L (W j) = j := by
  unfold idxW
  rw [List.findIdx_eq (by simpa using Nat.lt_succ_of_le hj)]
  refine ⟨by simpa using sameW_iff.2 rfl, fun a ha => ?_⟩
  rw [List.getElem_range, Bool.eq_false_iff]
  exact fun e => hne a j ha hj (sameW_iff.1 e)

end Go.Proofs.Ytmdgbcepjnfbnaa
