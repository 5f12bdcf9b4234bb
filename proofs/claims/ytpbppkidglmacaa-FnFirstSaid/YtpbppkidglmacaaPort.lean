/- A grid with a port, and BeamEnd of the program, by their contracts. -/
import Derived.Test.YtpbppkidglmacaaPartner
import Derived.Test.YtpbppkidglmacaaPutI
namespace Go.Proofs.Ytpbppkidglmacaa
open Go.RowKit Go.Shelf
attribute [local go_sem] Oper.semAt_some

set_option maxHeartbeats 400000 in
theorem hasPort_any (n m : Nat) (ls : List UInt8) (p : Int) (w : World) (hl : ls.length = 25) (hn : n ≤ 5) (hm : m ≤ 5) :
    Calls Try.prog 79 #[.agg (gcells n m ls), .int .i64 p] w fun e w' => e = .returned (.bool (decide (0 ≤ p ∧ p < ((2 * (n + m) : Nat) : Int)))) ∧ Below w.heap.size w w' := by
  have HS := hid (ports_any n m ls (w.alloc (.cells (gcells n m ls) 44)) hn hm)
  have HG := hid (show (Try.prog.info? 44).map (·.size) = some (gcells n m ls).size by rw [gcells_size hl]; exact Try.size_grid)
  obtain ⟨Ni, hNi⟩ : ∃ Ni : Int, ((2 * (n + m) : Nat) : Int) = Ni := ⟨_, rfl⟩
  rw [hNi] at HS ⊢
  clear hNi
  by_cases h0 : 0 ≤ p
  · have e0 : decide (0 ≤ p) = true := by simpa using h0
    go_enter Try.func79, Try.ntmps79
    go_wp2_with (refine wpList_load_row_g (by rfl) 44 _ rfl w.heap.size rfl 44 (gcells n m ls) (0, 0) _ (heap_new0 w _) Try.underlying44 rfl HG.out ?_)
    refine HS.out.mono ?_
    rintro e w2 ⟨rfl, hb⟩
    have HB := hid hb
    clear hb
    go_wp2_with fail
    go_ret
    refine ⟨?_, ((Below.refl _ w).alloc (Nat.le_refl _) _).trans (HB.out.mono (by simp))⟩
    simp [h0]
  · have e0 : decide (0 ≤ p) = false := by simpa using h0
    have h0' : ¬ (0 ≤ p) := h0
    go_enter Try.func79, Try.ntmps79
    go_wp2_with fail
    go_ret
    refine ⟨?_, (Below.refl _ w).alloc (Nat.le_refl _) _⟩
    simp


/-- A grid, and a number of one of its ports. -/
def PortIn (ss : List ByteArray) (p : Int) (n m q : Nat) : Prop := IsGrid n m ss ∧ p = q ∧ q < 2 * (n + m)
def NoPort (ss : List ByteArray) (p : Int) : Prop := ∀ n m q, ¬ PortIn ss p n m q
/-- What gridWithPort comes to. -/
def GPEnd (ss : List ByteArray) (p : Int) (w : World) (e : Ending) (w' : World) : Prop :=
  Below w.heap.size w w' ∧ ((∃ n m q, PortIn ss p n m q ∧ e = .returned (.tuple #[.agg (gcells n m (pad (flat ss))), .bool true])) ∨ (NoPort ss p ∧ e = .returned (.tuple #[.agg zeroG, .bool false])))

set_option maxRecDepth 100000 in
set_option maxHeartbeats 2000000 in
theorem gridWithPort_any (A : Option Addr) (c : Nat) (ss : List ByteArray) (p : Int) (w : World) (h : Strs w w.heap.size A ss) (hn : ss.length ≤ 1048576) (hs : ∀ s ∈ ss, s.size ≤ 1048576) :
    Calls Try.prog 50 #[.slice A ss.length c, .int .i64 p] w (GPEnd ss p w) := by
  have HR := hid (fun w' hb => readGrid_any A c ss w' (h.below (B' := w.heap.size) hb (Nat.le_refl _) |>.more hb.size) hn hs)
  clear h hs
  have Z0 := hid (heap_new0 w (.cells zeroG 44))
  go_enter Try.func50, Try.ntmps50
  go_wp2_with fail
  refine (HR.out (w.alloc (.cells zeroG 44)) ((Below.refl _ w).alloc (Nat.le_refl _) _)).mono ?_
  rintro e w1 ⟨hbel, ⟨n, m, hg, rfl⟩ | ⟨hno, rfl⟩⟩
  · have HB := hid (((Below.refl _ w).alloc (Nat.le_refl _) (.cells zeroG 44)).trans (hbel.mono (by simp)))
    have Z1 := hid ((hbel.block _ (lt_of_block Z0.out)).trans Z0.out)
    have HGr := hid hg
    have hn5 := hg.2.2.1
    have hm5 := hg.2.2.2.2.1
    have HS := hid (show (Try.prog.info? 44).map (·.size) = some (gcells n m (pad (flat ss))).size by rw [hg.csize]; exact Try.size_grid)
    have HZ := hid (show zeroG.size = (gcells n m (pad (flat ss))).size by rw [hg.csize]; rfl)
    have HHP := hid (fun w => hasPort_any n m (pad (flat ss)) p w hg.plen hn5 hm5)
    have HL := hid (setRow_heap (w1.alloc (.cells zeroG 44)) w1.heap.size zeroG (gcells n m (pad (flat ss))) 44 (0, 0) (heap_new0 w1 _))
    have HL0 := hid (show ((w1.alloc (.cells zeroG 44)).setRow w1.heap.size (gcells n m (pad (flat ss)))).heap[w.heap.size]? = some (.cells zeroG 44 (0, 0)) by
      rw [setRow_other _ _ _ _ (by have := lt_of_block Z1.out; omega)]; exact (Below.heap_alloc _ _ _ (lt_of_block Z1.out)).trans Z1.out)
    have HW := hid (HB.out.trans (below_setRow' ((Below.refl _ w1).alloc HB.out.size (.cells zeroG 44)) HB.out.size (gcells n m (pad (flat ss)))))
    generalize hgc : gcells n m (pad (flat ss)) = cs at HS HZ HHP HL HL0 HW ⊢
    have HC := hid hgc
    have HONE := hid (show cs.all (·.oneCell') = true by rw [← hgc]; exact gcells_one _ _ _)
    clear hbel hg hgc
    go_wp2_with (first
      | refine wpList_store_row rfl 44 _ _ rfl w1.heap.size cs rfl rfl 44 zeroG (heap_new0 w1 _) HS.out HZ.out HONE.out ?_
      | refine wpList_load_row_g (by rfl) 44 _ rfl w1.heap.size rfl 44 cs (0, 0) _ HL.out Try.underlying44 rfl HS.out ?_)
    generalize World.setRow _ _ _ = W0 at HL HW HL0
    refine (HHP.out W0).mono ?_
    rintro e w2 ⟨rfl, hb2⟩
    have HBB := hid (HW.out.trans (hb2.mono HW.out.size))
    have HL2 := hid ((hb2.block _ (lt_of_block HL.out)).trans HL.out)
    have HZ2 := hid ((hb2.block _ (lt_of_block HL0.out)).trans HL0.out)
    clear hb2 HHP
    by_cases hin : 0 ≤ p ∧ p < ((2 * (n + m) : Nat) : Int)
    · rw [decide_eq_true hin]
      have HIN := hid hin
      clear hin
      go_wp2_with (first
        | refine wpList_load_row rfl 44 _ rfl w1.heap.size rfl 44 cs (0, 0) _ HL2.out Try.underlying44 rfl HS.out ?_
        | refine wpList_store_row rfl 44 _ _ rfl w.heap.size cs rfl rfl 44 zeroG HZ2.out HS.out HZ.out HONE.out ?_)
      refine bodyPost_ret (results_row_tmp Try.results50 _ w.heap.size 44 cs (0, 0) _ (by rfl) (setRow_heap _ _ _ _ _ _ HZ2.out) Try.underlying44 rfl HS.out) rfl ?_
      refine ⟨below_setRow' HBB.out (Nat.le_refl _) _, .inl ⟨n, m, p.toNat, ⟨HGr.out, by have := HIN.out; omega, by have := HIN.out; omega⟩, ?_⟩⟩
      rw [HC.out]; rfl
    · rw [decide_eq_false hin]
      have HIN := hid hin
      clear hin
      go_wp2_with (refine wpList_store_row rfl 44 _ _ rfl w.heap.size zeroG rfl rfl 44 zeroG HZ2.out Try.size_grid rfl (gcells_one 0 0 (pad [])) ?_)
      refine bodyPost_ret (results_row_tmp Try.results50 _ w.heap.size 44 zeroG (0, 0) _ (by rfl) (setRow_heap _ _ _ _ _ _ HZ2.out) Try.underlying44 rfl Try.size_grid) rfl ?_
      refine ⟨below_setRow' HBB.out (Nat.le_refl _) _, .inr ⟨?_, rfl⟩⟩
      rintro n' m' q ⟨h1, rfl, h3⟩
      obtain ⟨rfl, rfl⟩ := HGr.out.uniq h1
      exact HIN.out ⟨by omega, by omega⟩
  · have HB := hid (((Below.refl _ w).alloc (Nat.le_refl _) (.cells zeroG 44)).trans (hbel.mono (by simp)))
    have Z1 := hid ((hbel.block _ (lt_of_block Z0.out)).trans Z0.out)
    have Z2 := hid (show ((w1.alloc (.cells zeroG 44)).setRow w1.heap.size zeroG).heap[w.heap.size]? = some (.cells zeroG 44 (0, 0)) by
      rw [setRow_other _ _ _ _ (by have := lt_of_block Z1.out; omega)]; exact (Below.heap_alloc _ _ _ (lt_of_block Z1.out)).trans Z1.out)
    have HGr := hid hno
    clear hbel hno
    go_wp2_with (first
      | refine wpList_store_row rfl 44 _ _ rfl w1.heap.size zeroG rfl rfl 44 zeroG (heap_new0 w1 _) Try.size_grid rfl (gcells_one 0 0 (pad [])) ?_
      | refine wpList_store_row rfl 44 _ _ rfl w.heap.size zeroG rfl rfl 44 zeroG Z2.out Try.size_grid rfl (gcells_one 0 0 (pad [])) ?_)
    refine bodyPost_ret (results_row_tmp Try.results50 _ w.heap.size 44 zeroG (0, 0) _ (by rfl) (setRow_heap _ _ _ _ _ _ Z2.out) Try.underlying44 rfl Try.size_grid) rfl ?_
    exact ⟨below_setRow' (HB.out.trans (below_setRow' ((Below.refl _ w1).alloc HB.out.size _) HB.out.size _)) (Nat.le_refl _) _, .inr ⟨fun n m q hq => HGr.out n m hq.1, rfl⟩⟩

/-- BeamEnd of the program and of the specification. -/
def EndOut (ss : List ByteArray) (p : Int) (x : Int) (ok : Bool) : Prop :=
  (∃ n m q, PortIn ss p n m q ∧ x = ((bend_ n m (lett m (pad (flat ss))) q : Nat) : Int) ∧ ok = true) ∨ (NoPort ss p ∧ x = 0 ∧ ok = false)
theorem PortIn.uniq {ss : List ByteArray} {p : Int} {n m q n' m' q' : Nat} (h : PortIn ss p n m q) (h' : PortIn ss p n' m' q') : n = n' ∧ m = m' ∧ q = q' := by
  obtain ⟨h1, h2⟩ := h.1.uniq h'.1
  exact ⟨h1, h2, by have := h.2.1; have := h'.2.1; omega⟩
theorem EndOut.uniq {ss : List ByteArray} {p x x' : Int} {ok ok' : Bool} (h : EndOut ss p x ok) (h' : EndOut ss p x' ok') : x' = x ∧ ok' = ok := by
  rcases h with ⟨n, m, q, h1, rfl, rfl⟩ | ⟨h1, rfl, rfl⟩ <;> rcases h' with ⟨n', m', q', h1', rfl, rfl⟩ | ⟨h1', rfl, rfl⟩
  · obtain ⟨rfl, rfl, rfl⟩ := h1.uniq h1'
    exact ⟨rfl, rfl⟩
  · exact absurd h1 (h1' _ _ _)
  · exact absurd h1' (h1 _ _ _)
  · exact ⟨rfl, rfl⟩

set_option maxRecDepth 100000 in
set_option maxHeartbeats 1000000 in
theorem implBeamEnd_any (A : Option Addr) (c : Nat) (ss : List ByteArray) (p : Int) (w : World) (h : Strs w w.heap.size A ss) (hn : ss.length ≤ 1048576) (hs : ∀ s ∈ ss, s.size ≤ 1048576) :
    Calls Try.prog 16 #[.slice A ss.length c, .int .i64 p] w fun e w' => Below w.heap.size w w' ∧ ∃ x ok, e = .returned (.tuple #[.int .i64 x, .bool ok]) ∧ EndOut ss p x ok := by
  have HR := hid (gridWithPort_any A c ss p w h hn hs)
  clear h hs
  go_enter Try.func16, Try.ntmps16
  go_wp2_with fail
  refine HR.out.mono ?_
  rintro e w1 ⟨hbel, ⟨n, m, q, hq, rfl⟩ | ⟨hno, rfl⟩⟩
  · have HB := hid hbel
    have hg := hq.1
    obtain rfl := hq.2.1
    have HQ := hid hq
    have HS := hid (show (Try.prog.info? 44).map (·.size) = some (gcells n m (pad (flat ss))).size by rw [hg.csize]; exact Try.size_grid)
    have HZ := hid (show zeroG.size = (gcells n m (pad (flat ss))).size by rw [hg.csize]; rfl)
    have HL := hid (setRow_heap (w1.alloc (.cells zeroG 44)) w1.heap.size zeroG (gcells n m (pad (flat ss))) 44 (0, 0) (heap_new0 w1 _))
    have HW := hid (HB.out.trans (below_setRow' ((Below.refl _ w1).alloc HB.out.size (.cells zeroG 44)) HB.out.size (gcells n m (pad (flat ss)))))
    have HP := hid (fun w' => partner_any n m q (pad (flat ss)) w' hg.plen hg.2.1 hg.2.2.1 hg.2.2.2.1 hg.2.2.2.2.1 hq.2.2)
    clear hbel hq hg
    go_wp2_with (first
      | refine wpList_store_row rfl 44 _ _ rfl w1.heap.size (gcells n m (pad (flat ss))) rfl rfl 44 zeroG (heap_new0 w1 _) HS.out HZ.out (gcells_one _ _ _) ?_
      | refine wpList_load_row rfl 44 _ rfl w1.heap.size rfl 44 (gcells n m (pad (flat ss))) (0, 0) _ HL.out Try.underlying44 rfl HS.out ?_)
    refine (HP.out _).mono ?_
    rintro e w2 ⟨rfl, hb2⟩
    have HB2 := hid (HW.out.trans (hb2.mono HW.out.size))
    clear hb2
    go_wp2_with fail
    refine bodyPost_ret (results_tmp2 rfl _ _ _) rfl ?_
    exact ⟨HB2.out, _, true, rfl, .inl ⟨n, m, q, HQ.out, rfl, rfl⟩⟩
  · have HB := hid hbel
    have HGr := hid hno
    clear hbel hno
    go_wp2_with (refine wpList_store_row rfl 44 _ _ rfl w1.heap.size zeroG rfl rfl 44 zeroG (heap_new0 w1 _) Try.size_grid rfl (gcells_one 0 0 (pad [])) ?_)
    refine bodyPost_ret (results_tmp2 rfl _ _ _) rfl ?_
    exact ⟨HB.out.trans (below_setRow' ((Below.refl _ w1).alloc HB.out.size _) HB.out.size _), 0, false, rfl, .inr ⟨HGr.out, rfl, rfl⟩⟩

end Go.Proofs.Ytpbppkidglmacaa
