/- GridCount, GridFull, GridNumber of the program, by their contracts. -/
import Derived.Test.YtcomaodpnhoeaaaSpecCount
import Derived.Test.YtcomaodpnhoeaaaRead
namespace Go.Proofs.Ytcomaodpnhoeaaa
open Go.RowKit
section
variable {P : Program} {ops : Array Oper} {rest : List Oper} {o : Oper} {a : Act} {w : World} {Q : Exit → Act → World → Prop}
/-- A whole struct out of its block, where the guard lets it be loaded. -/
theorem wpList_load_row_g (hw : Region.wanted o (yielded ops a.tmps) = true) (ty : TypeId) (x : Operand) (ho : o.op = .load ty x)
    (g : Nat) (hx : a.eval x = .pointer (some ⟨g, 0, none⟩)) (t : TypeId) (cs : Array Value) (fr : Nat × Nat) (d : TypeDesc) (hg : w.heap[g]? = some (.cells cs t fr))
    (hu : P.underlying ty = some d) (hd : (match d with | .struct _ | .array _ _ => true | _ => false) = true) (hi : (P.info? ty).map (·.size) = some cs.size)
    (h : wpList P ops Q rest (a.put o.dst (.agg cs)) w) : wpList P ops Q (o :: rest) a w := by
  unfold wpList
  rw [if_pos hw]
  exact .inl (wp_load_row ty x ho g hx t cs fr d hg hu hd hi h)
end

/-- What GridCount comes to. -/
def CountEnd (ss : List ByteArray) (e : Ending) : Prop :=
  (∃ n m, IsGrid n m ss ∧ e = .returned (.tuple #[.int .i64 ((cntOf 114 (flat ss) + cntOf 102 (flat ss) : Nat) : Int), .bool true])) ∨ (NoGrid ss ∧ e = .returned (.tuple #[.int .i64 0, .bool false]))
def FullEnd (ss : List ByteArray) (e : Ending) : Prop :=
  (∃ n m, IsGrid n m ss ∧ e = .returned (.bool (cntOf 46 (flat ss) == 0))) ∨ (NoGrid ss ∧ e = .returned (.bool false))
def NumberEnd (ss : List ByteArray) (e : Ending) : Prop :=
  (∃ n m, IsGrid n m ss ∧ ((n * m ≤ 20 ∧ e = .returned (.tuple #[.int .i64 ((numOf (flat ss) : Nat) : Int), .bool true])) ∨ (20 < n * m ∧ e = .returned (.tuple #[.int .i64 0, .bool false])))) ∨ (NoGrid ss ∧ e = .returned (.tuple #[.int .i64 0, .bool false]))

set_option maxRecDepth 100000 in
set_option maxHeartbeats 1000000 in
theorem implGridCount_any (A : Option Addr) (c : Nat) (ss : List ByteArray) (w : World) (h : Strs w w.heap.size A ss) (hn : ss.length ≤ 1048576) (hs : ∀ s ∈ ss, s.size ≤ 1048576) :
    Calls Try.prog 48 #[.slice A ss.length c] w fun e w' => Below w.heap.size w w' ∧ CountEnd ss e := by
  have HR := hid (readGrid_any A c ss w h hn hs)
  clear h hs
  go_enter Try.func48, Try.ntmps48
  go_wp2_with fail
  refine HR.out.mono ?_
  rintro e w1 ⟨hbel, ⟨n, m, hg, rfl⟩ | ⟨hno, rfl⟩⟩
  · have HB := hid hbel
    have HGr := hid hg
    have HS := hid (show (Try.prog.info? 60).map (·.size) = some (gcells n m (pad (flat ss))).size by rw [hg.csize]; exact Try.size_grid)
    have HZ := hid (show zeroG.size = (gcells n m (pad (flat ss))).size by rw [hg.csize]; rfl)
    have HL := hid (setRow_heap (w1.alloc (.cells zeroG 60)) w1.heap.size zeroG (gcells n m (pad (flat ss))) 60 (0, 0) (heap_new0 w1 _))
    have HW := hid (HB.out.trans (below_setRow' ((Below.refl _ w1).alloc HB.out.size (.cells zeroG 60)) HB.out.size (gcells n m (pad (flat ss)))))
    have HM := hid (mirrors_any n m (pad (flat ss)) ((w1.alloc (.cells zeroG 60)).setRow w1.heap.size (gcells n m (pad (flat ss)))) hg.plen hg.2.2.1 hg.2.2.2.1 hg.2.2.2.2.1)
    have hmir := hg.mirrors
    clear hbel hg
    go_wp2_with (first
      | refine wpList_store_row rfl 60 _ _ rfl w1.heap.size (gcells n m (pad (flat ss))) rfl rfl 60 zeroG (heap_new0 w1 _) HS.out HZ.out (gcells_one _ _ _) ?_
      | refine wpList_load_row rfl 60 _ rfl w1.heap.size rfl 60 (gcells n m (pad (flat ss))) (0, 0) _ HL.out Try.underlying60 rfl HS.out ?_)
    refine HM.out.mono ?_
    rintro e w2 ⟨rfl, hb2⟩
    have HB2 := hid hb2
    rw [hmir]
    clear hb2 hmir
    go_wp2
    refine bodyPost_ret (results_tmp2 rfl _ _ _) rfl ?_
    exact ⟨HW.out.trans (HB2.out.mono HW.out.size), .inl ⟨n, m, HGr.out, rfl⟩⟩
  · have HB := hid hbel
    have HGr := hid hno
    clear hbel hno
    go_wp2_with (refine wpList_store_row rfl 60 _ _ rfl w1.heap.size zeroG rfl rfl 60 zeroG (heap_new0 w1 _) Try.size_grid rfl (gcells_one 0 0 (pad [])) ?_)
    refine bodyPost_ret (results_tmp2 rfl _ _ _) rfl ?_
    exact ⟨HB.out.trans (below_setRow' ((Below.refl _ w1).alloc HB.out.size _) HB.out.size _), .inr ⟨HGr.out, rfl⟩⟩

set_option maxRecDepth 100000 in
set_option maxHeartbeats 1000000 in
theorem implGridFull_any (A : Option Addr) (c : Nat) (ss : List ByteArray) (w : World) (h : Strs w w.heap.size A ss) (hn : ss.length ≤ 1048576) (hs : ∀ s ∈ ss, s.size ≤ 1048576) :
    Calls Try.prog 50 #[.slice A ss.length c] w fun e w' => Below w.heap.size w w' ∧ FullEnd ss e := by
  have HR := hid (readGrid_any A c ss w h hn hs)
  clear h hs
  go_enter Try.func50, Try.ntmps50
  go_wp2_with fail
  refine HR.out.mono ?_
  rintro e w1 ⟨hbel, ⟨n, m, hg, rfl⟩ | ⟨hno, rfl⟩⟩
  · have HB := hid hbel
    have HGr := hid hg
    have HS := hid (show (Try.prog.info? 60).map (·.size) = some (gcells n m (pad (flat ss))).size by rw [hg.csize]; exact Try.size_grid)
    have HZ := hid (show zeroG.size = (gcells n m (pad (flat ss))).size by rw [hg.csize]; rfl)
    have HL := hid (setRow_heap (w1.alloc (.cells zeroG 60)) w1.heap.size zeroG (gcells n m (pad (flat ss))) 60 (0, 0) (heap_new0 w1 _))
    have HW := hid (HB.out.trans (below_setRow' ((Below.refl _ w1).alloc HB.out.size (.cells zeroG 60)) HB.out.size (gcells n m (pad (flat ss)))))
    have HM := hid (full_any n m (pad (flat ss)) ((w1.alloc (.cells zeroG 60)).setRow w1.heap.size (gcells n m (pad (flat ss)))) hg.plen hg.2.2.1 hg.2.2.2.1 hg.2.2.2.2.1)
    have hmir := hg.full
    clear hbel hg
    go_wp2_with (first
      | refine wpList_store_row rfl 60 _ _ rfl w1.heap.size (gcells n m (pad (flat ss))) rfl rfl 60 zeroG (heap_new0 w1 _) HS.out HZ.out (gcells_one _ _ _) ?_
      | refine wpList_load_row_g (by rfl) 60 _ rfl w1.heap.size rfl 60 (gcells n m (pad (flat ss))) (0, 0) _ HL.out Try.underlying60 rfl HS.out ?_)
    refine HM.out.mono ?_
    rintro e w2 ⟨rfl, hb2⟩
    have HB2 := hid hb2
    rw [hmir]
    clear hb2 hmir
    go_wp2
    go_ret
    exact ⟨HW.out.trans (HB2.out.mono HW.out.size), .inl ⟨n, m, HGr.out, rfl⟩⟩
  · have HB := hid hbel
    have HGr := hid hno
    clear hbel hno
    go_wp2_with (refine wpList_store_row rfl 60 _ _ rfl w1.heap.size zeroG rfl rfl 60 zeroG (heap_new0 w1 _) Try.size_grid rfl (gcells_one 0 0 (pad [])) ?_)
    go_ret
    exact ⟨HB.out.trans (below_setRow' ((Below.refl _ w1).alloc HB.out.size _) HB.out.size _), .inr ⟨HGr.out, rfl⟩⟩

theorem IsGrid.letters {n m : Nat} {ss : List ByteArray} (h : IsGrid n m ss) : ∀ i, i < n * m → isLet ((pad (flat ss)).getD i 0) = true := fun i hi => by
  have hl : i < (flat ss).length := by rw [h.flen]; exact hi
  have e : (pad (flat ss)).getD i 0 = (flat ss)[i] := by
    simp [pad, List.getElem?_append_left hl, List.getElem?_eq_getElem hl]
  rw [e]
  exact h.lets _ (List.getElem_mem hl)

set_option maxRecDepth 100000 in
set_option maxHeartbeats 1000000 in
theorem implGridNumber_any (A : Option Addr) (c : Nat) (ss : List ByteArray) (w : World) (h : Strs w w.heap.size A ss) (hn : ss.length ≤ 1048576) (hs : ∀ s ∈ ss, s.size ≤ 1048576) :
    Calls Try.prog 56 #[.slice A ss.length c] w fun e w' => Below w.heap.size w w' ∧ NumberEnd ss e := by
  have HR := hid (readGrid_any A c ss w h hn hs)
  clear h hs
  go_enter Try.func56, Try.ntmps56
  go_wp2_with fail
  refine HR.out.mono ?_
  rintro e w1 ⟨hbel, ⟨n, m, hg, rfl⟩ | ⟨hno, rfl⟩⟩
  · have HB := hid hbel
    have HGr := hid hg
    have HS := hid (show (Try.prog.info? 60).map (·.size) = some (gcells n m (pad (flat ss))).size by rw [hg.csize]; exact Try.size_grid)
    have HZ := hid (show zeroG.size = (gcells n m (pad (flat ss))).size by rw [hg.csize]; rfl)
    have HL := hid (setRow_heap (w1.alloc (.cells zeroG 60)) w1.heap.size zeroG (gcells n m (pad (flat ss))) 60 (0, 0) (heap_new0 w1 _))
    have HW := hid (HB.out.trans (below_setRow' ((Below.refl _ w1).alloc HB.out.size (.cells zeroG 60)) HB.out.size (gcells n m (pad (flat ss)))))
    have HSz := hid (size_any n m (pad (flat ss)) ((w1.alloc (.cells zeroG 60)).setRow w1.heap.size (gcells n m (pad (flat ss)))) hg.2.2.1 hg.2.2.2.2.1)
    have hle := hg.le25
    obtain ⟨N, hN⟩ : ∃ N, n * m = N := ⟨_, rfl⟩
    rw [hN] at HSz hle
    have HN := hid hN
    clear hbel hg hN
    go_wp2_with (first
      | refine wpList_store_row rfl 60 _ _ rfl w1.heap.size (gcells n m (pad (flat ss))) rfl rfl 60 zeroG (heap_new0 w1 _) HS.out HZ.out (gcells_one _ _ _) ?_
      | refine wpList_load_row_g (by rfl) 60 _ rfl w1.heap.size rfl 60 (gcells n m (pad (flat ss))) (0, 0) _ HL.out Try.underlying60 rfl HS.out ?_)
    refine HSz.out.mono ?_
    rintro e w2 ⟨rfl, hb2⟩
    have HL2 := hid ((hb2.block _ (lt_of_block HL.out)).trans HL.out)
    have HB2 := hid (HW.out.trans (hb2.mono HW.out.size))
    clear hb2
    by_cases h20 : N ≤ 20
    · have h20' : decide ((N : Int) > 20) = false := by simp; omega
      have HM := hid (number_any n m (pad (flat ss)) w2 HGr.out.plen (by rw [HN.out]; exact h20) HGr.out.letters HGr.out.2.2.1 HGr.out.2.2.2.1 HGr.out.2.2.2.2.1)
      have hnum := HGr.out.number
      have h2i : (N : Int) ≤ 20 := by omega
      go_wp2_with (refine wpList_load_row rfl 60 _ rfl w1.heap.size rfl 60 (gcells n m (pad (flat ss))) (0, 0) _ HL2.out Try.underlying60 rfl HS.out ?_)
      refine HM.out.mono ?_
      rintro e w3 ⟨rfl, hb3⟩
      rw [hnum]
      have HB3 := hid hb3
      clear hb3 hnum
      go_wp2
      refine bodyPost_ret (results_tmp2 rfl _ _ _) rfl ?_
      exact ⟨HB2.out.trans (HB3.out.mono HB2.out.size), .inl ⟨n, m, HGr.out, .inl ⟨by rw [HN.out]; exact h20, rfl⟩⟩⟩
    · have h20' : decide ((N : Int) > 20) = true := by simp; omega
      have h2i : (20 : Int) < (N : Int) := by omega
      go_wp2_with fail
      refine bodyPost_ret (results_tmp2 rfl _ _ _) rfl ?_
      exact ⟨HB2.out, .inl ⟨n, m, HGr.out, .inr ⟨by rw [HN.out]; omega, rfl⟩⟩⟩
  · have HB := hid hbel
    have HGr := hid hno
    clear hbel hno
    go_wp2_with (refine wpList_store_row rfl 60 _ _ rfl w1.heap.size zeroG rfl rfl 60 zeroG (heap_new0 w1 _) Try.size_grid rfl (gcells_one 0 0 (pad [])) ?_)
    refine bodyPost_ret (results_tmp2 rfl _ _ _) rfl ?_
    exact ⟨HB.out.trans (below_setRow' ((Below.refl _ w1).alloc HB.out.size _) HB.out.size _), .inr ⟨HGr.out, rfl⟩⟩


end Go.Proofs.Ytcomaodpnhoeaaa
