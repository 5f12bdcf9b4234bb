/- A grid and one of its cells with a mirror, by the contract of mirrorIn. -/
import Derived.Test.YtmdgbcepjnfbnaaDelta
import Derived.Test.YtmdgbcepjnfbnaaRelT
namespace Go.Proofs.Ytmdgbcepjnfbnaa
open Go.RowKit Go.Shelf

/-- The place of a cell. -/
def placeN (m c : Nat) : Wy := ⟨((c / m : Nat) : Int), ((c % m : Nat) : Int), 0⟩
theorem placeN_in {n m c : Nat} (h : c < n * m) : inG n m (placeN m c) := by
  have h1 := wayN_in (n := n) (m := m) (c := 4 * c + 0) (by omega)
  rwa [wayN_cell (by decide)] at h1
theorem cellN_place (m c : Nat) : cellN m (placeN m c) = c := by
  have h1 := cellN_way (m := m) (4 * c + 0)
  rw [wayN_cell (by decide)] at h1
  have : (4 * c + 0) / 4 = c := by omega
  rw [this] at h1
  exact h1
/-- A grid, the number of one of its cells, a mirror there. -/
def MirrorIn (ss : List ByteArray) (cell : Int) (n m c : Nat) : Prop := CellIn ss cell n m c ∧ lett m (pad (flat ss)) ((c / m : Nat) : Int) ((c % m : Nat) : Int) ≠ 46
def MirrorEnd (ss : List ByteArray) (cell : Int) (w : World) (e : Ending) (w' : World) : Prop :=
  Below w.heap.size w w' ∧ ((∃ n m c, MirrorIn ss cell n m c ∧ e = .returned (.tuple #[.agg (gcells n m (pad (flat ss))), .agg #[.int .i64 ((c / m : Nat) : Int), .int .i64 ((c % m : Nat) : Int)], .bool true])) ∨
    ((∀ n m c, ¬ MirrorIn ss cell n m c) ∧ e = .returned (.tuple #[.agg zeroG, .agg #[.int .i64 0, .int .i64 0], .bool false])))
theorem CellIn.uniq {ss : List ByteArray} {cell : Int} {n m c n' m' c' : Nat} (h : CellIn ss cell n m c) (h' : CellIn ss cell n' m' c') : n = n' ∧ m = m' ∧ c = c' := by
  obtain ⟨rfl, rfl⟩ := h.1.uniq h'.1
  have := h.2.1.symm.trans h'.2.1
  exact ⟨rfl, rfl, by omega⟩
theorem int2_one (a b : Int) : (#[.int .i64 a, .int .i64 b] : Array Value).all (·.oneCell') = true := by
  rw [Array.all_eq_true_iff_forall_mem]
  intro u hu
  simp at hu
  rcases hu with rfl | rfl <;> rfl
/-- What the operations of mirrorIn's last statement hand back. -/
def mirRel (a b : Nat) (gc : Array Value) (qv rv : Int) (i : Nat) (v : Value) (W : World) : Prop :=
  match i with
  | 0 => v = .agg gc
  | 1 => v = .agg #[.int .i64 qv, .int .i64 rv]
  | 2 => W.heap[a]? = some (.cells gc 57 (0, 0))
  | 3 => W.heap[b]? = some (.cells #[.int .i64 qv, .int .i64 rv] 75 (0, 0))
  | 4 => v = .bool true
  | _ => True

set_option maxRecDepth 100000 in
set_option maxHeartbeats 2000000 in
theorem mirrorIn_any (A : Option Addr) (c : Nat) (ss : List ByteArray) (cell : Int) (w : World) (h : Strs w w.heap.size A ss) (hn : ss.length ≤ 1048576) (hs : ∀ s ∈ ss, s.size ≤ 1048576) :
    Calls Try.prog 92 #[.slice A ss.length c, .int .i64 cell] w (MirrorEnd ss cell w) := by
  have HR := hid (fun W (hb : Below w.heap.size w W) => placeIn_any A c ss cell W ((h.below hb (Nat.le_refl _)).more hb.size) hn hs)
  have HB0 := hid (show Below w.heap.size w ((w.alloc (.cells zeroG 57)).alloc (.cells #[.int .i64 0, .int .i64 0] 75)) from ((Below.refl _ w).alloc (Nat.le_refl _) _).alloc (by simp) _)
  have F0 := hid (heap_new1 w (.cells zeroG 57) (.cells #[.int .i64 0, .int .i64 0] 75))
  have F1 := hid (show ((w.alloc (.cells zeroG 57)).alloc (.cells #[.int .i64 0, .int .i64 0] 75)).heap[w.heap.size + 1]? = some (.cells #[.int .i64 0, .int .i64 0] 75 (0, 0)) by have := heap_new0 (w.alloc (.cells zeroG 57)) (.cells #[.int .i64 0, .int .i64 0] 75); rwa [World.size_alloc] at this)
  have FS := hid (show ((w.alloc (.cells zeroG 57)).alloc (.cells #[.int .i64 0, .int .i64 0] 75)).heap.size = w.heap.size + 2 by simp)
  clear h hs
  go_enter Try.func92, Try.ntmps92
  go_wp2_with fail
  generalize World.alloc (World.alloc w _) _ = W0 at *
  refine (HR.out _ HB0.out).mono ?_
  rintro e w1 ⟨hbel, hcase⟩
  have HB := hid (HB0.out.trans (hbel.mono HB0.out.size))
  have H0 := hid ((hbel.block _ (lt_of_block F0.out)).trans F0.out)
  have H1 := hid ((hbel.block _ (lt_of_block F1.out)).trans F1.out)
  have HSZ := hid (show w.heap.size + 2 ≤ w1.heap.size by have := hbel.size; rw [FS.out] at this; exact this)
  clear hbel
  have mk : ∀ (gc : Array Value) (qv rv : Int), (Try.prog.info? 57).map (·.size) = some gc.size → zeroG.size = gc.size → gc.all (·.oneCell') = true →
      ∃ W, (((w1.alloc (.cells zeroG 57)).alloc (.cells #[.int .i64 0, .int .i64 0] 75)).setRow w1.heap.size gc).setRow (w1.heap.size + 1) #[.int .i64 qv, .int .i64 rv] = W ∧
        Below w.heap.size w W ∧ W.heap[w1.heap.size]? = some (.cells gc 57 (0, 0)) ∧ W.heap[w1.heap.size + 1]? = some (.cells #[.int .i64 qv, .int .i64 rv] 75 (0, 0)) ∧
        W.heap[w.heap.size]? = some (.cells zeroG 57 (0, 0)) ∧ W.heap[w.heap.size + 1]? = some (.cells #[.int .i64 0, .int .i64 0] 75 (0, 0)) := fun gc qv rv h1 h2 h3 => by
    have a0 := heap_new1 w1 (.cells zeroG 57) (.cells #[.int .i64 0, .int .i64 0] 75)
    have a1 := heap_new0 (w1.alloc (.cells zeroG 57)) (.cells #[.int .i64 0, .int .i64 0] 75)
    rw [World.size_alloc] at a1
    have hsz := HSZ.out
    refine ⟨_, rfl, below_setRow' (below_setRow' ((HB.out.alloc HB.out.size _).alloc (by simp; omega) _) (by omega) _) (by omega) _, ?_, ?_, ?_, ?_⟩
    · rw [setRow_other _ _ _ _ (by omega)]; exact setRow_heap _ _ _ _ _ _ a0
    · exact setRow_heap _ _ _ _ _ _ (by rw [setRow_other _ _ _ _ (by omega)]; exact a1)
    · rw [setRow_other _ _ _ _ (by omega), setRow_other _ _ _ _ (by omega), Below.heap_alloc _ _ _ (by simp; omega), Below.heap_alloc _ _ _ (by omega)]; exact H0.out
    · rw [setRow_other _ _ _ _ (by omega), setRow_other _ _ _ _ (by omega), Below.heap_alloc _ _ _ (by simp; omega), Below.heap_alloc _ _ _ (by omega)]; exact H1.out
  have HMK := hid mk
  have HZ1 := hid (show ∀ gc, ((w1.alloc (.cells zeroG 57)).alloc (.cells #[.int .i64 0, .int .i64 0] 75)).heap[w1.heap.size]? = some (.cells zeroG 57 (0, 0)) ∧ (((w1.alloc (.cells zeroG 57)).alloc (.cells #[.int .i64 0, .int .i64 0] 75)).setRow w1.heap.size gc).heap[w1.heap.size + 1]? = some (.cells #[.int .i64 0, .int .i64 0] 75 (0, 0)) from fun gc => by
    have a1 := heap_new0 (w1.alloc (.cells zeroG 57)) (.cells #[.int .i64 0, .int .i64 0] 75)
    rw [World.size_alloc] at a1
    exact ⟨heap_new1 w1 _ _, by rw [setRow_other _ _ _ _ (by omega)]; exact a1⟩)
  clear mk
  -- what both failing ways end with
  have fin : ∀ (W : World), Below w.heap.size w W → W.heap[w.heap.size]? = some (.cells zeroG 57 (0, 0)) → W.heap[w.heap.size + 1]? = some (.cells #[.int .i64 0, .int .i64 0] 75 (0, 0)) →
      (W.setRow w.heap.size zeroG).heap[w.heap.size + 1]? = some (.cells #[.int .i64 0, .int .i64 0] 75 (0, 0)) ∧
      ((W.setRow w.heap.size zeroG).setRow (w.heap.size + 1) #[.int .i64 0, .int .i64 0]).heap[w.heap.size]? = some (.cells zeroG 57 (0, 0)) ∧
      ((W.setRow w.heap.size zeroG).setRow (w.heap.size + 1) #[.int .i64 0, .int .i64 0]).heap[w.heap.size + 1]? = some (.cells #[.int .i64 0, .int .i64 0] 75 (0, 0)) ∧
      Below w.heap.size w ((W.setRow w.heap.size zeroG).setRow (w.heap.size + 1) #[.int .i64 0, .int .i64 0]) := fun W hb h0 h1 => by
    have k : (W.setRow w.heap.size zeroG).heap[w.heap.size + 1]? = some (.cells #[.int .i64 0, .int .i64 0] 75 (0, 0)) := by rw [setRow_other _ _ _ _ (by omega)]; exact h1
    exact ⟨k, by rw [setRow_other _ _ _ _ (by omega)]; exact setRow_heap _ _ _ _ _ _ h0, setRow_heap _ _ _ _ _ _ k, below_setRow' (below_setRow' hb (Nat.le_refl _) _) (by omega) _⟩
  have HFIN := hid fin
  clear fin
  rcases hcase with ⟨n, m, cc, hci, rfl⟩ | ⟨hno, rfl⟩
  · have hg := hci.1
    have HCI := hid hci
    have HS := hid (show (Try.prog.info? 57).map (·.size) = some (gcells n m (pad (flat ss))).size by rw [hg.csize]; exact Try.size_grid)
    have HZ := hid (show zeroG.size = (gcells n m (pad (flat ss))).size by rw [hg.csize]; rfl)
    have HO := hid (gcells_one n m (pad (flat ss)))
    obtain ⟨p, hp, he, hb⟩ := inG_cell hg.plen hg.2.2.1 hg.2.2.2.2.1 (placeN_in hci.2.2)
    have hq5 : ((cc / m : Nat) : Int) < 5 := by have h1 := (placeN_in hci.2.2).2.1; have h2 := hg.2.2.1; unfold placeN at h1; simp only at h1; omega
    have HAT := hid (fun w' => at_any n m (pad (flat ss)) ((cc / m : Nat) : Int) ((cc % m : Nat) : Int) p (lett m (pad (flat ss)) ((cc / m : Nat) : Int) ((cc % m : Nat) : Int)) w' hg.plen hp he ⟨Int.natCast_nonneg _, hq5⟩ hg.2.2.2.2.1 hb)
    have hbq := byte_beq46 (lett m (pad (flat ss)) ((cc / m : Nat) : Int) ((cc % m : Nat) : Int))
    clear hci hg hp he hb hq5
    generalize hgc : gcells n m (pad (flat ss)) = gc at *
    have HGC := hid hgc
    have HL := hid (show lett m (pad (flat ss)) ((cc / m : Nat) : Int) ((cc % m : Nat) : Int) = lett m (pad (flat ss)) ((cc / m : Nat) : Int) ((cc % m : Nat) : Int) from rfl)
    generalize hb : lett m (pad (flat ss)) ((cc / m : Nat) : Int) ((cc % m : Nat) : Int) = b at HAT hbq HL
    have HLB := hid hb
    obtain ⟨qv, hqv⟩ : ∃ qv : Int, ((cc / m : Nat) : Int) = qv := ⟨_, rfl⟩
    obtain ⟨rv, hrv⟩ : ∃ rv : Int, ((cc % m : Nat) : Int) = rv := ⟨_, rfl⟩
    rw [hqv, hrv] at HAT ⊢
    have HQ := hid hqv
    have HRV := hid hrv
    obtain ⟨bv, hbv⟩ : ∃ bv : Int, ((b.toNat : Nat) : Int) = bv := ⟨_, rfl⟩
    rw [hbv] at HAT hbq
    clear hqv hrv hgc hb HL hbv
    obtain ⟨W1, hW1, hB1, hg1, hp1, hz1, hz2⟩ := HMK.out gc qv rv HS.out HZ.out HO.out
    have HW1 := hid hW1
    have HB1 := hid hB1
    have HG1 := hid hg1
    have HP1 := hid hp1
    have HZA := hid hz1
    have HZB := hid hz2
    clear hW1 hB1 hg1 hp1 hz1 hz2
    go_wp2_with (first
      | refine wpList_store_row rfl 57 _ _ rfl w1.heap.size gc rfl rfl 57 zeroG (HZ1.out gc).1 HS.out HZ.out HO.out ?_
      | (refine wpList_store_row rfl 75 _ _ rfl (w1.heap.size + 1) #[.int .i64 qv, .int .i64 rv] rfl rfl 75 #[.int .i64 0, .int .i64 0] (HZ1.out gc).2 Try.size_place rfl (int2_one _ _) ?_; rw [HW1.out])
      | refine wpList_load_row_gA (by rfl) 57 _ rfl w1.heap.size rfl 57 gc (0, 0) _ HG1.out Try.underlying57 rfl HS.out ?_
      | refine wpList_load_row_gA (by rfl) 75 _ rfl (w1.heap.size + 1) rfl 75 #[.int .i64 qv, .int .i64 rv] (0, 0) _ HP1.out Try.underlying75 rfl Try.size_place ?_)
    refine (HAT.out _).mono ?_
    rintro e w3 ⟨rfl, hb3⟩
    have HB3 := hid (HB1.out.trans (hb3.mono HB1.out.size))
    have G3 := hid ((hb3.block _ (lt_of_block HG1.out)).trans HG1.out)
    have P3 := hid ((hb3.block _ (lt_of_block HP1.out)).trans HP1.out)
    have Z3 := hid ((hb3.block _ (lt_of_block HZA.out)).trans HZA.out)
    have Y3 := hid ((hb3.block _ (lt_of_block HZB.out)).trans HZB.out)
    clear hb3
    cases hbb : (b == 46) with
    | true =>
      rw [hbb] at hbq
      have HBB := hid hbb
      clear hbb
      obtain ⟨f1, f2, f3, f4⟩ := HFIN.out w3 HB3.out Z3.out Y3.out
      have R1 := hid f1
      have R2 := hid f2
      have R3 := hid f3
      have R4 := hid f4
      clear f1 f2 f3 f4
      go_wp2_with (first
        | refine wpList_store_row rfl 57 _ _ rfl w.heap.size zeroG rfl rfl 57 zeroG Z3.out Try.size_grid rfl (gcells_one 0 0 (pad [])) ?_
        | refine wpList_store_row rfl 75 _ _ rfl (w.heap.size + 1) #[.int .i64 0, .int .i64 0] rfl rfl 75 #[.int .i64 0, .int .i64 0] R1.out Try.size_place rfl zero2_one ?_)
      refine bodyPost_ret (results_rows_tmp Try.results92 _ w.heap.size (w.heap.size + 1) 57 75 zeroG #[.int .i64 0, .int .i64 0] (0, 0) (0, 0) _ _ (by rfl) (by rfl) R2.out R3.out Try.underlying57 rfl Try.size_grid Try.underlying75 rfl Try.size_place) rfl ?_
      exact ⟨R4.out, .inr ⟨fun n' m' c' hc => by
        obtain ⟨rfl, rfl, rfl⟩ := HCI.out.uniq hc.1
        have h1 := hc.2
        rw [HLB.out] at h1
        exact h1 (beq_iff_eq.1 HBB.out), rfl⟩⟩
    | false =>
      rw [hbb] at hbq
      have HBB := hid hbb
      clear hbb
      go_wp2_with fail
      have hw1 := HSZ.out
      refine wp_region_relT (by kernel_rfl) (by kernel_rfl) 5 rfl (Fill2 w.heap.size (w.heap.size + 1) (.cells zeroG 57 (0, 0)) (.cells #[.int .i64 0, .int .i64 0] 75 (0, 0)) (.cells gc 57 (0, 0)) (.cells #[.int .i64 qv, .int .i64 rv] 75 (0, 0)))
        (fun h k => h.trans k) (.of_below (Below.refl _ _).drew (by have := lt_of_block Z3.out; omega) (by have := lt_of_block Y3.out; omega))
        (fun us => { tmps := #[.slice A ss.length c, .int .i64 cell, undef, undef, .pointer (some ⟨w.heap.size, 0, none⟩), .pointer (some ⟨w.heap.size + 1, 0, none⟩), us 4, .pointer (some ⟨w1.heap.size, 0, none⟩), .pointer (some ⟨w1.heap.size + 1, 0, none⟩), .bool true, .tuple #[.agg gc, .agg #[.int .i64 qv, .int .i64 rv], .bool true], .slice A ss.length c, .int .i64 cell, .tuple #[.agg gc, .agg #[.int .i64 qv, .int .i64 rv], .bool true], .agg gc, .agg #[.int .i64 qv, .int .i64 rv], .bool true, .bool true, .bool false, .bool false, .agg gc, .agg #[.int .i64 qv, .int .i64 rv], .int .u8 bv, .bool false, .bool false, undef, undef, us 0, us 1], defers := [] }) (fun k => if k = 4 then .bool false else undef) rfl (mirRel w.heap.size (w.heap.size + 1) gc qv rv) (fun i v W W' h hb => ?_) (fun i us v hi => ?_) (fun i us W hi hb hd => ?_) (fun us W hb hr => ?_)
      · unfold mirRel at h ⊢
        split at h <;> try exact h
        · exact hb.2.2.2.1 h
        · exact hb.2.2.2.2.2 h
      · match i, hi with
        | 0, _ => rfl
        | 1, _ => rfl
        | 2, _ => rfl
        | 3, _ => rfl
        | 4, _ => rfl
      · have L0 := hid ((hb.2.1 _ (lt_of_block G3.out) (by omega) (by omega)).trans G3.out)
        have L1 := hid ((hb.2.1 _ (lt_of_block P3.out) (by omega) (by omega)).trans P3.out)
        have lt0 : w.heap.size < W.heap.size := Nat.lt_of_lt_of_le (lt_of_block Z3.out) hb.1.2.2.2
        have lt1 : w.heap.size + 1 < W.heap.size := Nat.lt_of_lt_of_le (lt_of_block Y3.out) hb.1.2.2.2
        match i, hi with
        | 0, _ => exact wpOp_valT rfl rfl (exec_load_row 57 _ rfl w1.heap.size rfl 57 gc (0, 0) _ L0.out Try.underlying57 rfl HS.out) rfl (.of_below (Below.refl _ _) lt0 lt1)
        | 1, _ => exact wpOp_valT rfl rfl (exec_load_row 75 _ rfl (w1.heap.size + 1) rfl 75 #[.int .i64 qv, .int .i64 rv] (0, 0) _ L1.out Try.underlying75 rfl Try.size_place) rfl (.of_below (Below.refl _ _) lt0 lt1)
        | 2, _ =>
          have h0 : us 0 = _ := hd _ rfl { on := 0, ground := .data } (by simp) rfl
          rw [h0]
          have hold := hb.2.2.1 Z3.out
          obtain ⟨old, ho1, ho2⟩ : ∃ old, W.heap[w.heap.size]? = some (.cells old 57 (0, 0)) ∧ old.size = gc.size := by
            rcases hold with h | h
            · exact ⟨_, h, HZ.out⟩
            · exact ⟨_, h, rfl⟩
          exact wpOp_skipT rfl rfl (exec_store_row 57 _ _ rfl w.heap.size gc rfl rfl 57 old ho1 HS.out ho2 HO.out) (setRow_heap _ _ _ _ _ _ ho1) (.set0 hold (by omega))
        | 3, _ =>
          have h0 : us 1 = _ := hd _ rfl { on := 1, ground := .data } (by simp) rfl
          rw [h0]
          have hold := hb.2.2.2.2.1 Y3.out
          obtain ⟨old, ho1, ho2⟩ : ∃ old, W.heap[w.heap.size + 1]? = some (.cells old 75 (0, 0)) ∧ old.size = (#[.int .i64 qv, .int .i64 rv] : Array Value).size := by
            rcases hold with h | h
            · exact ⟨_, h, rfl⟩
            · exact ⟨_, h, rfl⟩
          exact wpOp_skipT rfl rfl (exec_store_row 75 _ _ rfl (w.heap.size + 1) #[.int .i64 qv, .int .i64 rv] rfl rfl 75 old ho1 Try.size_place ho2 (int2_one _ _)) (setRow_heap _ _ _ _ _ _ ho1) (.set1 hold (by omega))
        | 4, _ => exact wpOp_valT rfl rfl (by go_simp) rfl (.of_below (Below.refl _ _) lt0 lt1)
      · have h4 : us 4 = _ := hr 4 (by omega)
        have r0 := hid (show W.heap[w.heap.size]? = some (.cells gc 57 (0, 0)) from hr 2 (by omega))
        have r1 := hid (show W.heap[w.heap.size + 1]? = some (.cells #[.int .i64 qv, .int .i64 rv] 75 (0, 0)) from hr 3 (by omega))
        have rB := hid (hb.below HB3.out HB3.out.size (Nat.le_refl _) (by omega))
        rw [h4]
        clear hr hb h4
        go_wp2_with fail
        refine bodyPost_ret (results_rows_tmp Try.results92 _ w.heap.size (w.heap.size + 1) 57 75 gc #[.int .i64 qv, .int .i64 rv] (0, 0) (0, 0) _ _ (by rfl) (by rfl) r0.out r1.out Try.underlying57 rfl HS.out Try.underlying75 rfl Try.size_place) rfl ?_
        refine ⟨rB.out, .inl ⟨n, m, cc, ⟨HCI.out, ?_⟩, by rw [HQ.out, HRV.out, HGC.out]; rfl⟩⟩
        rw [HLB.out]
        exact beq_eq_false_iff_ne.1 HBB.out
  · have HNo := hid hno
    clear hno
    obtain ⟨W1, hW1, hB1, hg1, hp1, hz1, hz2⟩ := HMK.out zeroG 0 0 Try.size_grid rfl (gcells_one 0 0 (pad []))
    have HW1 := hid hW1
    have HB1 := hid hB1
    have HZA := hid hz1
    have HZB := hid hz2
    obtain ⟨f1, f2, f3, f4⟩ := HFIN.out W1 hB1 hz1 hz2
    have R1 := hid f1
    have R2 := hid f2
    have R3 := hid f3
    have R4 := hid f4
    clear f1 f2 f3 f4 hW1 hB1 hg1 hp1 hz1 hz2
    go_wp2_with (first
      | refine wpList_store_row rfl 57 _ _ rfl w1.heap.size zeroG rfl rfl 57 zeroG (HZ1.out zeroG).1 Try.size_grid rfl (gcells_one 0 0 (pad [])) ?_
      | (refine wpList_store_row rfl 75 _ _ rfl (w1.heap.size + 1) #[.int .i64 0, .int .i64 0] rfl rfl 75 #[.int .i64 0, .int .i64 0] (HZ1.out zeroG).2 Try.size_place rfl (int2_one _ _) ?_; rw [HW1.out])
      | refine wpList_store_row rfl 57 _ _ rfl w.heap.size zeroG rfl rfl 57 zeroG HZA.out Try.size_grid rfl (gcells_one 0 0 (pad [])) ?_
      | refine wpList_store_row rfl 75 _ _ rfl (w.heap.size + 1) #[.int .i64 0, .int .i64 0] rfl rfl 75 #[.int .i64 0, .int .i64 0] R1.out Try.size_place rfl zero2_one ?_)
    refine bodyPost_ret (results_rows_tmp Try.results92 _ w.heap.size (w.heap.size + 1) 57 75 zeroG #[.int .i64 0, .int .i64 0] (0, 0) (0, 0) _ _ (by rfl) (by rfl) R2.out R3.out Try.underlying57 rfl Try.size_grid Try.underlying75 rfl Try.size_place) rfl ?_
    exact ⟨R4.out, .inr ⟨fun n' m' c' hc => HNo.out _ _ _ hc.1, rfl⟩⟩
end Go.Proofs.Ytmdgbcepjnfbnaa
