/- ChangePairs of the specification and of the program, by their contracts. -/
import Derived.Test.YtgildagmliadeaaBunR
import Derived.Test.YtgildagmliadeaaBunP
import Derived.Test.YtgildagmliadeaaBunO
namespace Go.Proofs.Ytgildagmliadeaa
open Go.RowKit Go.Shelf

/-- The ports below k whose partners differ. -/
def movedTo (f g : Nat → Nat) (k : Nat) : Nat := (List.range k).countP fun p => f p != g p
theorem movedTo_zero (f g : Nat → Nat) : movedTo f g 0 = 0 := rfl
theorem movedTo_succ (f g : Nat → Nat) (k : Nat) : movedTo f g (k + 1) = movedTo f g k + (if (f k != g k) = true then 1 else 0) := by
  unfold movedTo
  rw [List.range_succ, List.countP_append, List.countP_cons, List.countP_nil, Nat.zero_add]
theorem movedTo_le (f g : Nat → Nat) (k : Nat) : movedTo f g k ≤ k := by
  have := List.countP_le_length (p := fun p => f p != g p) (l := List.range k)
  rwa [List.length_range] at this
theorem nat_bne (a b : Nat) : (((a : Nat) : Int) != ((b : Nat) : Int)) = (a != b) := by
  by_cases h : a = b
  · subst h; simp
  · rw [bne_iff_ne.2 h, bne_iff_ne]; omega
/-- How many ports have other partners if a cell is exchanged. -/
def movedR (n m : Nat) (ls : List UInt8) (c : Nat) : Int × Bool :=
  (((movedTo (bend_ n m (lett m ls)) (bend_ n m (lett m (ls.set c (oth (lett m ls ((c / m : Nat) : Int) ((c % m : Nat) : Int)))))) (2 * (n + m)) : Nat) : Int), true)

set_option maxRecDepth 100000 in
set_option maxHeartbeats 2000000 in
theorem movedPorts_any (n m : Nat) (ls ls' : List UInt8) (w : World) (hl : ls.length = 25) (hl' : ls'.length = 25) (hn1 : 1 ≤ n) (hn : n ≤ 5) (hm1 : 1 ≤ m) (hm : m ≤ 5) :
    Calls Try.prog 92 #[.agg (gcells n m ls), .agg (gcells n m ls')] w fun e w' => e = .returned (.int .i64 ((movedTo (bend_ n m (lett m ls)) (bend_ n m (lett m ls')) (2 * (n + m)) : Nat) : Int)) ∧ Below w.heap.size w w' := by
  have HG := hid (show (Try.prog.info? 54).map (·.size) = some (gcells n m ls).size by rw [gcells_size hl]; exact Try.size_grid)
  have HG2 := hid (show (Try.prog.info? 54).map (·.size) = some (gcells n m ls').size by rw [gcells_size hl']; exact Try.size_grid)
  have HPO := hid (fun w => ports_any n m ls w hn hm)
  have HP1 := hid (fun p w' hp => partner_any n m p ls w' hl hn1 hn hm1 hm hp)
  have HP2 := hid (fun p w' hp => partner_any n m p ls' w' hl' hn1 hn hm1 hm hp)
  have F0 := heap_new1 w (.cells (gcells n m ls) 54) (.cells (gcells n m ls') 54)
  have F1 := heap_new0 (w.alloc (.cells (gcells n m ls) 54)) (.cells (gcells n m ls') 54)
  have FB : Below w.heap.size w ((w.alloc (.cells (gcells n m ls) 54)).alloc (.cells (gcells n m ls') 54)) := ((Below.refl _ w).alloc (Nat.le_refl _) _).alloc (by simp) _
  simp only [World.size_alloc] at F1
  generalize gcells n m ls = gc at *
  generalize gcells n m ls' = gc' at *
  generalize bend_ n m (lett m ls) = f at *
  generalize bend_ n m (lett m ls') = f' at *
  generalize hP : 2 * (n + m) = P at *
  have hP20 : P ≤ 20 := by omega
  have G0 := hid F0
  have G1 := hid F1
  have GB := hid FB
  clear F0 F1 FB hl hl' hn1 hn hm1 hm hP
  go_enter Try.func92, Try.ntmps92
  go_wp2_with (refine wpList_load_row rfl 54 _ rfl w.heap.size rfl 54 gc (0, 0) _ G0.out Try.underlying54 rfl HG.out ?_)
  generalize World.alloc (World.alloc w _) _ = W0 at *
  refine (HPO.out _).mono ?_
  rintro e w1 ⟨rfl, hb1⟩
  have K0 := hid ((hb1.block _ (lt_of_block G0.out)).trans G0.out)
  have K1 := hid ((hb1.block _ (lt_of_block G1.out)).trans G1.out)
  have KB := hid (GB.out.trans (hb1.mono GB.out.size))
  clear hb1
  go_wp2_with fail
  go_loopw [5, 9] (fun (v i : Value) (wr : World) => ∃ k : Nat, k ≤ P ∧ i = .int .i64 k ∧ v = .int .i64 ((movedTo f f' k : Nat) : Int) ∧ Below w1.heap.size w1 wr) (fun _ i _ => P - (intOf i).toNat)
  case atStart => exact ⟨0, Nat.zero_le _, rfl, rfl, Below.refl _ _⟩
  case round =>
    obtain ⟨k, hk, rfl, rfl, hbel⟩ := hrel
    have HB := hid hbel
    clear hbel
    have hle := movedTo_le f f' k
    obtain ⟨c, hc⟩ : ∃ c, movedTo f f' k = c := ⟨_, rfl⟩
    rw [hc] at hle ⊢
    have HC := hid hc
    clear hc
    by_cases hlt : k < P
    · have hki : (k : Int) < (P : Int) := by omega
      have hki0 : (0 : Int) ≤ (k : Int) := by omega
      have hs := hid (movedTo_succ f f' k)
      have R0 := hid (show ∀ w', Cls wr w' → w'.heap[w.heap.size]? = some (.cells gc 54 (0, 0)) from fun w' hw => (hw.block _ (Nat.lt_of_lt_of_le (lt_of_block K0.out) HB.out.size)).trans ((HB.out.block _ (lt_of_block K0.out)).trans K0.out))
      have R1 := hid (show ∀ w', Cls wr w' → w'.heap[w.heap.size + 1]? = some (.cells gc' 54 (0, 0)) from fun w' hw => (hw.block _ (Nat.lt_of_lt_of_le (lt_of_block K1.out) HB.out.size)).trans ((HB.out.block _ (lt_of_block K1.out)).trans K1.out))
      have C1 := hid (fun w' => HP1.out k w' hlt)
      have C2 := hid (fun w' => HP2.out k w' hlt)
      obtain ⟨a, ha⟩ : ∃ a, f k = a := ⟨_, rfl⟩
      obtain ⟨b, hb⟩ : ∃ b, f' k = b := ⟨_, rfl⟩
      rw [ha] at C1 hs
      rw [hb] at C2 hs
      have HBN := hid (nat_bne a b)
      clear ha hb
      go_wp2_with fail
      refine wp_region_quiet (C := Cls wr) (by kernel_rfl) (by kernel_rfl) (Below.refl _ wr).drew ?_
      refine wpQuiet_load_row rfl 54 _ rfl w.heap.size rfl 54 gc (0, 0) _ R0.out Try.underlying54 rfl HG.out ?_
      quiet_step ((intro _; rfl))
      refine wpQuiet_call rfl 64 #[.agg gc, .int .i64 k] (.int .i64 ((a : Nat) : Int)) (fun w _ => by go_simp) (fun w' hw => (C1.out w').mono fun e w'' ⟨he, hb'⟩ => ⟨he, hw.trans (hb'.mono hw.size)⟩) ?_
      refine wpQuiet_load_row rfl 54 _ rfl (w.heap.size + 1) rfl 54 gc' (0, 0) _ R1.out Try.underlying54 rfl HG2.out ?_
      quiet_step ((intro _; rfl))
      refine wpQuiet_call rfl 64 #[.agg gc', .int .i64 k] (.int .i64 ((b : Nat) : Int)) (fun w _ => by go_simp) (fun w' hw => (C2.out w').mono fun e w'' ⟨he, hb'⟩ => ⟨he, hw.trans (hb'.mono hw.size)⟩) ?_
      refine wpQuiet_value rfl (.bool (a != b)) (fun w' hw => by rw [← HBN.out]; go_simp) ?_
      refine wpQuiet_nil ?_
      intro w2 hw2
      have HB2 := hid (HB.out.trans (hw2.mono HB.out.size))
      clear hw2
      cases hab : (a != b) with
      | true =>
        have HAB := hid hab
        clear hab
        go_wp2_with fail
        go_roundw
        case rel => exact ⟨k + 1, by omega, by go_num, by rw [hs.out, HC.out, if_pos HAB.out]; go_num, HB2.out⟩
        case measure => simp [intOf]; omega
      | false =>
        have HAB := hid hab
        clear hab
        go_wp2_with fail
        go_roundw
        case rel => exact ⟨k + 1, by omega, by go_num, by rw [hs.out, HC.out, if_neg (by rw [HAB.out]; decide)]; rfl, HB2.out⟩
        case measure => simp [intOf]; omega
    · obtain rfl : k = P := by omega
      go_wp2_with fail
      go_ret
      exact ⟨by rw [HC.out]; rfl, KB.out.trans (HB.out.mono KB.out.size)⟩

/-- The closure out of a change. -/
theorem run_field_change (a b : Value) (w : World) : (Instr.field 97 (.agg #[a, b]) 1).run Try.prog w = .ok b w := by kernel_rfl
/-- What the operations of the program's last statement hand back. -/
def pairsIRel (n m c : Nat) (ls : List UInt8) (b : UInt8) (dv : Int) (i : Nat) (v : Value) (W : World) : Prop :=
  match i with
  | 0 => v = .agg (gcells n m ls)
  | 1 => v = .agg (gcells n m ls)
  | 2 => v = .agg #[.int .i64 (placeN m c).i, .int .i64 (placeN m c).k]
  | 3 => ChangeV W n m ls (placeN m c) b v
  | 4 => ∃ g0 g1 g2, v = madeV g0 g1 g2 ∧ MadeAt W n m ls (placeN m c) b g0 g1 g2
  | 5 => v = .agg (gcells n m (ls.set c b))
  | 6 => v = .int .i64 dv
  | 7 => v = .int .i64 dv
  | 8 => v = .bool true
  | _ => True

set_option maxRecDepth 100000 in
set_option maxHeartbeats 2000000 in
theorem implChangePairs_any (A : Option Addr) (c : Nat) (ss : List ByteArray) (cell : Int) (w : World) (h : Strs w w.heap.size A ss) (hn : ss.length ≤ 1048576) (hs : ∀ s ∈ ss, s.size ≤ 1048576) :
    Calls Try.prog 32 #[.slice A ss.length c, .int .i64 cell] w fun e w' => Below w.heap.size w w' ∧ ∃ x ok, e = .returned (.tuple #[.int .i64 x, .bool ok]) ∧ MirOut movedR ss cell x ok := by
  have HR := hid (mirrorIn_any A c ss cell w h hn hs)
  clear h hs
  go_enter Try.func32, Try.ntmps32
  go_wp2_with fail
  refine HR.out.mono ?_
  rintro e w1 ⟨hbel, hcase⟩
  have HB := hid hbel
  clear hbel
  have HZ1 := hid (show ∀ gc, ((w1.alloc (.cells zeroG 54)).alloc (.cells #[.int .i64 0, .int .i64 0] 83)).heap[w1.heap.size]? = some (.cells zeroG 54 (0, 0)) ∧ (((w1.alloc (.cells zeroG 54)).alloc (.cells #[.int .i64 0, .int .i64 0] 83)).setRow w1.heap.size gc).heap[w1.heap.size + 1]? = some (.cells #[.int .i64 0, .int .i64 0] 83 (0, 0)) from fun gc => by
    have a1 := heap_new0 (w1.alloc (.cells zeroG 54)) (.cells #[.int .i64 0, .int .i64 0] 83)
    rw [World.size_alloc] at a1
    exact ⟨heap_new1 w1 _ _, by rw [setRow_other _ _ _ _ (by omega)]; exact a1⟩)
  have HB2 := hid (fun gc pc => below_setRow' (below_setRow' ((HB.out.alloc HB.out.size (.cells zeroG 54)).alloc (show w.heap.size ≤ (w1.alloc (.cells zeroG 54)).heap.size by have := HB.out.size; simp; omega) (.cells #[.int .i64 0, .int .i64 0] 83)) (show w.heap.size ≤ w1.heap.size from HB.out.size) gc) (show w.heap.size ≤ w1.heap.size + 1 by have := HB.out.size; omega) pc)
  rcases hcase with ⟨n, m, cc, hmi, rfl⟩ | ⟨hno, rfl⟩
  · have hg := hmi.1.1
    have hx := placeN_in hmi.1.2.2
    have HMI := hid hmi
    have HS := hid (show (Try.prog.info? 54).map (·.size) = some (gcells n m (pad (flat ss))).size by rw [hg.csize]; exact Try.size_grid)
    have HZ := hid (show zeroG.size = (gcells n m (pad (flat ss))).size by rw [hg.csize]; rfl)
    have HO := hid (gcells_one n m (pad (flat ss)))
    have HEX := hid (fun W => exchange_any n m (pad (flat ss)) (placeN m cc) W hg.plen hg.2.2.1 hg.2.2.2.2.1 hx)
    have HMK := hid (fun b g0 g1 g2 W hv => made_any n m (pad (flat ss)) (placeN m cc) b g0 g1 g2 W hg.plen hg.2.2.1 hg.2.2.2.2.1 hx hv)
    have HMP := hid (fun b W => movedPorts_any n m (pad (flat ss)) ((pad (flat ss)).set cc b) W hg.plen (by rw [List.length_set]; exact hg.plen) hg.2.1 hg.2.2.1 hg.2.2.2.1 hg.2.2.2.2.1)
    rw [cellN_place] at HMK
    obtain ⟨dv, hdv⟩ : ∃ dv, (((movedTo (bend_ n m (lett m (pad (flat ss)))) (bend_ n m (lett m ((pad (flat ss)).set cc (oth (lett m (pad (flat ss)) (placeN m cc).i (placeN m cc).k))))) (2 * (n + m)) : Nat) : Int)) = dv := ⟨_, rfl⟩
    have HDV := hid hdv
    generalize hob : oth (lett m (pad (flat ss)) (placeN m cc).i (placeN m cc).k) = ob at *
    have HOB := hid hob
    have HMP2 := hid (HMP.out ob)
    rw [hdv] at HMP2
    have HG1 := hid (show ((((w1.alloc (.cells zeroG 54)).alloc (.cells #[.int .i64 0, .int .i64 0] 83)).setRow w1.heap.size (gcells n m (pad (flat ss)))).setRow (w1.heap.size + 1) #[.int .i64 (placeN m cc).i, .int .i64 (placeN m cc).k]).heap[w1.heap.size]? = some (.cells (gcells n m (pad (flat ss))) 54 (0, 0)) by
      rw [setRow_other _ _ _ _ (by omega)]; exact setRow_heap _ _ _ _ _ _ (HZ1.out (gcells n m (pad (flat ss)))).1)
    have HP1 := hid (setRow_heap (((w1.alloc (.cells zeroG 54)).alloc (.cells #[.int .i64 0, .int .i64 0] 83)).setRow w1.heap.size (gcells n m (pad (flat ss)))) (w1.heap.size + 1) #[.int .i64 0, .int .i64 0] #[.int .i64 (placeN m cc).i, .int .i64 (placeN m cc).k] 83 (0, 0) (HZ1.out _).2)
    rw [show ((cc / m : Nat) : Int) = (placeN m cc).i from rfl, show ((cc % m : Nat) : Int) = (placeN m cc).k from rfl]
    clear hmi hg hdv hob
    go_wp2_with (first
      | refine wpList_store_row rfl 54 _ _ rfl w1.heap.size (gcells n m (pad (flat ss))) rfl rfl 54 zeroG (HZ1.out (gcells n m (pad (flat ss)))).1 HS.out HZ.out HO.out ?_
      | refine wpList_store_row rfl 83 _ _ rfl (w1.heap.size + 1) #[.int .i64 (placeN m cc).i, .int .i64 (placeN m cc).k] rfl rfl 83 #[.int .i64 0, .int .i64 0] (HZ1.out (gcells n m (pad (flat ss)))).2 Try.size_place rfl (int2_one _ _) ?_)
    have HBW := hid (HB2.out (gcells n m (pad (flat ss))) #[.int .i64 (placeN m cc).i, .int .i64 (placeN m cc).k])
    generalize (((w1.alloc (.cells zeroG 54)).alloc (.cells #[.int .i64 0, .int .i64 0] 83)).setRow w1.heap.size (gcells n m (pad (flat ss)))).setRow (w1.heap.size + 1) #[.int .i64 (placeN m cc).i, .int .i64 (placeN m cc).k] = W0 at *
    refine wp_region_rel (by kernel_rfl) (by kernel_rfl) 9 rfl (fun us => { tmps := #[.slice A ss.length c, .int .i64 cell, undef, undef, us 7, us 8, .pointer (some ⟨w1.heap.size, 0, none⟩), .pointer (some ⟨w1.heap.size + 1, 0, none⟩), .bool true,
      .tuple #[.agg (gcells n m (pad (flat ss))), .agg #[.int .i64 (placeN m cc).i, .int .i64 (placeN m cc).k], .bool true], .slice A ss.length c, .int .i64 cell, .tuple #[.agg (gcells n m (pad (flat ss))), .agg #[.int .i64 (placeN m cc).i, .int .i64 (placeN m cc).k], .bool true],
      .agg (gcells n m (pad (flat ss))), .agg #[.int .i64 (placeN m cc).i, .int .i64 (placeN m cc).k], .bool true, .bool true, .bool false, us 0, us 1, us 2, us 3, us 4, us 5, us 6], defers := [] }) (fun k => if k = 7 then .int .i64 0 else if k = 8 then .bool false else undef) rfl (pairsIRel n m cc (pad (flat ss)) ob dv) (fun i v W W' h hb => ?_) (fun i us v hi => ?_) (fun i us W hi hb hd => ?_) (fun us W hb hr => ?_)
    · unfold pairsIRel at h ⊢
      split at h <;> try exact h
      · exact h.below hb
      · obtain ⟨g0, g1, g2, h1, h2⟩ := h
        exact ⟨g0, g1, g2, h1, h2.below hb⟩
    · match i, hi with
      | 0, _ => rfl
      | 1, _ => rfl
      | 2, _ => rfl
      | 3, _ => rfl
      | 4, _ => rfl
      | 5, _ => rfl
      | 6, _ => rfl
      | 7, _ => rfl
      | 8, _ => rfl
    · have L0 := hid ((hb.block _ (lt_of_block HG1.out)).trans HG1.out)
      have L1 := hid ((hb.block _ (lt_of_block HP1.out)).trans HP1.out)
      match i, hi with
      | 0, _ => exact wpOp_val rfl rfl (exec_load_row 54 _ rfl w1.heap.size rfl 54 (gcells n m (pad (flat ss))) (0, 0) _ L0.out Try.underlying54 rfl HS.out) rfl
      | 1, _ => exact wpOp_val rfl rfl (exec_load_row 54 _ rfl w1.heap.size rfl 54 (gcells n m (pad (flat ss))) (0, 0) _ L0.out Try.underlying54 rfl HS.out) rfl
      | 2, _ => exact wpOp_val rfl rfl (exec_load_row 83 _ rfl (w1.heap.size + 1) rfl 83 #[.int .i64 (placeN m cc).i, .int .i64 (placeN m cc).k] (0, 0) _ L1.out Try.underlying83 rfl Try.size_place) rfl
      | 3, _ =>
        have h0 : us 1 = _ := hd _ rfl { on := 1, ground := .data } (by simp) rfl
        have h1 : us 2 = _ := hd _ rfl { on := 2, ground := .data } (by simp) rfl
        rw [h0, h1]
        exact wpOp_call rfl rfl (by go_simp) (HEX.out W)
      | 4, _ =>
        obtain ⟨g0, g1, g2, e3, hmade⟩ : ChangeV W n m (pad (flat ss)) (placeN m cc) ob (us 3) := hd _ rfl { on := 3, ground := .data } (by simp) rfl
        rw [e3]
        have hfd := run_field_change (.int .i64 ((cellN m (placeN m cc) : Nat) : Int)) (madeV g0 g1 g2) W
        unfold changeC
        exact wpOp_val rfl rfl (by go_simp) ⟨g0, g1, g2, rfl, hmade⟩
      | 5, _ =>
        obtain ⟨g0, g1, g2, e4, hmade⟩ : ∃ g0 g1 g2, us 4 = madeV g0 g1 g2 ∧ MadeAt W n m (pad (flat ss)) (placeN m cc) ob g0 g1 g2 := hd _ rfl { on := 4, ground := .data } (by simp) rfl
        rw [e4]
        unfold madeV
        exact wpOp_call rfl rfl (by go_simp) ((HMK.out ob g0 g1 g2 W hmade).mono fun e w'' ⟨he, hb'⟩ => ⟨_, he, rfl, hb'⟩)
      | 6, _ =>
        have h0 : us 0 = _ := hd _ rfl { on := 0, ground := .data } (by simp) rfl
        have h5 : us 5 = _ := hd _ rfl { on := 5, ground := .data } (by simp) rfl
        rw [h0, h5]
        exact wpOp_call rfl rfl (by go_simp) ((HMP2.out W).mono fun e w'' ⟨he, hb'⟩ => ⟨_, he, rfl, hb'⟩)
      | 7, _ =>
        have h0 : us 6 = _ := hd _ rfl { on := 6, ground := .data } (by simp) rfl
        rw [h0]
        exact wpOp_val rfl rfl (by go_simp) rfl
      | 8, _ => exact wpOp_val rfl rfl (by go_simp) rfl
    · have h5 : us 7 = _ := hr 7 (by omega)
      have h6 : us 8 = _ := hr 8 (by omega)
      rw [h5, h6]
      have HB4 := hid (HBW.out.trans (hb.mono HBW.out.size))
      clear hr hb
      go_wp2_with fail
      refine bodyPost_ret (results_tmp2 rfl _ _ _) rfl ?_
      exact ⟨HB4.out, _, true, rfl, .inl ⟨n, m, cc, HMI.out, by unfold movedR; rw [← HDV.out]; rw [← HOB.out]; rfl⟩⟩
  · have HNo := hid hno
    clear hno
    have HBW := hid (HB2.out zeroG #[.int .i64 0, .int .i64 0])
    go_wp2_with (first
      | refine wpList_store_row rfl 54 _ _ rfl w1.heap.size zeroG rfl rfl 54 zeroG (HZ1.out zeroG).1 Try.size_grid rfl (gcells_one 0 0 (pad [])) ?_
      | refine wpList_store_row rfl 83 _ _ rfl (w1.heap.size + 1) #[.int .i64 0, .int .i64 0] rfl rfl 83 #[.int .i64 0, .int .i64 0] (HZ1.out zeroG).2 Try.size_place rfl (int2_one _ _) ?_)
    refine bodyPost_ret (results_tmp2 rfl _ _ _) rfl ?_
    exact ⟨HBW.out, 0, false, rfl, .inr ⟨HNo.out, rfl, rfl⟩⟩


set_option maxRecDepth 100000 in
set_option maxHeartbeats 1000000 in
theorem specChangePairs_any (A : Option Addr) (c B : Nat) (ss : List ByteArray) (cell : Int) (w : World) (h : Strs w B A ss) (hB : B ≤ w.heap.size) (hn : ss.length ≤ 1048576) (hs : ∀ s ∈ ss, s.size ≤ 1048576) :
    Calls Try.prog 33 #[.slice A ss.length c, .int .i64 cell] w fun e w' => Below w.heap.size w w' ∧ ∃ x ok, e = .returned (.tuple #[.int .i64 x, .bool ok]) ∧ MirOut movedR ss cell x ok := by
  have HI := hid (l4Mirror_any A c B ss cell w h hn hs)
  have HD := hid h
  clear h hs
  go_enter Try.func33, Try.ntmps33
  go_wp2_with fail
  refine HI.out.mono ?_
  rintro e w' ⟨ok, rfl, hok, d, rfl⟩
  have HBd := hid (below_drewN' (Below.refl w.heap.size w) d)
  rcases hok with ⟨rfl, n, m, cc, hmi⟩ | ⟨rfl, hno⟩
  · have HMI := hid hmi
    have hg := hmi.1.1
    have hcc := hmi.1.2.2
    obtain rfl := hmi.1.2.1
    obtain ⟨b, off, s0, rfl, _, _, _⟩ := HD.out.at_ (k := 0) (by have := hg.1; have := hg.2.1; omega)
    have HPA := hid (l2Pairs_any (some ⟨b, off, none⟩) c B n m ss (w.drewN d) (HD.out.drewN d) hB hg)
    have HX := hid (fun w h hB => l4Exchange_any b off c B n m cc ss w h hB hg hcc)
    obtain ⟨hg2, hp2⟩ := put_grid (b := oth (lett m (pad (flat ss)) ((cc / m : Nat) : Int) ((cc % m : Nat) : Int))) hg hcc (isLet_oth _ (by obtain ⟨b', e, hb'⟩ := hg.let_at hcc; rw [lett_cell hg hcc] at e; cases e; exact hb'))
    have HPB := hid (fun A c w h => l2Pairs_any A c w.heap.size n m (textsOf n m ((pad (flat ss)).set cc (oth (lett m (pad (flat ss)) ((cc / m : Nat) : Int) ((cc % m : Nat) : Int))))) w h (Nat.le_refl _) hg2)
    rw [hp2, hg2.1] at HPB
    have hdv : movedR n m (pad (flat ss)) cc = (((movedTo (bend_ n m (lett m (pad (flat ss)))) (bend_ n m (lett m ((pad (flat ss)).set cc (oth (lett m (pad (flat ss)) ((cc / m : Nat) : Int) ((cc % m : Nat) : Int)))))) (2 * (n + m)) : Nat) : Int), true) := rfl
    have hP20 : 2 * (n + m) ≤ 20 := by have := hg.2.2.1; have := hg.2.2.2.2.1; omega
    have hnl := hg.1
    have la := pairsR_length n m (lett m (pad (flat ss)))
    have lb := pairsR_length n m (lett m ((pad (flat ss)).set cc (oth (lett m (pad (flat ss)) ((cc / m : Nat) : Int) ((cc % m : Nat) : Int)))))
    have xa := fun p hp => pairsR_at (n := n) (m := m) (p := p) (t := lett m (pad (flat ss))) hp
    have xb := fun p hp => pairsR_at (n := n) (m := m) (p := p) (t := lett m ((pad (flat ss)).set cc (oth (lett m (pad (flat ss)) ((cc / m : Nat) : Int) ((cc % m : Nat) : Int))))) hp
    generalize textsOf n m ((pad (flat ss)).set cc (oth (lett m (pad (flat ss)) ((cc / m : Nat) : Int) ((cc % m : Nat) : Int)))) = tt at *
    generalize (pad (flat ss)).set cc (oth (lett m (pad (flat ss)) ((cc / m : Nat) : Int) ((cc % m : Nat) : Int))) = ls' at *
    have HDV := hid hdv
    generalize pairsR n m (lett m (pad (flat ss))) = pla at *
    generalize pairsR n m (lett m ls') = plb at *
    generalize bend_ n m (lett m (pad (flat ss))) = f at *
    generalize bend_ n m (lett m ls') = f' at *
    generalize hP : 2 * (n + m) = P at *
    have XA := hid xa
    have XB := hid xb
    have LA := hid la
    have LB := hid lb
    rw [hnl] at HPA HX ⊢
    clear hmi hg hg2 hp2 hdv xa xb la lb hP hcc
    go_wp2_with fail
    refine HPA.out.mono ?_
    rintro e w1 ⟨v1, rfl, hgr1, hb1⟩
    obtain ⟨A1, c1, rfl, hi1⟩ := hgr1.ints
    have HI1 := hid hi1
    have HB1 := hid (HBd.out.trans hb1)
    rw [LA.out]
    clear hgr1 hi1 hb1
    go_wp2_with fail
    refine (HX.out w1 (HD.out.below HB1.out hB) (Nat.le_trans hB HB1.out.size)).mono ?_
    rintro e w2 ⟨⟨g, cap, rfl, hrow⟩, hb2⟩
    have HB2 := hid (HB1.out.trans (hb2.mono HB1.out.size))
    have HI2 := hid (HI1.out.below hb2 (Nat.le_refl _))
    have HZ2 := hid hb2.size
    have HS2 := hid (hrow.strs (B := w2.heap.size) hrow.lt)
    clear hb2 hrow
    go_wp2_with fail
    refine (HPB.out _ cap w2 HS2.out).mono ?_
    rintro e w3 ⟨v3, rfl, hgr3, hb3⟩
    obtain ⟨A3, c3, rfl, hi3⟩ := hgr3.ints
    have HI3 := hid hi3
    have HI3' := hid (HI2.out.below hb3 HZ2.out)
    have HB3 := hid (HB2.out.trans (hb3.mono HB2.out.size))
    rw [LB.out]
    clear hgr3 hi3 hb3
    go_wp2_with fail
    go_loopw [8, 9] (fun (v i : Value) (wr : World) => ∃ k : Nat, k ≤ P ∧ i = .int .i64 k ∧ v = .int .i64 ((movedTo f f' k : Nat) : Int) ∧ ∃ d, wr = w3.drewN d) (fun _ i _ => P - (intOf i).toNat)
    case atStart => exact ⟨0, Nat.zero_le _, rfl, rfl, 0, rfl⟩
    case round =>
      obtain ⟨k, hk, rfl, rfl, d3, rfl⟩ := hrel
      have hle := movedTo_le f f' k
      obtain ⟨q, hq⟩ : ∃ q, movedTo f f' k = q := ⟨_, rfl⟩
      rw [hq] at hle ⊢
      have HQ := hid hq
      clear hq
      by_cases hlt : k < P
      · have hki : (k : Int) < (P : Int) := by omega
        have hki0 : (0 : Int) ≤ (k : Int) := by omega
        have hs := hid (movedTo_succ f f' k)
        obtain ⟨b1, o1, x1, rfl, _, hx1, hc1⟩ := HI3'.out.at_ (k := k) (by rw [LA.out]; exact hlt)
        obtain ⟨b3, o3, x3, rfl, _, hx3, hc3⟩ := HI3.out.at_ (k := k) (by rw [LB.out]; exact hlt)
        rw [XA.out k hlt] at hx1
        rw [XB.out k hlt] at hx3
        cases hx1
        cases hx3
        have hbn := nat_bne (f k) (f' k)
        generalize f k = a1 at *
        generalize f' k = a3 at *
        cases hab : (a1 != a3) with
        | true =>
          rw [hab] at hbn
          have HAB := hid hab
          clear hab
          go_wp2_with fail
          go_quiet (fail)
          go_wp2_with fail
          go_roundw
          case rel => exact ⟨k + 1, by omega, by go_num, by rw [hs.out, HQ.out, if_pos HAB.out]; go_num, _, rfl⟩
          case measure => simp [intOf]; omega
        | false =>
          rw [hab] at hbn
          have HAB := hid hab
          clear hab
          go_wp2_with fail
          go_quiet (fail)
          go_wp2_with fail
          go_roundw
          case rel => exact ⟨k + 1, by omega, by go_num, by rw [hs.out, HQ.out, if_neg (by rw [HAB.out]; decide)]; rfl, _, rfl⟩
          case measure => simp [intOf]; omega
      · obtain rfl : k = P := by omega
        go_wp2_with fail
        refine bodyPost_ret (results_tmp2 rfl _ _ _) rfl ?_
        exact ⟨below_drewN' HB3.out _, _, true, rfl, .inl ⟨n, m, cc, HMI.out, by rw [HDV.out, HQ.out]⟩⟩
  · have HNo := hid hno
    clear hno
    go_wp2_with fail
    refine bodyPost_ret (results_tmp2 rfl _ _ _) rfl ?_
    exact ⟨HBd.out, 0, false, rfl, .inr ⟨HNo.out, rfl, rfl⟩⟩

end Go.Proofs.Ytgildagmliadeaa
