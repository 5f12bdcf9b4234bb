/- RoundPaths of the specification and of the program, by their contracts. -/
import Derived.Test.YtmdgbcepjnfbnaaRoundS
import Derived.Test.YtmdgbcepjnfbnaaRounds
import Derived.Test.YtmdgbcepjnfbnaaRead
namespace Go.Proofs.Ytmdgbcepjnfbnaa
open Go.RowKit Go.Shelf

theorem RoundsOf.sliceP {w : World} {base g n m x : Nat} {t : Int → Int → UInt8} {v : Value} (h : RoundsOf w base g n m t x v) : ∃ A c, v = .slice A (leadsTo n m t x).length c := by
  obtain ⟨vs, h1, h2, _⟩ := h
  rw [← h2]
  rcases h1.2 with ⟨rfl, h0⟩ | ⟨b, cap, cur, rfl, _⟩
  · rw [h0]; exact ⟨_, _, rfl⟩
  · exact ⟨_, _, rfl⟩

/-- What the operations of the specification's sum hand back. -/
def pathsSpecRel (b off c n m K : Nat) (s0 : ByteArray) (i : Nat) (v : Value) (_ : World) : Prop :=
  match i with
  | 0 => v = .slice (some ⟨b, off, none⟩) n c
  | 1 => ∃ A1 cc, v = .slice A1 K cc
  | 2 => v = .int .i64 (K : Int)
  | 3 => v = .slice (some ⟨b, off, none⟩) n c
  | 4 => v = .int .i64 (n : Int)
  | 5 => v = .int .i64 ((K : Int) + (n : Int))
  | 6 => v = .slice (some ⟨b, off, none⟩) n c
  | 7 => v = .pointer (some ⟨b, off, none⟩)
  | 8 => v = .string s0
  | 9 => v = .int .i64 (m : Int)
  | 10 => v = .int .i64 ((K : Int) + (n : Int) + (m : Int))
  | 11 => v = .int .i64 ((K : Int) + (n : Int) + (m : Int))
  | _ => True

set_option maxRecDepth 100000 in
set_option maxHeartbeats 1000000 in
theorem l3Paths_any (A : Option Addr) (c B n m : Nat) (ss : List ByteArray) (w : World) (h : Strs w B A ss) (hB : B ≤ w.heap.size) (hg : IsGrid n m ss) :
    Calls Try.prog 83 #[.slice A ss.length c] w fun e w' => e = .returned (.int .i64 (pathsR n m (lett m (pad (flat ss)))).1) ∧ Below w.heap.size w w' := by
  have hn5 := hg.2.2.1
  have hn1 := hg.2.1
  have hm5 := hg.2.2.2.2.1
  have hnl := hg.1
  have h25 := hg.le25
  obtain ⟨b, off, s0, rfl, hb, hk0, hc0⟩ := h.at_ (k := 0) (by omega)
  rw [Nat.add_zero] at hc0
  have hs0 : s0.size = m := (hg.2.2.2.2.2 s0 (List.mem_of_getElem? hk0)).1
  have hs0i : ((s0.size : Nat) : Int) = (m : Int) := by rw [hs0]
  have hl0 : (0 : Int) < (ss.length : Int) := by omega
  have hlen : (leads n m (lett m (pad (flat ss)))).length ≤ 100 := by
    have := leadsTo_le (n := n) (m := m) (t := lett m (pad (flat ss))) (4 * (n * m))
    rw [leadsTo_all] at this
    omega
  obtain ⟨K, hK⟩ : ∃ K, (leads n m (lett m (pad (flat ss)))).length = K := ⟨_, rfl⟩
  have HR := hid (show ∀ w', Below w.heap.size w w' → Calls Try.prog 85 #[.slice (some ⟨b, off, none⟩) ss.length c] w' fun e w'' => ∃ v, e = .returned v ∧ (∃ A1 cc, v = .slice A1 K cc) ∧ Below w'.heap.size w' w'' from fun w' hw => by
    refine (l3Rounds_any (some ⟨b, off, none⟩) c B n m ss w' (h.below hw hB) (Nat.le_trans hB hw.size) hg).mono ?_
    rintro e w'' ⟨v, rfl, hgr, hb1⟩
    obtain ⟨A1, cc, rfl, _⟩ := hgr.ints
    rw [lensTo_length, leadsTo_all, hK]
    exact ⟨_, rfl, ⟨A1, cc, rfl⟩, hb1⟩)
  have HP := hid (show (pathsR n m (lett m (pad (flat ss)))).1 = (K : Int) + (n : Int) + (m : Int) by unfold pathsR; rw [hK])
  have HNL := hid hnl
  rw [HP.out]
  have HC := hid (show ∀ w', Below w.heap.size w w' → w'.cell? ⟨b, off, none⟩ = some (.string s0) from fun w' hw => (hw.cell (p := ⟨b, off, none⟩) (by show b < _; omega)).trans hc0)
  have hK100 : (K : Int) ≤ 100 := by omega
  have hK0 : (0 : Int) ≤ (K : Int) := by omega
  have hni : (n : Int) ≤ 5 := by omega
  have hmi : (m : Int) ≤ 5 := by omega
  have hni0 : (0 : Int) ≤ (n : Int) := by omega
  have hmi0 : (0 : Int) ≤ (m : Int) := by omega
  have hw1 : IntKind.i64.wrap ((K : Int) + (n : Int)) = (K : Int) + (n : Int) := IntWalk.i64_in _ (by omega)
  have hw2 : IntKind.i64.wrap ((K : Int) + (n : Int) + (m : Int)) = (K : Int) + (n : Int) + (m : Int) := IntWalk.i64_in _ (by omega)
  clear hg h hk0 hs0 hnl hlen hK h25 hB
  rw [HNL.out] at hl0 HR ⊢
  clear HNL
  go_enter Try.func83, Try.ntmps83
  go_wp2_with fail
  refine wp_region_rel (by kernel_rfl) (by kernel_rfl) 12 rfl (fun us => { tmps := #[.slice (some ⟨b, off, none⟩) n c, undef, us 11, us 0, us 1, us 2, us 3, us 4, us 5, us 6, us 7, us 8, us 9, us 10], defers := [] }) (fun k => if k = 11 then .int .i64 0 else undef) rfl (pathsSpecRel b off c n m K s0) (fun i v W W' h hb => ?_) (fun i us v hi => ?_) (fun i us W hi hb hd => ?_) (fun us W hb hr => ?_)
  · unfold pathsSpecRel at h ⊢
    exact h
  · match i, hi with
    | 0, _ => rfl
    | 1, _ => rfl
    | 2, _ => rfl
    | 3, _ => rfl
    | 4, _ => rfl
    | 5, _ => rfl
    | 6, _ => rfl
    | 7, _ => rfl
    | 8, _ => rfl
    | 9, _ => rfl
    | 10, _ => rfl
    | 11, _ => rfl
  · match i, hi with
    | 0, _ => exact wpOp_val rfl rfl (by go_simp) rfl
    | 1, _ =>
      have h0 : us 0 = _ := hd _ rfl { on := 0, ground := .data } (by simp) rfl
      rw [h0]
      exact wpOp_call rfl rfl (by go_simp) (HR.out W hb)
    | 2, _ =>
      obtain ⟨A1, cc, h0⟩ : ∃ A1 cc, us 1 = .slice A1 K cc := hd _ rfl { on := 1, ground := .data } (by simp) rfl
      rw [h0]
      exact wpOp_val rfl rfl (by go_simp) rfl
    | 3, _ => exact wpOp_val rfl rfl (by go_simp) rfl
    | 4, _ =>
      have h0 : us 3 = _ := hd _ rfl { on := 3, ground := .data } (by simp) rfl
      rw [h0]
      exact wpOp_val rfl rfl (by go_simp) rfl
    | 5, _ =>
      have h0 : us 2 = _ := hd _ rfl { on := 2, ground := .data } (by simp) rfl
      have h1 : us 4 = _ := hd _ rfl { on := 4, ground := .data } (by simp) rfl
      rw [h0, h1]
      exact wpOp_val rfl rfl (by go_simp) rfl
    | 6, _ => exact wpOp_val rfl rfl (by go_simp) rfl
    | 7, _ =>
      have h0 : us 6 = _ := hd _ rfl { on := 6, ground := .data } (by simp) rfl
      have hn0 : ¬ n = 0 := by omega
      rw [h0]
      exact wpOp_val rfl rfl (by go_simp) rfl
    | 8, _ =>
      have h0 : us 7 = _ := hd _ rfl { on := 7, ground := .data } (by simp) rfl
      rw [h0]
      have hc := HC.out W hb
      exact wpOp_val rfl rfl (by go_simp) rfl
    | 9, _ =>
      have h0 : us 8 = _ := hd _ rfl { on := 8, ground := .data } (by simp) rfl
      rw [h0]
      exact wpOp_val (u := .int .i64 (m : Int)) rfl rfl (by go_simp) rfl
    | 10, _ =>
      have h0 : us 5 = _ := hd _ rfl { on := 5, ground := .data } (by simp) rfl
      have h1 : us 9 = _ := hd _ rfl { on := 9, ground := .data } (by simp) rfl
      rw [h0, h1]
      exact wpOp_val rfl rfl (by go_simp) rfl
    | 11, _ =>
      have h0 : us 10 = _ := hd _ rfl { on := 10, ground := .data } (by simp) rfl
      rw [h0]
      exact wpOp_val rfl rfl (by go_simp) rfl
  · have h0 : us 11 = _ := hr 11 (by omega)
    rw [h0]
    have HB := hid hb
    clear hr hb
    go_wp2_with fail
    go_ret
    exact ⟨rfl, HB.out⟩

set_option maxRecDepth 100000 in
set_option maxHeartbeats 1000000 in
theorem specRoundPaths_any (A : Option Addr) (c B : Nat) (ss : List ByteArray) (w : World) (h : Strs w B A ss) (hB : B ≤ w.heap.size) (hn : ss.length ≤ 1048576) (hs : ∀ s ∈ ss, s.size ≤ 1048576) :
    Calls Try.prog 31 #[.slice A ss.length c] w fun e w' => Below w.heap.size w w' ∧ ∃ x ok, e = .returned (.tuple #[.int .i64 x, .bool ok]) ∧ GridOut pathsR ss x ok := by
  have HI := hid (specGridIn_any A c B ss w h hn hs)
  have HD := hid h
  clear h hs
  go_enter Try.func31, Try.ntmps31
  go_wp2_with fail
  refine HI.out.mono ?_
  rintro e w' ⟨ok, rfl, hok, d, rfl⟩
  have HO := hid hok
  clear hok
  have HBd := hid (below_drewN' (Below.refl w.heap.size w) d)
  cases ok with
  | false =>
    go_wp2_with fail
    refine bodyPost_ret (results_tmp2 rfl _ _ _) rfl ?_
    exact ⟨HBd.out, 0, false, rfl, .inr ⟨noGrid_of HO.out, rfl, rfl⟩⟩
  | true =>
    obtain ⟨n, m, hg⟩ := HO.out.1 rfl
    have c1 := hid (l3Paths_any A c B n m ss (w.drewN d) (HD.out.drewN d) hB hg)
    have HG := hid hg
    clear hg
    go_wp2_with fail
    refine c1.out.mono ?_
    rintro e w1 ⟨rfl, hb1⟩
    have HB1 := hid (HBd.out.trans hb1)
    clear hb1
    go_wp2_with fail
    refine bodyPost_ret (results_tmp2 rfl _ _ _) rfl ?_
    exact ⟨HB1.out, _, true, rfl, .inl ⟨n, m, HG.out, rfl⟩⟩

/-- What the operations of the program's sum hand back. -/
def pathsImplRel (gc : Array Value) (n m N K : Nat) (t : Int → Int → UInt8) (i : Nat) (v : Value) (W : World) : Prop :=
  match i with
  | 0 => v = .agg gc
  | 1 => ∃ g, v = .agg (chartC gc g N) ∧ StepsM W g n m t (fun _ => True) N
  | 2 => ∃ A1 cc, v = .slice A1 K cc
  | 3 => v = .int .i64 (K : Int)
  | 4 => v = .agg gc
  | 5 => v = .int .i64 ((2 * (n + m) : Nat) : Int)
  | 6 => v = .int .i64 ((n : Int) + (m : Int))
  | 7 => v = .int .i64 ((K : Int) + ((n : Int) + (m : Int)))
  | 8 => v = .int .i64 ((K : Int) + ((n : Int) + (m : Int)))
  | _ => True

set_option maxRecDepth 100000 in
set_option maxHeartbeats 2000000 in
/-- The number of paths, of a grid that is told by its cells. -/
theorem paths_any (n m : Nat) (ls : List UInt8) (w : World) (hpl : ls.length = 25) (hn5 : n ≤ 5) (hm1 : 1 ≤ m) (hm5 : m ≤ 5) :
    Calls Try.prog 81 #[.agg (gcells n m ls)] w fun e w' => e = .returned (.int .i64 (pathsR n m (lett m ls)).1) ∧ Below w.heap.size w w' := by
  have HS := hid (show (Try.prog.info? 57).map (·.size) = some (gcells n m ls).size by rw [gcells_size hpl]; exact Try.size_grid)
  have HL := hid (heap_new0 w (.cells (gcells n m ls) 57))
  have HW := hid ((Below.refl _ w).alloc (Nat.le_refl _) (.cells (gcells n m ls) 57))
  have h25 : n * m ≤ 25 := Nat.mul_le_mul hn5 hm5
  obtain ⟨K, hK⟩ : ∃ K, (leads n m (lett m ls)).length = K := ⟨_, rfl⟩
  have hlen : K ≤ 100 := by
    have := leadsTo_le (n := n) (m := m) (t := lett m ls) (4 * (n * m))
    rw [leadsTo_all] at this
    omega
  have HNC := hid (show ∀ w', Calls Try.prog 69 #[.agg (gcells n m ls)] w' fun e w'' => ∃ v, e = .returned v ∧ pathsImplRel (gcells n m ls) n m (4 * (n * m)) K (lett m ls) 1 v w'' ∧ Below w'.heap.size w' w'' from fun w' => (newChart_any n m (4 * (n * m)) (n * m) ls w' hpl hn5 hm1 hm5 rfl rfl).mono fun e w'' ⟨g, _, he, hst, hb⟩ => ⟨_, he, ⟨g, rfl, hst⟩, hb⟩)
  have HRS := hid (show ∀ g w', StepsM w' g n m (lett m ls) (fun _ => True) (4 * (n * m)) → Calls Try.prog 76 #[.agg (chartC (gcells n m ls) g (4 * (n * m)))] w' fun e w'' => ∃ v, e = .returned v ∧ pathsImplRel (gcells n m ls) n m (4 * (n * m)) K (lett m ls) 2 v w'' ∧ Below w'.heap.size w' w'' from fun g w' hst => (rounds_any n m g (4 * (n * m)) ls w' hpl hn5 hm5 rfl hst).mono fun e w'' ⟨v, he, hro, hb⟩ => ⟨v, he, (by obtain ⟨A1, cc, e⟩ := hro.sliceP; rw [leadsTo_all, hK] at e; exact ⟨A1, cc, e⟩), hb⟩)
  have HPO := hid (show ∀ w', Calls Try.prog 123 #[.agg (gcells n m ls)] w' fun e w'' => ∃ v, e = .returned v ∧ pathsImplRel (gcells n m ls) n m (4 * (n * m)) K (lett m ls) 5 v w'' ∧ Below w'.heap.size w' w'' from fun w' => (ports_any n m ls w' hn5 hm5).mono fun e w'' ⟨he, hb⟩ => ⟨_, he, rfl, hb⟩)
  have HP := hid (show (pathsR n m (lett m ls)).1 = (K : Int) + ((n : Int) + (m : Int)) by unfold pathsR; rw [hK, Int.add_assoc])
  rw [HP.out]
  clear hK h25 hpl HP
  generalize gcells n m ls = gc at *
  generalize hN : 4 * (n * m) = N at *
  generalize lett m ls = t at *
  clear hN
  have hKi : (K : Int) ≤ 100 := by omega
  have hK0 : (0 : Int) ≤ (K : Int) := by omega
  have hni : (n : Int) ≤ 5 := by omega
  have hmi : (m : Int) ≤ 5 := by omega
  have hni0 : (0 : Int) ≤ (n : Int) := by omega
  have hmi0 : (0 : Int) ≤ (m : Int) := by omega
  go_enter Try.func81, Try.ntmps81
  go_wp2
  generalize World.alloc _ _ = w2 at *
  refine wp_region_rel (by kernel_rfl) (by kernel_rfl) 9 rfl (fun us => { tmps := #[.agg gc, .pointer (some ⟨w.heap.size, 0, none⟩), us 8, us 0, us 1, us 2, us 3, us 4, us 5, us 6, us 7], defers := [] }) (fun k => if k = 8 then .int .i64 0 else undef) rfl (pathsImplRel gc n m N K t) (fun i v W W' h hb => ?_) (fun i us v hi => ?_) (fun i us W hi hb hd => ?_) (fun us W hb hr => ?_)
  · unfold pathsImplRel at h ⊢
    split at h <;> try exact h
    obtain ⟨g, h1, h2⟩ := h
    exact ⟨g, h1, h2.below hb⟩
  · match i, hi with
    | 0, _ => rfl
    | 1, _ => rfl
    | 2, _ => rfl
    | 3, _ => rfl
    | 4, _ => rfl
    | 5, _ => rfl
    | 6, _ => rfl
    | 7, _ => rfl
    | 8, _ => rfl
  · have HLW := hid ((hb.block _ (lt_of_block HL.out)).trans HL.out)
    match i, hi with
    | 0, _ => exact wpOp_val rfl rfl (exec_load_row 57 _ rfl w.heap.size rfl 57 gc (0, 0) _ HLW.out Try.underlying57 rfl HS.out) rfl
    | 1, _ =>
      have h0 : us 0 = _ := hd _ rfl { on := 0, ground := .data } (by simp) rfl
      rw [h0]
      exact wpOp_call rfl rfl (by go_simp) (HNC.out W)
    | 2, _ =>
      obtain ⟨g, h0, hst⟩ : ∃ g, us 1 = .agg (chartC gc g N) ∧ StepsM W g n m t (fun _ => True) N := hd _ rfl { on := 1, ground := .data } (by simp) rfl
      rw [h0]
      exact wpOp_call rfl rfl (by go_simp) (HRS.out g W hst)
    | 3, _ =>
      obtain ⟨A1, cc, h0⟩ : ∃ A1 cc, us 2 = .slice A1 K cc := hd _ rfl { on := 2, ground := .data } (by simp) rfl
      rw [h0]
      exact wpOp_val rfl rfl (by go_simp) rfl
    | 4, _ => exact wpOp_val rfl rfl (exec_load_row 57 _ rfl w.heap.size rfl 57 gc (0, 0) _ HLW.out Try.underlying57 rfl HS.out) rfl
    | 5, _ =>
      have h0 : us 4 = _ := hd _ rfl { on := 4, ground := .data } (by simp) rfl
      rw [h0]
      exact wpOp_call rfl rfl (by go_simp) (HPO.out W)
    | 6, _ =>
      have h0 : us 5 = _ := hd _ rfl { on := 5, ground := .data } (by simp) rfl
      rw [h0]
      obtain ⟨q, hq⟩ : ∃ q, 2 * (n + m) = q := ⟨_, rfl⟩
      have hdv : (q : Int) / 2 = (n : Int) + (m : Int) := by omega
      have hw0 : IntKind.i64.wrap ((n : Int) + (m : Int)) = (n : Int) + (m : Int) := IntWalk.i64_in _ (by omega)
      have hq0 : (0 : Int) ≤ (q : Int) := by omega
      rw [hq]
      clear hq
      exact wpOp_val (u := .int .i64 ((n : Int) + (m : Int))) rfl rfl (by go_simp) rfl
    | 7, _ =>
      have h0 : us 3 = _ := hd _ rfl { on := 3, ground := .data } (by simp) rfl
      have h1 : us 6 = _ := hd _ rfl { on := 6, ground := .data } (by simp) rfl
      have hw0 : IntKind.i64.wrap ((K : Int) + ((n : Int) + (m : Int))) = (K : Int) + ((n : Int) + (m : Int)) := IntWalk.i64_in _ (by omega)
      rw [h0, h1]
      exact wpOp_val rfl rfl (by go_simp) rfl
    | 8, _ =>
      have h0 : us 7 = _ := hd _ rfl { on := 7, ground := .data } (by simp) rfl
      rw [h0]
      exact wpOp_val rfl rfl (by go_simp) rfl
  · have h0 : us 8 = _ := hr 8 (by omega)
    rw [h0]
    have HB2 := hid (HW.out.trans (hb.mono HW.out.size))
    clear hr hb
    go_wp2_with fail
    go_ret
    exact ⟨rfl, HB2.out⟩

set_option maxRecDepth 100000 in
set_option maxHeartbeats 2000000 in
theorem implRoundPaths_any (A : Option Addr) (c : Nat) (ss : List ByteArray) (w : World) (h : Strs w w.heap.size A ss) (hn : ss.length ≤ 1048576) (hs : ∀ s ∈ ss, s.size ≤ 1048576) :
    Calls Try.prog 33 #[.slice A ss.length c] w fun e w' => Below w.heap.size w w' ∧ ∃ x ok, e = .returned (.tuple #[.int .i64 x, .bool ok]) ∧ GridOut pathsR ss x ok := by
  have HR := hid (readGrid_any A c ss w h hn hs)
  clear h hs
  go_enter Try.func33, Try.ntmps33
  go_wp2_with fail
  refine HR.out.mono ?_
  rintro e w1 ⟨hbel, ⟨n, m, hg, rfl⟩ | ⟨hno, rfl⟩⟩
  · have HB := hid hbel
    have HGr := hid hg
    have HS := hid (show (Try.prog.info? 57).map (·.size) = some (gcells n m (pad (flat ss))).size by rw [hg.csize]; exact Try.size_grid)
    have HZ := hid (show zeroG.size = (gcells n m (pad (flat ss))).size by rw [hg.csize]; rfl)
    have HL := hid (setRow_heap (w1.alloc (.cells zeroG 57)) w1.heap.size zeroG (gcells n m (pad (flat ss))) 57 (0, 0) (heap_new0 w1 _))
    have HW := hid (HB.out.trans (below_setRow' ((Below.refl _ w1).alloc HB.out.size (.cells zeroG 57)) HB.out.size (gcells n m (pad (flat ss)))))
    have HPA := hid (fun w' => paths_any n m (pad (flat ss)) w' hg.plen hg.2.2.1 hg.2.2.2.1 hg.2.2.2.2.1)
    have HO := hid (gcells_one n m (pad (flat ss)))
    clear hbel hg
    go_wp2_with (first
      | refine wpList_store_row rfl 57 _ _ rfl w1.heap.size (gcells n m (pad (flat ss))) rfl rfl 57 zeroG (heap_new0 w1 _) HS.out HZ.out HO.out ?_
      | refine wpList_load_row rfl 57 _ rfl w1.heap.size rfl 57 (gcells n m (pad (flat ss))) (0, 0) _ HL.out Try.underlying57 rfl HS.out ?_)
    refine (HPA.out _).mono ?_
    rintro e w3 ⟨rfl, hb3⟩
    have HB3 := hid (HW.out.trans (hb3.mono HW.out.size))
    clear hb3
    go_wp2_with fail
    refine bodyPost_ret (results_tmp2 rfl _ _ _) rfl ?_
    exact ⟨HB3.out, _, true, rfl, .inl ⟨n, m, HGr.out, rfl⟩⟩
  · have HB := hid hbel
    have HGr := hid hno
    clear hbel hno
    go_wp2_with (refine wpList_store_row rfl 57 _ _ rfl w1.heap.size zeroG rfl rfl 57 zeroG (heap_new0 w1 _) Try.size_grid rfl (gcells_one 0 0 (pad [])) ?_)
    refine bodyPost_ret (results_tmp2 rfl _ _ _) rfl ?_
    exact ⟨HB.out.trans (below_setRow' ((Below.refl _ w1).alloc HB.out.size _) HB.out.size _), 0, false, rfl, .inr ⟨HGr.out, rfl, rfl⟩⟩

end Go.Proofs.Ytmdgbcepjnfbnaa
