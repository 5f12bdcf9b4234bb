/- RoundAt of the specification and of the program, by their contracts. -/
import Derived.Test.YtcomaodpnhoeaaaRoundT
namespace Go.Proofs.Ytcomaodpnhoeaaa
open Go.RowKit Go.Shelf

section
variable {P : Program} {ops : Array Oper} {rest : List Oper} {o : Oper} {a : Act} {w : World} {Q : Exit → Act → World → Prop}
theorem wpList_load_row_gA (hw : Region.wanted o (yielded ops a.tmps) = true) (ty : TypeId) (x : Operand) (ho : o.op = .load ty x)
    (g : Nat) (hx : a.eval x = .pointer (some ⟨g, 0, none⟩)) (t : TypeId) (cs : Array Value) (fr : Nat × Nat) (d : TypeDesc) (hg : w.heap[g]? = some (.cells cs t fr))
    (hu : P.underlying ty = some d) (hd : (match d with | .struct _ | .array _ _ => true | _ => false) = true) (hi : (P.info? ty).map (·.size) = some cs.size)
    (h : wpList P ops Q rest (a.put o.dst (.agg cs)) w) : wpList P ops Q (o :: rest) a w := by
  unfold wpList
  rw [if_pos hw]
  refine .inl ?_
  unfold Oper.wp
  rw [exec_load_row ty x ho g hx t cs fr d hg hu hd hi]
  exact h
end

set_option maxHeartbeats 400000 in
theorem hasCellA_any (n m : Nat) (ls : List UInt8) (cell : Int) (w : World) (hl : ls.length = 25) (hn : n ≤ 5) (hm : m ≤ 5) :
    Calls Try.prog 104 #[.agg (gcells n m ls), .int .i64 cell] w fun e w' => e = .returned (.bool (decide (0 ≤ cell ∧ cell < ((n * m : Nat) : Int)))) ∧ Below w.heap.size w w' := by
  have HS := hid (size_any n m ls (w.alloc (.cells (gcells n m ls) 60)) hn hm)
  have HG := hid (show (Try.prog.info? 60).map (·.size) = some (gcells n m ls).size by rw [gcells_size hl]; exact Try.size_grid)
  obtain ⟨Ni, hNi⟩ : ∃ Ni : Int, ((n * m : Nat) : Int) = Ni := ⟨_, rfl⟩
  rw [hNi] at HS ⊢
  clear hNi
  by_cases h0 : 0 ≤ cell
  · have e0 : decide (0 ≤ cell) = true := by simpa using h0
    go_enter Try.func104, Try.ntmps104
    go_wp2_with (refine wpList_load_row_gA (by rfl) 60 _ rfl w.heap.size rfl 60 (gcells n m ls) (0, 0) _ (heap_new0 w _) Try.underlying60 rfl HG.out ?_)
    refine HS.out.mono ?_
    rintro e w2 ⟨rfl, hb⟩
    have HB := hid hb
    clear hb
    go_wp2_with fail
    go_ret
    refine ⟨?_, ((Below.refl _ w).alloc (Nat.le_refl _) _).trans (HB.out.mono (by simp))⟩
    simp [h0]
  · have e0 : decide (0 ≤ cell) = false := by simpa using h0
    have h0' : ¬ (0 ≤ cell) := h0
    go_enter Try.func104, Try.ntmps104
    go_wp2_with fail
    go_ret
    refine ⟨?_, (Below.refl _ w).alloc (Nat.le_refl _) _⟩
    simp

/-- A grid, and a number of one of its cells. -/
def CellIn (ss : List ByteArray) (cell : Int) (n m c : Nat) : Prop := IsGrid n m ss ∧ cell = (c : Int) ∧ c < n * m
/-- What a question on a cell comes to, where the answer is an integer and a bool. -/
def CellOut (R : Nat → Nat → (Int → Int → UInt8) → Nat → Int × Bool) (ss : List ByteArray) (cell : Int) (x : Int) (ok : Bool) : Prop :=
  (∃ n m c, CellIn ss cell n m c ∧ (x, ok) = R n m (lett m (pad (flat ss))) c) ∨ ((∀ n m c, ¬ CellIn ss cell n m c) ∧ x = 0 ∧ ok = false)
theorem CellOut.uniq {R : Nat → Nat → (Int → Int → UInt8) → Nat → Int × Bool} {ss : List ByteArray} {cell x x' : Int} {ok ok' : Bool} (h : CellOut R ss cell x ok) (h' : CellOut R ss cell x' ok') : x' = x ∧ ok' = ok := by
  rcases h with ⟨n, m, c, h1, h2⟩ | ⟨h1, rfl, rfl⟩ <;> rcases h' with ⟨n', m', c', h1', h2'⟩ | ⟨h1', rfl, rfl⟩
  · obtain ⟨rfl, rfl⟩ := h1.1.uniq h1'.1
    obtain rfl : c = c' := by have := h1.2.1.symm.trans h1'.2.1; omega
    have := h2'.trans h2.symm
    cases this
    exact ⟨rfl, rfl⟩
  · exact absurd h1 (h1' _ _ _)
  · exact absurd h1' (h1 _ _ _)
  · exact ⟨rfl, rfl⟩
def atR (n m : Nat) (t : Int → Int → UInt8) (c : Nat) : Int × Bool := (((atN n m t c : Nat) : Int), true)

set_option maxRecDepth 100000 in
set_option maxHeartbeats 2000000 in
theorem specRoundAt_any (A : Option Addr) (c B : Nat) (ss : List ByteArray) (cell : Int) (w : World) (h : Strs w B A ss) (hB : B ≤ w.heap.size) (hn : ss.length ≤ 1048576) (hs : ∀ s ∈ ss, s.size ≤ 1048576) :
    Calls Try.prog 76 #[.slice A ss.length c, .int .i64 cell] w fun e w' => Below w.heap.size w w' ∧ ∃ x ok, e = .returned (.tuple #[.int .i64 x, .bool ok]) ∧ CellOut atR ss cell x ok := by
  have HI := hid (specGridIn_any A c B ss w h hn hs)
  have HD := hid h
  clear h hs
  go_enter Try.func76, Try.ntmps76
  go_wp2_with fail
  refine HI.out.mono ?_
  rintro e w' ⟨ok, rfl, hok, d, rfl⟩
  have HO := hid hok
  clear hok
  have HBd := hid (below_drewN' (Below.refl w.heap.size w) d)
  cases ok with
  | false =>
    go_wp2_with fail
    refine bodyPost_ret (results_tmp2 rfl _ _ _) rfl ?_
    exact ⟨HBd.out, 0, false, rfl, .inr ⟨fun n m c hc => noGrid_of HO.out _ _ hc.1, rfl, rfl⟩⟩
  | true =>
    obtain ⟨n, m, hg⟩ := HO.out.1 rfl
    have c1 := hid (l3Marks_any A c B n m ss (w.drewN d) (HD.out.drewN d) hB hg)
    obtain ⟨b, off, s0, rfl, hb, hk0, hc0⟩ := HD.out.at_ (k := 0) (by have := hg.1; have := hg.2.1; omega)
    rw [Nat.add_zero] at hc0
    have hm0 : s0.size = m := (hg.2.2.2.2.2 s0 (List.mem_of_getElem? hk0)).1
    have hmi : ((s0.size : Nat) : Int) = (m : Int) := by rw [hm0]
    have hl0 : (0 : Int) < (ss.length : Int) := by have := hg.1; have := hg.2.1; omega
    have hle := hg.le25
    obtain ⟨N, hN⟩ : ∃ N, n * m = N := ⟨_, rfl⟩
    have hNi : (ss.length : Int) * (m : Int) = (N : Int) := by rw [hg.1, ← Int.natCast_mul, hN]
    rw [hN] at hle
    have HN := hid hN
    have HG := hid hg
    have g3 := hid (l6In_any cell 0 ((N : Int) - 1))
    clear hg hk0 hm0 hN
    go_wp2_with fail
    refine (g3.out _).mono ?_
    rintro e w' ⟨rfl, rfl⟩
    by_cases hin : 0 ≤ cell ∧ cell ≤ (N : Int) - 1
    · rw [show decide (0 ≤ cell ∧ cell ≤ (N : Int) - 1) = true by simpa using hin]
      obtain ⟨cc, rfl⟩ : ∃ cc : Nat, cell = cc := ⟨cell.toNat, by omega⟩
      have HCC := hid (show cc < n * m by rw [HN.out]; have := hin.2; omega)
      clear hin
      go_wp2_with fail
      refine c1.out.mono ?_
      rintro e w1 ⟨g, _, rfl, hma, hb1⟩
      have hat := hid (l3At_any g (4 * (n * m)) n m cc (lett m (pad (flat ss))) w1 rfl (by have := HN.out; omega) HCC.out hma)
      have HB1 := hid (HBd.out.trans hb1)
      clear hb1 hma
      go_wp2_with fail
      refine hat.out.mono ?_
      rintro e w' ⟨rfl, rfl⟩
      go_wp2_with fail
      refine bodyPost_ret (results_tmp2 rfl _ _ _) rfl ?_
      exact ⟨HB1.out, _, true, rfl, .inl ⟨n, m, cc, ⟨HG.out, rfl, HCC.out⟩, rfl⟩⟩
    · rw [show decide (0 ≤ cell ∧ cell ≤ (N : Int) - 1) = false by simpa using hin]
      have HNo := hid (show ∀ n' m' c', ¬ CellIn ss cell n' m' c' from fun n' m' c' hc => by
        obtain ⟨rfl, rfl⟩ := HG.out.uniq hc.1
        have h2 := hc.2.2
        have h3 := hc.2.1
        rw [HN.out] at h2
        exact hin ⟨by omega, by omega⟩)
      clear hin
      go_wp2_with fail
      refine bodyPost_ret (results_tmp2 rfl _ _ _) rfl ?_
      exact ⟨HBd.out, 0, false, rfl, .inr ⟨HNo.out, rfl, rfl⟩⟩

/-- What the operations of the program's question hand back. -/
def atImplRel (gc : Array Value) (n m N c k : Nat) (t : Int → Int → UInt8) (i : Nat) (v : Value) (W : World) : Prop :=
  match i with
  | 0 => v = .agg gc
  | 1 => ∃ g, v = .agg (chartC gc g N) ∧ StepsM W g n m t (fun _ => True) N
  | 2 => v = .agg gc
  | 3 => v = .int .i64 (c : Int)
  | 4 => v = .agg #[.int .i64 ((c / m : Nat) : Int), .int .i64 ((c % m : Nat) : Int)]
  | 5 => v = .int .i64 (k : Int)
  | 6 => v = .int .i64 (k : Int)
  | 7 => v = .bool true
  | _ => True

set_option maxRecDepth 100000 in
set_option maxHeartbeats 2000000 in
theorem implRoundAt_any (A : Option Addr) (c : Nat) (ss : List ByteArray) (cell : Int) (w : World) (h : Strs w w.heap.size A ss) (hn : ss.length ≤ 1048576) (hs : ∀ s ∈ ss, s.size ≤ 1048576) :
    Calls Try.prog 77 #[.slice A ss.length c, .int .i64 cell] w fun e w' => Below w.heap.size w w' ∧ ∃ x ok, e = .returned (.tuple #[.int .i64 x, .bool ok]) ∧ CellOut atR ss cell x ok := by
  have HR := hid (readGrid_any A c ss w h hn hs)
  clear h hs
  go_enter Try.func77, Try.ntmps77
  go_wp2_with fail
  refine HR.out.mono ?_
  rintro e w1 ⟨hbel, ⟨n, m, hg, rfl⟩ | ⟨hno, rfl⟩⟩
  · have HB := hid hbel
    have HGr := hid hg
    have HS := hid (show (Try.prog.info? 60).map (·.size) = some (gcells n m (pad (flat ss))).size by rw [hg.csize]; exact Try.size_grid)
    have HZ := hid (show zeroG.size = (gcells n m (pad (flat ss))).size by rw [hg.csize]; rfl)
    have HL := hid (setRow_heap (w1.alloc (.cells zeroG 60)) w1.heap.size zeroG (gcells n m (pad (flat ss))) 60 (0, 0) (heap_new0 w1 _))
    have HW := hid (HB.out.trans (below_setRow' ((Below.refl _ w1).alloc HB.out.size (.cells zeroG 60)) HB.out.size (gcells n m (pad (flat ss)))))
    have hn5 := hg.2.2.1
    have hm1 := hg.2.2.2.1
    have hm5 := hg.2.2.2.2.1
    have h25 := hg.le25
    have hpl := hg.plen
    have HHC := hid (fun w' => hasCellA_any n m (pad (flat ss)) cell w' hpl hn5 hm5)
    have HNC := hid (show ∀ c k w', Calls Try.prog 117 #[.agg (gcells n m (pad (flat ss)))] w' fun e w'' => ∃ v, e = .returned v ∧ atImplRel (gcells n m (pad (flat ss))) n m (4 * (n * m)) c k (lett m (pad (flat ss))) 1 v w'' ∧ Below w'.heap.size w' w'' from fun c k w' => (newChart_any n m (4 * (n * m)) (n * m) (pad (flat ss)) w' hpl hn5 hm1 hm5 rfl rfl).mono fun e w'' ⟨g, _, he, hst, hb⟩ => ⟨_, he, ⟨g, rfl, hst⟩, hb⟩)
    have HPL := hid (show ∀ c k w', c < n * m → Calls Try.prog 107 #[.agg (gcells n m (pad (flat ss))), .int .i64 (c : Int)] w' fun e w'' => ∃ v, e = .returned v ∧ atImplRel (gcells n m (pad (flat ss))) n m (4 * (n * m)) c k (lett m (pad (flat ss))) 4 v w'' ∧ Below w'.heap.size w' w'' from fun c k w' hc => (place_any n m c (pad (flat ss)) w' hm1 hm5 (Nat.lt_of_lt_of_le hc h25)).mono fun e w'' ⟨he, hb⟩ => ⟨_, he, rfl, hb⟩)
    have HRA := hid (show ∀ g c k w', c < n * m → atN n m (lett m (pad (flat ss))) c = k → StepsM w' g n m (lett m (pad (flat ss))) (fun _ => True) (4 * (n * m)) → Calls Try.prog 133 #[.agg (chartC (gcells n m (pad (flat ss))) g (4 * (n * m))), .agg #[.int .i64 ((c / m : Nat) : Int), .int .i64 ((c % m : Nat) : Int)]] w' fun e w'' => ∃ v, e = .returned v ∧ atImplRel (gcells n m (pad (flat ss))) n m (4 * (n * m)) c k (lett m (pad (flat ss))) 5 v w'' ∧ Below w'.heap.size w' w'' from fun g c k w' hc hk hst => (roundsAt_any n m g (4 * (n * m)) c (pad (flat ss)) w' hpl hn5 hm5 rfl hc hst).mono fun e w'' ⟨he, hb⟩ => ⟨_, he, by rw [← hk]; exact rfl, hb⟩)
    have HO := hid (gcells_one n m (pad (flat ss)))
    clear hbel hg hpl hn5 hm1 hm5
    generalize gcells n m (pad (flat ss)) = gc at *
    generalize hN : 4 * (n * m) = N at *
    generalize hlet : lett m (pad (flat ss)) = t at *
    have HT := hid hlet
    clear hN hlet
    go_wp2_with (first
      | refine wpList_store_row rfl 60 _ _ rfl w1.heap.size gc rfl rfl 60 zeroG (heap_new0 w1 _) HS.out HZ.out HO.out ?_
      | refine wpList_load_row_gA (by rfl) 60 _ rfl w1.heap.size rfl 60 gc (0, 0) _ HL.out Try.underlying60 rfl HS.out ?_)
    generalize (w1.alloc (.cells zeroG 60)).setRow w1.heap.size gc = w2 at *
    refine (HHC.out w2).mono ?_
    rintro e w3 ⟨rfl, hb3⟩
    have HB3 := hid (HW.out.trans (hb3.mono HW.out.size))
    have HL3 := hid ((hb3.block _ (lt_of_block HL.out)).trans HL.out)
    clear hb3
    by_cases hin : 0 ≤ cell ∧ cell < ((n * m : Nat) : Int)
    · rw [show decide (0 ≤ cell ∧ cell < ((n * m : Nat) : Int)) = true by simpa using hin]
      obtain ⟨cc, rfl⟩ : ∃ cc : Nat, cell = cc := ⟨cell.toNat, by omega⟩
      have hcc : cc < n * m := by have := hin.2; omega
      obtain ⟨k, hk⟩ : ∃ k, atN n m t cc = k := ⟨_, rfl⟩
      have HCC := hid hcc
      have HK := hid hk
      clear hin hcc hk
      go_wp2_with fail
      refine wp_region_rel (by kernel_rfl) (by kernel_rfl) 8 rfl (fun us => { tmps := #[.slice A ss.length c, .int .i64 (cc : Int), undef, undef, us 6, us 7, .pointer (some ⟨w1.heap.size, 0, none⟩), .bool true, .tuple #[.agg gc, .bool true], .slice A ss.length c, .tuple #[.agg gc, .bool true], .agg gc, .bool true, .bool true, .bool false, .bool false, .agg gc, .int .i64 (cc : Int), .bool true, .bool false, .bool false, us 0, us 1, us 2, us 3, us 4, us 5], defers := [] }) (fun k => if k = 6 then .int .i64 0 else if k = 7 then .bool false else undef) rfl (atImplRel gc n m N cc k t) (fun i v W W' h hb => ?_) (fun i us v hi => ?_) (fun i us W hi hb hd => ?_) (fun us W hb hr => ?_)
      · unfold atImplRel at h ⊢
        split at h <;> try exact h
        obtain ⟨g, h1, h2⟩ := h
        exact ⟨g, h1, h2.below hb⟩
      · match i, hi with
        | 0, _ => rfl
        | 1, _ => rfl
        | 2, _ => rfl
        | 3, _ => rfl
        | 4, _ => rfl
        | 5, _ => rfl
        | 6, _ => rfl
        | 7, _ => rfl
      · have HLW := hid ((hb.block _ (lt_of_block HL3.out)).trans HL3.out)
        match i, hi with
        | 0, _ => exact wpOp_val rfl rfl (exec_load_row 60 _ rfl w1.heap.size rfl 60 gc (0, 0) _ HLW.out Try.underlying60 rfl HS.out) rfl
        | 1, _ =>
          have h0 : us 0 = _ := hd _ rfl { on := 0, ground := .data } (by simp) rfl
          rw [h0]
          exact wpOp_call rfl rfl (by go_simp) (HNC.out cc k W)
        | 2, _ => exact wpOp_val rfl rfl (exec_load_row 60 _ rfl w1.heap.size rfl 60 gc (0, 0) _ HLW.out Try.underlying60 rfl HS.out) rfl
        | 3, _ => exact wpOp_val rfl rfl (by go_simp) rfl
        | 4, _ =>
          have h0 : us 2 = _ := hd _ rfl { on := 2, ground := .data } (by simp) rfl
          have h1 : us 3 = _ := hd _ rfl { on := 3, ground := .data } (by simp) rfl
          rw [h0, h1]
          exact wpOp_call rfl rfl (by go_simp) (HPL.out cc k W HCC.out)
        | 5, _ =>
          obtain ⟨g, h0, hst⟩ : ∃ g, us 1 = .agg (chartC gc g N) ∧ StepsM W g n m t (fun _ => True) N := hd _ rfl { on := 1, ground := .data } (by simp) rfl
          have h1 : us 4 = _ := hd _ rfl { on := 4, ground := .data } (by simp) rfl
          rw [h0, h1]
          exact wpOp_call rfl rfl (by go_simp) (HRA.out g cc k W HCC.out HK.out hst)
        | 6, _ =>
          have h0 : us 5 = _ := hd _ rfl { on := 5, ground := .data } (by simp) rfl
          rw [h0]
          exact wpOp_val rfl rfl (by go_simp) rfl
        | 7, _ => exact wpOp_val rfl rfl (by go_simp) rfl
      · have h0 : us 6 = _ := hr 6 (by omega)
        have h1 : us 7 = _ := hr 7 (by omega)
        rw [h0, h1]
        have HB4 := hid (HB3.out.trans (hb.mono HB3.out.size))
        clear hr hb
        go_wp2_with fail
        refine bodyPost_ret (results_tmp2 rfl _ _ _) rfl ?_
        exact ⟨HB4.out, _, true, rfl, .inl ⟨n, m, cc, ⟨HGr.out, rfl, HCC.out⟩, by unfold atR; rw [HT.out, HK.out]⟩⟩
    · rw [show decide (0 ≤ cell ∧ cell < ((n * m : Nat) : Int)) = false by simpa using hin]
      have HNo := hid (show ∀ n' m' c', ¬ CellIn ss cell n' m' c' from fun n' m' c' hc => by
        obtain ⟨rfl, rfl⟩ := HGr.out.uniq hc.1
        have h2 := hc.2.2
        have h3 := hc.2.1
        exact hin ⟨by omega, by omega⟩)
      clear hin
      go_wp2_with fail
      refine bodyPost_ret (results_tmp2 rfl _ _ _) rfl ?_
      exact ⟨HB3.out, 0, false, rfl, .inr ⟨HNo.out, rfl, rfl⟩⟩
  · have HB := hid hbel
    have HGr := hid hno
    clear hbel hno
    go_wp2_with (refine wpList_store_row rfl 60 _ _ rfl w1.heap.size zeroG rfl rfl 60 zeroG (heap_new0 w1 _) Try.size_grid rfl (gcells_one 0 0 (pad [])) ?_)
    refine bodyPost_ret (results_tmp2 rfl _ _ _) rfl ?_
    exact ⟨HB.out.trans (below_setRow' ((Below.refl _ w1).alloc HB.out.size _) HB.out.size _), 0, false, rfl, .inr ⟨fun n m c hc => HGr.out _ _ hc.1, rfl, rfl⟩⟩

end Go.Proofs.Ytcomaodpnhoeaaa
