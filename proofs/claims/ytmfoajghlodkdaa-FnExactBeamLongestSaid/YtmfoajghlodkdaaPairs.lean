/- BeamPairs of the specification and of the program, by their contracts. -/
import Derived.Test.YtmfoajghlodkdaaHeldI
namespace Go.Proofs.Ytmfoajghlodkdaa
open Go.RowKit Go.Shelf

def pairsR (n m : Nat) (t : Int → Int → UInt8) : List Int := (List.range (2 * (n + m))).map fun p => ((bend_ n m t p : Nat) : Int)
theorem pairsR_length (n m : Nat) (t : Int → Int → UInt8) : (pairsR n m t).length = 2 * (n + m) := by simp [pairsR]
theorem pairsR_at {n m p : Nat} {t : Int → Int → UInt8} (h : p < 2 * (n + m)) : (pairsR n m t)[p]? = some ((bend_ n m t p : Nat) : Int) := by simp [pairsR, h]
/-- What BeamPairs comes to. -/
def PairsOut (ss : List ByteArray) (l : List Int) (ok : Bool) : Prop :=
  (∃ n m, IsGrid n m ss ∧ l = pairsR n m (lett m (pad (flat ss))) ∧ ok = true) ∨ (NoGrid ss ∧ l = [] ∧ ok = false)
theorem PairsOut.uniq {ss : List ByteArray} {l l' : List Int} {ok ok' : Bool} (h : PairsOut ss l ok) (h' : PairsOut ss l' ok') : ok' = ok ∧ l' = l := by
  rcases h with ⟨n, m, h1, rfl, rfl⟩ | ⟨h1, rfl, rfl⟩ <;> rcases h' with ⟨n', m', h1', rfl, rfl⟩ | ⟨h1', rfl, rfl⟩
  · obtain ⟨rfl, rfl⟩ := h1.uniq h1'
    exact ⟨rfl, rfl⟩
  · exact absurd h1 (h1' _ _)
  · exact absurd h1' (h1 _ _)
  · exact ⟨rfl, rfl⟩
theorem PairsOut.len {ss : List ByteArray} {l : List Int} {ok : Bool} (h : PairsOut ss l ok) : l.length ≤ 1048576 := by
  rcases h with ⟨n, m, h1, rfl, _⟩ | ⟨_, rfl, _⟩
  · have h2 := h1.2.2.1
    have h3 := h1.2.2.2.2.1
    rw [pairsR_length]; omega
  · simp
theorem GrowI.below' {w w' : World} {base : Nat} {v : Value} {l : List Int} (h : GrowI w base v l) (hb : Below w.heap.size w w') : GrowI w' base v l := by
  refine World.ownsRow.kept h (Cls.grown hb) ?_
  cases v.ownBlock with
  | none => exact .inl rfl
  | some k => exact .inr (fun e => by cases e)

def PrRel (l : List Int) (w : World) (v i : Value) (wr : World) : Prop :=
  ∃ k : Nat, k ≤ l.length ∧ i = .int .i64 k ∧ GrowI wr w.heap.size v (l.take k) ∧ Below w.heap.size w wr

set_option maxRecDepth 100000 in
set_option maxHeartbeats 2000000 in
theorem l2Pairs_any (A : Option Addr) (c B n m : Nat) (ss : List ByteArray) (w : World) (h : Strs w B A ss) (hB : B ≤ w.heap.size) (hg : IsGrid n m ss) :
    Calls Try.prog 124 #[.slice A ss.length c] w fun e w' => ∃ v, e = .returned v ∧ GrowI w' w.heap.size v (pairsR n m (lett m (pad (flat ss)))) ∧ Below w.heap.size w w' := by
  have hn1 := hg.2.1
  have hn5 := hg.2.2.1
  have hm5 := hg.2.2.2.2.1
  have hnl := hg.1
  obtain ⟨b, off, s0, rfl, hb, hk0, hc0'⟩ := h.at_ (k := 0) (by omega)
  have hs0 : s0.size = m := (hg.2.2.2.2.2 s0 (List.mem_of_getElem? hk0)).1
  have hs0i : ((s0.size : Nat) : Int) = (m : Int) := by rw [hs0]
  have hl0 : (0 : Int) < (ss.length : Int) := by omega
  have HP := hid (fun w => l2Ports_any n m w hn5 hm5)
  have HW := hid (fun q w' (hst : Strs w' B (some ⟨b, off, none⟩) ss) hB' hq => l2Way_port (some ⟨b, off, none⟩) c B n m q ss w' hst hB' hg hq)
  have HPL := hid (pairsR_length n m (lett m (pad (flat ss))))
  have HPA := hid (fun p hp => pairsR_at (n := n) (m := m) (p := p) (t := lett m (pad (flat ss))) hp)
  have HH := hid h
  have HBB := hid hB
  have HKs := hid hk0
  have HNL := hid hnl
  clear hs0 hk0 h hB hg hc0'
  generalize pairsR n m (lett m (pad (flat ss))) = l at HPL HPA ⊢
  rw [HNL.out] at hl0 HW ⊢
  clear hnl
  go_enter Try.func124, Try.ntmps124
  go_wp2
  go_loopw [3, 4] (PrRel l w) (fun _ i _ => l.length - (intOf i).toNat)
  case atStart => exact ⟨0, Nat.zero_le _, rfl, growI_new w _ (Nat.le_refl _), (Below.refl _ w).alloc (Nat.le_refl _) _⟩
  case round =>
    obtain ⟨k, hk, rfl, hgr, hbel⟩ := hrel
    have HG := hid hgr
    have HB := hid hbel
    have hst := hid (HH.out.below hbel HBB.out)
    have hc0 := hst.out.cell_ HKs.out
    rw [Nat.add_zero] at hc0
    clear hgr hbel
    have hkN : k ≤ 2 * (n + m) := by rw [← HPL.out]; exact hk
    go_wp2_with fail
    refine (HP.out _).mono ?_
    rintro e w' ⟨rfl, rfl⟩
    by_cases hlt : k < 2 * (n + m)
    · have hli : (k : Int) < 2 * ((n : Int) + (m : Int)) := by omega
      have hway := hid (HW.out k wr hst.out (Nat.le_trans HBB.out HB.out.size) hlt)
      have htk : l.take (k + 1) = l.take k ++ [((bend_ n m (lett m (pad (flat ss))) k : Nat) : Int)] := by
        have hkl : k < l.length := by rw [HPL.out]; exact hlt
        have e := HPA.out k hlt
        rw [List.getElem?_eq_getElem hkl] at e
        rw [List.take_succ_eq_append_getElem hkl]
        rw [Option.some.inj e]
      generalize ((bend_ n m (lett m (pad (flat ss))) k : Nat) : Int) = bv at hway htk
      have HTK := hid htk
      clear htk hc0
      go_wp2_with fail
      refine hway.out.mono ?_
      rintro e w2 ⟨v, v', rfl, _, _, hb2⟩
      have HG2 := hid (HG.out.below' hb2)
      have HB2 := hid (HB.out.trans (hb2.mono HB.out.size))
      clear hb2
      go_wp2_with (at_builtin; refine wpList_appendI rfl _ _ rfl w.heap.size u3 (l.take k) rfl (World.ownsRow.alloc HG2.out _) w2.heap.size 1 rfl bv (cell_newI w2 _) ?c3 (Nat.le_trans HB2.out.size (by simp)) ?_)
      case c3 => rw [List.length_take, HPL.out]; omega
      intro v3 w3 hgr3 hgw3 _
      have HG3 := hid hgr3
      have HB3 := hid ((HB2.out.alloc HB2.out.size _).grown hgw3 (Nat.le_trans HB2.out.size (by simp)) (fun k e => (World.ownsRow.lt HG2.out k e).1))
      clear hgr3 hgw3
      go_wp2_with fail
      go_roundw
      case rel => exact ⟨k + 1, by rw [HPL.out]; omega, by go_num, by rw [HTK.out]; exact HG3.out, HB3.out⟩
      case measure => simp [intOf]; have := HPL.out; omega
    · have hli : ¬ (k : Int) < 2 * ((n : Int) + (m : Int)) := by omega
      have hkl : k = l.length := by rw [HPL.out]; omega
      have HG' := hid (show GrowI wr w.heap.size u3 l by have := HG.out; rwa [hkl, List.take_length] at this)
      clear hkl
      go_wp2_with fail
      go_ret
      exact ⟨_, rfl, HG'.out, HB.out⟩

set_option maxRecDepth 100000 in
set_option maxHeartbeats 1000000 in
theorem specBeamPairs_any (A : Option Addr) (c B : Nat) (ss : List ByteArray) (w : World) (h : Strs w B A ss) (hB : B ≤ w.heap.size) (hn : ss.length ≤ 1048576) (hs : ∀ s ∈ ss, s.size ≤ 1048576) :
    Calls Try.prog 68 #[.slice A ss.length c] w fun e w' => Below w.heap.size w w' ∧ ∃ A c l ok, e = .returned (.tuple #[.slice A l.length c, .bool ok]) ∧ PairsOut ss l ok ∧ Ints w' w'.heap.size A l := by
  have HI := hid (specGridIn_any A c B ss w h hn hs)
  have HD := hid h
  clear h hs
  go_enter Try.func68, Try.ntmps68
  go_wp2_with fail
  refine HI.out.mono ?_
  rintro e w' ⟨ok, rfl, hok, d, rfl⟩
  have HO := hid hok
  clear hok
  have HBd := hid (below_drewN' (Below.refl w.heap.size w) d)
  cases ok with
  | false =>
    go_wp2_with fail
    refine bodyPost_ret (results_tmp2 rfl _ _ _) rfl ?_
    exact ⟨HBd.out.alloc (by simp) _, _, _, [], false, rfl, .inr ⟨noGrid_of HO.out, rfl, rfl⟩, fun h => absurd h (by simp)⟩
  | true =>
    obtain ⟨n, m, hg⟩ := HO.out.1 rfl
    have c1 := hid (l2Pairs_any A c B n m ss (w.drewN d) (HD.out.drewN d) hB hg)
    have HG := hid hg
    clear hg
    go_wp2_with fail
    refine c1.out.mono ?_
    rintro e w1 ⟨v, rfl, hgr, hb1⟩
    obtain ⟨A1, cc, rfl, hint⟩ := hgr.ints
    have HB1 := hid (HBd.out.trans hb1)
    have HIn := hid hint
    clear hb1 hgr hint
    go_wp2_with fail
    refine bodyPost_ret (results_tmp2 rfl _ _ _) rfl ?_
    exact ⟨HB1.out, A1, cc, _, true, rfl, .inl ⟨n, m, HG.out, rfl, rfl⟩, HIn.out⟩

def PiRel (l : List Int) (N R g : Nat) (cs : Array Value) (w : World) (i : Value) (wr : World) : Prop :=
  ∃ k : Nat, k ≤ N ∧ i = .int .i64 k ∧ wr.heap[g]? = some (.cells cs 56 (0, 0)) ∧ Below w.heap.size w wr ∧
    ∃ rs : Array Value, wr.heap[R]? = some (.cells rs 3 (0, 0)) ∧ rs.size = N ∧ (∀ j x, j < k → l[j]? = some x → rs[j]? = some (.int .i64 x)) ∧ ∀ j, j < N → ∃ u : Int, rs[j]? = some (.int .i64 u)

set_option maxRecDepth 100000 in
set_option maxHeartbeats 2000000 in
theorem implBeamPairs_any (A : Option Addr) (c : Nat) (ss : List ByteArray) (w : World) (h : Strs w w.heap.size A ss) (hn : ss.length ≤ 1048576) (hs : ∀ s ∈ ss, s.size ≤ 1048576) :
    Calls Try.prog 69 #[.slice A ss.length c] w fun e w' => Below w.heap.size w w' ∧ ∃ A c l ok, e = .returned (.tuple #[.slice A l.length c, .bool ok]) ∧ PairsOut ss l ok ∧ Own3 w' w.heap.size A l := by
  have HR := hid (readGrid_any A c ss w h hn hs)
  clear h hs
  go_enter Try.func69, Try.ntmps69
  go_wp2_with fail
  refine HR.out.mono ?_
  rintro e w1 ⟨hbel, ⟨n, m, hg, rfl⟩ | ⟨hno, rfl⟩⟩
  · have HB := hid hbel
    have hn5 := hg.2.2.1
    have hm5 := hg.2.2.2.2.1
    have HGr := hid hg
    have HGC := hid (show (gcells n m (pad (flat ss))).size = 27 from hg.csize)
    have HONE := hid (gcells_one n m (pad (flat ss)))
    have HPO := hid (fun w => ports_any n m (pad (flat ss)) w hn5 hm5)
    have HPA := hid (fun q w' hq => partner_any n m q (pad (flat ss)) w' hg.plen hg.2.1 hg.2.2.1 hg.2.2.2.1 hg.2.2.2.2.1 hq)
    have hmk := run_make_row' (P := Try.prog) 43 3 (.int .i64 0) 8 Try.underlying43 Try.info_int rfl .i64 .i64 (2 * (n + m)) (by omega) (by omega)
    have HPR := hid (pairsR_length n m (lett m (pad (flat ss))))
    have HPX := hid (fun p hp => pairsR_at (n := n) (m := m) (p := p) (t := lett m (pad (flat ss))) hp)
    have HPG := hid (show pairsR n m (lett m (pad (flat ss))) = pairsR n m (lett m (pad (flat ss))) from rfl)
    generalize hN : 2 * (n + m) = N at HPO HPA hmk HPR HPX
    have hN20 : N ≤ 20 := by omega
    clear hbel hg hN
    generalize gcells n m (pad (flat ss)) = cs at *
    generalize hl : pairsR n m (lett m (pad (flat ss))) = l at HPR HPX HPG
    have HL' := hid hl
    clear hl HPG
    have HS := hid (show (Try.prog.info? 56).map (·.size) = some cs.size by rw [HGC.out]; exact Try.size_grid)
    have HZ := hid (show zeroG.size = cs.size by rw [HGC.out]; rfl)
    have HL := hid (setRow_heap (w1.alloc (.cells zeroG 56)) w1.heap.size zeroG cs 56 (0, 0) (heap_new0 w1 _))
    have HW := hid (HB.out.trans (below_setRow' ((Below.refl _ w1).alloc HB.out.size (.cells zeroG 56)) HB.out.size cs))
    have KW := hid (show w.heap.size ≤ w1.heap.size from HB.out.size)
    go_wp2_with (first
      | refine wpList_store_row rfl 56 _ _ rfl w1.heap.size cs rfl rfl 56 zeroG (heap_new0 w1 _) HS.out HZ.out HONE.out ?_
      | refine wpList_load_row rfl 56 _ rfl w1.heap.size rfl 56 cs (0, 0) _ HL.out Try.underlying56 rfl HS.out ?_)
    refine (HPO.out _).mono ?_
    rintro e w2 ⟨rfl, hb2⟩
    have HB2 := hid (HW.out.trans (hb2.mono HW.out.size))
    have HL2 := hid ((hb2.block _ (lt_of_block HL.out)).trans HL.out)
    clear hb2
    go_wp2_with fail
    go_loopw [20] (PiRel l N w2.heap.size w1.heap.size cs w) (fun i _ => N - (intOf i).toNat)
    case atStart =>
      refine ⟨0, Nat.zero_le _, rfl, (Below.heap_alloc _ _ _ (lt_of_block HL2.out)).trans HL2.out, HB2.out.alloc HB2.out.size _, _, heap_new0 w2 _, size_madeCells _ _, fun j x hj => absurd hj (by omega), fun j hj => ⟨0, by simp [madeCells, hj, Nat.mod_one]⟩⟩
    case round =>
      obtain ⟨k, hk, rfl, hgr, hbel, rs, hrs, hsz, hold, hany⟩ := hrel
      have G0 := hid hgr
      have GB := hid hbel
      have GR := hid hrs
      have GO := hid hold
      have GA := hid hany
      have GS := hid hsz
      clear hgr hbel hrs hold hany hsz
      by_cases hlt : k < N
      · have hki : (k : Int) < (N : Int) := by omega
        have hpa := hid (HPA.out k wr hlt)
        have hx := HPX.out k hlt
        generalize ((bend_ n m (lett m (pad (flat ss))) k : Nat) : Int) = bv at hpa hx
        have HX := hid hx
        clear hx
        go_wp2_with (refine wpList_load_row rfl 56 _ rfl w1.heap.size rfl 56 cs (0, 0) _ G0.out Try.underlying56 rfl HS.out ?_)
        refine hpa.out.mono ?_
        rintro e w3 ⟨rfl, hb3⟩
        have E0 := hid ((hb3.block _ (lt_of_block G0.out)).trans G0.out)
        have ER := hid ((hb3.block _ (lt_of_block GR.out)).trans GR.out)
        have EB := hid (GB.out.trans (hb3.mono GB.out.size))
        obtain ⟨u, hu⟩ := GA.out k hlt
        have hcell : w3.cell? ⟨w2.heap.size, k, none⟩ = some (.int .i64 u) := by rw [cell_of_row _ _ _ _ _ _ ER.out]; exact hu
        have hfr : w3.frozen? ⟨w2.heap.size, k, none⟩ = false := frozen_of_row _ _ _ _ _ ER.out
        clear hb3 hu
        go_wp2_with fail
        go_roundw
        case rel =>
          refine ⟨k + 1, by omega, by go_num, ?_, EB.out.setCell (p := ⟨w2.heap.size, k, none⟩) HB2.out.size _, _, heap_setCell_same _ _ _ _ _ _ ER.out, by simp [GS.out], fun j x hj hxj => ?_, fun j hj => ?_⟩
          · rw [Below.heap_setCell _ _ _ _ (by have := lt_of_block HL2.out; simp; omega)]; exact E0.out
          · by_cases hjk : j = k
            · subst hjk
              rw [HX.out] at hxj
              cases hxj
              rw [Array.getElem?_setIfInBounds_self_of_lt (by rw [GS.out]; exact hlt)]
            · rw [Array.getElem?_setIfInBounds_ne (fun e => hjk e.symm)]; exact GO.out j x (by omega) hxj
          · by_cases hjk : j = k
            · subst hjk
              exact ⟨bv, by rw [Array.getElem?_setIfInBounds_self_of_lt (by rw [GS.out]; exact hlt)]⟩
            · obtain ⟨u', hu'⟩ := GA.out j hj
              exact ⟨u', by rw [Array.getElem?_setIfInBounds_ne (fun e => hjk e.symm)]; exact hu'⟩
        case measure => simp [intOf]; omega
      · obtain rfl : k = N := by omega
        go_wp2_with fail
        refine bodyPost_ret (results_tmp2 rfl _ _ _) rfl ?_
        refine ⟨GB.out, some ⟨w2.heap.size, 0, none⟩, k, l, true, by rw [HPR.out]; rfl, .inl ⟨n, m, HGr.out, HL'.out.symm, rfl⟩, .inr ⟨w2.heap.size, rfl, HB2.out.size, rs, GR.out, fun j x hx => ?_⟩⟩
        exact GO.out j x (by have := (List.getElem?_eq_some_iff.1 hx).1; rw [HPR.out] at this; exact this) hx
  · have HB := hid hbel
    have HGr := hid hno
    clear hbel hno
    go_wp2_with (refine wpList_store_row rfl 56 _ _ rfl w1.heap.size zeroG rfl rfl 56 zeroG (heap_new0 w1 _) Try.size_grid rfl (gcells_one 0 0 (pad [])) ?_)
    refine bodyPost_ret (results_tmp2 rfl _ _ _) rfl ?_
    exact ⟨HB.out.trans (below_setRow' ((Below.refl _ w1).alloc HB.out.size _) HB.out.size _), none, 0, [], false, rfl, .inr ⟨HGr.out, rfl, rfl⟩, .inl ⟨rfl, rfl⟩⟩

end Go.Proofs.Ytmfoajghlodkdaa
