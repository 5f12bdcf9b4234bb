/- JoinClose of the specification, by its contract. -/
import Derived.Test.YtonhnmpgikmlpaaBunV
import Derived.Test.YtonhnmpgikmlpaaBunF
namespace Go.Proofs.Ytonhnmpgikmlpaa
open Go.RowKit Go.Shelf

/-- The value that tells to what a port is sewn. -/
def otherV (t : Nat → Nat) (i : Nat) : Int := if t i = i then (-1 : Int) else ((t i : Nat) : Int)
theorem othersL_at' {N i : Nat} {t : Nat → Nat} (h : i < N) : (othersL N t)[i]? = some (otherV t i) := othersL_at h
theorem Ints.cellB {w : World} {B : Nat} {A : Option Addr} {l : List Int} (h : Ints w B A l) (hB : B ≤ w.heap.size) (h0 : 0 < l.length) : ∃ b off, A = some ⟨b, off, none⟩ ∧ b < w.heap.size ∧ ∀ wr, Below w.heap.size w wr → ∀ (k : Nat) (x : Int), l[k]? = some x → wr.cell? ⟨b, off + k, none⟩ = some (.int .i64 x) := by
  obtain ⟨b, off, e, hb, hc⟩ := h h0
  exact ⟨b, off, e, by omega, fun wr hw k x hk => (hw.cell (p := ⟨b, off + k, none⟩) (by show b < w.heap.size; omega)).trans (hc k x hk)⟩
/-- Marks outlive the growth of a slice of integers. -/
theorem MarksAt.grown {W W' : World} {g N base : Nat} {M : Nat → Prop} {v : Value} {l : List Int} (h : MarksAt W g N M) (hrow : GrowI W base v l) (hg : W.grownBy W' v.ownBlock) : MarksAt W' g N M := by
  obtain ⟨cs, h1, h2⟩ := h
  exact ⟨cs, grownI_heap hrow hg h1 (by decide), h2⟩

theorem cell_far2 {w : World} {g h i j k : Nat} {u v x : Value} (hn : h ≠ g) (hx : w.cell? ⟨h, k, none⟩ = some x) : ((w.setCell ⟨g, i, none⟩ u).setCell ⟨g, j, none⟩ v).cell? ⟨h, k, none⟩ = some x := by
  rw [World.cell?_setCell_other (h := fun e => hn (congrArg Addr.block e).symm), World.cell?_setCell_other (h := fun e => hn (congrArg Addr.block e).symm)]
  exact hx

set_option maxRecDepth 100000 in
set_option maxHeartbeats 8000000 in
theorem specJoinClose_any (n m : Int) (A : Option Addr) (c B : Nat) (l : List Int) (w : World) (h : Ints w B A l) (hB : B ≤ w.heap.size) (hn : l.length ≤ 1048576) :
    Calls Try.prog 35 #[.int .i64 n, .int .i64 m, .slice A l.length c] w fun e w' => Below w.heap.size w w' ∧ ∃ res ok, e = .returned (.tuple #[.int .i64 res, .bool ok]) ∧ IOut (PairOf n m l) (closeV n.toNat m.toNat l) res ok := by
  have H := hid (l6jOf_any n m A c B l w h hn)
  by_cases hp : PairOf n m l
  · have ha := hp.1
    have hb := hp.2.1
    have hll := hp.2.2.2
    obtain ⟨a, rfl⟩ : ∃ a : Nat, n = (a : Int) := ⟨n.toNat, by omega⟩
    obtain ⟨b, rfl⟩ : ∃ b : Nat, m = (b : Int) := ⟨m.toNat, by omega⟩
    have HD := hid hp
    rw [pairOfB_true hp] at H
    have hip := hp.2.2.1
    obtain ⟨pb, po, rfl, hpb, hpc⟩ := Ints.cellB h hB (by have := hip.1; omega)
    have HPB := hid hpb
    have HX := hid (show ∀ q, q < l.length → l[q]? = some ((mateN l q : Nat) : Int) from fun q hq => (hip.mates hq).2.2.1)
    have HPC := hid hpc
    have HSW := hid (oneS_sewn (n := a) (m := b) (p := l.length) (a := mateN l) (fun i hi => ⟨(hip.mates hi).1, (hip.mates hi).2.1, (hip.mates hi).2.2.2⟩) (by omega))
    have HFR := hid (show closeV (a : Int).toNat (b : Int).toNat l = ((roundsTo l.length (mateN l) (sewT a b l.length) l.length : Nat) : Int) by rw [Int.toNat_natCast, Int.toNat_natCast]; rfl)
    have hN20 := hip.2.1
    have hN4 := hip.1
    obtain ⟨N, hN⟩ : ∃ N, l.length = N := ⟨_, rfl⟩
    have HNN := hid hN
    have HLEN := hid (show N = 2 * (a + b) by omega)
    rw [hN] at hN20 hN4 HX HSW HFR H ⊢
    have HZT := hid (sewT_zero b N)
    have HOS := hid (fun k (hk : k < a) => othersL_sew (N := N) (m := b) (k := k) (by omega))
    have HON := hid (othersL_none N)
    obtain ⟨T, hT⟩ : ∃ T, (fun k => sewT k b N) = T := ⟨_, rfl⟩
    have HT := hid (fun k => congrFun hT k)
    have ha5 : (a : Int) ≤ 5 := ha.2
    have hb5 : (b : Int) ≤ 5 := hb.2
    have ha1 : 1 ≤ (a : Int) := ha.1
    have hb1 : 1 ≤ (b : Int) := hb.1
    have hNi20 : (N : Int) ≤ 20 := by omega
    have hNi4 : 4 ≤ (N : Int) := by omega
    have hmkb := run_make_row' (P := Try.prog) 86 4 (.bool false) 1 Try.underlying86 Try.info_bool rfl .i64 .i64 N (by omega) (by omega)
    have HMKB := hid hmkb
    generalize mateN l = s at *
    clear h hB hn hp hip hpb hpc ha hb hll hN hmkb hT
    go_enter Try.func35, Try.ntmps35
    go_wp2_with fail
    refine H.out.mono ?_
    rintro e w1 ⟨rfl, d, rfl⟩
    have HG1 := hid (growI_new (w.drewN d) w.heap.size (Nat.le_refl _))
    have HB1 := hid ((below_drewN' (Below.refl w.heap.size w) d).alloc (show w.heap.size ≤ (w.drewN d).heap.size from Nat.le_refl _) (.cells #[] 3))
    go_wp2_with fail
    generalize World.alloc (w.drewN d) _ = Y at HG1 HB1 ⊢
    rw [show (w.drewN d).heap.size = w.heap.size from rfl] at HG1
    -- nothing is sewn
    go_loopw [9, 10] (fun (v i : Value) (wr : World) => ∃ k : Nat, k ≤ N ∧ i = .int .i64 k ∧ GrowI wr w.heap.size v (List.replicate k (-1)) ∧ Below w.heap.size w wr) (fun _ i _ => N - (intOf i).toNat)
    case atStart => exact ⟨0, by omega, rfl, HG1.out, HB1.out⟩
    case round =>
      obtain ⟨k, hk, rfl, hg, hb⟩ := hrel
      have HG := hid hg
      have HB := hid hb
      clear hg hb
      by_cases hlt : k < N
      · have hki : (k : Int) < (N : Int) := by omega
        have HS := hid (show List.replicate (k + 1) (-1 : Int) = List.replicate k (-1) ++ [-1] from List.replicate_succ')
        go_wp2_with (at_builtin; refine wpList_appendI rfl _ _ rfl w.heap.size u9 (List.replicate k (-1)) rfl (World.ownsRow.alloc HG.out _) _ 1 rfl (-1 : Int) (cell_newI _ _) ?c3 (Nat.le_trans HB.out.size (by simp)) ?_)
        case c3 => simp; omega
        intro v3 w3 hgr3 hgw3 _
        have HG3 := hid (hgr3)
        have HB3 := hid ((HB.out.alloc HB.out.size _).grown hgw3 (Nat.le_trans HB.out.size (by simp)) (fun k e => (World.ownsRow.lt HG.out k e).1))
        rw [← HS.out] at HG3
        clear hgr3 hgw3
        go_wp2_with fail
        go_roundw
        case rel => exact ⟨k + 1, by omega, by go_num, HG3.out, HB3.out⟩
        case measure => simp [intOf]; omega
      · obtain rfl : k = N := by omega
        obtain ⟨g, cg, cs0, rfl, _, _, hlo⟩ := HG.out.head' (by simp; omega)
        have HGW := hid (show g < wr.heap.size from (World.ownsRow.lt HG.out g rfl).2)
        have HLO := hid hlo
        have HG0 := hid (show GrowI wr w.heap.size (.slice (some ⟨g, 0, none⟩) k cg) (othersL k (T 0)) by
          rw [← HT.out 0, HZT.out, ← HON.out]
          have := HG.out
          rwa [List.length_replicate] at this)
        rw [List.length_replicate]
        clear hlo HG
        go_wp2_with fail
        -- the rows are sewn
        go_loopw [11] (fun (i : Value) (wr : World) => ∃ j : Nat, j ≤ a ∧ i = .int .i64 j ∧ GrowI wr w.heap.size (.slice (some ⟨g, 0, none⟩) k cg) (othersL k (T j)) ∧ Below w.heap.size w wr) (fun i _ => a - (intOf i).toNat)
        case atStart => exact ⟨0, by omega, rfl, HG0.out, HB.out⟩
        case round =>
          clear HG0 HB
          obtain ⟨j, hj, rfl, hg, hb⟩ := hrel
          have HG := hid hg
          have HB := hid hb
          clear hg hb
          by_cases hlt2 : j < a
          · have hji : (j : Int) < (a : Int) := by omega
            obtain ⟨g', c', cs, hv, hcs, hsz, _⟩ := HG.out.head' (by rw [othersL_length]; omega)
            obtain rfl : g = g' := by simpa [Value.ownBlock] using congrArg Value.ownBlock hv
            rw [othersL_length] at hsz
            have HCS := hid hcs
            obtain ⟨y, hy⟩ : ∃ y, b + j = y := ⟨_, rfl⟩
            obtain ⟨z, hz⟩ : ∃ z, k - 1 - j = z := ⟨_, rfl⟩
            have hyN : y < k := by have := HLEN.out; omega
            have hzN : z < k := by have := HLEN.out; omega
            have hkz : ¬ y = z := by have := HLEN.out; omega
            have hzk : ¬ z = y := by omega
            have HST := hid (HOS.out j hlt2)
            rw [HT.out, HT.out, hy, hz] at HST
            have hyi : (b : Int) + (j : Int) = (y : Int) := by omega
            have hzi : (k : Int) - 1 - (j : Int) = (z : Int) := by omega
            obtain ⟨u, hu⟩ : ∃ u, cs[y]? = some u := ⟨_, Array.getElem?_eq_getElem (by omega)⟩
            obtain ⟨u', hu'⟩ : ∃ u, cs[z]? = some u := ⟨_, Array.getElem?_eq_getElem (by omega)⟩
            have hc : wr.cell? ⟨g, y, none⟩ = some u := by rw [cell_of_row _ _ _ _ _ _ hcs]; exact hu
            have hc' : wr.cell? ⟨g, z, none⟩ = some u' := by rw [cell_of_row _ _ _ _ _ _ hcs]; exact hu'
            have hf : wr.frozen? ⟨g, y, none⟩ = false := frozen_of_row _ _ _ _ _ hcs
            have hf' : wr.frozen? ⟨g, z, none⟩ = false := frozen_of_row _ _ _ _ _ hcs
            have hyNi : (y : Int) < (k : Int) := by omega
            have hzNi : (z : Int) < (k : Int) := by omega
            clear hu hu' hv hcs hsz hy hz
            go_wp2_with fail
            go_roundw
            case rel =>
              refine ⟨j + 1, by omega, by go_num, ?_, ?_⟩
              · rw [← HST.out]
                exact HG.out.paired HCS.out ⟨heap_setCell_same _ _ _ _ _ _ (heap_setCell_same _ _ _ _ _ _ HCS.out), (But.setCell _ _ _).trans (But.setCell _ _ _)⟩
              · exact (HB.out.setCell (p := ⟨g, y, none⟩) HLO.out _).setCell (p := ⟨g, z, none⟩) HLO.out _
            case measure => simp [intOf]; omega
          · obtain rfl : j = a := by omega
            have hmkb := HMKB.out
            go_wp2_with fail
            clear hmkb
            rw [HT.out] at HSW HFR
            have HLT := hid (show ∀ i, i < k → T j i < k from fun i hi => HSW.out.tlt i hi)
            generalize T j = t at *
            have M0 := hid (MarksAt.made (heap_new0 wr (.cells (madeCells #[.bool false] k) 4)) (fromTo k s t 0) (fun c => fromTo_zero c))
            have G0 := hid (World.ownsRow.alloc HG.out (.cells (madeCells #[.bool false] k) 4))
            have B0 := hid (HB.out.alloc HB.out.size (.cells (madeCells #[.bool false] k) 4))
            have HGN := hid (show g ≠ wr.heap.size from by have := (World.ownsRow.lt HG.out g rfl).2; omega)
            have HPN := hid (show pb ≠ wr.heap.size from by have := HPB.out; have := HB.out.size; omega)
            have HSL := hid (show w.heap.size ≤ wr.heap.size from HB.out.size)
            clear HG HB
            generalize World.alloc wr _ = Z at M0 G0 B0 ⊢
            generalize wr.heap.size = gs at *
            go_loopw [13] (fun (i : Value) (wr : World) => ∃ x : Nat, x ≤ k ∧ i = .int .i64 x ∧ MarksAt wr gs k (fromTo k s t x) ∧ GrowI wr w.heap.size (.slice (some ⟨g, 0, none⟩) k cg) (othersL k t) ∧ Below w.heap.size w wr) (fun i _ => k - (intOf i).toNat)
            case atStart => exact ⟨0, by omega, rfl, M0.out, G0.out, B0.out⟩
            case round =>
              clear M0 G0 B0
              obtain ⟨x, hx, rfl, hm, hg, hb⟩ := hrel
              have HM := hid hm
              have HG := hid hg
              have HB := hid hb
              clear hm hg hb
              by_cases hlt3 : x < k
              · have hxi : (x : Int) < (k : Int) := by omega
                have hcm := growI_cell HG.out (othersL_at' (t := t) hlt3)
                by_cases hl : t x = x
                · rw [show otherV t x = -1 by unfold otherV; rw [if_pos hl]] at hcm
                  have HL := hid hl
                  have hcp := HPC.out wr HB.out x _ (HX.out x hlt3)
                  have hsx := HSW.out.slt x hlt3
                  obtain ⟨x0, hx0⟩ : ∃ x0, s x = x0 := ⟨_, rfl⟩
                  have HX0 := hid (show x0 = s (goN s t 0 x) from hx0.symm)
                  rw [hx0] at hcp hsx
                  have HPF := hid (plen_facts HSW.out hlt3)
                  have HLE := hid (loose_end HSW.out hlt3 hl)
                  have hp1 := HPF.out.1
                  have hp2 := HPF.out.2.1
                  clear hl hx0
                  go_wp2_with fail
                  go_loopg [14] 41 (fun (f : Nat) (xv : Value) (wr : World) => ∃ q y : Nat, f + q = 41 ∧ q + 1 ≤ plen k s t x ∧ Hid (y = s (goN s t q x)) ∧ xv = .int .i64 y ∧ MarksAt wr gs k (fun c => fromTo k s t x c ∨ ∃ q', q' < q ∧ (c = s (goN s t q' x) ∨ c = goN s t (q' + 1) x)) ∧ GrowI wr w.heap.size (.slice (some ⟨g, 0, none⟩) k cg) (othersL k t) ∧ Below w.heap.size w wr)
                  case atStart => exact ⟨0, x0, by omega, by omega, HX0, rfl, HM.out.congr fun c _ => ⟨.inl, fun h => h.resolve_right (fun ⟨q, hq, _⟩ => by omega)⟩, HG.out, HB.out⟩
                  case round =>
                    clear HM HG HB hcm hcp
                    obtain ⟨q, y, hf, hq, hy, rfl, hm, hg, hb⟩ := hrel
                    have HY := hy
                    have HM := hid hm
                    have HG := hid hg
                    have HB := hid hb
                    clear hy hm hg hb
                    have hyk : y < k := by rw [HY.out]; exact HSW.out.slt _ (goN_lt HSW.out hlt3 q)
                    have hyi : (y : Int) < (k : Int) := by omega
                    have hcm := growI_cell HG.out (othersL_at' (t := t) hyk)
                    by_cases hl : t y = y
                    · rw [show otherV t y = -1 by unfold otherV; rw [if_pos hl]] at hcm
                      have HQ := hid (show q + 1 = plen k s t x from by
                        rcases Nat.lt_or_ge (q + 1) (plen k s t x) with h1 | h1
                        · have := (HPF.out.2.2.2 q h1).1
                          rw [← HY.out] at this
                          exact absurd hl this
                        · omega)
                      have HF := hid (fun c => fromTo_yes (N := k) (s := s) (c := c) HL.out)
                      have HMX := hid (HM.out.congr (M' := fromTo k s t (x + 1)) fun c _ => by
                        rw [HF.out]
                        constructor
                        · rintro (h | ⟨q', hq', h⟩)
                          · exact .inl h
                          · exact .inr ⟨q', by have := HQ.out; omega, h⟩
                        · rintro (h | ⟨q', hq', h⟩)
                          · exact .inl h
                          · exact .inr ⟨q', by have := HQ.out; omega, h⟩)
                      clear hl
                      go_wp2_with fail
                      go_roundw
                      case rel => exact ⟨x + 1, by omega, by go_num, HMX.out, HG.out, HB.out⟩
                      case measure => simp [intOf]; omega
                    · rw [show otherV t y = ((t y : Nat) : Int) by unfold otherV; rw [if_neg hl]] at hcm
                      have HQ := hid (show q + 1 < plen k s t x from by
                        rcases Nat.lt_or_ge (q + 1) (plen k s t x) with h1 | h1
                        · exact h1
                        · exfalso
                          have e : plen k s t x = q + 1 := by omega
                          have h2 := HLE.out
                          unfold pend at h2
                          rw [e, Nat.add_sub_cancel, ← HY.out] at h2
                          exact hl h2)
                      have hzk := HLT.out y hyk
                      obtain ⟨z, hz⟩ : ∃ z, t y = z := ⟨_, rfl⟩
                      have HZ := hid (show z = goN s t (q + 1) x by rw [← hz, HY.out]; rfl)
                      rw [hz] at hcm hzk
                      have hzy : ¬ z = y := by rw [← hz]; exact hl
                      have hyz : ¬ y = z := fun e => hzy e.symm
                      have hzi : (z : Int) < (k : Int) := by omega
                      have hcp := HPC.out wr HB.out z _ (HX.out z hzk)
                      have HX1 := hid (show s z = s (goN s t (q + 1) x) by rw [HZ.out])
                      have hsz := HSW.out.slt z hzk
                      generalize s z = sz at *
                      obtain ⟨b1, hs1, _, hf1⟩ := HM.out.cell hyk
                      obtain ⟨b2, hs2, _, hf2⟩ := HM.out.cell hzk
                      have hn1 : ¬ g = gs := HGN.out
                      have hn2 : ¬ pb = gs := HPN.out
                      have hcm2 := cell_far2 (i := y) (j := z) (u := .bool true) (v := .bool true) HGN.out hcm
                      have hcp2 := cell_far2 (i := y) (j := z) (u := .bool true) (v := .bool true) HPN.out hcp
                      clear hl hz
                      go_wp2_with fail
                      go_roundg (gk - 1)
                      case measure => have := HQ.out; omega
                      case rel =>
                        refine ⟨q + 1, sz, by have := HQ.out; omega, HQ.out, HX1, rfl, ?_, ?_, ?_⟩
                        · refine (MarksAt.set (c := z) (MarksAt.set (c := y) HM.out)).congr fun c _ => ?_
                          constructor
                          · rintro (((h | ⟨q', hq', h⟩) | h) | h)
                            · exact .inl h
                            · exact .inr ⟨q', by omega, h⟩
                            · exact .inr ⟨q, by omega, .inl (by rw [← h]; exact HY.out)⟩
                            · exact .inr ⟨q, by omega, .inr (by rw [← h]; exact HZ.out)⟩
                          · rintro (h | ⟨q', hq', h⟩)
                            · exact .inl (.inl (.inl h))
                            · rcases Nat.lt_or_ge q' q with h1 | h1
                              · exact .inl (.inl (.inr ⟨q', h1, h⟩))
                              · obtain rfl : q' = q := by omega
                                rcases h with h | h
                                · exact .inl (.inr (by rw [h]; exact HY.out))
                                · exact .inr (by rw [h]; exact HZ.out)
                        · obtain ⟨cs, hcs, _⟩ := HM.out
                          exact (HG.out.setCell hcs (by decide)).setCell (heap_setCell_same _ _ _ _ _ _ hcs) (by decide)
                        · exact (HB.out.setCell (p := ⟨gs, y, none⟩) HSL.out _).setCell (p := ⟨gs, z, none⟩) HSL.out _
                · rw [show otherV t x = ((t x : Nat) : Int) by unfold otherV; rw [if_neg hl]] at hcm
                  have HF := hid (fun c => fromTo_no (N := k) (s := s) (c := c) hl)
                  have htx := HLT.out x hlt3
                  generalize t x = tx at *
                  clear hl
                  go_wp2_with fail
                  go_roundw
                  case rel => exact ⟨x + 1, by omega, by go_num, HM.out.congr (fun c _ => (HF.out c).symm), HG.out, HB.out⟩
                  case measure => simp [intOf]; omega
              · obtain rfl : x = k := by omega
                have HM2 := hid (HM.out.congr (M' := seenS x s t 0) fun c hc => (from_iff HSW.out hc).trans seen_zero.symm)
                have HRL := hid (roundsTo_le (N := x) (s := s) (t := t))
                have HRZ := hid (roundsTo_zero (N := x) (s := s) (t := t))
                have HRY := hid (fun y (h : leadS x s t y = true) => roundsTo_yes h)
                have HRN := hid (fun y (h : leadS x s t y = false) => roundsTo_no h)
                generalize roundsTo x s t = RT at *
                clear HM
                go_wp2_with fail
                go_loopw [15, 16] (fun (rv i : Value) (wr : World) => ∃ y : Nat, y ≤ x ∧ i = .int .i64 y ∧ rv = .int .i64 ((RT y : Nat) : Int) ∧ MarksAt wr gs x (seenS x s t y) ∧ GrowI wr w.heap.size (.slice (some ⟨g, 0, none⟩) x cg) (othersL x t) ∧ Below w.heap.size w wr) (fun _ i _ => x - (intOf i).toNat)
                case atStart => exact ⟨0, by omega, rfl, by rw [HRZ.out]; rfl, HM2.out, HG.out, HB.out⟩
                case round =>
                  clear HM2 HG HB
                  obtain ⟨y, hy, rfl, rfl, hm, hg, hb⟩ := hrel
                  have HM := hid hm
                  have HG := hid hg
                  have HB := hid hb
                  clear hm hg hb
                  obtain ⟨ry, hry⟩ : ∃ ry, RT y = ry := ⟨_, rfl⟩
                  have HRYY := hid hry
                  have hry20 : (ry : Int) ≤ 20 := by have := HRL.out y; omega
                  rw [hry]
                  clear hry
                  by_cases hlt4 : y < x
                  · have hyi : (y : Int) < (x : Int) := by omega
                    have hcm := growI_cell HG.out (othersL_at' (t := t) hlt4)
                    obtain ⟨bs, hs1, hbs, hf1⟩ := HM.out.cell hlt4
                    have HBS := hid hbs
                    clear hbs
                    by_cases hl : t y = y
                    · rw [show otherV t y = -1 by unfold otherV; rw [if_pos hl]] at hcm
                      have HNL := hid (seen_not HSW.out hlt4 (.inl hl))
                      have HSN := hid (fun c => seen_no (c := c) HNL.out)
                      have HR1 := hid (HRN.out y HNL.out)
                      clear hl
                      go_wp2_with fail
                      go_roundw
                      case rel => exact ⟨y + 1, by omega, by go_num, by rw [HR1.out, HRYY.out], HM.out.congr (fun c _ => (HSN.out c).symm), HG.out, HB.out⟩
                      case measure => simp [intOf]; omega
                    · rw [show otherV t y = ((t y : Nat) : Int) by unfold otherV; rw [if_neg hl]] at hcm
                      cases bs with
                      | true =>
                        have HNL := hid (seen_not HSW.out hlt4 (.inr (HBS.out.1 rfl)))
                        have HSN := hid (fun c => seen_no (c := c) HNL.out)
                        have HR1 := hid (HRN.out y HNL.out)
                        have hty := HLT.out y hlt4
                        generalize t y = ty at *
                        clear hl
                        go_wp2_with fail
                        go_roundw
                        case rel => exact ⟨y + 1, by omega, by go_num, by rw [HR1.out, HRYY.out], HM.out.congr (fun c _ => (HSN.out c).symm), HG.out, HB.out⟩
                        case measure => simp [intOf]; omega
                      | false =>
                        have HYL := hid (seen_lead HSW.out hlt4 hl (fun h => by have := HBS.out.2 h; cases this))
                        have HSY := hid (fun c => seen_yes (c := c) HYL.out)
                        have HR1 := hid (HRY.out y HYL.out)
                        have HMG := hid (fun q (hq : q < plen x s t y) => mark_go HSW.out hlt4 HYL.out hq)
                        have HMS := hid (mark_stop HSW.out hlt4 HYL.out)
                        have HMR := hid (fun c => mark_ring (c := c) HSW.out hlt4 HYL.out)
                        have hpl := (plen_facts HSW.out hlt4).2.1
                        have hty := HLT.out y hlt4
                        generalize hty2 : t y = ty at hcm hty
                        clear hl hty2
                        go_wp2_with fail
                        go_loopg [17] 41 (fun (f : Nat) (xv : Value) (wr : World) => ∃ q z : Nat, f + q = 41 ∧ q ≤ plen x s t y ∧ Hid (z = goN s t q y) ∧ xv = .int .i64 z ∧ MarksAt wr gs x (fun c => seenS x s t y c ∨ ∃ q', q' < q ∧ (c = goN s t q' y ∨ c = s (goN s t q' y))) ∧ GrowI wr w.heap.size (.slice (some ⟨g, 0, none⟩) x cg) (othersL x t) ∧ Below w.heap.size w wr)
                        case atStart => exact ⟨0, y, by omega, by omega, hid rfl, rfl, HM.out.congr fun c _ => ⟨.inl, fun h => h.resolve_right (fun ⟨q, hq, _⟩ => by omega)⟩, HG.out, HB.out⟩
                        case round =>
                          clear HM HG HB hcm hs1 hf1 HBS
                          obtain ⟨q, z, hf, hq, hz, rfl, hm, hg, hb⟩ := hrel
                          have HZ := hz
                          have HM := hid hm
                          have HG := hid hg
                          have HB := hid hb
                          clear hz hm hg hb
                          have hzk : z < x := by rw [HZ.out]; exact goN_lt HSW.out hlt4 q
                          have hzi : (z : Int) < (x : Int) := by omega
                          obtain ⟨bz, hs1, hbz, hf1⟩ := HM.out.cell hzk
                          have HBZ := hid hbz
                          clear hbz
                          cases bz with
                          | true =>
                            have HQ := hid (show q = plen x s t y from by
                              rcases Nat.lt_or_ge q (plen x s t y) with h1 | h1
                              · have h2 := HBZ.out.1 rfl
                                rw [HZ.out] at h2
                                exact absurd h2 (HMG.out q h1)
                              · omega)
                            have HMX := hid (HM.out.congr (M' := seenS x s t (y + 1)) fun c _ => by rw [HSY.out, ← HMR.out, HQ.out])
                            go_wp2_with fail
                            go_roundw
                            case rel => exact ⟨y + 1, by omega, by go_num, by rw [HR1.out, HRYY.out]; go_num, HMX.out, HG.out, HB.out⟩
                            case measure => simp [intOf]; omega
                          | false =>
                            have HQ := hid (show q < plen x s t y from by
                              rcases Nat.lt_or_ge q (plen x s t y) with h1 | h1
                              · exact h1
                              · exfalso
                                obtain rfl : q = plen x s t y := by omega
                                obtain ⟨q', hq', e⟩ := HMS.out
                                have := HBZ.out.2 (.inr ⟨q', hq', .inl (by rw [HZ.out]; exact e)⟩)
                                cases this)
                            have hcp := HPC.out wr HB.out z _ (HX.out z hzk)
                            have hsz := HSW.out.slt z hzk
                            have HSZ := hid (show s z = s (goN s t q y) by rw [HZ.out])
                            have hsy : ¬ s z = z := HSW.out.sne z hzk
                            have hys : ¬ z = s z := fun e => hsy e.symm
                            have hcm := growI_cell HG.out (othersL_at' (t := t) hsz)
                            have HOV := hid (show otherV t (s z) = ((goN s t (q + 1) y : Nat) : Int) by
                              have h1 := on_sewn HSW.out hlt4 ((leadS_iff HSW.out hlt4).1 HYL.out).1 q
                              unfold otherV
                              rw [HSZ.out, if_neg h1]
                              rfl)
                            rw [HOV.out] at hcm
                            have hgk := goN_lt HSW.out hlt4 (q + 1)
                            obtain ⟨z2, hz2⟩ : ∃ z2, goN s t (q + 1) y = z2 := ⟨_, rfl⟩
                            have HZ2 := hid hz2.symm
                            rw [hz2] at hcm hgk
                            clear HOV hz2
                            generalize s z = sz at *
                            have hszi : (sz : Int) < (x : Int) := by omega
                            obtain ⟨b2, hs2, _, hf2⟩ := HM.out.cell hsz
                            have hn1 : ¬ g = gs := HGN.out
                            have hn2 : ¬ pb = gs := HPN.out
                            have hcm2 := cell_far2 (i := z) (j := sz) (u := .bool true) (v := .bool true) HGN.out hcm
                            have hcp2 := cell_far2 (i := z) (j := sz) (u := .bool true) (v := .bool true) HPN.out hcp
                            go_wp2_with fail
                            go_roundg (gk - 1)
                            case measure => have := HQ.out; omega
                            case rel =>
                              refine ⟨q + 1, z2, by have := HQ.out; omega, HQ.out, HZ2, rfl, ?_, ?_, ?_⟩
                              · refine (MarksAt.set (c := sz) (MarksAt.set (c := z) HM.out)).congr fun c _ => ?_
                                constructor
                                · rintro (((h | ⟨q', hq', h⟩) | h) | h)
                                  · exact .inl h
                                  · exact .inr ⟨q', by omega, h⟩
                                  · exact .inr ⟨q, by omega, .inl (by rw [← h]; exact HZ.out)⟩
                                  · exact .inr ⟨q, by omega, .inr (by rw [← h]; exact HSZ.out)⟩
                                · rintro (h | ⟨q', hq', h⟩)
                                  · exact .inl (.inl (.inl h))
                                  · rcases Nat.lt_or_ge q' q with h1 | h1
                                    · exact .inl (.inl (.inr ⟨q', h1, h⟩))
                                    · obtain rfl : q' = q := by omega
                                      rcases h with h | h
                                      · exact .inl (.inr (by rw [h]; exact HZ.out))
                                      · exact .inr (by rw [h]; exact HSZ.out)
                              · obtain ⟨cs, hcs, _⟩ := HM.out
                                exact (HG.out.setCell hcs (by decide)).setCell (heap_setCell_same _ _ _ _ _ _ hcs) (by decide)
                              · exact (HB.out.setCell (p := ⟨gs, z, none⟩) HSL.out _).setCell (p := ⟨gs, sz, none⟩) HSL.out _
                  · obtain rfl : y = x := by omega
                    go_wp2_with fail
                    refine bodyPost_ret (results_tmp2 rfl _ _ _) rfl ?_
                    exact ⟨HB.out, (ry : Int), true, rfl, .inl ⟨HD.out, by rw [HFR.out, HRYY.out], rfl⟩⟩
  · rw [pairOfB_false hp] at H
    have HNo := hid hp
    clear hp h
    go_enter Try.func35, Try.ntmps35
    go_wp2_with fail
    refine H.out.mono ?_
    rintro e w1 ⟨rfl, d, rfl⟩
    go_wp2_with fail
    refine bodyPost_ret (results_tmp2 rfl _ _ _) rfl ?_
    exact ⟨below_drewN' (Below.refl _ _) d, 0, false, rfl, .inr ⟨HNo.out, rfl, rfl⟩⟩
end Go.Proofs.Ytonhnmpgikmlpaa
