/- chart.rounds: all rounds, each one once, by its contract. -/
import Derived.Test.YtmdgbcepjnfbnaaRing
import Derived.Maps.AppendAt
import Derived.Deep.QuietTactic
import Derived.Deep.LoopGhost
import Derived.WalkMore
namespace Go.Proofs.Ytmdgbcepjnfbnaa
open Go.RowKit Go.Shelf

theorem Try.info_ptrs : (Try.prog.info? 67).map (fun i => (i.zero, i.size, i.bytes)) = some (some (.slice none 0 0), 1, 24) := by kernel_rfl
/-- The slice u holds pointers to the steps with the numbers l, below block B, not in block own. -/
def RingOf (w : World) (g : Nat) (own : Option Nat) (u : Value) (l : List Nat) : Prop :=
  ∃ b cap, u = .slice (some ⟨b, 0, none⟩) l.length cap ∧ b < w.heap.size ∧ own ≠ some b ∧ ∀ (j q : Nat), l[j]? = some q → w.cell? ⟨b, j, none⟩ = some (.pointer (some ⟨g, 5 * q, none⟩))
theorem GrowP.cells {w : World} {base : Nat} {v : Value} {g : Nat} {l : List Nat} (h : GrowP w base v g l) (hl : 0 < l.length) :
    ∃ b cap, v = .slice (some ⟨b, 0, none⟩) l.length cap ∧ base ≤ b ∧ b < w.heap.size ∧ ∀ (j q : Nat), l[j]? = some q → w.cell? ⟨b, j, none⟩ = some (.pointer (some ⟨g, 5 * q, none⟩)) := by
  rcases h.2 with ⟨_, h0⟩ | ⟨b, cap, cur, rfl, hb, hg, _, _, _, ht⟩
  · omega
  · refine ⟨b, cap, rfl, hb, lt_of_block hg, fun j q hj => ?_⟩
    rw [cell_of_row _ _ _ _ _ _ hg]
    have hl := (List.getElem?_eq_some_iff.1 hj).1
    have e : (ptrsV g l)[j]? = some (.pointer (some ⟨g, 5 * q, none⟩)) := by simp [ptrsV, hj]
    rw [← ht, List.getElem?_take_of_lt (by omega)] at e
    rw [← Array.getElem?_toList, e]
theorem RingOf.grown {w w' : World} {g : Nat} {own own' : Option Nat} {u : Value} {l : List Nat} (h : RingOf w g own u l) (hg : w.grownBy w' own) (ho : own' = own ∨ ∃ k, own' = some k ∧ w.heap.size ≤ k) : RingOf w' g own' u l := by
  obtain ⟨b, cap, rfl, hb, hn, hc⟩ := h
  refine ⟨b, cap, rfl, Nat.lt_of_lt_of_le hb hg.size, ?_, fun j q hj => ?_⟩
  · rcases ho with rfl | ⟨k, rfl, hk⟩
    · exact hn
    · intro e; cases e; omega
  · have h1 := hc j q hj
    have h2 : w'.heap[b]? = w.heap[b]? := hg.block b hb (fun e => hn e.symm)
    unfold World.cell? at h1 ⊢
    simp only at h1 ⊢
    rw [h2]; exact h1
theorem RingOf.below {w w' : World} {g : Nat} {own : Option Nat} {u : Value} {l : List Nat} (h : RingOf w g own u l) (hb : Below w.heap.size w w') : RingOf w' g own u l :=
  h.grown ⟨hb.os, hb.tape, hb.output, hb.size, fun k hk _ => hb.block k hk⟩ (.inl rfl)
/-- The rounds of the leading numbers below x, in order. -/
def RoundsOf (w : World) (base g n m : Nat) (t : Int → Int → UInt8) (x : Nat) (v : Value) : Prop :=
  ∃ vs : List Value, w.ownsRow base 67 1 v vs.length vs ∧ vs.length = (leadsTo n m t x).length ∧ ∀ (k c : Nat), (leadsTo n m t x)[k]? = some c → ∃ u, vs[k]? = some u ∧ RingOf w g v.ownBlock u (ringN n m t (wayN m c))
theorem StepsM.back {w : World} {g n m N c : Nat} {t : Int → Int → UInt8} (h : StepsM w g n m t (fun _ => True) N) (hc : c < N) : w.cell? ⟨g, 5 * c + 4, none⟩ = some (.pointer (some ⟨g, 5 * wcode m (rev t (wayN m c)), none⟩)) := by
  obtain ⟨cs, h, _, h1, _⟩ := h
  rw [cell_of_row _ _ _ _ _ _ h]
  exact h1 c hc trivial 4 _ rfl
theorem StepsM.way {w : World} {g n m N c : Nat} {t : Int → Int → UInt8} (h : StepsM w g n m t (fun _ => True) N) (hc : c < N) : w.rangeAt g (5 * c) (wayC (wayN m c)).toList := by
  obtain ⟨cs, h, _, h1, _⟩ := h
  intro j v hj
  rw [cell_of_row _ _ _ _ _ _ h]
  refine h1 c hc trivial j v ?_
  match j, hj with
  | 0, hj => exact hj
  | 1, hj => exact hj
  | 2, hj => exact hj
  | j + 3, hj => simp [wayC] at hj

theorem noRound {w w' : World} {base g n m x : Nat} {t : Int → Int → UInt8} {v : Value} (h : RoundsOf w base g n m t x v) (hno : leadB n m t x = false) (hb : Below w.heap.size w w') : RoundsOf w' base g n m t (x + 1) v := by
  obtain ⟨vs, h1, h2, h3⟩ := h
  refine ⟨vs, World.ownsRow.kept h1 (Cls.grown hb) (by
    cases v.ownBlock with
    | none => exact .inl rfl
    | some k => exact .inr (fun e => by cases e)), by rw [leadsTo_no hno]; exact h2, fun k c hk => ?_⟩
  rw [leadsTo_no hno] at hk
  obtain ⟨u, h4, h5⟩ := h3 k c hk
  exact ⟨u, h4, h5.below hb⟩

set_option maxRecDepth 100000 in
set_option maxHeartbeats 8000000 in
theorem rounds_any (n m g N : Nat) (ls : List UInt8) (w : World) (hl : ls.length = 25) (hn : n ≤ 5) (hm : m ≤ 5) (hN : 4 * (n * m) = N) (hs : StepsM w g n m (lett m ls) (fun _ => True) N) :
    Calls Try.prog 76 #[.agg (chartC (gcells n m ls) g N)] w fun e w' => ∃ v, e = .returned v ∧ RoundsOf w' (w.heap.size + 1) g n m (lett m ls) N v ∧ Below w.heap.size w w' := by
  have hnm25 : n * m ≤ 25 := Nat.mul_le_mul hn hm
  have hN100 : N ≤ 100 := by omega
  have hz := gcells_size (n := n) (m := m) hl
  have HCS := hid (show (Try.prog.info? 71).map (·.size) = some (chartC (gcells n m ls) g N).size by rw [chartC_size hz]; exact Try.size_chart)
  have HC27 := hid (chartC_steps hz g N)
  have HRD := hid (fun c w' hc hs' => round_any n m g N c (lett m ls) w' hN hN100 hc hs')
  have HNB := hid (fun x w' hx hd => number_way n m g N ls x w' hl hn hm hx hd)
  have HS := hid hs
  have HNN := hid hN
  generalize lett m ls = t at *
  generalize chartC (gcells n m ls) g N = cc at *
  clear hs hz hN hl
  have HZ0 := hid (heap_new0 w (.cells cc 71))
  have HSL := hid HS.out.lt
  obtain ⟨i0, hi0, hz0, hz1, hz2⟩ := info_parts Try.info_ptrs
  have HI0 := hid hi0
  have HI1 := hid hz0
  have HI2 := hid hz1
  have HI3 := hid hz2
  clear hi0 hz0 hz1 hz2
  have hcell : (w.alloc (.cells cc 71)).cell? ⟨w.heap.size, 27, none⟩ = some (.slice (some ⟨g, 0, none⟩) N N) := by rw [cell_of_row _ _ _ _ _ _ HZ0.out]; exact HC27.out
  have hcell2 : ∀ ob, ((w.alloc (.cells cc 71)).alloc ob).cell? ⟨w.heap.size, 27, none⟩ = some (.slice (some ⟨g, 0, none⟩) N N) := fun ob => by
    rw [cell_of_row _ _ _ _ _ _ (heap_new1 w _ ob)]; exact HC27.out
  have hcell3 := hcell2 (.cells #[] 67)
  have HE := hid (show ((w.alloc (.cells cc 71)).alloc (.cells #[] 67)).ownsRow (w.heap.size + 1) 67 1 (.slice (some ⟨w.heap.size + 1, 0, none⟩) 0 0) 0 [] from by
    have := World.ownsRow_made (e := 67) (size := 1) (base := w.heap.size + 1) (w.alloc (.cells cc 71)) #[] 0 (by simp) (by unfold maxLen; omega) rfl
    rwa [World.size_alloc] at this)
  clear hcell hcell2
  go_enter Try.func76, Try.ntmps76
  go_wp2
  go_step3
  go_wp2
  go_step3
  go_wp2
  go_loopg [3, 12] N (fun gk v i wr => ∃ x : Nat, x + gk = N ∧ i = .int .i64 x ∧ RoundsOf wr (w.heap.size + 1) g n m t x v ∧ wr.heap[w.heap.size]? = some (.cells cc 71 (0, 0)) ∧ Below w.heap.size w wr)
  case atStart =>
    exact ⟨0, by omega, rfl, ⟨[], HE.out, rfl, fun k c hk => by simp [leadsTo_zero] at hk⟩, heap_new1 w _ _, ((Below.refl _ w).alloc (Nat.le_refl _) _).alloc (by simp) _⟩
  case round =>
    obtain ⟨x, hxg, rfl, hro, hch, hbel⟩ := hrel
    have HRO := hid hro
    have HCH := hid hch
    have HB := hid hbel
    clear hro hch hbel hcell3
    cases gk with
    | zero =>
      obtain rfl : x = N := by omega
      go_wp2
      try rw [Exit.noGoto_ret]
      go_ret
      exact ⟨_, rfl, HRO.out, HB.out⟩
    | succ gO =>
      have hlt : x < N := by omega
      have hxi : (x : Int) < (N : Int) := by omega
      have hxi0 : (0 : Int) ≤ (x : Int) := by omega
      have hc27 : wr.cell? ⟨w.heap.size, 27, none⟩ = some (.slice (some ⟨g, 0, none⟩) N N) := by rw [cell_of_row _ _ _ _ _ _ HCH.out]; exact HC27.out
      have hrd := hid (HRD.out x wr hlt (HS.out.below HB.out))
      have hx4 : x < 4 * (n * m) := by rw [HNN.out]; exact hlt
      have hx5 : x * 5 = 5 * x := Nat.mul_comm _ _
      go_wp2_with fail
      refine hrd.out.mono ?_
      rintro e w1 ⟨hb1, ⟨hon, v, rfl, hgp⟩ | ⟨hno, rfl⟩⟩
      · have hL1 := (goL_facts (t := t) (wayN_d (m := m) x) (wayN_in hx4)).1
        have hL2 := (goL_facts (t := t) (wayN_d (m := m) x) (wayN_in hx4)).2.1
        have hrl : goL n m t (wayN m x) = rlen n m t (wayN m x) := by unfold goL; rw [if_pos hon]
        have hlen := ringN_length n m t (wayN m x)
        obtain ⟨b, cap, rfl, hbb, hbl, hcells⟩ := hgp.cells (by rw [hlen]; omega)
        have HRING := hid (show ringN n m t (wayN m x) = (List.range (goL n m t (wayN m x))).map fun j => wcode m (iter t (wayN m x) j) from rfl)
        rw [hlen]
        have HLEADT := hid (show (∀ k, k < goL n m t (wayN m x) → x ≤ wcode m (iter t (wayN m x) k) ∧ x ≤ wcode m (rev t (iter t (wayN m x) k))) → leadB n m t x = true from fun h => by
          unfold leadB
          rw [hon, Bool.true_and, List.all_eq_true]
          intro j hj
          exact decide_eq_true (h j (by rw [hrl]; exact List.mem_range.1 hj)))
        have HLEADF := hid (show ∀ k, k < goL n m t (wayN m x) → ¬ (x ≤ wcode m (iter t (wayN m x) k) ∧ x ≤ wcode m (rev t (iter t (wayN m x) k))) → leadB n m t x = false from fun k hk hn => by
          rw [Bool.eq_false_iff]
          intro h
          unfold leadB at h
          rw [Bool.and_eq_true, List.all_eq_true] at h
          exact hn (of_decide_eq_true (h.2 k (List.mem_range.2 (by rw [← hrl]; exact hk)))))
        have HONA := hid (fun j => onR_all (wayN_d (m := m) x) hon j)
        have HDA := hid (fun j => iter_d (t := t) (wayN_d (m := m) x) j)
        rw [HNN.out] at hL2
        generalize hLg : goL n m t (wayN m x) = L at *
        have HLG := hid hLg
        have HCE := hid hcells
        have HBL := hid hbl
        have HBB := hid hbb
        have HGP := hid hgp
        have hL0 : ((L : Int) == 0) = false := by rw [beq_eq_false_iff_ne]; omega
        have HW1 := hid (HB.out.trans (hb1.mono HB.out.size))
        have HC1 := hid ((hb1.block _ (lt_of_block HCH.out)).trans HCH.out)
        have HR1 := hid (show RoundsOf w1 (w.heap.size + 1) g n m t x u3 from by
          obtain ⟨vs, h1, h2, h3⟩ := HRO.out
          refine ⟨vs, World.ownsRow.kept h1 (Cls.grown hb1) (by
            cases u3.ownBlock with
            | none => exact .inl rfl
            | some k => exact .inr (fun e => by cases e)), h2, fun k c hk => ?_⟩
          obtain ⟨u, h4, h5⟩ := h3 k c hk
          exact ⟨u, h4, h5.below hb1⟩)
        have HBN := hid (show ∀ k, u3.ownBlock = some k → k ≠ b from fun k e => by
          obtain ⟨vs, h1, _⟩ := HRO.out
          have := (World.ownsRow.lt h1 k e).2
          omega)
        clear hb1 hgp hcells hbl hbb hrl hlen hLg hc27 hrd
        go_wp2_with fail
        go_loopg [25] L (fun gk i wi => ∃ j : Nat, j + gk = L ∧ i = .int .i64 j ∧ Hid (∀ k, k < j → x ≤ wcode m (iter t (wayN m x) k) ∧ x ≤ wcode m (rev t (iter t (wayN m x) k))) ∧ Below w1.heap.size w1 wi)
        case atStart => exact ⟨0, by omega, rfl, hid (fun k hk => absurd hk (by omega)), Below.refl _ _⟩
        case round =>
          obtain ⟨j, hjg, rfl, hseek, hbel⟩ := hrel
          have HBI := hid hbel
          have HSK := hseek
          clear hbel hseek
          obtain ⟨wi, rfl⟩ : ∃ wi : World, wi = wr := ⟨_, rfl⟩
          have HWI := hid (HW1.out.trans (HBI.out.mono HW1.out.size))
          have HCI := hid ((HBI.out.block _ (lt_of_block HC1.out)).trans HC1.out)
          cases gk with
          | zero =>
            obtain rfl : j = L := by omega
            have HYES := hid (HLEADT.out HSK.out)
            obtain ⟨vs, ho1, ho2, ho3⟩ := HR1.out
            have HO1 := hid (show (wi.alloc (.cells #[.slice (some ⟨b, 0, none⟩) j cap] 67)).ownsRow (w.heap.size + 1) 67 1 u3 vs.length vs from World.ownsRow.alloc (World.ownsRow.kept ho1 (Cls.grown HBI.out) (by
              cases u3.ownBlock with
              | none => exact .inl rfl
              | some k => exact .inr (fun e => by cases e))) _)
            have HO2 := hid ho2
            have HO3 := hid (fun k c hk => by
              obtain ⟨u, h4, h5⟩ := ho3 k c hk
              exact (⟨u, h4, h5.below HBI.out⟩ : ∃ u, vs[k]? = some u ∧ RingOf wi g u3.ownBlock u (ringN n m t (wayN m c))))
            have HV := hid (show vs.length ≤ 100 by have := leadsTo_le (n := n) (m := m) (t := t) x; omega)
            have HCN := hid (show (wi.alloc (.cells #[.slice (some ⟨b, 0, none⟩) j cap] 67)).cell? ⟨wi.heap.size, 0, none⟩ = some (.slice (some ⟨b, 0, none⟩) j cap) by rw [cell_of_row _ _ _ _ _ _ (heap_new0 wi _)]; rfl)
            clear ho1 ho2 ho3
            go_wp2_with (at_builtin; refine wpList_append_own_at _ rfl _ _ 87 rfl (w.heap.size + 1) 67 i0 (.slice none 0 0) 1 24 Try.underlying87 HI0.out HI1.out HI2.out HI3.out rfl (by decide) u3 vs.length vs rfl HO1.out ⟨wi.heap.size, 0, none⟩ 1 1 [.slice (some ⟨b, 0, none⟩) j cap] rfl rfl ?c1 ?c2 ?c3 ?c4 ?c5 ?_)
            case c1 =>
              intro k u hk
              match k, hk with
              | 0, hk => simp at hk; subst hk; simp [Addr.add, HCN.out]
            case c2 => intro u hu; simp at hu; subst hu; rfl
            case c3 => have := HV.out; unfold maxLen; omega
            case c4 => have := HV.out; omega
            case c5 => have := HWI.out.size; have := lt_of_block HCI.out; simp; omega
            intro v' w2 hown hgw _ hat
            have HW2 := hid ((HWI.out.alloc HWI.out.size (.cells #[.slice (some ⟨b, 0, none⟩) j cap] 67)).grown hgw (by have := HWI.out.size; simp; omega) (fun k e => by have := (World.ownsRow.lt HO1.out k e).1; omega))
            have HC2 := hid (show w2.heap[w.heap.size]? = some (.cells cc 71 (0, 0)) from (hgw.block _ (by have := lt_of_block HCI.out; simp; omega) (fun e => by have := (World.ownsRow.lt HO1.out _ e.symm).1; omega)).trans ((Below.heap_alloc _ _ _ (lt_of_block HCI.out)).trans HCI.out))
            have HR2 := hid (show RoundsOf w2 (w.heap.size + 1) g n m t (x + 1) v' from by
              refine ⟨vs ++ [.slice (some ⟨b, 0, none⟩) j cap], by rw [List.length_append]; exact hown, by rw [leadsTo_yes HYES.out, List.length_append, List.length_append, HO2.out]; rfl, fun k c hk => ?_⟩
              rw [leadsTo_yes HYES.out] at hk
              have hatk : v'.ownBlock = u3.ownBlock ∨ ∃ k, v'.ownBlock = some k ∧ (wi.alloc (.cells #[.slice (some ⟨b, 0, none⟩) j cap] 67)).heap.size ≤ k := by
                rcases hat with h | h
                · exact .inl h
                · exact .inr ⟨_, h, by simp⟩
              by_cases hkl : k < (leadsTo n m t x).length
              · rw [List.getElem?_append_left hkl] at hk
                obtain ⟨u, h4, h5⟩ := HO3.out k c hk
                exact ⟨u, by rw [List.getElem?_append_left (by rw [HO2.out]; exact hkl)]; exact h4, (h5.below ((Below.refl _ _).alloc (Nat.le_refl _) _)).grown hgw hatk⟩
              · have hk2 : k = (leadsTo n m t x).length := by
                  have := (List.getElem?_eq_some_iff.1 hk).1
                  rw [List.length_append] at this
                  simp only [List.length_cons, List.length_nil] at this
                  omega
                subst hk2
                rw [List.getElem?_append_right (Nat.le_refl _), Nat.sub_self] at hk
                obtain rfl : x = c := by simpa using hk
                refine ⟨.slice (some ⟨b, 0, none⟩) j cap, by rw [← HO2.out, List.getElem?_append_right (Nat.le_refl _), Nat.sub_self]; rfl, ?_⟩
                have h6 : RingOf w1 g u3.ownBlock (.slice (some ⟨b, 0, none⟩) j cap) (ringN n m t (wayN m x)) := ⟨b, cap, by rw [ringN_length, HLG.out], HBL.out, fun e => HBN.out b e rfl, HCE.out⟩
                exact ((h6.below HBI.out).below ((Below.refl _ _).alloc (Nat.le_refl _) _)).grown hgw hatk)
            clear hown hgw hat
            go_wp2
            go_roundg gO
            case measure => omega
            case rel => exact ⟨x + 1, by omega, by go_num, HR2.out, HC2.out, HW2.out⟩
          | succ gI =>
            have hjL : j < L := by omega
            have hji : (j : Int) < (L : Int) := by omega
            have hji0 : (0 : Int) ≤ (j : Int) := by omega
            have hin := HONA.out j
            have hd4 := HDA.out j
            have hq : (ringN n m t (wayN m x))[j]? = some (wcode m (iter t (wayN m x) j)) := by rw [HRING.out]; simp [hjL]
            have hcell := (HBI.out.cell (p := ⟨b, j, none⟩) HBL.out).trans (HCE.out j _ hq)
            have hql := wcode_lt hin hd4
            have hrl := wcode_lt (rev_in (t := t).2 hin) (rev_d (t := t) (iter t (wayN m x) j))
            rw [HNN.out] at hql hrl
            have hwq := wayN_code hin hd4
            have hwr := wayN_code (rev_in (t := t).2 hin) (rev_d (t := t) (iter t (wayN m x) j))
            have HNQ := hid (fun w' => HNB.out _ w' hin hd4)
            have HNR := hid (fun w' => HNB.out _ w' (rev_in (t := t).2 hin) (rev_d (t := t) (iter t (wayN m x) j)))
            have HSF := hid (HLEADF.out j hjL)
            have HSN := hid (show (x ≤ wcode m (iter t (wayN m x) j) ∧ x ≤ wcode m (rev t (iter t (wayN m x) j))) → ∀ k, k < j + 1 → x ≤ wcode m (iter t (wayN m x) k) ∧ x ≤ wcode m (rev t (iter t (wayN m x) k)) from fun h k hk => by
              rcases Nat.lt_or_ge k j with h1 | h1
              · exact HSK.out k h1
              · obtain rfl : k = j := by omega
                exact h)
            generalize iter t (wayN m x) j = y at hin hd4 hq hcell hql hrl hwq hwr HNQ HNR HSF HSN
            obtain ⟨q, hqe⟩ : ∃ q, wcode m y = q := ⟨_, rfl⟩
            obtain ⟨r, hre⟩ : ∃ r, wcode m (rev t y) = r := ⟨_, rfl⟩
            rw [hqe] at hcell hql hwq HNQ HSF HSN
            rw [hre] at hrl hwr HNR HSF HSN
            have HWQ := hid (fun w' (hw : Cls wi w') => show w'.rangeAt g (5 * q) (wayC y).toList by
              have := (HS.out.below (HWI.out.trans (hw.mono HWI.out.size))).way hql
              rwa [hwq] at this)
            have HWR := hid (fun w' (hw : Cls wi w') => show w'.rangeAt g (5 * r) (wayC (rev t y)).toList by
              have := (HS.out.below (HWI.out.trans (hw.mono HWI.out.size))).way hrl
              rwa [hwr] at this)
            have HBQ := hid (fun w' (hw : Cls wi w') => show w'.cell? ⟨g, 5 * q + 4, none⟩ = some (.pointer (some ⟨g, 5 * r, none⟩)) by
              have := (HS.out.below (HWI.out.trans (hw.mono HWI.out.size))).back hql
              rwa [hwq, hre] at this)
            have HCC := hid (fun w' (hw : Cls wi w') => (hw.block _ (lt_of_block HCI.out)).trans HCI.out)
            clear hin hd4 hq hql hrl hwq hwr hqe hre
            go_wp2_with fail
            refine wp_region_quiet (C := Cls wi) (by kernel_rfl) (by kernel_rfl) (Below.refl _ wi).drew ?_
            refine wpQuiet_load_row rfl 71 _ rfl w.heap.size rfl 71 cc (0, 0) _ HCC.out Try.underlying71 rfl HCS.out ?_
            quiet_step ((intro _; rfl))
            quiet_step ((intro _; rfl))
            quiet_step ((intro _; rfl))
            refine wpQuiet_load_mid rfl 79 _ rfl g (5 * q) rfl (wayC y) _ HWQ.out Try.underlying79 rfl Try.size_way ?_
            refine wpQuiet_call rfl 116 #[.agg cc, .agg (wayC y)] (.int .i64 (q : Int)) (fun w _ => by go_simp) (fun w' hw => (HNQ.out w').mono fun e w'' ⟨he, hb'⟩ => ⟨he, hw.trans (hb'.mono hw.size)⟩) ?_
            quiet_step ((intro _; rfl))
            by_cases hqx : q < x
            · have hqi : (q : Int) < (x : Int) := by omega
              have HNL := hid (HSF.out (fun h => absurd h.1 (Nat.not_le.2 hqx)))
              have hxq : ¬ (x ≤ q) := Nat.not_le.2 hqx
              clear hqi hqx
              quiet_step ((intro _; rfl))
              quiet_step ((intro _; rfl))
              refine wpQuiet_skipW (by go_simp; exact Nat.not_le.1 hxq) ?_
              quiet_step ((intro _; rfl))
              quiet_step ((intro _; rfl))
              quiet_step ((intro _; rfl))
              refine wpQuiet_skipW (by go_simp; exact Nat.not_le.1 hxq) ?_
              quiet_step ((intro _; rfl))
              quiet_step ((intro _; rfl))
              refine wpQuiet_skipW (by go_simp; exact Nat.not_le.1 hxq) ?_
              refine wpQuiet_skipW (by go_simp; exact Nat.not_le.1 hxq) ?_
              quiet_step ((intro _; rfl))
              quiet_step ((intro _; rfl))
              quiet_step ((intro _; rfl))
              refine wpQuiet_nil ?_
              intro w2 hw2
              have HX2 := hid (noRound HR1.out HNL.out (HBI.out.trans (hw2.mono HBI.out.size)))
              have HC2 := hid ((hw2.block _ (lt_of_block HCI.out)).trans HCI.out)
              have HW2 := hid (HWI.out.trans (hw2.mono HWI.out.size))
              clear hw2
              go_wp2
              go_roundg gO
              case measure => omega
              case rel => exact ⟨x + 1, by omega, by go_num, HX2.out, HC2.out, HW2.out⟩
            · have hqi : ¬ ((q : Int) < (x : Int)) := by omega
              have hqd : decide ((q : Int) < (x : Int)) = false := decide_eq_false hqi
              quiet_step ((intro _; rfl))
              quiet_step ((intro _; rfl))
              refine wpQuiet_load_rowW (by go_simp) 71 _ rfl w.heap.size rfl 71 cc (0, 0) _ HCC.out Try.underlying71 rfl HCS.out ?_
              quiet_step ((intro _; rfl))
              quiet_step ((intro _; rfl))
              quiet_step ((intro _; rfl))
              refine wpQuiet_valueW (by go_simp) (.pointer (some ⟨g, 5 * r, none⟩)) (fun w' hw => by have hc := HBQ.out w' hw; go_simp) ?_
              quiet_step ((intro _; rfl))
              quiet_step ((intro _; rfl))
              refine wpQuiet_load_mid (by go_simp) 79 _ rfl g (5 * r) rfl (wayC (rev t y)) _ HWR.out Try.underlying79 rfl Try.size_way ?_
              refine wpQuiet_callW (by go_simp) 116 #[.agg cc, .agg (wayC (rev t y))] (.int .i64 (r : Int)) (fun w _ => by go_simp) (fun w' hw => (HNR.out w').mono fun e w'' ⟨he, hb'⟩ => ⟨he, hw.trans (hb'.mono hw.size)⟩) ?_
              quiet_step ((intro _; rfl))
              by_cases hrx : r < x
              · have hri : (r : Int) < (x : Int) := by omega
                have HNL := hid (HSF.out (fun h => absurd h.2 (Nat.not_le.2 hrx)))
                clear hrx hqx
                quiet_step ((intro _; rfl))
                quiet_step ((intro _; rfl))
                refine wpQuiet_nil ?_
                intro w2 hw2
                have HX2 := hid (noRound HR1.out HNL.out (HBI.out.trans (hw2.mono HBI.out.size)))
                have HC2 := hid ((hw2.block _ (lt_of_block HCI.out)).trans HCI.out)
                have HW2 := hid (HWI.out.trans (hw2.mono HWI.out.size))
                clear hw2
                go_wp2
                go_roundg gO
                case measure => omega
                case rel => exact ⟨x + 1, by omega, by go_num, HX2.out, HC2.out, HW2.out⟩
              · have hri : ¬ ((r : Int) < (x : Int)) := by omega
                have HN2 := hid (HSN.out ⟨Nat.le_of_not_lt hqx, Nat.le_of_not_lt hrx⟩)
                clear hrx hqx
                quiet_step ((intro _; rfl))
                quiet_step ((intro _; rfl))
                refine wpQuiet_nil ?_
                intro w2 hw2
                have HB2 := hid (HBI.out.trans (hw2.mono HBI.out.size))
                clear hw2
                go_wp2
                go_roundg gI
                case measure => omega
                case rel => exact ⟨j + 1, by omega, by go_num, HN2, HB2.out⟩
      · have hnl : leadB n m t x = false := by unfold leadB; rw [hno]; rfl
        have HNL := hid hnl
        have HR1 := hid (noRound HRO.out HNL.out hb1)
        have HW1 := hid (HB.out.trans (hb1.mono HB.out.size))
        have HC1 := hid ((hb1.block _ (lt_of_block HCH.out)).trans HCH.out)
        clear hb1 hnl hno hc27 hrd
        go_wp2
        go_roundg gO
        case measure => omega
        case rel => exact ⟨x + 1, by omega, by go_num, HR1.out, HC1.out, HW1.out⟩

end Go.Proofs.Ytmdgbcepjnfbnaa
