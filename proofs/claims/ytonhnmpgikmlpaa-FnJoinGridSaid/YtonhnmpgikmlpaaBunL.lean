/- Settled texts in one file. Each begins with what it holds. -/
import Derived.Test.YtonhnmpgikmlpaaBunW
import Derived.Test.YtonhnmpgikmlpaaBunO
import Derived.Test.YtonhnmpgikmlpaaBunP
import Derived.Test.YtonhnmpgikmlpaaBunF
import Derived.Test.YtonhnmpgikmlpaaJoinPI
import Derived.Test.YtonhnmpgikmlpaaColQ
import Derived.Test.YtonhnmpgikmlpaaTwoS
import Derived.Test.YtonhnmpgikmlpaaBunS
import Derived.Test.YtonhnmpgikmlpaaBunV
/- Columns of grids, and what comes by joining their pairings, in plain words. -/
namespace Go.Proofs.Ytonhnmpgikmlpaa
open Go.RowKit

/-- The letters of a column. -/
def colF (m k : Nat) (fl : List UInt8) (r q : Nat) : UInt8 := fl.getD ((0 + r) * m + (k + q)) 0
/-- A column as texts. -/
def colT (n m k : Nat) (ss : List ByteArray) : List ByteArray := ruleG n 1 (colF m k (flat ss))
theorem colT_length (n m k : Nat) (ss : List ByteArray) : (colT n m k ss).length = n := ruleG_length _ _ _
theorem colT_at {n m k q : Nat} {ss : List ByteArray} (hq : q < n) : (colT n m k ss)[q]? = some ⟨(ruleL 1 (colF m k (flat ss) q)).toArray⟩ := by simp [colT, ruleG, hq]
theorem colT_grid {n m k : Nat} {ss : List ByteArray} (hg : IsGrid n m ss) (hk : k < m) : IsGrid n 1 (colT n m k ss) := by
  refine ⟨colT_length _ _ _ _, hg.2.1, hg.2.2.1, by omega, by omega, fun s hs => ?_⟩
  obtain ⟨r, hr, rfl⟩ := List.mem_map.1 hs
  have hr' := List.mem_range.1 hr
  refine ⟨by rw [Lib.size_eq]; show (ruleL 1 _).length = 1; exact ruleL_length _ _, fun b hb => ?_⟩
  have hb : b ∈ ruleL 1 (colF m k (flat ss) r) := hb
  obtain ⟨q, hq, rfl⟩ := List.mem_map.1 hb
  obtain rfl : q = 0 := by have := List.mem_range.1 hq; omega
  have hx : (0 + r) * m + (k + 0) < n * m := lt_of_parts (by omega) (by omega)
  have hcl : (0 + r) * m + (k + 0) < (flat ss).length := by rw [hg.flen]; exact hx
  obtain ⟨b, h1, h2⟩ : ∃ b, (flat ss)[(0 + r) * m + (k + 0)]? = some b ∧ isLet b = true := by
    refine ⟨(flat ss)[(0 + r) * m + (k + 0)], List.getElem?_eq_getElem hcl, ?_⟩
    obtain ⟨s, hs, hxs⟩ := List.mem_flatMap.1 (List.getElem_mem hcl)
    exact (hg.2.2.2.2.2 s hs).2 _ hxs
  unfold colF
  rw [List.getD_eq_getElem?_getD, h1]
  exact h2
theorem col_letters {n m k : Nat} {ss : List ByteArray} (hg : IsGrid n m ss) (hk : k < m) :
    putAll samePos (partVal m 1 0 k (pad (flat ss))) (List.finRange (n * 1)) (pad []) = pad (flat (colT n m k ss)) := by
  have hn5 := hg.2.2.1
  have hfl := hg.flen
  have hcl : (flat (colT n m k ss)).length = n := by have := (colT_grid hg hk).flen; omega
  refine List.ext_getElem? fun q => ?_
  by_cases hq : q < n
  · rw [put_all samePos _ q q (by omega) (by omega) rfl (fun x _ hx => hx)]
    have h1 := flat_at (m := 1) (colT n m k ss) q 0 _ (fun i t _ ht => ((colT_grid hg hk).2.2.2.2.2 t (List.mem_of_getElem? ht)).1) (colT_at hq) (by rw [Lib.size_eq]; show 0 < (ruleL 1 _).length; rw [ruleL_length]; omega)
    rw [Nat.mul_one, Nat.add_zero] at h1
    unfold pad
    rw [List.getElem?_append_left (by omega), h1]
    have hx : (0 + q) * m + (k + 0) < n * m := lt_of_parts (by omega) (by omega)
    show some (partVal m 1 0 k (pad (flat ss)) q) = (ruleL 1 (colF m k (flat ss) q))[0]?
    have e : (ruleL 1 (colF m k (flat ss) q))[0]? = some (colF m k (flat ss) q 0) := by simp [ruleL]
    rw [e]
    unfold partVal colF
    rw [Nat.div_one, Nat.mod_one, pad_getD _ _ (by rw [hfl]; exact hx)]
  · by_cases hq2 : q < 25
    · rw [putAll_at samePos _ q 0 _ (pad []) (by simpa [pad] using hq2) (fun x _ hx => by
        have h1 : x.val = q := hx
        have := x.isLt
        omega) (.inr (by unfold pad; rw [List.nil_append, List.getElem?_replicate]; exact if_pos (by simpa using hq2)))]
      unfold pad
      rw [List.getElem?_append_right (by omega), List.getElem?_replicate, if_pos (by omega)]
    · rw [List.getElem?_eq_none (by rw [putAll_length]; simp [pad]; omega), List.getElem?_eq_none (by rw [pad_length (by omega)]; omega)]

theorem col_cut {n m k r : Nat} {ss : List ByteArray} {s : ByteArray} (h : IsGrid n m ss) (hs : ss[r]? = some s) (h2 : k < m) : s.extract k (k + 1) = ⟨(ruleL 1 (colF m k (flat ss) r)).toArray⟩ := by
  have hsz : s.size = m := (h.2.2.2.2.2 s (List.mem_of_getElem? hs)).1
  have e : (s.extract k (k + 1)).data.toList = ruleL 1 (colF m k (flat ss) r) := by
    rw [Lib.extract_data, Nat.add_sub_cancel_left]
    apply List.ext_getElem?
    intro q
    by_cases hq : q < 1
    · have e2 := flat_at ss r (k + q) s (fun i t _ ht => (h.2.2.2.2.2 t (List.mem_of_getElem? ht)).1) hs (by omega)
      have hl : k + q < s.data.toList.length := by rw [← Lib.size_eq]; omega
      rw [List.getElem?_take_of_lt hq, List.getElem?_drop, List.getElem?_eq_getElem hl]
      rw [List.getElem?_eq_getElem hl] at e2
      simp only [ruleL, colF, Nat.zero_add, List.getElem?_map, List.getElem?_range hq, Option.map_some, List.getD_eq_getElem?_getD, e2, Option.getD_some]
    · rw [List.getElem?_eq_none (by rw [List.length_take]; omega), List.getElem?_eq_none (by rw [ruleL_length]; omega)]
  rw [← e]
theorem col_lens {n : Nat} {t : Int → Int → UInt8} (hn : 1 ≤ n) : lensTo n 1 t (4 * (n * 1)) = [] := by
  unfold lensTo
  rw [leadsTo_all, no_lead fun c _ => col_onR hn (wayN_d c)]
  rfl

/-- The pairing of a column. -/
def pairsC (n m : Nat) (ss : List ByteArray) (k : Nat) : List Int := pairsR n 1 (lett 1 (pad (flat (colT n m k ss))))
theorem pairsC_length (n m : Nat) (ss : List ByteArray) (k : Nat) : (pairsC n m ss k).length = 2 * (n + 1) := pairsR_length _ _ _
theorem bend_ne_self {n m p : Nat} {t : Int → Int → UInt8} (hn : 1 ≤ n) (hm : 1 ≤ m) (hp : p < 2 * (n + m)) : bend_ n m t p ≠ p := fun e => by
  have hpos := blen_pos (t := t) hn hm hp
  have hb := bway_back (t := t) hn hm hp 0 (by omega)
  rw [e] at hb
  exact bway_ne_rev 0 (blen n m t p - 1 - 0) (by omega) (by omega) hb
theorem pairsR_mates {n m : Nat} {t : Int → Int → UInt8} (hn : 1 ≤ n) (hm : 1 ≤ m) : Mates (2 * (n + m)) (bend_ n m t) :=
  ⟨fun _ hq => (bend_facts hn hm hq).2.1, fun _ hq => bend_ne_self hn hm hq, fun _ hq => (back_facts hn hm hq).2⟩
theorem pairsR_pair {n m : Nat} {t : Int → Int → UInt8} (hn : 1 ≤ n) (hn5 : n ≤ 5) (hm : 1 ≤ m) (hm5 : m ≤ 5) : IsPair (pairsR n m t) := listS_pair (pairsR_mates hn hm) (by omega) (by omega)
/-- The pairing of the first columns, joined; the rounds that come. -/
def colsL (n m : Nat) (ss : List ByteArray) : Nat → List Int
  | 0 => pairsC n m ss 0
  | c + 1 => joinedL n (c + 1) (colsL n m ss c) (pairsC n m ss (c + 1))
def colsR (n m : Nat) (ss : List ByteArray) : Nat → Nat
  | 0 => 0
  | c + 1 => colsR n m ss c + joinedR n (c + 1) (colsL n m ss c) (pairsC n m ss (c + 1))
theorem cols_two {n m c : Nat} {ss : List ByteArray} (hn : 1 ≤ n) (hn5 : n ≤ 5) (hc : c + 2 ≤ 5) (h : IsPair (colsL n m ss c) ∧ (colsL n m ss c).length = 2 * (n + (c + 1))) : TwoOf ((n : Nat) : Int) ((c + 1 : Nat) : Int) (colsL n m ss c) ((1 : Nat) : Int) (pairsC n m ss (c + 1)) :=
  ⟨⟨⟨by omega, by omega⟩, ⟨by omega, by omega⟩, h.1, by rw [h.2]; omega⟩, ⟨⟨by omega, by omega⟩, ⟨by omega, by omega⟩, pairsR_pair hn hn5 (by omega) (by omega), by rw [pairsC_length]; omega⟩, by omega⟩
theorem cols_pair {n m : Nat} {ss : List ByteArray} (hn : 1 ≤ n) (hn5 : n ≤ 5) : ∀ c, c + 1 ≤ 5 → IsPair (colsL n m ss c) ∧ (colsL n m ss c).length = 2 * (n + (c + 1))
  | 0, _ => ⟨pairsR_pair hn hn5 (by omega) (by omega), pairsC_length _ _ _ _⟩
  | c + 1, hc => by
    have := joinedL_pair (cols_two hn hn5 (by omega) (cols_pair (m := m) (ss := ss) hn hn5 c (by omega)))
    exact ⟨this.1, this.2⟩
theorem colsR_le {n m : Nat} {ss : List ByteArray} (hn : 1 ≤ n) (hn5 : n ≤ 5) : ∀ c, c + 1 ≤ 5 → colsR n m ss c ≤ 40 * c
  | 0, _ => Nat.le_refl _
  | c + 1, hc => by
    have h1 := colsR_le (m := m) (ss := ss) hn hn5 c (by omega)
    have h2 := joinedR_le n (c + 1) (colsL n m ss c) (pairsC n m ss (c + 1))
    have h3 := cols_pair (m := m) (ss := ss) hn hn5 c (by omega)
    have h4 := pairsC_length n m ss (c + 1)
    have h5 := h3.1.2.1
    show colsR n m ss c + joinedR n (c + 1) (colsL n m ss c) (pairsC n m ss (c + 1)) ≤ _
    omega
end Go.Proofs.Ytonhnmpgikmlpaa

/- JoinGrid and JoinMany of the specification, by their contracts. -/
namespace Go.Proofs.Ytonhnmpgikmlpaa
open Go.RowKit Go.Shelf

set_option maxRecDepth 100000 in
set_option maxHeartbeats 2000000 in
theorem l6jColumn_any (A : Option Addr) (c B n m k : Nat) (ss : List ByteArray) (w : World) (h : Strs w B A ss) (hB : B ≤ w.heap.size) (hg : IsGrid n m ss) (hk : k < m) :
    Calls Try.prog 156 #[.slice A n c, .int .i64 (k : Int)] w fun e w' => ∃ A' c', e = .returned (.slice A' n c') ∧ Strs w' w'.heap.size A' (colT n m k ss) ∧ Below w.heap.size w w' := by
  have HD := hid h
  have HBB := hid hB
  have HG := hid hg
  have HK := hid hk
  have hn5 := hg.2.2.1
  have hm5 := hg.2.2.2.2.1
  have hki5 : (k : Int) ≤ 5 := by omega
  have HNL := hid hg.1
  obtain ⟨kk, hkk⟩ : ∃ kk, k + 1 = kk := ⟨_, rfl⟩
  have HKK := hid hkk
  have hkki : (k : Int) + 1 = (kk : Int) := by omega
  have hkk2 : (k : Int) ≤ (kk : Int) := by omega
  clear h hB hg hk hkk
  go_enter Try.func156, Try.ntmps156
  go_wp2_with fail
  go_loopw [5, 6] (fun (v i : Value) (wr : World) => ∃ r : Nat, r ≤ n ∧ i = .int .i64 r ∧ GrowS wr w.heap.size v ((colT n m k ss).take r) ∧ Below w.heap.size w wr) (fun _ i _ => n - (intOf i).toNat)
  case atStart => exact ⟨0, Nat.zero_le _, rfl, growS_new w w.heap.size (Nat.le_refl _), (Below.refl _ w).alloc (Nat.le_refl _) _⟩
  case round =>
    obtain ⟨r, hr, rfl, hgs, hbel⟩ := hrel
    have HGS := hid hgs
    have HB2 := hid hbel
    clear hgs hbel
    by_cases hlt : r < n
    · have hri : (r : Int) < (n : Int) := by omega
      obtain ⟨b2, off2, s, rfl, _, hks, hc⟩ := (HD.out.below HB2.out HBB.out).at_ (k := r) (by rw [HNL.out]; omega)
      have hsm : s.size = m := (HG.out.2.2.2.2.2 s (List.mem_of_getElem? hks)).1
      have hsmi : ((s.size : Nat) : Int) = (m : Int) := by rw [hsm]
      have hls : kk ≤ s.size := by rw [hsm]; have := HK.out; have := HKK.out; omega
      have hlsi : (kk : Int) ≤ (m : Int) := by omega
      have hcut := col_cut HG.out hks HK.out
      rw [HKK.out] at hcut
      have HCut := hid hcut
      clear hks hsm hcut
      go_wp2_with (at_builtin; refine wpList_appendS rfl _ _ rfl w.heap.size u5 ((colT n m k ss).take r) rfl (HGS.out.alloc _) wr.heap.size 1 rfl (s.extract k kk) (cell_new wr _) ?c3 (Nat.le_trans HB2.out.size (by simp)) ?_)
      case c3 => rw [List.length_take, colT_length]; omega
      intro v' w' hgr hgw
      have HGR := hid hgr
      have HGW := hid hgw
      clear hgr hgw hc
      go_wp2
      go_roundw
      case rel =>
        refine ⟨r + 1, by omega, by go_num, ?_, (HB2.out.alloc HB2.out.size _).grown HGW.out (Nat.le_trans HB2.out.size (by simp)) (fun k e => (ownBlock_lt HGS.out k e).1)⟩
        unfold colT
        rw [ruleG, range_take n r _ hlt, ← HCut.out]
        exact HGR.out
      case measure => simp [intOf]; omega
    · obtain rfl : r = n := by omega
      have HS' := HGS.out
      rw [List.take_of_length_le (by rw [colT_length]; exact Nat.le_refl _)] at HS'
      have HSS := hid HS'
      clear HS'
      go_wp2_with fail
      obtain ⟨A1, cc, hv, hst⟩ := HSS.out.strs
      rw [colT_length] at hv
      subst hv
      go_ret
      exact ⟨A1, cc, rfl, hst, HB2.out⟩

set_option maxRecDepth 100000 in
set_option maxHeartbeats 4000000 in
theorem l6jGrid_any (A : Option Addr) (c B n m : Nat) (ss : List ByteArray) (w : World) (h : Strs w B A ss) (hB : B ≤ w.heap.size) (hg : IsGrid n m ss) :
    Calls Try.prog 104 #[.slice A n c] w fun e w' => Below w.heap.size w w' ∧ ∃ A' c', e = .returned (.tuple #[.slice A' (colsL n m ss (m - 1)).length c', .int .i64 ((colsR n m ss (m - 1) : Nat) : Int)]) ∧ Ints w' w'.heap.size A' (colsL n m ss (m - 1)) := by
  have HD := hid h
  have HBB := hid hB
  have HG := hid hg
  have hn1 := hg.2.1
  have hn5 := hg.2.2.1
  have hm1 := hg.2.2.2.1
  have hm5 := hg.2.2.2.2.1
  have HNL := hid hg.1
  obtain ⟨b, off, s0, rfl, hb, hk0, hc0⟩ := h.at_ (k := 0) (by rw [hg.1]; omega)
  have hm0 : s0.size = m := (hg.2.2.2.2.2 s0 (List.mem_of_getElem? hk0)).1
  have hmi : ((s0.size : Nat) : Int) = (m : Int) := by rw [hm0]
  have HK0 := hid hk0
  have HPB := hid (show b < w.heap.size by omega)
  have HCO := hid (fun k W (hb : Below w.heap.size w W) (hk : k < m) => l6jColumn_any (some ⟨b, off, none⟩) c B n m k ss W (HD.out.below hb HBB.out) (Nat.le_trans HBB.out hb.size) HG.out hk)
  have HPA := hid (fun k A1 c1 (W : World) (hs : Strs W W.heap.size A1 (colT n m k ss)) (hk : k < m) => show Calls Try.prog 80 #[.slice A1 n c1] W fun e w' => ∃ v, e = .returned v ∧ GrowI w' W.heap.size v (pairsC n m ss k) ∧ Below W.heap.size W w' by
    have := l2Pairs_any A1 c1 W.heap.size n 1 _ W hs (Nat.le_refl _) (colT_grid HG.out hk)
    rwa [colT_length] at this)
  have HRO := hid (fun k A1 c1 (W : World) (hs : Strs W W.heap.size A1 (colT n m k ss)) (hk : k < m) => show Calls Try.prog 157 #[.slice A1 n c1] W fun e w' => ∃ v, e = .returned v ∧ GrowI w' W.heap.size v [] ∧ Below W.heap.size W w' by
    have := l3Rounds_any A1 c1 W.heap.size n 1 _ W hs (Nat.le_refl _) (colT_grid HG.out hk)
    rwa [colT_length, col_lens hn1] at this)
  have HCP := hid (fun c (hc : c + 1 ≤ 5) => cols_pair (m := m) (ss := ss) hn1 hn5 c hc)
  have HCT := hid (fun c (hc : c + 2 ≤ 5) => cols_two (m := m) (ss := ss) hn1 hn5 hc (HCP.out c (by omega)))
  have HRL := hid (fun c (hc : c + 1 ≤ 5) => colsR_le (m := m) (ss := ss) hn1 hn5 c hc)
  have HL0 := hid (show colsL n m ss 0 = pairsC n m ss 0 from rfl)
  have HR0 := hid (show colsR n m ss 0 = 0 from rfl)
  have HLS := hid (fun c => show colsL n m ss (c + 1) = joinedL n (c + 1) (colsL n m ss c) (pairsC n m ss (c + 1)) from rfl)
  have HRS := hid (fun c => show colsR n m ss (c + 1) = colsR n m ss c + joinedR n (c + 1) (colsL n m ss c) (pairsC n m ss (c + 1)) from rfl)
  have HPL := hid (fun k => pairsC_length n m ss k)
  have HJR := hid (fun c => joinedR_le n (c + 1) (colsL n m ss c) (pairsC n m ss (c + 1)))
  have HJ := hid (fun c A1 c1 A2 c2 (W : World) (h1 : Ints W W.heap.size A1 (colsL n m ss c)) (h2 : Ints W W.heap.size A2 (pairsC n m ss (c + 1))) (hc : c + 2 ≤ 5) => l6jJoined_any n (c + 1) 1 A1 A2 c1 c2 W.heap.size (colsL n m ss c) (pairsC n m ss (c + 1)) W h1 h2 (Nat.le_refl _) (HCT.out c hc))
  generalize pairsC n m ss = PC at *
  generalize colsL n m ss = CL at *
  generalize colsR n m ss = CR at *
  rw [Nat.add_zero] at hc0
  clear h hB hg hm0 hk0
  go_enter Try.func104, Try.ntmps104
  go_wp2_with fail
  refine (HCO.out 0 w (Below.refl _ _) (by omega)).mono ?_
  rintro e w1 ⟨A1, c1, rfl, hs1, hb1⟩
  have HS1 := hid hs1
  have HB1 := hid hb1
  clear hs1 hb1
  go_wp2_with fail
  refine (HPA.out 0 A1 c1 w1 HS1.out (by omega)).mono ?_
  rintro e w2 ⟨v2, rfl, hg2, hb2⟩
  have HG2 := hid hg2
  have HB2 := hid (HB1.out.trans (hb2.mono HB1.out.size))
  clear hg2 hb2
  obtain ⟨A2, c2, rfl, hi2⟩ := HG2.out.ints
  have HI2 := hid hi2
  clear hi2
  go_wp2_with fail
  refine (HCO.out 0 w2 HB2.out (by omega)).mono ?_
  rintro e w3 ⟨A3, c3, rfl, hs3, hb3⟩
  have HS3 := hid hs3
  have HB3 := hid (HB2.out.trans (hb3.mono HB2.out.size))
  have HI3 := hid ((HI2.out.below hb3 (Nat.le_refl _)).more hb3.size)
  clear hs3 hb3 HG2 HI2
  go_wp2_with fail
  refine (HRO.out 0 A3 c3 w3 HS3.out (by omega)).mono ?_
  rintro e w4 ⟨v4, rfl, hg4, hb4⟩
  have HB4 := hid (HB3.out.trans (hb4.mono HB3.out.size))
  have HI4 := hid ((HI3.out.below hb4 (Nat.le_refl _)).more hb4.size)
  obtain ⟨A4, c4, rfl, _⟩ := hg4.ints
  clear hg4 hb4 HI3
  go_wp2_with fail
  go_loopw [5, 6, 7] (fun (pv rv i : Value) (wr : World) => ∃ (k : Nat) (L : List Int) (R : Nat) (A' : Option Addr) (c' : Nat), 1 ≤ k ∧ k ≤ m ∧ i = .int .i64 k ∧ Hid (L = CL (k - 1)) ∧ Hid (R = CR (k - 1)) ∧ pv = .slice A' L.length c' ∧ rv = .int .i64 (R : Int) ∧ Ints wr wr.heap.size A' L ∧ Below w.heap.size w wr) (fun _ _ i _ => m - (intOf i).toNat)
  case atStart => exact ⟨1, PC 0, 0, A2, c2, by omega, by omega, rfl, hid HL0.out.symm, hid HR0.out.symm, rfl, rfl, HI4.out, HB4.out⟩
  case round =>
    clear HI4 HB4 HB3 HB2 HB1 HS1 HS3
    obtain ⟨k, L, R, A', c', hk1, hk, rfl, HL, HR, rfl, rfl, hi, hb⟩ := hrel
    have HI := hid hi
    have HB := hid hb
    clear hi hb
    have hcl := HB.out.cell (p := ⟨b, off, none⟩) HPB.out
    rw [hc0] at hcl
    by_cases hlt : k < m
    · have hki : (k : Int) < (m : Int) := by omega
      obtain ⟨c9, hc9⟩ : ∃ c9, k = c9 + 1 := ⟨k - 1, by omega⟩
      have HC9 := hid hc9
      have hc95 : c9 + 2 ≤ 5 := by omega
      rw [hc9, Nat.add_sub_cancel] at HL HR
      have HR40 := hid (HRL.out c9 (by omega))
      have HJR40 := hid (HJR.out c9)
      have HLP := hid (HCP.out c9 (by omega))
      have HL1 := hid (HLS.out c9)
      have HR1 := hid (HRS.out c9)
      have HPL1 := hid (HPL.out (c9 + 1))
      rw [← HL.out] at HJR40 HLP HL1 HR1
      rw [← HR.out] at HR40 HR1
      have HJ1 := hid (fun A2 c2 (W : World) (h1 : Ints W W.heap.size A' L) (h2 : Ints W W.heap.size A2 (PC k)) => show Calls Try.prog 102 #[.int .i64 (n : Int), .int .i64 (k : Int), .slice A' L.length c', .int .i64 1, .slice A2 (PC k).length c2] W fun e w' => Below W.heap.size W w' ∧ ∃ g c', e = .returned (.tuple #[.slice (some ⟨g, 0, none⟩) (joinedL n k L (PC k)).length c', .int .i64 ((joinedR n k L (PC k) : Nat) : Int)]) ∧ Row8 w' g (joinedL n k L (PC k)) by
        have := HJ.out c9 A' c' A2 c2 W (by rw [← HL.out]; exact h1) (by rw [← hc9]; exact h2) hc95
        rw [← HL.out, ← hc9] at this
        exact this)
      rw [← hc9] at HJR40 HL1 HR1 HPL1
      have hRi : (R : Int) ≤ 200 := by have := HR40.out; omega
      have hJi : ((joinedR n k L (PC k) : Nat) : Int) ≤ 40 := by have := HJR40.out; have := HLP.out.1.2.1; have := HPL1.out; omega
      generalize joinedR n k L (PC k) = JR at *
      generalize joinedL n k L (PC k) = JL at *
      clear hc9 HL
      go_wp2_with fail
      refine (HCO.out k wr HB.out hlt).mono ?_
      rintro e w5 ⟨A5, c5, rfl, hs5, hb5⟩
      have HS5 := hid hs5
      have HB5 := hid (HB.out.trans (hb5.mono HB.out.size))
      have HI5 := hid ((HI.out.below hb5 (Nat.le_refl _)).more hb5.size)
      clear hs5 hb5
      go_wp2_with fail
      refine (HPA.out k A5 c5 w5 HS5.out hlt).mono ?_
      rintro e w6 ⟨v6, rfl, hg6, hb6⟩
      obtain ⟨A6, c6, rfl, hi6⟩ := hg6.ints
      have HI6 := hid hi6
      have HS6 := hid ((HS5.out.below hb6 (Nat.le_refl _)).more hb6.size)
      have HIL6 := hid ((HI5.out.below hb6 (Nat.le_refl _)).more hb6.size)
      have HB6 := hid (HB5.out.trans (hb6.mono HB5.out.size))
      clear hg6 hb6 hi6
      go_wp2_with fail
      refine (HJ1.out A6 c6 w6 HIL6.out HI6.out).mono ?_
      rintro e w7 ⟨hb7, g7, c7, rfl, hr7⟩
      have HR7 := hid hr7
      have HS7 := hid ((HS6.out.below hb7 (Nat.le_refl _)).more hb7.size)
      have HB7 := hid (HB6.out.trans (hb7.mono HB6.out.size))
      clear hb7 hr7
      go_wp2_with fail
      refine (HRO.out k A5 c5 w7 HS7.out hlt).mono ?_
      rintro e w8 ⟨v8, rfl, hg8, hb8⟩
      obtain ⟨A8, c8, rfl, _⟩ := hg8.ints
      have HR8 := hid (HR7.out.below hb8 HR7.out.lt)
      have HB8 := hid (HB7.out.trans (hb8.mono HB7.out.size))
      clear hg8 hb8
      go_wp2_with fail
      go_roundw
      case rel => exact ⟨k + 1, JL, R + JR, some ⟨g7, 0, none⟩, c7, by omega, by omega, by go_num, hid (by rw [Nat.add_sub_cancel, HL1.out]), hid (by rw [Nat.add_sub_cancel, HR1.out]), rfl, by go_num, HR8.out.ints HR8.out.lt, HB8.out⟩
      case measure => simp [intOf]; omega
    · obtain rfl : m = k := by omega
      go_wp2_with fail
      refine bodyPost_ret (results_tmp2 rfl _ _ _) rfl ?_
      exact ⟨HB.out, A', c', by rw [← HL.out, ← HR.out]; rfl, by rw [← HL.out]; exact HI.out⟩

/-- What JoinGrid comes to; what JoinMany does. -/
def ColsOut (ss : List ByteArray) (l : List Int) (ok : Bool) : Prop :=
  (∃ n m, IsGrid n m ss ∧ l = colsL n m ss (m - 1) ∧ ok = true) ∨ (NoGrid ss ∧ l = [] ∧ ok = false)
theorem ColsOut.uniq {ss : List ByteArray} {l l' : List Int} {ok ok' : Bool} (h : ColsOut ss l ok) (h' : ColsOut ss l' ok') : ok' = ok ∧ l' = l := by
  rcases h with ⟨n, m, h1, rfl, rfl⟩ | ⟨h1, rfl, rfl⟩ <;> rcases h' with ⟨n', m', h1', rfl, rfl⟩ | ⟨h1', rfl, rfl⟩
  · obtain ⟨rfl, rfl⟩ := h1.uniq h1'
    exact ⟨rfl, rfl⟩
  · exact absurd h1 (h1' _ _)
  · exact absurd h1' (h1 _ _)
  · exact ⟨rfl, rfl⟩
theorem ColsOut.len {ss : List ByteArray} {l : List Int} {ok : Bool} (h : ColsOut ss l ok) : l.length ≤ 1048576 := by
  rcases h with ⟨n, m, h1, rfl, _⟩ | ⟨_, rfl, _⟩
  · have := (cols_pair (m := m) (ss := ss) h1.2.1 h1.2.2.1 (m - 1) (by have := h1.2.2.2.1; have := h1.2.2.2.2.1; omega)).1.2.1
    omega
  · simp
def ManyOut (ss : List ByteArray) (x : Int) (ok : Bool) : Prop :=
  (∃ n m, IsGrid n m ss ∧ x = ((colsR n m ss (m - 1) : Nat) : Int) ∧ ok = true) ∨ (NoGrid ss ∧ x = 0 ∧ ok = false)
theorem ManyOut.uniq {ss : List ByteArray} {x x' : Int} {ok ok' : Bool} (h : ManyOut ss x ok) (h' : ManyOut ss x' ok') : x' = x ∧ ok' = ok := by
  rcases h with ⟨n, m, h1, rfl, rfl⟩ | ⟨h1, rfl, rfl⟩ <;> rcases h' with ⟨n', m', h1', rfl, rfl⟩ | ⟨h1', rfl, rfl⟩
  · obtain ⟨rfl, rfl⟩ := h1.uniq h1'
    exact ⟨rfl, rfl⟩
  · exact absurd h1 (h1' _ _)
  · exact absurd h1' (h1 _ _)
  · exact ⟨rfl, rfl⟩

set_option maxRecDepth 100000 in
set_option maxHeartbeats 1000000 in
theorem specJoinGrid_any (A : Option Addr) (c B : Nat) (ss : List ByteArray) (w : World) (h : Strs w B A ss) (hB : B ≤ w.heap.size) (hn : ss.length ≤ 1048576) (hs : ∀ s ∈ ss, s.size ≤ 1048576) :
    Calls Try.prog 45 #[.slice A ss.length c] w fun e w' => Below w.heap.size w w' ∧ ∃ A c l ok, e = .returned (.tuple #[.slice A l.length c, .bool ok]) ∧ ColsOut ss l ok ∧ Ints w' w'.heap.size A l := by
  have HI := hid (specGridIn_any A c B ss w h hn hs)
  have HD := hid h
  clear h hs
  go_enter Try.func45, Try.ntmps45
  go_wp2_with fail
  refine HI.out.mono ?_
  rintro e w' ⟨ok, rfl, hok, d, rfl⟩
  have HO := hid hok
  clear hok
  have HBd := hid (below_drewN' (Below.refl w.heap.size w) d)
  cases ok with
  | false =>
    go_wp2_with fail
    refine bodyPost_ret (results_tmp2 rfl _ _ _) rfl ?_
    exact ⟨HBd.out.alloc (by simp) _, _, _, [], false, rfl, .inr ⟨noGrid_of HO.out, rfl, rfl⟩, fun h => absurd h (by simp)⟩
  | true =>
    obtain ⟨n, m, hg⟩ := HO.out.1 rfl
    have c1 := hid (l6jGrid_any A c B n m ss (w.drewN d) (HD.out.drewN d) hB hg)
    rw [hg.1]
    have HG := hid hg
    clear hg
    go_wp2_with fail
    refine c1.out.mono ?_
    rintro e w1 ⟨hb1, A1, cc, rfl, hint⟩
    have HB1 := hid (HBd.out.trans hb1)
    have HIn := hid hint
    clear hb1 hint
    go_wp2_with fail
    refine bodyPost_ret (results_tmp2 rfl _ _ _) rfl ?_
    exact ⟨HB1.out, A1, cc, _, true, rfl, .inl ⟨n, m, HG.out, rfl, rfl⟩, HIn.out⟩

set_option maxRecDepth 100000 in
set_option maxHeartbeats 1000000 in
theorem specJoinMany_any (A : Option Addr) (c B : Nat) (ss : List ByteArray) (w : World) (h : Strs w B A ss) (hB : B ≤ w.heap.size) (hn : ss.length ≤ 1048576) (hs : ∀ s ∈ ss, s.size ≤ 1048576) :
    Calls Try.prog 48 #[.slice A ss.length c] w fun e w' => Below w.heap.size w w' ∧ ∃ x ok, e = .returned (.tuple #[.int .i64 x, .bool ok]) ∧ ManyOut ss x ok := by
  have HI := hid (specGridIn_any A c B ss w h hn hs)
  have HD := hid h
  clear h hs
  go_enter Try.func48, Try.ntmps48
  go_wp2_with fail
  refine HI.out.mono ?_
  rintro e w' ⟨ok, rfl, hok, d, rfl⟩
  have HO := hid hok
  clear hok
  have HBd := hid (below_drewN' (Below.refl w.heap.size w) d)
  cases ok with
  | false =>
    go_wp2_with fail
    refine bodyPost_ret (results_tmp2 rfl _ _ _) rfl ?_
    exact ⟨HBd.out, 0, false, rfl, .inr ⟨noGrid_of HO.out, rfl, rfl⟩⟩
  | true =>
    obtain ⟨n, m, hg⟩ := HO.out.1 rfl
    have c1 := hid (l6jGrid_any A c B n m ss (w.drewN d) (HD.out.drewN d) hB hg)
    rw [hg.1]
    have HG := hid hg
    clear hg
    go_wp2_with fail
    refine c1.out.mono ?_
    rintro e w1 ⟨hb1, A1, cc, rfl, _⟩
    have HB1 := hid (HBd.out.trans hb1)
    clear hb1
    go_wp2_with fail
    refine bodyPost_ret (results_tmp2 rfl _ _ _) rfl ?_
    exact ⟨HB1.out, _, true, rfl, .inl ⟨n, m, HG.out, rfl, rfl⟩⟩
end Go.Proofs.Ytonhnmpgikmlpaa

/- The pairing of a grid's beams, by its contract: pairs of the program. -/
namespace Go.Proofs.Ytonhnmpgikmlpaa
open Go.RowKit Go.Shelf

set_option maxRecDepth 100000 in
set_option maxHeartbeats 2000000 in
theorem gpairs_any (n m : Nat) (ls : List UInt8) (w : World) (hl : ls.length = 25) (hn1 : 1 ≤ n) (hn5 : n ≤ 5) (hm1 : 1 ≤ m) (hm5 : m ≤ 5) :
    Calls Try.prog 172 #[.agg (gcells n m ls)] w fun e w' => e = .returned (.agg (pairC (padTo (pairsR n m (lett m ls))))) ∧ Below w.heap.size w w' := by
  have HUN := hid (fun w' => unpaired_any w')
  have HPO := hid (fun W => ports_any n m ls W hn5 hm5)
  have HPA := hid (fun q W hq => partner_any n m q ls W hl hn1 hn5 hm1 hm5 hq)
  have HS := hid (show (Try.prog.info? 63).map (·.size) = some (gcells n m ls).size by rw [gcells_size hl]; exact Try.size_grid)
  have HLR := hid (pairsR_length n m (lett m ls))
  have HAT := hid (fun p h => pairsR_at (n := n) (m := m) (p := p) (t := lett m ls) h)
  have HST := hid (show (Try.prog.info? 82).map (·.size) = some (pairC (padTo (pairsR n m (lett m ls)))).size by rw [pairC_size, padTo_length (by rw [pairsR_length]; omega)]; exact Try.size_pair)
  have HZT := hid (show zeroP.size = (pairC (padTo (pairsR n m (lett m ls)))).size by rw [pairC_size, padTo_length (by rw [pairsR_length]; omega)]; rfl)
  obtain ⟨P, hP⟩ : ∃ P, 2 * (n + m) = P := ⟨_, rfl⟩
  rw [hP] at HPO HPA HLR HAT
  have h20 : P ≤ 20 := by omega
  have h20i : (P : Int) ≤ 20 := by omega
  clear hP hn1 hn5 hm1 hm5 hl
  generalize pairsR n m (lett m ls) = L at *
  generalize bend_ n m (lett m ls) = s at *
  generalize gcells n m ls = cs at *
  have H0 := hid (heap_new1 w (.cells cs 63) (.cells zeroP 82))
  have H1 := hid (heap_new0 (w.alloc (.cells cs 63)) (.cells zeroP 82))
  have HB := hid (((Below.refl w.heap.size w).alloc (Nat.le_refl _) (.cells cs 63)).alloc (by simp) (.cells zeroP 82))
  rw [World.size_alloc] at H1
  go_enter Try.func172, Try.ntmps172
  go_wp2_with fail
  generalize World.alloc (World.alloc w _) _ = Y at H0 H1 HB ⊢
  refine (HUN.out _).mono ?_
  rintro e w2 ⟨rfl, hb2⟩
  have J0 := hid ((hb2.block _ (lt_of_block H0.out)).trans H0.out)
  have J1 := hid ((hb2.block _ (lt_of_block H1.out)).trans H1.out)
  have JB := hid (HB.out.trans (hb2.mono HB.out.size))
  have JL := hid (show w.heap.size + 1 < w2.heap.size from lt_of_block J1.out)
  clear hb2
  have N0 := hid (heap_new0 w2 (.cells zeroP 82))
  have HSI := hid (show (Try.prog.info? 82).map (·.size) = some (pairC idL).size by rw [pairC_size]; exact Try.size_pair)
  have K2 := hid (setRow_heap _ _ _ (pairC idL) _ _ N0.out)
  have K1 := hid (show ((w2.alloc (.cells zeroP 82)).setRow w2.heap.size (pairC idL)).heap[w.heap.size + 1]? = some (.cells zeroP 82 (0, 0)) by
    rw [setRow_other _ _ _ _ (by have := JL.out; omega), Below.heap_alloc _ _ _ JL.out]; exact J1.out)
  have K0 := hid (show ((w2.alloc (.cells zeroP 82)).setRow w2.heap.size (pairC idL)).heap[w.heap.size]? = some (.cells cs 63 (0, 0)) by
    rw [setRow_other _ _ _ _ (by have := JL.out; omega), Below.heap_alloc _ _ _ (by have := JL.out; omega)]; exact J0.out)
  have KB := hid (below_setRow' (JB.out.alloc JB.out.size (.cells zeroP 82)) JB.out.size (pairC idL))
  generalize hZ : (w2.alloc (.cells zeroP 82)).setRow w2.heap.size (pairC idL) = Z at K0 K1 K2 KB
  have HZ := hid hZ
  clear hZ
  go_wp2_with (first
    | (refine wpList_store_row rfl 82 _ _ rfl w2.heap.size (pairC idL) rfl rfl 82 zeroP N0.out HSI.out rfl (pairC_one idL) ?_; rw [HZ.out])
    | refine wpList_load_row rfl 63 _ rfl w.heap.size rfl 63 cs (0, 0) _ K0.out Try.underlying63 rfl HS.out ?_)
  refine (HPO.out _).mono ?_
  rintro e w3 ⟨rfl, hb3⟩
  have M0 := hid ((hb3.block _ (lt_of_block K0.out)).trans K0.out)
  have M1 := hid ((hb3.block _ (lt_of_block K1.out)).trans K1.out)
  have M2 := hid ((hb3.block _ (lt_of_block K2.out)).trans K2.out)
  have MB := hid (KB.out.trans (hb3.mono KB.out.size))
  clear hb3
  go_wp2_with fail
  go_loopw [8] (fun (iv : Value) (wr : World) => ∃ q : Nat, q ≤ P ∧ iv = .int .i64 q ∧ wr.heap[w2.heap.size]? = some (.cells (pairC (padTo (L.take q))) 82 (0, 0)) ∧ wr.heap[w.heap.size + 1]? = some (.cells zeroP 82 (0, 0)) ∧ wr.heap[w.heap.size]? = some (.cells cs 63 (0, 0)) ∧ Below w.heap.size w wr) (fun i _ => P - (intOf i).toNat)
  case atStart => exact ⟨0, by omega, rfl, by rw [List.take_zero]; exact M2.out, M1.out, M0.out, MB.out⟩
  case round =>
    obtain ⟨q, hq, rfl, h2, h1, h0, hb⟩ := hrel
    have B0 := hid h0
    have B1 := hid h1
    have B2 := hid h2
    have BB := hid hb
    clear h0 h1 h2 hb
    by_cases hlt : q < P
    · have hqi : (q : Int) < (P : Int) := by omega
      have hpa := hid (HPA.out q wr hlt)
      have hLq := HAT.out q hlt
      obtain ⟨z, hz⟩ : ∃ z, s q = z := ⟨_, rfl⟩
      rw [hz] at hpa hLq
      have HLQ := hid hLq
      clear hz hLq
      go_wp2_with (refine wpList_load_row rfl 63 _ rfl w.heap.size rfl 63 cs (0, 0) _ B0.out Try.underlying63 rfl HS.out ?_)
      refine hpa.out.mono ?_
      rintro e w4 ⟨rfl, hb4⟩
      have C0 := hid ((hb4.block _ (lt_of_block B0.out)).trans B0.out)
      have C1 := hid ((hb4.block _ (lt_of_block B1.out)).trans B1.out)
      have C2 := hid ((hb4.block _ (lt_of_block B2.out)).trans B2.out)
      have CB := hid (BB.out.trans (hb4.mono BB.out.size))
      clear hb4
      have HL20 := hid (padTo_length (l := L.take q) (by rw [List.length_take]; omega))
      obtain ⟨u, hu⟩ : ∃ u, (pairC (padTo (L.take q)))[q]? = some u := ⟨_, Array.getElem?_eq_getElem (by rw [pairC_size, HL20.out]; omega)⟩
      have hc : w4.cell? ⟨w2.heap.size, q, none⟩ = some u := by rw [cell_of_row _ _ _ _ _ _ C2.out]; exact hu
      have hf : w4.frozen? ⟨w2.heap.size, q, none⟩ = false := frozen_of_row _ _ _ _ _ C2.out
      have hq20 : (q : Int) < 20 := by omega
      clear hu
      go_wp2_with fail
      go_roundw
      case rel =>
        refine ⟨q + 1, by omega, by go_num, ?_, ?_, ?_, CB.out.setCell (p := ⟨w2.heap.size, q, none⟩) (by have := JL.out; show w.heap.size ≤ w2.heap.size; omega) _⟩
        · rw [← padTo_step HLQ.out (by omega), ← pairC_set]
          exact heap_setCell_same _ _ _ _ _ _ C2.out
        · have := JL.out
          rw [Below.heap_setCell _ _ _ _ (show w.heap.size + 1 ≠ w2.heap.size by omega)]; exact C1.out
        · have := JL.out
          rw [Below.heap_setCell _ _ _ _ (show w.heap.size ≠ w2.heap.size by omega)]; exact C0.out
      case measure => simp [intOf]; omega
    · obtain rfl : P = q := by omega
      rw [show L.take P = L from List.take_of_length_le (by rw [HLR.out]; omega)] at B2
      go_wp2_with (first
        | refine wpList_load_row rfl 82 _ rfl w2.heap.size rfl 82 (pairC (padTo L)) (0, 0) _ B2.out Try.underlying82 rfl HST.out ?_
        | refine wpList_store_row rfl 82 _ _ rfl (w.heap.size + 1) (pairC (padTo L)) rfl rfl 82 zeroP B1.out HST.out HZT.out (pairC_one _) ?_)
      refine bodyPost_ret (results_cell_row Try.results172 _ _ (w.heap.size + 1) 82 _ (0, 0) _ (by rfl) (setRow_heap _ _ _ _ _ _ B1.out) Try.underlying82 rfl HST.out) rfl ⟨rfl, ?_⟩
      exact below_setRow' BB.out (Nat.le_succ _) _
end Go.Proofs.Ytonhnmpgikmlpaa

/- The pairing of a column, by its contract: column of the program. -/
namespace Go.Proofs.Ytonhnmpgikmlpaa
open Go.RowKit Go.Shelf

/-- What the operations hand back that make a column's pairing. -/
def colRel (cs1 : Array Value) (TL : List Int) (b n : Nat) (i : Nat) (v : Value) (_ : World) : Prop :=
  match i with
  | 0 => v = .agg cs1
  | 1 => v = .agg (pairC TL)
  | 2 => v = .pointer (some ⟨b, 0, none⟩)
  | 3 => v = .int .i64 (n : Int)
  | 4 => v = .pointer (some ⟨b, 1, none⟩)
  | 5 => v = .int .i64 ((1 : Nat) : Int)
  | 6 => v = .agg (pairC (joinL TL n 1 0))
  | _ => True

set_option maxRecDepth 100000 in
set_option maxHeartbeats 4000000 in
theorem column_any (n m k : Nat) (ss : List ByteArray) (w : World) (hg : IsGrid n m ss) (hk : k < m) :
    Calls Try.prog 155 #[.agg (gcells n m (pad (flat ss))), .int .i64 (k : Int)] w fun e w' => e = .returned (.agg (pairC (joinL (padTo (pairsC n m ss k)) n 1 0))) ∧ Below w.heap.size w w' := by
  have hn1 := hg.2.1
  have hn5 := hg.2.2.1
  have hm5 := hg.2.2.2.2.1
  have hgc := colT_grid hg hk
  have HPT := hid (show ∀ W, Calls Try.prog 112 #[.agg (gcells n m (pad (flat ss))), .int .i64 0, .int .i64 ((n : Int) - 1), .int .i64 (k : Int), .int .i64 (k : Int)] W fun e w' => e = .returned (.agg (gcells n 1 (pad (flat (colT n m k ss))))) ∧ Below W.heap.size W w' from fun W => by
    have := part_any n m n 1 0 k (pad (flat ss)) W hg.plen hn5 hm5 hn1 (by omega) (by omega) (by omega)
    rw [col_letters hg hk, show ((0 + n : Nat) : Int) - 1 = (n : Int) - 1 by omega, show ((k + 1 : Nat) : Int) - 1 = (k : Int) by omega] at this
    exact this)
  have HPR := hid (show ∀ W, Calls Try.prog 172 #[.agg (gcells n 1 (pad (flat (colT n m k ss))))] W fun e w' => e = .returned (.agg (pairC (padTo (pairsC n m ss k)))) ∧ Below W.heap.size W w' from fun W => gpairs_any n 1 (pad (flat (colT n m k ss))) W hgc.plen hn1 hn5 (by omega) (by omega))
  have HGC := hid (show (gcells n m (pad (flat ss))).size = 27 from hg.csize)
  have HGC1 := hid (show (gcells n 1 (pad (flat (colT n m k ss)))).size = 27 from hgc.csize)
  have HONE1 := hid (gcells_one n 1 (pad (flat (colT n m k ss))))
  have HLP := hid (padTo_length (l := pairsC n m ss k) (by rw [pairsC_length]; omega))
  have HC00 := hid (gcells_0 n m (pad (flat ss)))
  have HC0 := hid (gcells_0 n 1 (pad (flat (colT n m k ss))))
  have HC1 := hid (gcells_1 n 1 (pad (flat (colT n m k ss))))
  generalize padTo (pairsC n m ss k) = TL at *
  generalize gcells n 1 (pad (flat (colT n m k ss))) = cs1 at *
  generalize gcells n m (pad (flat ss)) = cs at *
  have HSZ0 := hid (show (Try.prog.info? 63).map (·.size) = some cs.size by rw [HGC.out]; exact Try.size_grid)
  have HSZ1 := hid (show (Try.prog.info? 63).map (·.size) = some cs1.size by rw [HGC1.out]; exact Try.size_grid)
  have HZZ1 := hid (show zeroG.size = cs1.size by rw [HGC1.out]; rfl)
  have hki5 : (k : Int) ≤ 5 := by omega
  have hni5 : (n : Int) ≤ 5 := by omega
  have hni1 : 1 ≤ (n : Int) := by omega
  clear hg hk hgc
  have H0 := hid (heap_new1 w (.cells cs 63) (.cells zeroJ 101))
  have H1 := hid (heap_new0 (w.alloc (.cells cs 63)) (.cells zeroJ 101))
  have HB := hid (((Below.refl w.heap.size w).alloc (Nat.le_refl _) (.cells cs 63)).alloc (by simp) (.cells zeroJ 101))
  rw [World.size_alloc] at H1
  have hc00 : ((w.alloc (.cells cs 63)).alloc (.cells zeroJ 101)).cell? ⟨w.heap.size, 0, none⟩ = some (.int .i64 (n : Int)) := by rw [cell_of_row _ _ _ _ _ _ H0.out]; exact HC00.out
  go_enter Try.func155, Try.ntmps155
  go_wp2_with (refine wpList_load_row rfl 63 _ rfl w.heap.size rfl 63 cs (0, 0) _ H0.out Try.underlying63 rfl HSZ0.out ?_)
  generalize World.alloc (World.alloc w _) _ = Y at H0 H1 HB hc00 ⊢
  refine (HPT.out _).mono ?_
  rintro e w1 ⟨rfl, hb1⟩
  have I1 := hid ((hb1.block _ (lt_of_block H1.out)).trans H1.out)
  have IB := hid (HB.out.trans (hb1.mono HB.out.size))
  have IL := hid (lt_of_block I1.out)
  clear hb1 hc00
  have J0 := hid (setRow_heap (w1.alloc (.cells zeroG 63)) w1.heap.size zeroG cs1 63 (0, 0) (heap_new0 w1 _))
  have J1 := hid (show ((w1.alloc (.cells zeroG 63)).setRow w1.heap.size cs1).heap[w.heap.size + 1]? = some (.cells zeroJ 101 (0, 0)) by
    rw [setRow_other _ _ _ _ (by have := IL.out; omega), Below.heap_alloc _ _ _ IL.out]; exact I1.out)
  have JB := hid (below_setRow' (IB.out.alloc IB.out.size (.cells zeroG 63)) IB.out.size cs1)
  go_wp2_with (refine wpList_store_row rfl 63 _ _ rfl w1.heap.size cs1 rfl rfl 63 zeroG (heap_new0 w1 _) HSZ1.out HZZ1.out HONE1.out ?_)
  generalize (w1.alloc (.cells zeroG 63)).setRow w1.heap.size cs1 = X at J0 J1 JB ⊢
  refine wp_region_rel_tail (by kernel_rfl) 7 (by kernel_rfl) (fun us => { tmps := #[.agg cs, .int .i64 (k : Int), .pointer (some ⟨w.heap.size, 0, none⟩), undef, .pointer (some ⟨w.heap.size + 1, 0, none⟩), .pointer (some ⟨w1.heap.size, 0, none⟩), .agg cs, .pointer (some ⟨w.heap.size, 0, none⟩), .int .i64 (n : Int), .int .i64 ((n : Int) - 1), .int .i64 (k : Int), .int .i64 (k : Int), .agg cs1, us 0, us 1, us 2, us 3, us 4, us 5, us 6], defers := [] }) (fun _ => undef) rfl (colRel cs1 TL w1.heap.size n) (fun i v W W' h hb => h) (fun i us v hi => ?_) (fun i us W hi hb hd => ?_) (fun us W hb hr => ?_)
  · match i, hi with
    | 0, _ => rfl
    | 1, _ => rfl
    | 2, _ => rfl
    | 3, _ => rfl
    | 4, _ => rfl
    | 5, _ => rfl
    | 6, _ => rfl
  · have L0 := hid ((hb.block _ (lt_of_block J0.out)).trans J0.out)
    match i, hi with
    | 0, _ => exact wpOp_val (u := .agg cs1) rfl rfl (exec_load_head 63 _ rfl w1.heap.size rfl 63 cs1 (0, 0) cs1 _ L0.out (fun j v h => h) Try.underlying63 rfl HSZ1.out) rfl
    | 1, _ =>
      have h0 : us 0 = _ := hd _ rfl { on := 0, ground := .data } (by simp) rfl
      rw [h0]
      exact wpOp_call rfl rfl (by go_simp) ((HPR.out W).mono fun e w'' ⟨he, hb'⟩ => ⟨_, he, rfl, hb'⟩)
    | 2, _ => exact wpOp_val rfl rfl (by go_simp) rfl
    | 3, _ =>
      have h0 : us 2 = _ := hd _ rfl { on := 2, ground := .data } (by simp) rfl
      rw [h0]
      have hc : W.cell? ⟨w1.heap.size, 0, none⟩ = some (.int .i64 (n : Int)) := by rw [cell_of_row _ _ _ _ _ _ L0.out]; exact HC0.out
      exact wpOp_val rfl rfl (by go_simp) rfl
    | 4, _ => exact wpOp_val rfl rfl (by go_simp) rfl
    | 5, _ =>
      have h0 : us 4 = _ := hd _ rfl { on := 4, ground := .data } (by simp) rfl
      rw [h0]
      have hc : W.cell? ⟨w1.heap.size, 1, none⟩ = some (.int .i64 ((1 : Nat) : Int)) := by rw [cell_of_row _ _ _ _ _ _ L0.out]; exact HC1.out
      exact wpOp_val rfl rfl (by go_simp) rfl
    | 6, _ =>
      have h1 : us 1 = _ := hd _ rfl { on := 1, ground := .data } (by simp) rfl
      have h3 : us 3 = _ := hd _ rfl { on := 3, ground := .data } (by simp) rfl
      have h5 : us 5 = _ := hd _ rfl { on := 5, ground := .data } (by simp) rfl
      rw [h1, h3, h5]
      exact wpOp_val rfl rfl (exec_build3 _ _ _ rfl TL n 1 HLP.out rfl rfl rfl) rfl
  · have h6 : us 6 = _ := hr 6 (by omega)
    rw [h6]
    have L1 := hid ((hb.block _ (lt_of_block J1.out)).trans J1.out)
    have LB := hid (JB.out.trans (hb.mono JB.out.size))
    have HSZ := hid (size_joinL HLP.out n 1 0)
    have HZZ2 := hid (zero_joinL HLP.out n 1 0)
    clear hb hr h6
    generalize us 0 = u0
    generalize us 1 = u1
    generalize us 2 = u2
    generalize us 3 = u3
    generalize us 4 = u4
    generalize us 5 = u5
    refine wpList_store_row rfl 101 _ _ rfl (w.heap.size + 1) (pairC (joinL TL n 1 0)) rfl rfl 101 zeroJ L1.out HSZ.out HZZ2.out (pairC_one _) ?_
    go_wp2_with fail
    refine bodyPost_ret (results_cell_row Try.results155 _ _ (w.heap.size + 1) 101 _ (0, 0) _ (by rfl) (setRow_heap _ _ _ _ _ _ L1.out) Try.underlying101 rfl HSZ.out) rfl ⟨rfl, ?_⟩
    exact below_setRow' LB.out (Nat.le_succ _) _
end Go.Proofs.Ytonhnmpgikmlpaa

/- All columns joined, JoinGrid and JoinMany of the program, by their contracts. -/
namespace Go.Proofs.Ytonhnmpgikmlpaa
open Go.RowKit Go.Shelf

theorem run_field3_joined {l : List Int} (h : l.length = 20) (n m r : Nat) (w : World) : (Instr.field 101 (.agg (pairC (joinL l n m r))) 3).run Try.prog w = .ok (.int .i64 (r : Int)) w := by
  obtain ⟨a0, a1, a2, a3, a4, a5, a6, a7, a8, a9, b0, b1, b2, b3, b4, b5, b6, b7, b8, b9, rfl⟩ := lits20 h
  kernel_rfl
theorem exec_field3 {o : Oper} {a : Act} {w : World} (x : Operand) (ho : o.op = Op.field 101 x 3) (l : List Int) (n m r : Nat) (hl : l.length = 20) (hx : a.eval x = .agg (pairC (joinL l n m r))) :
    (execOp a.eval o).run Try.prog w = .ok (.value (.int .i64 (r : Int))) w := by
  unfold execOp
  simp only [ho, hx]
  simp only [Sem.run_bind, run_field3_joined hl n m r w, Result.andThen_ok, Sem.run_pure]
/-- What the operations hand back that join one more column. -/
def cbesRel (cs cw ck cn : Array Value) (k : Nat) (i : Nat) (v : Value) (_ : World) : Prop :=
  match i with
  | 0 => v = .agg cw
  | 1 => v = .agg cs
  | 2 => v = .int .i64 (k : Int)
  | 3 => v = .agg ck
  | 4 => v = .agg cn
  | _ => True

set_option maxRecDepth 100000 in
set_option maxHeartbeats 4000000 in
theorem joinedColumns_any (n m : Nat) (ss : List ByteArray) (w : World) (hg : IsGrid n m ss) :
    Calls Try.prog 103 #[.agg (gcells n m (pad (flat ss)))] w fun e w' => e = .returned (.agg (pairC (joinL (padTo (colsL n m ss (m - 1))) n m (colsR n m ss (m - 1))))) ∧ Below w.heap.size w w' := by
  have hn1 := hg.2.1
  have hn5 := hg.2.2.1
  have hm1 := hg.2.2.2.1
  have hm5 := hg.2.2.2.2.1
  have HCO := hid (fun k W (hk : k < m) => column_any n m k ss W hg hk)
  have HGC := hid (show (gcells n m (pad (flat ss))).size = 27 from hg.csize)
  have HC1 := hid (gcells_1 n m (pad (flat ss)))
  have HCP := hid (fun c (hc : c + 1 ≤ 5) => cols_pair (m := m) (ss := ss) hn1 hn5 c hc)
  have HRL := hid (fun c (hc : c + 1 ≤ 5) => colsR_le (m := m) (ss := ss) hn1 hn5 c hc)
  have HBS := hid (fun c W (hc : c + 2 ≤ 5) => beside_any (colsL n m ss c) (pairsC n m ss (c + 1)) n (c + 1) 1 (colsR n m ss c) 0 W (HCP.out c (by omega)).1 (pairsR_pair hn1 hn5 (by omega) (by omega)) hn1 hn5 (by omega) (by omega) (by omega) (HCP.out c (by omega)).2 (pairsC_length _ _ _ _) (by have := HRL.out c (by omega); omega) (by omega))
  have HLP := hid (fun c (hc : c + 1 ≤ 5) => padTo_length (HCP.out c hc).1.2.1)
  have HL0 := hid (show pairsC n m ss 0 = colsL n m ss 0 from rfl)
  have HR0 := hid (show 0 = colsR n m ss 0 from rfl)
  have HLS := hid (fun c => show joinedL n (c + 1) (colsL n m ss c) (pairsC n m ss (c + 1)) = colsL n m ss (c + 1) from rfl)
  have HRS := hid (fun c => show colsR n m ss c + 0 + joinedR n (c + 1) (colsL n m ss c) (pairsC n m ss (c + 1)) = colsR n m ss (c + 1) from rfl)
  simp only [HLS.out, HRS.out] at HBS
  generalize colsL n m ss = CL at *
  generalize colsR n m ss = CR at *
  generalize pairsC n m ss = PC at *
  generalize gcells n m (pad (flat ss)) = cs at *
  have HSZ0 := hid (show (Try.prog.info? 63).map (·.size) = some cs.size by rw [HGC.out]; exact Try.size_grid)
  clear hg
  have H0 := hid (heap_new1 w (.cells cs 63) (.cells zeroJ 101))
  have H1 := hid (heap_new0 (w.alloc (.cells cs 63)) (.cells zeroJ 101))
  have HB := hid (((Below.refl w.heap.size w).alloc (Nat.le_refl _) (.cells cs 63)).alloc (by simp) (.cells zeroJ 101))
  rw [World.size_alloc] at H1
  go_enter Try.func103, Try.ntmps103
  go_wp2_with (refine wpList_load_row rfl 63 _ rfl w.heap.size rfl 63 cs (0, 0) _ H0.out Try.underlying63 rfl HSZ0.out ?_)
  generalize World.alloc (World.alloc w _) _ = Y at H0 H1 HB ⊢
  refine (HCO.out 0 _ (by omega)).mono ?_
  rintro e w1 ⟨rfl, hb1⟩
  have I0 := hid ((hb1.block _ (lt_of_block H0.out)).trans H0.out)
  have I1 := hid ((hb1.block _ (lt_of_block H1.out)).trans H1.out)
  have IB := hid (HB.out.trans (hb1.mono HB.out.size))
  have IL := hid (lt_of_block I1.out)
  rw [HL0.out]
  have HSI := hid (size_joinL (HLP.out 0 (by omega)) n 1 0)
  have HZI := hid (zero_joinL (HLP.out 0 (by omega)) n 1 0)
  clear hb1
  have J2 := hid (setRow_heap (w1.alloc (.cells zeroJ 101)) w1.heap.size zeroJ (pairC (joinL (padTo (CL 0)) n 1 0)) 101 (0, 0) (heap_new0 w1 _))
  have J0 := hid (show ((w1.alloc (.cells zeroJ 101)).setRow w1.heap.size (pairC (joinL (padTo (CL 0)) n 1 0))).heap[w.heap.size]? = some (.cells cs 63 (0, 0)) by
    rw [setRow_other _ _ _ _ (by have := IL.out; omega), Below.heap_alloc _ _ _ (by have := IL.out; omega)]; exact I0.out)
  have J1 := hid (show ((w1.alloc (.cells zeroJ 101)).setRow w1.heap.size (pairC (joinL (padTo (CL 0)) n 1 0))).heap[w.heap.size + 1]? = some (.cells zeroJ 101 (0, 0)) by
    rw [setRow_other _ _ _ _ (by have := IL.out; omega), Below.heap_alloc _ _ _ IL.out]; exact I1.out)
  have JB := hid (below_setRow' (IB.out.alloc IB.out.size (.cells zeroJ 101)) IB.out.size (pairC (joinL (padTo (CL 0)) n 1 0)))
  generalize hX : (w1.alloc (.cells zeroJ 101)).setRow w1.heap.size (pairC (joinL (padTo (CL 0)) n 1 0)) = X at J0 J1 J2 JB
  have HX := hid hX
  clear hX
  go_wp2_with (refine wpList_store_row rfl 101 _ _ rfl w1.heap.size (pairC (joinL (padTo (CL 0)) n 1 0)) rfl rfl 101 zeroJ (heap_new0 w1 _) HSI.out HZI.out (pairC_one _) ?_; rw [HX.out])
  have HGG := hid (show w.heap.size ≤ w1.heap.size ∧ w.heap.size + 1 ≠ w1.heap.size ∧ w.heap.size ≠ w1.heap.size by have := IL.out; omega)
  generalize w1.heap.size = g at *
  go_loopw [4] (fun (iv : Value) (wr : World) => ∃ k c : Nat, k ≤ m ∧ Hid (k = c + 1) ∧ iv = .int .i64 k ∧ wr.heap[g]? = some (.cells (pairC (joinL (padTo (CL c)) n k (CR c))) 101 (0, 0)) ∧ wr.heap[w.heap.size]? = some (.cells cs 63 (0, 0)) ∧ wr.heap[w.heap.size + 1]? = some (.cells zeroJ 101 (0, 0)) ∧ Below w.heap.size w wr) (fun i _ => m - (intOf i).toNat)
  case atStart => exact ⟨1, 0, by omega, hid rfl, rfl, by rw [← HR0.out]; exact J2.out, J0.out, J1.out, JB.out⟩
  case round =>
    clear J0 J1 J2 JB
    obtain ⟨k, c, hk, HK, rfl, h2, h0, h1, hb⟩ := hrel
    have B0 := hid h0
    have B1 := hid h1
    have B2 := hid h2
    have BB := hid hb
    have hcc : wr.cell? ⟨w.heap.size, 1, none⟩ = some (.int .i64 (m : Int)) := by rw [cell_of_row _ _ _ _ _ _ h0]; exact HC1.out
    clear h0 h1 h2 hb
    have HSJ := hid (size_joinL (HLP.out c (by have := HK.out; omega)) n k (CR c))
    by_cases hlt : k < m
    · have hki : (k : Int) < (m : Int) := by omega
      have hb1 := hid (fun W => HCO.out k W hlt)
      have hb2 := hid (fun W => HBS.out c W (by have := HK.out; omega))
      have HSN := hid (size_joinL (HLP.out (c + 1) (by have := HK.out; omega)) n (k + 1) (CR (c + 1)))
      have HZN := hid (show (pairC (joinL (padTo (CL c)) n k (CR c))).size = (pairC (joinL (padTo (CL (c + 1))) n (k + 1) (CR (c + 1)))).size by
        rw [pairC_size, pairC_size, joinL_length (HLP.out c (by have := HK.out; omega)), joinL_length (HLP.out (c + 1) (by have := HK.out; omega))])
      have HON := hid (pairC_one (joinL (padTo (CL (c + 1))) n (k + 1) (CR (c + 1))))
      rw [← HK.out] at hb2 HSN HZN HON
      generalize hcn : pairC (joinL (padTo (CL k)) n (k + 1) (CR k)) = cn at hb2 HSN HZN HON
      have HCN := hid hcn
      clear hcn
      generalize pairC (joinL (padTo (PC k)) n 1 0) = ck at *
      generalize pairC (joinL (padTo (CL c)) n k (CR c)) = cw at *
      go_wp2_with fail
      refine wp_region_rel_tail (by kernel_rfl) 5 (by kernel_rfl) (fun us => { tmps := #[.agg cs, .pointer (some ⟨w.heap.size, 0, none⟩), .pointer (some ⟨w.heap.size + 1, 0, none⟩), .pointer (some ⟨g, 0, none⟩), .int .i64 (k : Int), .agg cs, .agg (pairC (joinL (padTo (CL 0)) n 1 0)), .int .i64 (k : Int), .pointer (some ⟨w.heap.size, 1, none⟩), .int .i64 (m : Int), .bool true, u11, u12, us 0, us 1, us 2, us 3, us 4, undef], defers := [] })
        (fun i => if i = 0 then u13 else if i = 1 then u14 else if i = 2 then u15 else if i = 3 then u16 else u17) rfl (cbesRel cs cw ck cn k) (fun i v W W' h hb => h) (fun i us v hi => ?_) (fun i us W hi hb hd => ?_) (fun us W hb hr => ?_)
      · match i, hi with
        | 0, _ => rfl
        | 1, _ => rfl
        | 2, _ => rfl
        | 3, _ => rfl
        | 4, _ => rfl
      · have L0 := hid ((hb.block _ (lt_of_block B0.out)).trans B0.out)
        have L2 := hid ((hb.block _ (lt_of_block B2.out)).trans B2.out)
        match i, hi with
        | 0, _ => exact wpOp_val rfl rfl (exec_load_row 101 _ rfl g rfl 101 cw (0, 0) _ L2.out Try.underlying101 rfl HSJ.out) rfl
        | 1, _ => exact wpOp_val rfl rfl (exec_load_row 63 _ rfl w.heap.size rfl 63 cs (0, 0) _ L0.out Try.underlying63 rfl HSZ0.out) rfl
        | 2, _ => exact wpOp_val rfl rfl (by go_simp) rfl
        | 3, _ =>
          have h1 : us 1 = _ := hd _ rfl { on := 1, ground := .data } (by simp) rfl
          have h2 : us 2 = _ := hd _ rfl { on := 2, ground := .data } (by simp) rfl
          rw [h1, h2]
          exact wpOp_call rfl rfl (by go_simp) ((hb1.out W).mono fun e w'' ⟨he, hb'⟩ => ⟨_, he, rfl, hb'⟩)
        | 4, _ =>
          have h0 : us 0 = _ := hd _ rfl { on := 0, ground := .data } (by simp) rfl
          have h3 : us 3 = _ := hd _ rfl { on := 3, ground := .data } (by simp) rfl
          rw [h0, h3]
          exact wpOp_call rfl rfl (by go_simp) ((hb2.out W).mono fun e w'' ⟨he, hb'⟩ => ⟨_, he, rfl, hb'⟩)
      · have h0 : us 0 = _ := hr 0 (by omega)
        have h1 : us 1 = _ := hr 1 (by omega)
        have h2 : us 2 = _ := hr 2 (by omega)
        have h3 : us 3 = _ := hr 3 (by omega)
        have h4 : us 4 = _ := hr 4 (by omega)
        rw [h0, h1, h2, h3, h4]
        clear h0 h1 h2 h3 h4 hr
        have L0 := hid ((hb.block _ (lt_of_block B0.out)).trans B0.out)
        have L1 := hid ((hb.block _ (lt_of_block B1.out)).trans B1.out)
        have L2 := hid ((hb.block _ (lt_of_block B2.out)).trans B2.out)
        have LB := hid (BB.out.trans (hb.mono BB.out.size))
        have K2 := hid (setRow_heap _ _ _ cn _ _ L2.out)
        have K0 := hid (show (W.setRow g cn).heap[w.heap.size]? = some (.cells cs 63 (0, 0)) by rw [setRow_other _ _ _ _ HGG.out.2.2]; exact L0.out)
        have K1 := hid (show (W.setRow g cn).heap[w.heap.size + 1]? = some (.cells zeroJ 101 (0, 0)) by rw [setRow_other _ _ _ _ HGG.out.2.1]; exact L1.out)
        have KB := hid (below_setRow' LB.out HGG.out.1 cn)
        clear hb
        refine wpList_store_row rfl 101 _ _ rfl g cn rfl rfl 101 cw L2.out HSN.out HZN.out HON.out ?_
        generalize W.setRow g cn = Z at K0 K1 K2 KB ⊢
        go_wp2_with fail
        go_roundw
        case rel => exact ⟨k + 1, k, by omega, hid rfl, by go_num, by rw [HCN.out]; exact K2.out, K0.out, K1.out, KB.out⟩
        case measure => simp [intOf]; omega
    · obtain rfl : m = k := by omega
      have HCM := hid (show c = m - 1 by have := HK.out; omega)
      have HZ2 := hid (zero_joinL (HLP.out c (by have := HK.out; omega)) n m (CR c))
      generalize hcw : pairC (joinL (padTo (CL c)) n m (CR c)) = cw at *
      have HO := hid (show cw.all (·.oneCell') = true by rw [← hcw]; exact pairC_one _)
      have HCW := hid hcw
      clear hcw
      go_wp2_with (first
        | refine wpList_load_row rfl 101 _ rfl g rfl 101 cw (0, 0) _ B2.out Try.underlying101 rfl HSJ.out ?_
        | refine wpList_store_row rfl 101 _ _ rfl (w.heap.size + 1) cw rfl rfl 101 zeroJ B1.out HSJ.out HZ2.out HO.out ?_)
      refine bodyPost_ret (results_cell_row Try.results103 _ _ (w.heap.size + 1) 101 _ (0, 0) _ (by rfl) (setRow_heap _ _ _ _ _ _ B1.out) Try.underlying101 rfl HSJ.out) rfl ⟨by rw [← HCM.out, HCW.out], ?_⟩
      exact below_setRow' BB.out (Nat.le_succ _) _

set_option maxRecDepth 100000 in
set_option maxHeartbeats 2000000 in
theorem implJoinGrid_any (A : Option Addr) (c : Nat) (ss : List ByteArray) (w : World) (h : Strs w w.heap.size A ss) (hn : ss.length ≤ 1048576) (hs : ∀ s ∈ ss, s.size ≤ 1048576) :
    Calls Try.prog 44 #[.slice A ss.length c] w fun e w' => Below w.heap.size w w' ∧ ∃ A c l ok, e = .returned (.tuple #[.slice A l.length c, .bool ok]) ∧ ColsOut ss l ok ∧ Own3 w' w.heap.size A l := by
  have HR := hid (readGrid_any A c ss w h hn hs)
  clear h hs
  go_enter Try.func44, Try.ntmps44
  go_wp2_with fail
  refine HR.out.mono ?_
  rintro e w1 ⟨hbel, ⟨n, m, hg, rfl⟩ | ⟨hno, rfl⟩⟩
  · have HB := hid hbel
    have HGr := hid hg
    have HS := hid (show (Try.prog.info? 63).map (·.size) = some (gcells n m (pad (flat ss))).size by rw [hg.csize]; exact Try.size_grid)
    have HZ := hid (show zeroG.size = (gcells n m (pad (flat ss))).size by rw [hg.csize]; rfl)
    have HL := hid (setRow_heap (w1.alloc (.cells zeroG 63)) w1.heap.size zeroG (gcells n m (pad (flat ss))) 63 (0, 0) (heap_new0 w1 _))
    have HW := hid (HB.out.trans (below_setRow' ((Below.refl _ w1).alloc HB.out.size (.cells zeroG 63)) HB.out.size (gcells n m (pad (flat ss)))))
    have HJ := hid (fun w' => joinedColumns_any n m ss w' hg)
    have HCP := hid (cols_pair (m := m) (ss := ss) hg.2.1 hg.2.2.1 (m - 1) (by have := hg.2.2.2.1; have := hg.2.2.2.2.1; omega)).1
    have HLI := hid (fun W => pair_plist (colsL n m ss (m - 1)) W HCP.out)
    have HPL := hid (padTo_length HCP.out.2.1)
    clear hbel hg
    go_wp2_with (first
      | refine wpList_store_row rfl 63 _ _ rfl w1.heap.size (gcells n m (pad (flat ss))) rfl rfl 63 zeroG (heap_new0 w1 _) HS.out HZ.out (gcells_one _ _ _) ?_
      | refine wpList_load_row rfl 63 _ rfl w1.heap.size rfl 63 (gcells n m (pad (flat ss))) (0, 0) _ HL.out Try.underlying63 rfl HS.out ?_)
    refine (HJ.out _).mono ?_
    rintro e w2 ⟨rfl, hb2⟩
    have HB2 := hid (HW.out.trans (hb2.mono HW.out.size))
    clear hb2
    go_wp2_with (refine wpList_exec rfl (exec_field0 _ rfl (padTo (colsL n m ss (m - 1))) n m (colsR n m ss (m - 1)) HPL.out rfl) ?_)
    refine (HLI.out _).mono ?_
    rintro e w3 ⟨v, rfl, hg3, hb3⟩
    obtain ⟨A', c', rfl, hown⟩ := (hg3.lower HB2.out.size).own
    have HOW := hid hown
    have B3 := hid (HB2.out.trans (hb3.mono HB2.out.size))
    clear hg3 hb3 hown
    go_wp2_with fail
    refine bodyPost_ret (results_tmp2 rfl _ _ _) rfl ?_
    exact ⟨B3.out, A', c', _, true, rfl, .inl ⟨n, m, HGr.out, rfl, rfl⟩, HOW.out⟩
  · have HB := hid hbel
    have HGr := hid hno
    clear hbel hno
    go_wp2_with (refine wpList_store_row rfl 63 _ _ rfl w1.heap.size zeroG rfl rfl 63 zeroG (heap_new0 w1 _) Try.size_grid rfl (gcells_one 0 0 (pad [])) ?_)
    refine bodyPost_ret (results_tmp2 rfl _ _ _) rfl ?_
    exact ⟨HB.out.trans (below_setRow' ((Below.refl _ w1).alloc HB.out.size _) HB.out.size _), none, 0, [], false, rfl, .inr ⟨HGr.out, rfl, rfl⟩, .inl ⟨rfl, rfl⟩⟩

set_option maxRecDepth 100000 in
set_option maxHeartbeats 2000000 in
theorem implJoinMany_any (A : Option Addr) (c : Nat) (ss : List ByteArray) (w : World) (h : Strs w w.heap.size A ss) (hn : ss.length ≤ 1048576) (hs : ∀ s ∈ ss, s.size ≤ 1048576) :
    Calls Try.prog 47 #[.slice A ss.length c] w fun e w' => Below w.heap.size w w' ∧ ∃ x ok, e = .returned (.tuple #[.int .i64 x, .bool ok]) ∧ ManyOut ss x ok := by
  have HR := hid (readGrid_any A c ss w h hn hs)
  clear h hs
  go_enter Try.func47, Try.ntmps47
  go_wp2_with fail
  refine HR.out.mono ?_
  rintro e w1 ⟨hbel, ⟨n, m, hg, rfl⟩ | ⟨hno, rfl⟩⟩
  · have HB := hid hbel
    have HGr := hid hg
    have HS := hid (show (Try.prog.info? 63).map (·.size) = some (gcells n m (pad (flat ss))).size by rw [hg.csize]; exact Try.size_grid)
    have HZ := hid (show zeroG.size = (gcells n m (pad (flat ss))).size by rw [hg.csize]; rfl)
    have HL := hid (setRow_heap (w1.alloc (.cells zeroG 63)) w1.heap.size zeroG (gcells n m (pad (flat ss))) 63 (0, 0) (heap_new0 w1 _))
    have HW := hid (HB.out.trans (below_setRow' ((Below.refl _ w1).alloc HB.out.size (.cells zeroG 63)) HB.out.size (gcells n m (pad (flat ss)))))
    have HJ := hid (fun w' => joinedColumns_any n m ss w' hg)
    have HCP := hid (cols_pair (m := m) (ss := ss) hg.2.1 hg.2.2.1 (m - 1) (by have := hg.2.2.2.1; have := hg.2.2.2.2.1; omega)).1
    have HPL := hid (padTo_length HCP.out.2.1)
    clear hbel hg
    go_wp2_with (first
      | refine wpList_store_row rfl 63 _ _ rfl w1.heap.size (gcells n m (pad (flat ss))) rfl rfl 63 zeroG (heap_new0 w1 _) HS.out HZ.out (gcells_one _ _ _) ?_
      | refine wpList_load_row rfl 63 _ rfl w1.heap.size rfl 63 (gcells n m (pad (flat ss))) (0, 0) _ HL.out Try.underlying63 rfl HS.out ?_)
    refine (HJ.out _).mono ?_
    rintro e w2 ⟨rfl, hb2⟩
    have HB2 := hid (HW.out.trans (hb2.mono HW.out.size))
    clear hb2
    go_wp2_with (refine wpList_exec rfl (exec_field3 _ rfl (padTo (colsL n m ss (m - 1))) n m (colsR n m ss (m - 1)) HPL.out rfl) ?_)
    refine bodyPost_ret (results_tmp2 rfl _ _ _) rfl ?_
    exact ⟨HB2.out, _, true, rfl, .inl ⟨n, m, HGr.out, rfl, rfl⟩⟩
  · have HB := hid hbel
    have HGr := hid hno
    clear hbel hno
    go_wp2_with (refine wpList_store_row rfl 63 _ _ rfl w1.heap.size zeroG rfl rfl 63 zeroG (heap_new0 w1 _) Try.size_grid rfl (gcells_one 0 0 (pad [])) ?_)
    refine bodyPost_ret (results_tmp2 rfl _ _ _) rfl ?_
    exact ⟨HB.out.trans (below_setRow' ((Below.refl _ w1).alloc HB.out.size _) HB.out.size _), 0, false, rfl, .inr ⟨HGr.out, rfl, rfl⟩⟩
end Go.Proofs.Ytonhnmpgikmlpaa
