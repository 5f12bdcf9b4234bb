/- l91Some: a grid that is drawn, seldom spoilt, by a loose contract. -/
import Derived.Test.YtmdgbcepjnfbnaaDrawOf
namespace Go.Proofs.Ytmdgbcepjnfbnaa
open Go.RowKit Go.Shelf

set_option maxRecDepth 100000 in
set_option maxHeartbeats 2000000 in
theorem l91Some_any (g P R C : Nat) (w : World) (h : Rd w g P) (hP : P ≤ 80000) (hR1 : 1 ≤ R) (hR : R ≤ 6) (hC1 : 1 ≤ C) (hC : C ≤ 6) :
    Calls Try.prog 63 #[.pointer (some ⟨g, 0, none⟩), .int .i64 R, .int .i64 C] w fun e w' => (∃ gb c ts, e = .returned (.slice (some ⟨gb, 0, none⟩) ts.length c) ∧ w.heap.size ≤ gb ∧ Row9 w' gb ts ∧ 1 ≤ ts.length ∧ ts.length ≤ R ∧ ∀ s ∈ ts, 1 ≤ s.size ∧ s.size ≤ C + 1) ∧ Rd w' g (P + 205) ∧ w.grownBy w' (some g) := by
  have HGO := hid h.lt
  have HPK := hid (fun p q W (hr : Rd W g p) (hp : p ≤ 99999) (hq : 1 ≤ q) (hq2 : q ≤ 1000) => pick_rd g p q W hr hp hq hq2)
  have HOF := hid (fun p n m W (hr : Rd W g p) (hp : p ≤ 90000) (hn : n ≤ 10) (hm1 : 1 ≤ m) (hm : m ≤ 10) => l91Of_any g p n m W hr hp hn hm1 hm)
  have HP1 := hid (HPK.out P R w h (by omega) hR1 (by omega))
  clear h
  go_enter Try.func63, Try.ntmps63
  go_wp2_with fail
  refine HP1.out.mono ?_
  rintro e w1 ⟨⟨n0, hn0, rfl⟩, hrd, hgw, hsz⟩
  obtain ⟨n, hn⟩ : ∃ n, 1 + n0 = n := ⟨_, rfl⟩
  have hni : (1 : Int) + (n0 : Int) = (n : Int) := by omega
  have hn1 : 1 ≤ n := by omega
  have hnR : n ≤ R := by omega
  have HW1 := hid hgw
  have HP2 := hid (HPK.out _ C w1 hrd (by omega) hC1 (by omega))
  clear hrd hgw hsz HP1 hn
  go_wp2_with fail
  refine HP2.out.mono ?_
  rintro e w2 ⟨⟨m0, hm0, rfl⟩, hrd, hgw, hsz⟩
  obtain ⟨m, hm⟩ : ∃ m, 1 + m0 = m := ⟨_, rfl⟩
  have hmi : (1 : Int) + (m0 : Int) = (m : Int) := by omega
  have hm1 : 1 ≤ m := by omega
  have hmC : m ≤ C := by omega
  have HW2 := hid (gby_trans HW1.out hgw)
  have HO2 := hid (HOF.out _ n m w2 hrd (by omega) (by omega) hm1 (by omega))
  clear hrd hgw hsz HP2 hm
  go_wp2_with fail
  refine HO2.out.mono ?_
  rintro e w3 ⟨⟨v, ts, rfl, hgs, hl, ht⟩, hrd, hgw⟩
  have HW3 := hid (gby_trans HW2.out hgw)
  have HZ := hid HW2.out.size
  have HTX := hid ht
  have HL := hid hl
  have HP3 := hid (HPK.out _ 60 w3 hrd (by omega) (by omega) (by omega))
  obtain ⟨gb, cap, cur, hv, hbase, hgb, htake⟩ : ∃ gb cap cur, v = .slice (some ⟨gb, 0, none⟩) n cap ∧ w2.heap.size ≤ gb ∧ w3.heap[gb]? = some (.cells cur 9 (0, 0)) ∧ ∀ (k : Nat) (t : ByteArray), ts[k]? = some t → cur[k]? = some (.string t) := by
    rcases hgs.2 with ⟨_, h0⟩ | ⟨g', cap, cur, h1, h2, h3, _, _, _, h4⟩
    · omega
    · refine ⟨g', cap, cur, by rw [h1, hl], h2, h3, fun k t hk => ?_⟩
      have hl := (List.getElem?_eq_some_iff.1 hk).1
      have e : (strsV ts)[k]? = some (.string t) := by simp [strsV, hk]
      rw [← h4, List.getElem?_take_of_lt (by omega)] at e
      rw [← Array.getElem?_toList, e]
  subst hv
  have HBA := hid hbase
  have HGB := hid hgb
  have HTK := hid htake
  clear hrd hgw hgs hl ht HO2 hbase hgb htake
  go_wp2_with fail
  refine HP3.out.mono ?_
  rintro e w4 ⟨⟨q, hq, rfl⟩, hrd, hgw, hsz⟩
  have HRD4 := hid hrd
  have HW4 := hid (gby_trans HW3.out hgw)
  have HGB4 := hid (show w4.heap[gb]? = some (.cells cur 9 (0, 0)) from (hgw.block gb (lt_of_block HGB.out) (fun e => by have h1 := Option.some.inj e; have h2 := HGO.out; have h3 := HBA.out; have h4 := HZ.out; omega)).trans HGB.out)
  clear hrd hgw hsz HP3
  have hn0n : (0 : Int) < (n : Int) := by omega
  have KEY := hid (show ∀ (k : Nat) (t : ByteArray), k < n → 1 ≤ t.size → t.size ≤ C + 1 → (∃ gb' c ts, Ending.returned (Value.slice (some ⟨gb, 0, none⟩) n cap) = .returned (.slice (some ⟨gb', 0, none⟩) ts.length c) ∧ w.heap.size ≤ gb' ∧ Row9 (w4.setCell ⟨gb, k, none⟩ (.string t)) gb' ts ∧ 1 ≤ ts.length ∧ ts.length ≤ R ∧ ∀ s ∈ ts, 1 ≤ s.size ∧ s.size ≤ C + 1) ∧ Rd (w4.setCell ⟨gb, k, none⟩ (.string t)) g (P + 205) ∧ w.grownBy (w4.setCell ⟨gb, k, none⟩ (.string t)) (some g) from fun k t hk h1 h2 => by
    have e : w4.setCell ⟨gb, k, none⟩ (.string t) = w4.setRow gb (cur.setIfInBounds k (.string t)) := setCell_eq_setRow _ _ _ _ _ _ _ HGB4.out
    rw [e]
    have hr : (w4.setRow gb (cur.setIfInBounds k (.string t))).heap[gb]? = some (.cells (cur.setIfInBounds k (.string t)) 9 (0, 0)) := setRow_heap _ _ _ _ _ _ HGB4.out
    have hgb : g < gb := by have h2 := HGO.out; have h3 := HBA.out; have h4 := HZ.out; omega
    have hg2 : w4.grownBy (w4.setRow gb (cur.setIfInBounds k (.string t))) (some gb) := ⟨rfl, rfl, rfl, by simp, fun j hj hne => setRow_other _ _ _ _ (fun e => hne (by rw [e]))⟩
    have hrow : Row9 (w4.setRow gb (cur.setIfInBounds k (.string t))) gb (ts.set k t) := ⟨_, hr, fun j u hj => by
      by_cases hjk : j = k
      · subst hjk
        rw [List.getElem?_set_self (by rw [HL.out]; exact hk)] at hj
        cases hj
        have hks : j < cur.size := by
          obtain ⟨s, hs⟩ : ∃ s, ts[j]? = some s := ⟨_, List.getElem?_eq_getElem (by rw [HL.out]; exact hk)⟩
          exact (Array.getElem?_eq_some_iff.1 (HTK.out _ _ hs)).1
        rw [Array.getElem?_setIfInBounds_self_of_lt hks]
      · rw [List.getElem?_set_ne (fun e => hjk e.symm)] at hj
        rw [Array.getElem?_setIfInBounds_ne (fun e => hjk e.symm)]
        exact HTK.out _ _ hj⟩
    refine ⟨⟨_, cap, ts.set k t, by rw [List.length_set, HL.out], Nat.le_trans HZ.out HBA.out, hrow, by rw [List.length_set, HL.out]; exact hn1, by rw [List.length_set, HL.out]; exact hnR, fun s hs => ?_⟩, (HRD4.out.kept hg2 (fun j e => by cases e; exact hgb)).more (by omega), gby_new HW4.out hg2 (fun j e => by cases e; have h3 := HBA.out; have h4 := HZ.out; omega)⟩
    rcases List.mem_or_eq_of_mem_set hs with h | rfl
    · have := (HTX.out s h).1; omega
    · exact ⟨h1, h2⟩)
  by_cases hq0 : q = 0
  · subst hq0
    obtain ⟨s0, hs0⟩ : ∃ s0, ts[0]? = some s0 := ⟨_, List.getElem?_eq_getElem (by rw [HL.out]; omega)⟩
    have hc0 : w4.cell? ⟨gb, 0, none⟩ = some (.string s0) := by rw [cell_of_row _ _ _ _ _ _ HGB4.out]; exact HTK.out _ _ hs0
    have hf0 : w4.frozen? ⟨gb, 0, none⟩ = false := frozen_of_row _ _ _ _ _ HGB4.out
    have hsz0 : s0.size = m := (HTX.out s0 (List.mem_of_getElem? hs0)).1
    have hszi : (1 : Int) ≤ ((s0.size : Nat) : Int) := by omega
    go_wp2_with fail
    go_ret
    exact KEY.out 0 _ (by omega) (by rw [ByteArray.size_append, ByteArray.size_extract]; show 1 ≤ _ + 1; omega) (by rw [ByteArray.size_append, ByteArray.size_extract]; show _ + 1 ≤ _; omega)
  · by_cases hq1 : q = 1
    · subst hq1
      obtain ⟨s1, hs1⟩ : ∃ s1, ts[n - 1]? = some s1 := ⟨_, List.getElem?_eq_getElem (by rw [HL.out]; omega)⟩
      obtain ⟨nn, hnn⟩ : ∃ nn, n - 1 = nn := ⟨_, rfl⟩
      rw [hnn] at hs1
      have hnni : (n : Int) - 1 = (nn : Int) := by omega
      have hnn0 : (nn : Int) < (n : Int) := by omega
      have hc0 : w4.cell? ⟨gb, nn, none⟩ = some (.string s1) := by rw [cell_of_row _ _ _ _ _ _ HGB4.out]; exact HTK.out _ _ hs1
      have hf0 : w4.frozen? ⟨gb, nn, none⟩ = false := frozen_of_row _ _ _ _ _ HGB4.out
      have hsz0 : s1.size = m := (HTX.out s1 (List.mem_of_getElem? hs1)).1
      clear hnn
      go_wp2_with fail
      go_ret
      exact KEY.out nn _ (by omega) (by rw [ByteArray.size_append]; show 1 ≤ _ + 1; omega) (by rw [ByteArray.size_append, hsz0]; show _ + 1 ≤ _; omega)
    · have hqi0 : ((q : Int) == 0) = false := by simp; omega
      have hqi1 : ((q : Int) == 1) = false := by simp; omega
      go_wp2_with fail
      go_ret
      exact ⟨⟨_, cap, ts, by rw [HL.out]; rfl, Nat.le_trans HZ.out HBA.out, ⟨cur, HGB4.out, HTK.out⟩, by rw [HL.out]; exact hn1, by rw [HL.out]; exact hnR, fun s hs => by have := (HTX.out s hs).1; omega⟩, HRD4.out.more (by omega), HW4.out⟩
end Go.Proofs.Ytmdgbcepjnfbnaa
