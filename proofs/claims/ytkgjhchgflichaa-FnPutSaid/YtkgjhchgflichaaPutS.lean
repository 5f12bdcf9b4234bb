/- GridPut of the specification, by its contract. -/
import Derived.Test.YtkgjhchgflichaaPutI
import Derived.Laws.IdiomStrings
namespace Go.Proofs.Ytkgjhchgflichaa
open Go.RowKit Go.Shelf

/-- A letter of a row turned. -/
def rowSet (s : ByteArray) (q : Nat) (b : UInt8) : ByteArray := ⟨(s.data.toList.set q b).toArray⟩
/-- The texts of a list, one text turned. -/
theorem put_same {n m c : Nat} {ss : List ByteArray} {b : UInt8} {s : ByteArray} (h : IsGrid n m ss) (hc : c < n * m) (hs : ss[c / m]? = some s) : textsOf n m ((pad (flat ss)).set c b) = ss.set (c / m) (rowSet s (c % m) b) := by
  have hm : 0 < m := h.2.2.2.1
  have hfl := h.flen
  apply List.ext_getElem?
  intro r
  by_cases hr : r < n
  · have hrs : r < ss.length := by rw [h.1]; exact hr
    have hk := List.getElem?_eq_getElem hrs
    have hsz : (ss[r]).size = m := (h.2.2.2.2.2 _ (List.mem_of_getElem? hk)).1
    rw [textsOf_at hr]
    have hat : ∀ q, q < m → (flat ss)[r * m + q]? = (ss[r]).data.toList[q]? := fun q hq => flat_at ss r q _ (fun i t _ ht => (h.2.2.2.2.2 t (List.mem_of_getElem? ht)).1) hk (by rw [hsz]; exact hq)
    have hlen : (ss[r]).data.toList.length = m := by rw [← Lib.size_eq]; exact hsz
    have hrow : ∀ (L : List UInt8), L.length = m → (∀ q, q < m → ((pad (flat ss)).set c b)[r * m + q]? = L[q]?) → rowText m ((pad (flat ss)).set c b) r = ⟨L.toArray⟩ := fun L hL hq => by
      unfold rowText
      congr 2
      apply List.ext_getElem?
      intro q
      by_cases hqm : q < m
      · rw [List.getElem?_take_of_lt hqm, List.getElem?_drop, hq q hqm]
      · rw [List.getElem?_eq_none (by rw [List.length_take]; omega), List.getElem?_eq_none (by omega)]
    have hpad : ∀ q, q < m → (pad (flat ss))[r * m + q]? = (ss[r]).data.toList[q]? := fun q hq => by
      rw [pad, List.getElem?_append_left (by rw [hfl]; exact lt_of_parts hr hq), hat q hq]
    have hdm : c / m * m + c % m = c := by rw [Nat.mul_comm]; exact Nat.div_add_mod c m
    have hcm : c % m < m := Nat.mod_lt _ hm
    have hc25 : c < (pad (flat ss)).length := by rw [h.plen]; have := h.le25; omega
    by_cases hrc : r = c / m
    · subst hrc
      rw [hk] at hs
      cases hs
      rw [List.getElem?_set_self hrs]
      congr 1
      refine hrow _ (by rw [List.length_set]; exact hlen) fun q hq => ?_
      by_cases hqc : q = c % m
      · subst hqc
        rw [hdm, List.getElem?_set_self hc25, List.getElem?_set_self (by rw [hlen]; exact hcm)]
      · rw [List.getElem?_set_ne (fun e => hqc (by have := (mul_inj (e.symm.trans hdm.symm) hq hcm).2; exact this)), List.getElem?_set_ne (fun e => hqc e.symm)]
        exact hpad q hq
    · rw [List.getElem?_set_ne (fun e => hrc e.symm), hk]
      congr 1
      have e := hrow (ss[r]).data.toList hlen fun q hq => by
        rw [List.getElem?_set_ne (fun e => hrc (mul_inj (e.symm.trans hdm.symm) hq hcm).1)]
        exact hpad q hq
      rw [e]
  · rw [List.getElem?_eq_none (by rw [textsOf_length]; omega), List.getElem?_eq_none (by rw [List.length_set, h.1]; omega)]

set_option maxRecDepth 100000 in
/-- The letters of a row, one turned, as a text. -/
theorem row_back (W : World) (hb rn m cap : Nat) (s : ByteArray) (bt : UInt8) (hz : s.size = m) (hr : rn < m) (cs : Array Value) (hbr : ∀ q, q < m → cs[q]? = some (.int .u8 ((s.data.toList.getD q 0).toNat : Int))) (hbs : m ≤ cs.size)
    (fr : Nat × Nat) (hw : W.heap[hb]? = some (.cells (cs.setIfInBounds rn (.int .u8 bt.toNat)) 5 fr)) :
    (convert 22 9 (.slice (some ⟨hb, 0, none⟩) m cap)).run Try.prog W = .ok (.string (rowSet s rn bt)) W := by
  have hlen : s.data.toList.length = m := by rw [← Lib.size_eq]; exact hz
  have hcv := run_convert_bytes_arg (P := Try.prog) W 22 5 Try.underlying22 Try.underlying5 hb 0 m cap ((s.data.toList.set rn bt).map fun b => (b.toNat : Int)) (by simp [hlen]) (fun i hi => by
    rw [cell_of_row _ _ _ _ _ _ hw, Nat.zero_add]
    by_cases e : i = rn
    · subst e
      rw [Array.getElem?_setIfInBounds_self_of_lt (by omega)]
      simp [hlen, hi]
    · rw [Array.getElem?_setIfInBounds_ne (fun h => e h.symm), hbr i hi]
      have hl : i < s.data.toList.length := by omega
      rw [List.getD_eq_getElem?_getD, List.getElem?_eq_getElem hl, List.getD_eq_getElem?_getD, List.getElem?_map, List.getElem?_set_ne (fun h => e h.symm), List.getElem?_eq_getElem hl]
      rfl) 9 Try.underlying9
  rw [hcv]
  unfold strOfNums rowSet
  congr 3
  rw [List.map_map]
  rw [show ((fun n : Int => UInt8.ofNat n.toNat) ∘ fun b : UInt8 => (b.toNat : Int)) = id from funext fun b => by simp, List.map_id]

set_option maxRecDepth 100000 in
set_option maxHeartbeats 2000000 in
theorem l1Put_any (b off c B n m cc : Nat) (ss : List ByteArray) (bt : UInt8) (w : World) (h : Strs w B (some ⟨b, off, none⟩) ss) (hB : B ≤ w.heap.size) (hg : IsGrid n m ss) (hcc : cc < n * m) :
    Calls Try.prog 88 #[.slice (some ⟨b, off, none⟩) ss.length c, .int .i64 cc, .int .u8 bt.toNat] w fun e w' => (∃ g cap, e = .returned (.slice (some ⟨g, 0, none⟩) ss.length cap) ∧ Row9 w' g (textsOf n m ((pad (flat ss)).set cc bt))) ∧ Below w.heap.size w w' := by
  have hn5 := hg.2.2.1
  have hm1 := hg.2.2.2.1
  have hm5 := hg.2.2.2.2.1
  have h25 := hg.le25
  have hnl := hg.1
  have hsl : ss.length ≤ 5 := by omega
  have hs0 : 0 < ss.length := by have := hg.2.1; omega
  obtain ⟨qn, hqn⟩ : ∃ qn, cc / m = qn := ⟨_, rfl⟩
  obtain ⟨rn, hrn⟩ : ∃ rn, cc % m = rn := ⟨_, rfl⟩
  have hq : qn < ss.length := by rw [hnl, ← hqn, Nat.div_lt_iff_lt_mul (by omega)]; exact hcc
  have hr : rn < m := by rw [← hrn]; exact Nat.mod_lt _ (by omega)
  have hk0 := List.getElem?_eq_getElem hs0
  have hkq := List.getElem?_eq_getElem hq
  have hz0 : (ss[0]).size = m := (hg.2.2.2.2.2 _ (List.mem_of_getElem? hk0)).1
  have hzq : (ss[qn]).size = m := (hg.2.2.2.2.2 _ (List.mem_of_getElem? hkq)).1
  have hps := put_same (b := bt) hg hcc (by rw [hqn]; exact hkq)
  rw [hqn, hrn] at hps
  rw [hps]
  generalize ss[0] = s0 at hk0 hz0
  generalize ss[qn] = s at hkq hzq
  have hmi : ((s0.size : Nat) : Int) = (m : Int) := by rw [hz0]
  have hdiv : (cc : Int) / (m : Int) = (qn : Int) := by rw [← hqn]; rfl
  have hmod : (cc : Int) % (m : Int) = (rn : Int) := by rw [← hrn]; rfl
  have hmz : ((m : Int) == 0) = false := by simp; omega
  have hl0 : (0 : Int) < (ss.length : Int) := by omega
  have HG0 := hid ((growS_new w w.heap.size (Nat.le_refl _)))
  have HH := hid h
  have HB := hid ((Below.refl w.heap.size w).alloc (Nat.le_refl _) (.cells #[] 9))
  have hnews : ∀ (j : Nat) (u : Value), (strsV ss)[j]? = some u → (w.alloc (.cells #[] 9)).cell? ((⟨b, off, none⟩ : Addr).add j) = some u := fun j u hj => by
    have hj' : j < ss.length := by have := (List.getElem?_eq_some_iff.1 hj).1; simpa [strsV] using this
    have e1 : (strsV ss)[j]? = some (.string ss[j]) := by simp [strsV, hj']
    rw [e1] at hj
    cases hj
    have := (h.below HB.out hB).cell_ (List.getElem?_eq_getElem hj')
    have ha : (Addr.add ⟨b, off, none⟩ j : Addr) = ⟨b, off + j, none⟩ := by unfold Addr.add; split <;> simp_all
    rw [ha]; exact this
  have HN := hid hnews
  have HK0 := hid hk0
  have HKQ := hid hkq
  have HZQ := hid hzq
  have HBB := hid hB
  obtain ⟨i0, hi, hi0, hi1, hi2⟩ := info_parts Try.info_string
  have HI := hid hi
  clear hg hcc hnl hqn hrn hk0 hkq hz0 hzq hps h hB hnews hi
  go_enter Try.func88, Try.ntmps88
  go_wp2_with (at_builtin; refine wpList_append_own _ rfl _ _ 23 rfl w.heap.size 9 i0 (.string ByteArray.empty) 1 16 Try.underlying23 HI.out hi0 hi1 hi2 rfl (by decide) (.slice (some ⟨w.heap.size, 0, none⟩) 0 0) 0 [] rfl HG0.out ⟨b, off, none⟩ ss.length c (strsV ss) rfl (by simp [strsV]) HN.out ?c1 ?c2 ?c3 ?c4 ?_)
  case c1 => intro u hu; simp only [strsV, List.mem_map] at hu; obtain ⟨s, _, rfl⟩ := hu; rfl
  case c2 => unfold maxLen; omega
  case c3 => omega
  case c4 => simp
  intro v' w1 hown hgw _
  have HB1 := hid (HB.out.grown hgw (by simp) (fun k e => by cases e; exact Nat.le_refl _))
  rcases hown.2 with ⟨_, h0⟩ | ⟨g, cap, cur, rfl, hlo, hgp, hnc, _, hcs, htake⟩
  · omega
  try rw [Nat.zero_add]
  have hcur : ∀ (k : Nat) (t : ByteArray), ss[k]? = some t → cur[k]? = some (.string t) := fun k t hk => by
    have hl := (List.getElem?_eq_some_iff.1 hk).1
    have e : (strsV ss)[k]? = some (.string t) := by simp [strsV, hk]
    rw [← htake, List.getElem?_take_of_lt (by omega)] at e
    rw [← Array.getElem?_toList, e]
  have HC := hid hcur
  have HGP := hid hgp
  have HLO := hid hlo
  have hgl := lt_of_block hgp
  clear hown hgw htake hcs hgp hcur hlo HG0 HN HI hi0 hi1 hi2
  have hcv := run_bytes_of_string (P := Try.prog) w1 9 22 5 s Try.underlying9 Try.underlying22 Try.underlying5
  obtain ⟨cap2, hcap2⟩ : ∃ cap2, grownCap w1 s.size 0 5 = cap2 := ⟨_, rfl⟩
  rw [hcap2] at hcv
  have hw2 : (w1.drew.alloc (.cells (bytesRow s cap2) 5 ((bytesRow s cap2).size, (bytesRow s cap2).size + 1))).heap[w1.heap.size]? = some (.cells (bytesRow s cap2) 5 ((bytesRow s cap2).size, (bytesRow s cap2).size + 1)) := heap_new0 w1.drew _
  have HB2 := hid (HB1.out.drew.alloc (show w.heap.size ≤ w1.drew.heap.size from HB1.out.size) (.cells (bytesRow s cap2) 5 ((bytesRow s cap2).size, (bytesRow s cap2).size + 1)))
  have HG2 := hid (show (w1.drew.alloc (.cells (bytesRow s cap2) 5 ((bytesRow s cap2).size, (bytesRow s cap2).size + 1))).heap[g]? = some (.cells cur 9 (0, 0)) from (Below.heap_alloc _ _ _ hgl).trans HGP.out)
  obtain ⟨W2, hW2⟩ : ∃ W2, w1.drew.alloc (.cells (bytesRow s cap2) 5 ((bytesRow s cap2).size, (bytesRow s cap2).size + 1)) = W2 := ⟨_, rfl⟩
  rw [hW2] at hcv hw2 HB2 HG2
  obtain ⟨hb, hhb⟩ : ∃ hb, w1.heap.size = hb := ⟨_, rfl⟩
  rw [hhb] at hcv hw2 hgl
  have HWB := hid hw2
  have hbr : ∀ q, q < m → (bytesRow s cap2)[q]? = some (.int .u8 ((s.data.toList.getD q 0).toNat : Int)) := fun q hq => by
    have hl : q < s.data.toList.length := by rw [← Lib.size_eq, HZQ.out]; exact hq
    have hl2 : q < s.data.size := by simpa using hl
    have e : s.data[q]? = some s.data[q] := Array.getElem?_eq_getElem hl2
    unfold bytesRow
    rw [Array.getElem?_append_left (by simpa using hl2), Array.getElem?_map, e, List.getD_eq_getElem?_getD, Array.getElem?_toList, e]
    rfl
  have hbs : m ≤ (bytesRow s cap2).size := by
    have := (Array.getElem?_eq_some_iff.1 (hbr (m - 1) (by omega))).1
    omega
  have hcw2 : W2.cell? ⟨hb, rn, none⟩ = some (.int .u8 ((s.data.toList.getD rn 0).toNat : Int)) := by rw [cell_of_row _ _ _ _ _ _ hw2]; exact hbr rn hr
  have hfw2 : W2.frozen? ⟨hb, rn, none⟩ = false := by
    unfold World.frozen?
    rw [hw2]
    simp; omega
  have hc0 := (HH.out.below HB1.out HBB.out).cell_ HK0.out
  rw [Nat.add_zero] at hc0
  have hcq := (HH.out.below HB1.out HBB.out).cell_ HKQ.out
  have hc02 := (HH.out.below HB2.out HBB.out).cell_ HK0.out
  rw [Nat.add_zero] at hc02
  -- the row's letter is stored, the row is a text again
  have HW3 := hid (show (W2.setCell ⟨hb, rn, none⟩ (.int .u8 bt.toNat)).heap[hb]? = some (.cells ((bytesRow s cap2).setIfInBounds rn (.int .u8 bt.toNat)) 5 ((bytesRow s cap2).size, (bytesRow s cap2).size + 1)) by
    rw [setCell_eq_setRow _ _ _ _ _ _ _ hw2]; exact setRow_heap _ _ _ _ _ _ hw2)
  have HG3 := hid (show (W2.setCell ⟨hb, rn, none⟩ (.int .u8 bt.toNat)).heap[g]? = some (.cells cur 9 (0, 0)) from (Below.heap_setCell _ _ _ _ (by show g ≠ hb; omega)).trans HG2.out)
  have HB3 := hid (HB2.out.setCell (p := ⟨hb, rn, none⟩) (show w.heap.size ≤ hb by rw [← hhb]; exact HB1.out.size) (.int .u8 bt.toNat))
  have hcv2 := row_back (W2.setCell ⟨hb, rn, none⟩ (.int .u8 bt.toNat)) hb rn m cap2 s bt HZQ.out hr (bytesRow s cap2) hbr hbs _ HW3.out
  have hcw3 : (W2.setCell ⟨hb, rn, none⟩ (.int .u8 bt.toNat)).cell? ⟨g, qn, none⟩ = some (.string s) := by rw [cell_of_row _ _ _ _ _ _ HG3.out]; exact HC.out _ _ HKQ.out
  have hfw3 : (W2.setCell ⟨hb, rn, none⟩ (.int .u8 bt.toNat)).frozen? ⟨g, qn, none⟩ = false := frozen_of_row _ _ _ _ _ HG3.out
  have hszm : s.size = m := HZQ.out
  rw [hszm] at hcv
  obtain ⟨tx, htx⟩ : ∃ tx, rowSet s rn bt = tx := ⟨_, rfl⟩
  rw [htx] at hcv2
  have HTX := hid htx
  clear htx hbr hbs hw2 hW2 hhb hcap2 hszm
  go_wp2_with fail
  go_ret
  refine ⟨⟨g, cap, rfl, _, heap_setCell_same _ _ _ _ _ _ HG3.out, fun k t hk => ?_⟩, HB3.out.setCell (p := ⟨g, qn, none⟩) HLO.out _⟩
  by_cases e : k = qn
  · subst e
    rw [List.getElem?_set_self hq] at hk
    cases hk
    rw [Array.getElem?_setIfInBounds_self_of_lt (Array.getElem?_eq_some_iff.1 (HC.out _ _ HKQ.out)).1, HTX.out]
  · rw [List.getElem?_set_ne (fun h => e h.symm)] at hk
    rw [Array.getElem?_setIfInBounds_ne (fun h => e h.symm)]
    exact HC.out k t hk

set_option maxRecDepth 100000 in
set_option maxHeartbeats 1000000 in
theorem specGridPut_any (A : Option Addr) (c B : Nat) (ss : List ByteArray) (cell : Int) (t : ByteArray) (w : World) (h : Strs w B A ss) (hB : B ≤ w.heap.size) (hn : ss.length ≤ 1048576) (hs : ∀ s ∈ ss, s.size ≤ 1048576) (ht : t.size ≤ 1048576) :
    Calls Try.prog 42 #[.slice A ss.length c, .int .i64 cell, .string t] w fun e w' => Below w.heap.size w w' ∧ ∃ A c res ok, e = .returned (.tuple #[.slice A res.length c, .bool ok]) ∧ PutOut ss cell t ok res ∧ Strs w' w'.heap.size A res := by
  have HI := hid (specGridIn_any A c B ss w h hn hs)
  have HD := hid h
  clear h hs
  go_enter Try.func42, Try.ntmps42
  go_wp2_with fail
  refine HI.out.mono ?_
  rintro e w' ⟨ok, rfl, hok, d, rfl⟩
  have HO := hid hok
  clear hok
  have HBd := hid (below_drewN' (Below.refl w.heap.size w) d)
  cases ok with
  | false =>
    have HNo := hid (show ∀ n m c b', ¬ PutIn ss cell t n m c b' from fun n m c b' h => noGrid_of HO.out _ _ h.1)
    go_wp2_with fail
    refine (l1None_any _).mono ?_
    rintro e w1 ⟨⟨A1, c1, rfl⟩, hb1⟩
    have HB1 := hid (HBd.out.trans hb1)
    clear hb1
    go_wp2_with fail
    refine bodyPost_ret (results_tmp2 rfl _ _ _) rfl ?_
    exact ⟨HB1.out, A1, c1, [], false, rfl, .inr ⟨HNo.out, rfl, rfl⟩, Strs.nil_ _ _ _⟩
  | true =>
    obtain ⟨n, m, hg⟩ := HO.out.1 rfl
    obtain ⟨b, off, s0, rfl, hb, hk0, hc0⟩ := HD.out.at_ (k := 0) (by have := hg.1; have := hg.2.1; omega)
    rw [Nat.add_zero] at hc0
    have hm0 : s0.size = m := (hg.2.2.2.2.2 s0 (List.mem_of_getElem? hk0)).1
    have hmi : ((s0.size : Nat) : Int) = (m : Int) := by rw [hm0]
    have hn5 := hg.2.2.1
    have hm5 := hg.2.2.2.2.1
    have hl0 : (0 : Int) < (ss.length : Int) := by have := hg.1; have := hg.2.1; omega
    have hle := hg.le25
    obtain ⟨N, hN⟩ : ∃ N, n * m = N := ⟨_, rfl⟩
    have hNi : (ss.length : Int) * (m : Int) = (N : Int) := by rw [hg.1, ← Int.natCast_mul, hN]
    rw [hN] at hle
    have HN := hid hN
    have HG := hid hg
    have HM0 := hid hm0
    clear hg hk0 hm0 hN
    have g3 := hid (l6In_any cell 0 ((N : Int) - 1))
    go_wp2_with fail
    refine (g3.out _).mono ?_
    rintro e w' ⟨rfl, rfl⟩
    by_cases hin : 0 ≤ cell ∧ cell ≤ (N : Int) - 1
    · rw [show decide (0 ≤ cell ∧ cell ≤ (N : Int) - 1) = true by simpa using hin]
      obtain ⟨cc, rfl⟩ : ∃ cc : Nat, cell = cc := ⟨cell.toNat, by omega⟩
      have HCC := hid (show cc < n * m by rw [HN.out]; have := hin.2; omega)
      clear hin
      by_cases h1 : t.size = 1
      · have h1i : ((t.size : Int) != 1) = false := by simp [h1]
        have h1p : 0 < t.size := by omega
        obtain ⟨bt, hbt⟩ := one_byte h1
        have hb0 : t[0] = bt := byte0 (by rw [hbt]) h1p
        have HBT := hid hbt
        have gl := hid (l1Letter_any bt)
        clear hbt
        cases hlb : isLet bt with
        | false =>
          rw [hlb] at gl
          have HNo := hid (show ∀ n m c b', ¬ PutIn ss cc t n m c b' from fun n m c b' h => by
            obtain ⟨_, _, _, h4, h5⟩ := h
            rw [HBT.out] at h4
            obtain rfl : bt = b' := by simpa using h4
            rw [hlb] at h5; cases h5)
          clear hlb
          go_wp2_with fail
          refine (gl.out _).mono ?_
          rintro e w' ⟨rfl, rfl⟩
          go_wp2_with fail
          refine (l1None_any _).mono ?_
          rintro e w1 ⟨⟨A1, c1, rfl⟩, hb1⟩
          have HB1 := hid (HBd.out.trans hb1)
          clear hb1
          go_wp2_with fail
          refine bodyPost_ret (results_tmp2 rfl _ _ _) rfl ?_
          exact ⟨HB1.out, A1, c1, [], false, rfl, .inr ⟨HNo.out, rfl, rfl⟩, Strs.nil_ _ _ _⟩
        | true =>
          rw [hlb] at gl
          have HYes := hid (show PutIn ss cc t n m cc bt from ⟨HG.out, rfl, HCC.out, HBT.out, hlb⟩)
          have HP := hid (l1Put_any b off c B n m cc ss bt (w.drewN d) (HD.out.drewN d) hB HG.out HCC.out)
          clear hlb
          go_wp2_with fail
          refine (gl.out _).mono ?_
          rintro e w' ⟨rfl, rfl⟩
          go_wp2_with fail
          refine HP.out.mono ?_
          rintro e w1 ⟨⟨g, cap, rfl, hrow⟩, hb1⟩
          have HB1 := hid (HBd.out.trans hb1)
          have HRow := hid hrow
          clear hb1 hrow
          go_wp2_with fail
          refine bodyPost_ret (results_tmp2 rfl _ _ _) rfl ?_
          have hlen : (textsOf n m ((pad (flat ss)).set cc bt)).length = ss.length := by rw [textsOf_length, HG.out.1]
          exact ⟨HB1.out, some ⟨g, 0, none⟩, cap, textsOf n m ((pad (flat ss)).set cc bt), true, by rw [hlen]; rfl, .inl ⟨n, m, cc, bt, HYes.out, rfl, rfl⟩, HRow.out.strs HRow.out.lt⟩
      · have h1i : ((t.size : Int) != 1) = true := by simp; omega
        have HNo := hid (show ∀ n m c b', ¬ PutIn ss cc t n m c b' from fun n m c b' h => by
          obtain ⟨_, _, _, h4, _⟩ := h
          subst h4
          exact h1 rfl)
        clear h1
        go_wp2_with fail
        refine (l1None_any _).mono ?_
        rintro e w1 ⟨⟨A1, c1, rfl⟩, hb1⟩
        have HB1 := hid (HBd.out.trans hb1)
        clear hb1
        go_wp2_with fail
        refine bodyPost_ret (results_tmp2 rfl _ _ _) rfl ?_
        exact ⟨HB1.out, A1, c1, [], false, rfl, .inr ⟨HNo.out, rfl, rfl⟩, Strs.nil_ _ _ _⟩
    · rw [show decide (0 ≤ cell ∧ cell ≤ (N : Int) - 1) = false by simpa using hin]
      have HNo := hid (show ∀ n m c b', ¬ PutIn ss cell t n m c b' from fun n' m' c b' h => by
        obtain ⟨h1, h2, h3, _⟩ := h
        obtain ⟨rfl, rfl⟩ := HG.out.uniq h1
        rw [HN.out] at h3
        exact hin ⟨by omega, by omega⟩)
      clear hin
      go_wp2_with fail
      refine (l1None_any _).mono ?_
      rintro e w1 ⟨⟨A1, c1, rfl⟩, hb1⟩
      have HB1 := hid (HBd.out.trans hb1)
      clear hb1
      go_wp2_with fail
      refine bodyPost_ret (results_tmp2 rfl _ _ _) rfl ?_
      exact ⟨HB1.out, A1, c1, [], false, rfl, .inr ⟨HNo.out, rfl, rfl⟩, Strs.nil_ _ _ _⟩

end Go.Proofs.Ytkgjhchgflichaa
