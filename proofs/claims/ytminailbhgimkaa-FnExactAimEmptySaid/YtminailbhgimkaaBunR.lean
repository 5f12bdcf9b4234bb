/- Settled texts in one file. Each begins with what it holds. -/
import Derived.Test.YtminailbhgimkaaBunO
import Derived.Laws.IdiomStrings
import Derived.Test.YtminailbhgimkaaBunB
import Derived.Test.YtminailbhgimkaaBunQ
import Derived.Test.YtminailbhgimkaaRoundC
import Derived.Test.YtminailbhgimkaaBunA
import Derived.Test.YtminailbhgimkaaApp
import Derived.Lib.SlBytesConst
/- GridPut of the specification, by its contract. -/
namespace Go.Proofs.Ytminailbhgimkaa
open Go.RowKit Go.Shelf

/-- A letter of a row turned. -/
def rowSet (s : ByteArray) (q : Nat) (b : UInt8) : ByteArray := ⟨(s.data.toList.set q b).toArray⟩
/-- The texts of a list, one text turned. -/
theorem put_same {n m c : Nat} {ss : List ByteArray} {b : UInt8} {s : ByteArray} (h : IsGrid n m ss) (hc : c < n * m) (hs : ss[c / m]? = some s) : textsOf n m ((pad (flat ss)).set c b) = ss.set (c / m) (rowSet s (c % m) b) := by
  have hm : 0 < m := h.2.2.2.1
  have hfl := h.flen
  apply List.ext_getElem?
  intro r
  by_cases hr : r < n
  · have hrs : r < ss.length := by rw [h.1]; exact hr
    have hk := List.getElem?_eq_getElem hrs
    have hsz : (ss[r]).size = m := (h.2.2.2.2.2 _ (List.mem_of_getElem? hk)).1
    rw [textsOf_at hr]
    have hat : ∀ q, q < m → (flat ss)[r * m + q]? = (ss[r]).data.toList[q]? := fun q hq => flat_at ss r q _ (fun i t _ ht => (h.2.2.2.2.2 t (List.mem_of_getElem? ht)).1) hk (by rw [hsz]; exact hq)
    have hlen : (ss[r]).data.toList.length = m := by rw [← Lib.size_eq]; exact hsz
    have hrow : ∀ (L : List UInt8), L.length = m → (∀ q, q < m → ((pad (flat ss)).set c b)[r * m + q]? = L[q]?) → rowText m ((pad (flat ss)).set c b) r = ⟨L.toArray⟩ := fun L hL hq => by
      unfold rowText
      congr 2
      apply List.ext_getElem?
      intro q
      by_cases hqm : q < m
      · rw [List.getElem?_take_of_lt hqm, List.getElem?_drop, hq q hqm]
      · rw [List.getElem?_eq_none (by rw [List.length_take]; omega), List.getElem?_eq_none (by omega)]
    have hpad : ∀ q, q < m → (pad (flat ss))[r * m + q]? = (ss[r]).data.toList[q]? := fun q hq => by
      rw [pad, List.getElem?_append_left (by rw [hfl]; exact lt_of_parts hr hq), hat q hq]
    have hdm : c / m * m + c % m = c := by rw [Nat.mul_comm]; exact Nat.div_add_mod c m
    have hcm : c % m < m := Nat.mod_lt _ hm
    have hc25 : c < (pad (flat ss)).length := by rw [h.plen]; have := h.le25; omega
    by_cases hrc : r = c / m
    · subst hrc
      rw [hk] at hs
      cases hs
      rw [List.getElem?_set_self hrs]
      congr 1
      refine hrow _ (by rw [List.length_set]; exact hlen) fun q hq => ?_
      by_cases hqc : q = c % m
      · subst hqc
        rw [hdm, List.getElem?_set_self hc25, List.getElem?_set_self (by rw [hlen]; exact hcm)]
      · rw [List.getElem?_set_ne (fun e => hqc (by have := (mul_inj (e.symm.trans hdm.symm) hq hcm).2; exact this)), List.getElem?_set_ne (fun e => hqc e.symm)]
        exact hpad q hq
    · rw [List.getElem?_set_ne (fun e => hrc e.symm), hk]
      congr 1
      have e := hrow (ss[r]).data.toList hlen fun q hq => by
        rw [List.getElem?_set_ne (fun e => hrc (mul_inj (e.symm.trans hdm.symm) hq hcm).1)]
        exact hpad q hq
      rw [e]
  · rw [List.getElem?_eq_none (by rw [textsOf_length]; omega), List.getElem?_eq_none (by rw [List.length_set, h.1]; omega)]

set_option maxRecDepth 100000 in
/-- The letters of a row, one turned, as a text. -/
theorem row_back (W : World) (hb rn m cap : Nat) (s : ByteArray) (bt : UInt8) (hz : s.size = m) (hr : rn < m) (cs : Array Value) (hbr : ∀ q, q < m → cs[q]? = some (.int .u8 ((s.data.toList.getD q 0).toNat : Int))) (hbs : m ≤ cs.size)
    (fr : Nat × Nat) (hw : W.heap[hb]? = some (.cells (cs.setIfInBounds rn (.int .u8 bt.toNat)) 5 fr)) :
    (convert 22 9 (.slice (some ⟨hb, 0, none⟩) m cap)).run Try.prog W = .ok (.string (rowSet s rn bt)) W := by
  have hlen : s.data.toList.length = m := by rw [← Lib.size_eq]; exact hz
  have hcv := run_convert_bytes_arg (P := Try.prog) W 22 5 Try.underlying22 Try.underlying5 hb 0 m cap ((s.data.toList.set rn bt).map fun b => (b.toNat : Int)) (by simp [hlen]) (fun i hi => by
    rw [cell_of_row _ _ _ _ _ _ hw, Nat.zero_add]
    by_cases e : i = rn
    · subst e
      rw [Array.getElem?_setIfInBounds_self_of_lt (by omega)]
      simp [hlen, hi]
    · rw [Array.getElem?_setIfInBounds_ne (fun h => e h.symm), hbr i hi]
      have hl : i < s.data.toList.length := by omega
      rw [List.getD_eq_getElem?_getD, List.getElem?_eq_getElem hl, List.getD_eq_getElem?_getD, List.getElem?_map, List.getElem?_set_ne (fun h => e h.symm), List.getElem?_eq_getElem hl]
      rfl) 9 Try.underlying9
  rw [hcv]
  unfold strOfNums rowSet
  congr 3
  rw [List.map_map]
  rw [show ((fun n : Int => UInt8.ofNat n.toNat) ∘ fun b : UInt8 => (b.toNat : Int)) = id from funext fun b => by simp, List.map_id]

set_option maxRecDepth 100000 in
set_option maxHeartbeats 2000000 in
theorem l1Put_any (b off c B n m cc : Nat) (ss : List ByteArray) (bt : UInt8) (w : World) (h : Strs w B (some ⟨b, off, none⟩) ss) (hB : B ≤ w.heap.size) (hg : IsGrid n m ss) (hcc : cc < n * m) :
    Calls Try.prog 140 #[.slice (some ⟨b, off, none⟩) ss.length c, .int .i64 cc, .int .u8 bt.toNat] w fun e w' => (∃ g cap, e = .returned (.slice (some ⟨g, 0, none⟩) ss.length cap) ∧ Row9 w' g (textsOf n m ((pad (flat ss)).set cc bt))) ∧ Below w.heap.size w w' := by
  have hn5 := hg.2.2.1
  have hm1 := hg.2.2.2.1
  have hm5 := hg.2.2.2.2.1
  have h25 := hg.le25
  have hnl := hg.1
  have hsl : ss.length ≤ 5 := by omega
  have hs0 : 0 < ss.length := by have := hg.2.1; omega
  obtain ⟨qn, hqn⟩ : ∃ qn, cc / m = qn := ⟨_, rfl⟩
  obtain ⟨rn, hrn⟩ : ∃ rn, cc % m = rn := ⟨_, rfl⟩
  have hq : qn < ss.length := by rw [hnl, ← hqn, Nat.div_lt_iff_lt_mul (by omega)]; exact hcc
  have hr : rn < m := by rw [← hrn]; exact Nat.mod_lt _ (by omega)
  have hk0 := List.getElem?_eq_getElem hs0
  have hkq := List.getElem?_eq_getElem hq
  have hz0 : (ss[0]).size = m := (hg.2.2.2.2.2 _ (List.mem_of_getElem? hk0)).1
  have hzq : (ss[qn]).size = m := (hg.2.2.2.2.2 _ (List.mem_of_getElem? hkq)).1
  have hps := put_same (b := bt) hg hcc (by rw [hqn]; exact hkq)
  rw [hqn, hrn] at hps
  rw [hps]
  generalize ss[0] = s0 at hk0 hz0
  generalize ss[qn] = s at hkq hzq
  have hmi : ((s0.size : Nat) : Int) = (m : Int) := by rw [hz0]
  have hdiv : (cc : Int) / (m : Int) = (qn : Int) := by rw [← hqn]; rfl
  have hmod : (cc : Int) % (m : Int) = (rn : Int) := by rw [← hrn]; rfl
  have hmz : ((m : Int) == 0) = false := by simp; omega
  have hl0 : (0 : Int) < (ss.length : Int) := by omega
  have HG0 := hid ((growS_new w w.heap.size (Nat.le_refl _)))
  have HH := hid h
  have HB := hid ((Below.refl w.heap.size w).alloc (Nat.le_refl _) (.cells #[] 9))
  have hnews : ∀ (j : Nat) (u : Value), (strsV ss)[j]? = some u → (w.alloc (.cells #[] 9)).cell? ((⟨b, off, none⟩ : Addr).add j) = some u := fun j u hj => by
    have hj' : j < ss.length := by have := (List.getElem?_eq_some_iff.1 hj).1; simpa [strsV] using this
    have e1 : (strsV ss)[j]? = some (.string ss[j]) := by simp [strsV, hj']
    rw [e1] at hj
    cases hj
    have := (h.below HB.out hB).cell_ (List.getElem?_eq_getElem hj')
    have ha : (Addr.add ⟨b, off, none⟩ j : Addr) = ⟨b, off + j, none⟩ := by unfold Addr.add; split <;> simp_all
    rw [ha]; exact this
  have HN := hid hnews
  have HK0 := hid hk0
  have HKQ := hid hkq
  have HZQ := hid hzq
  have HBB := hid hB
  obtain ⟨i0, hi, hi0, hi1, hi2⟩ := info_parts Try.info_string
  have HI := hid hi
  clear hg hcc hnl hqn hrn hk0 hkq hz0 hzq hps h hB hnews hi
  go_enter Try.func140, Try.ntmps140
  go_wp2_with (at_builtin; refine wpList_append_own _ rfl _ _ 34 rfl w.heap.size 9 i0 (.string ByteArray.empty) 1 16 Try.underlying34 HI.out hi0 hi1 hi2 rfl (by decide) (.slice (some ⟨w.heap.size, 0, none⟩) 0 0) 0 [] rfl HG0.out ⟨b, off, none⟩ ss.length c (strsV ss) rfl (by simp [strsV]) HN.out ?c1 ?c2 ?c3 ?c4 ?_)
  case c1 => intro u hu; simp only [strsV, List.mem_map] at hu; obtain ⟨s, _, rfl⟩ := hu; rfl
  case c2 => unfold maxLen; omega
  case c3 => omega
  case c4 => simp
  intro v' w1 hown hgw _
  have HB1 := hid (HB.out.grown hgw (by simp) (fun k e => by cases e; exact Nat.le_refl _))
  rcases hown.2 with ⟨_, h0⟩ | ⟨g, cap, cur, rfl, hlo, hgp, hnc, _, hcs, htake⟩
  · omega
  try rw [Nat.zero_add]
  have hcur : ∀ (k : Nat) (t : ByteArray), ss[k]? = some t → cur[k]? = some (.string t) := fun k t hk => by
    have hl := (List.getElem?_eq_some_iff.1 hk).1
    have e : (strsV ss)[k]? = some (.string t) := by simp [strsV, hk]
    rw [← htake, List.getElem?_take_of_lt (by omega)] at e
    rw [← Array.getElem?_toList, e]
  have HC := hid hcur
  have HGP := hid hgp
  have HLO := hid hlo
  have hgl := lt_of_block hgp
  clear hown hgw htake hcs hgp hcur hlo HG0 HN HI hi0 hi1 hi2
  have hcv := run_bytes_of_string (P := Try.prog) w1 9 22 5 s Try.underlying9 Try.underlying22 Try.underlying5
  obtain ⟨cap2, hcap2⟩ : ∃ cap2, grownCap w1 s.size 0 5 = cap2 := ⟨_, rfl⟩
  rw [hcap2] at hcv
  have hw2 : (w1.drew.alloc (.cells (bytesRow s cap2) 5 ((bytesRow s cap2).size, (bytesRow s cap2).size + 1))).heap[w1.heap.size]? = some (.cells (bytesRow s cap2) 5 ((bytesRow s cap2).size, (bytesRow s cap2).size + 1)) := heap_new0 w1.drew _
  have HB2 := hid (HB1.out.drew.alloc (show w.heap.size ≤ w1.drew.heap.size from HB1.out.size) (.cells (bytesRow s cap2) 5 ((bytesRow s cap2).size, (bytesRow s cap2).size + 1)))
  have HG2 := hid (show (w1.drew.alloc (.cells (bytesRow s cap2) 5 ((bytesRow s cap2).size, (bytesRow s cap2).size + 1))).heap[g]? = some (.cells cur 9 (0, 0)) from (Below.heap_alloc _ _ _ hgl).trans HGP.out)
  obtain ⟨W2, hW2⟩ : ∃ W2, w1.drew.alloc (.cells (bytesRow s cap2) 5 ((bytesRow s cap2).size, (bytesRow s cap2).size + 1)) = W2 := ⟨_, rfl⟩
  rw [hW2] at hcv hw2 HB2 HG2
  obtain ⟨hb, hhb⟩ : ∃ hb, w1.heap.size = hb := ⟨_, rfl⟩
  rw [hhb] at hcv hw2 hgl
  have HWB := hid hw2
  have hbr : ∀ q, q < m → (bytesRow s cap2)[q]? = some (.int .u8 ((s.data.toList.getD q 0).toNat : Int)) := fun q hq => by
    have hl : q < s.data.toList.length := by rw [← Lib.size_eq, HZQ.out]; exact hq
    have hl2 : q < s.data.size := by simpa using hl
    have e : s.data[q]? = some s.data[q] := Array.getElem?_eq_getElem hl2
    unfold bytesRow
    rw [Array.getElem?_append_left (by simpa using hl2), Array.getElem?_map, e, List.getD_eq_getElem?_getD, Array.getElem?_toList, e]
    rfl
  have hbs : m ≤ (bytesRow s cap2).size := by
    have := (Array.getElem?_eq_some_iff.1 (hbr (m - 1) (by omega))).1
    omega
  have hcw2 : W2.cell? ⟨hb, rn, none⟩ = some (.int .u8 ((s.data.toList.getD rn 0).toNat : Int)) := by rw [cell_of_row _ _ _ _ _ _ hw2]; exact hbr rn hr
  have hfw2 : W2.frozen? ⟨hb, rn, none⟩ = false := by
    unfold World.frozen?
    rw [hw2]
    simp; omega
  have hc0 := (HH.out.below HB1.out HBB.out).cell_ HK0.out
  rw [Nat.add_zero] at hc0
  have hcq := (HH.out.below HB1.out HBB.out).cell_ HKQ.out
  have hc02 := (HH.out.below HB2.out HBB.out).cell_ HK0.out
  rw [Nat.add_zero] at hc02
  -- the row's letter is stored, the row is a text again
  have HW3 := hid (show (W2.setCell ⟨hb, rn, none⟩ (.int .u8 bt.toNat)).heap[hb]? = some (.cells ((bytesRow s cap2).setIfInBounds rn (.int .u8 bt.toNat)) 5 ((bytesRow s cap2).size, (bytesRow s cap2).size + 1)) by
    rw [setCell_eq_setRow _ _ _ _ _ _ _ hw2]; exact setRow_heap _ _ _ _ _ _ hw2)
  have HG3 := hid (show (W2.setCell ⟨hb, rn, none⟩ (.int .u8 bt.toNat)).heap[g]? = some (.cells cur 9 (0, 0)) from (Below.heap_setCell _ _ _ _ (by show g ≠ hb; omega)).trans HG2.out)
  have HB3 := hid (HB2.out.setCell (p := ⟨hb, rn, none⟩) (show w.heap.size ≤ hb by rw [← hhb]; exact HB1.out.size) (.int .u8 bt.toNat))
  have hcv2 := row_back (W2.setCell ⟨hb, rn, none⟩ (.int .u8 bt.toNat)) hb rn m cap2 s bt HZQ.out hr (bytesRow s cap2) hbr hbs _ HW3.out
  have hcw3 : (W2.setCell ⟨hb, rn, none⟩ (.int .u8 bt.toNat)).cell? ⟨g, qn, none⟩ = some (.string s) := by rw [cell_of_row _ _ _ _ _ _ HG3.out]; exact HC.out _ _ HKQ.out
  have hfw3 : (W2.setCell ⟨hb, rn, none⟩ (.int .u8 bt.toNat)).frozen? ⟨g, qn, none⟩ = false := frozen_of_row _ _ _ _ _ HG3.out
  have hszm : s.size = m := HZQ.out
  rw [hszm] at hcv
  obtain ⟨tx, htx⟩ : ∃ tx, rowSet s rn bt = tx := ⟨_, rfl⟩
  rw [htx] at hcv2
  have HTX := hid htx
  clear htx hbr hbs hw2 hW2 hhb hcap2 hszm
  go_wp2_with fail
  go_ret
  refine ⟨⟨g, cap, rfl, _, heap_setCell_same _ _ _ _ _ _ HG3.out, fun k t hk => ?_⟩, HB3.out.setCell (p := ⟨g, qn, none⟩) HLO.out _⟩
  by_cases e : k = qn
  · subst e
    rw [List.getElem?_set_self hq] at hk
    cases hk
    rw [Array.getElem?_setIfInBounds_self_of_lt (Array.getElem?_eq_some_iff.1 (HC.out _ _ HKQ.out)).1, HTX.out]
  · rw [List.getElem?_set_ne (fun h => e h.symm)] at hk
    rw [Array.getElem?_setIfInBounds_ne (fun h => e h.symm)]
    exact HC.out k t hk

end Go.Proofs.Ytminailbhgimkaa

/- A grid with a cell put is a grid; its letters. No program is named. -/
namespace Go.Proofs.Ytminailbhgimkaa

theorem pad_set_in {l : List UInt8} {c : Nat} {b : UInt8} (h : c < l.length) : (pad l).set c b = pad (l.set c b) := by
  unfold pad
  rw [List.set_append_left _ _ h, List.length_set]
/-- The texts of letters have these letters. -/
theorem flat_texts {n m : Nat} {l : List UInt8} (hm : 0 < m) (hl : l.length = n * m) : flat (textsOf n m (pad l)) = l ∧ ∀ s ∈ textsOf n m (pad l), s.size = m := by
  have hrow : ∀ r, r < n → (rowText m (pad l) r).data.toList = (l.drop (r * m)).take m := fun r hr => by
    unfold rowText
    have hle := parts_lt (a := r) (n := n) (m := m) (b := m - 1) hr (by omega)
    show ((pad l).drop (r * m)).take m = _
    unfold pad
    rw [List.drop_append_of_le_length (by omega), List.take_append_of_le_length (by simp; omega)]
  have hsz : ∀ s ∈ textsOf n m (pad l), s.size = m := fun s hs => by
    unfold textsOf at hs
    obtain ⟨r, hr, rfl⟩ := List.mem_map.1 hs
    have hr := List.mem_range.1 hr
    have hle := parts_lt (a := r) (n := n) (m := m) (b := m - 1) hr (by omega)
    rw [Lib.size_eq, hrow r hr]
    simp
    omega
  refine ⟨?_, hsz⟩
  have hfl : (flat (textsOf n m (pad l))).length = n * m := by rw [flat_length _ hsz, textsOf_length]
  apply List.ext_getElem?
  intro q
  by_cases hq : q < n * m
  · have h1 : q / m < n := by rw [Nat.div_lt_iff_lt_mul hm]; exact hq
    have h2 : q % m < m := Nat.mod_lt _ hm
    have h3 : q / m * m + q % m = q := by rw [Nat.mul_comm]; exact Nat.div_add_mod q m
    have hk := textsOf_at (m := m) (ls := pad l) h1
    have e := flat_at (textsOf n m (pad l)) (q / m) (q % m) _ (fun i t _ ht => hsz t (List.mem_of_getElem? ht)) hk (by rw [hsz _ (List.mem_of_getElem? hk)]; exact h2)
    rw [h3, hrow _ h1, List.getElem?_take_of_lt h2, List.getElem?_drop, h3] at e
    exact e
  · rw [List.getElem?_eq_none (by omega), List.getElem?_eq_none (by omega)]
theorem texts_grid {n m : Nat} {l : List UInt8} (hn : 1 ≤ n) (hn5 : n ≤ 5) (hm : 1 ≤ m) (hm5 : m ≤ 5) (hl : l.length = n * m) (hb : ∀ b ∈ l, isLet b = true) : IsGrid n m (textsOf n m (pad l)) := by
  obtain ⟨h1, h2⟩ := flat_texts (n := n) hm hl
  refine ⟨textsOf_length _ _ _, hn, hn5, hm, hm5, fun s hs => ⟨h2 s hs, fun b hbs => hb b ?_⟩⟩
  rw [← h1]
  exact List.mem_flatMap.2 ⟨s, hs, hbs⟩
/-- A grid with a cell put. -/
theorem put_grid {n m c : Nat} {ss : List ByteArray} {b : UInt8} (h : IsGrid n m ss) (hc : c < n * m) (hb : isLet b = true) :
    IsGrid n m (textsOf n m ((pad (flat ss)).set c b)) ∧ pad (flat (textsOf n m ((pad (flat ss)).set c b))) = (pad (flat ss)).set c b := by
  have hcl : c < (flat ss).length := by rw [h.flen]; exact hc
  rw [pad_set_in hcl]
  have hl : ((flat ss).set c b).length = n * m := by rw [List.length_set, h.flen]
  refine ⟨texts_grid h.2.1 h.2.2.1 h.2.2.2.1 h.2.2.2.2.1 hl fun x hx => ?_, by rw [(flat_texts h.2.2.2.1 hl).1]⟩
  rcases List.mem_or_eq_of_mem_set hx with h1 | rfl
  · obtain ⟨s, hs, hxs⟩ := List.mem_flatMap.1 h1
    exact (h.2.2.2.2.2 s hs).2 x hxs
  · exact hb
theorem isLet_oth (b : UInt8) (h : isLet b = true) : isLet (oth b) = true := by
  unfold isLet at *
  unfold oth
  split
  · rfl
  · split
    · rfl
    · exact h
theorem IsGrid.let_at {n m c : Nat} {ss : List ByteArray} (h : IsGrid n m ss) (hc : c < n * m) : ∃ b, (flat ss)[c]? = some b ∧ isLet b = true := by
  have hcl : c < (flat ss).length := by rw [h.flen]; exact hc
  refine ⟨(flat ss)[c], List.getElem?_eq_getElem hcl, ?_⟩
  obtain ⟨s, hs, hxs⟩ := List.mem_flatMap.1 (List.getElem_mem hcl)
  exact (h.2.2.2.2.2 s hs).2 _ hxs
end Go.Proofs.Ytminailbhgimkaa

/- Plain words on paths: one path goes through a cell twice. No program is named. -/
namespace Go.Proofs.Ytminailbhgimkaa

section
variable {n m : Nat} {t : Int → Int → UInt8} {i k : Int}
/-- A way and a way backwards are never on one way's course. -/
theorem iter_ne_rev {x : Wy} (hd : x.d < 4) (a b : Nat) : iter t x a ≠ rev t (iter t x b) := by
  have main : ∀ (s a b : Nat), b = a + s → iter t x a ≠ rev t (iter t x b) := by
    intro s
    induction s using Nat.strongRecOn with
    | ind s ih =>
      intro a b hs e
      match s, hs with
      | 0, hs =>
        subst hs
        exact rev_ne (iter_d hd _) e.symm
      | 1, hs =>
        subst hs
        have h2 : rev t (iter t x a) = nxt t (iter t x a) := by
          rw [e, rev_rev (iter_d hd (a + 1))]
          conv => rhs; rw [← e]
          rfl
        exact rev_ne_nxt (iter_d hd a) h2
      | s + 2, hs =>
        obtain ⟨b, rfl⟩ : ∃ c, b = c + 1 := ⟨b - 1, by omega⟩
        refine ih s (by omega) (a + 1) b (by omega) ?_
        show nxt t (iter t x a) = _
        rw [e]
        exact nxt_rev_nxt (iter_d hd b)
  intro e
  by_cases h : a ≤ b
  · exact main (b - a) a b (by omega) e
  · refine main (a - b) b a (by omega) ?_
    rw [e, rev_rev (iter_d hd b)]

/-- How often a way's course goes through the cell, until it closes or leaves. -/
def cntAt (n m : Nat) (t : Int → Int → UInt8) (i k : Int) (x : Wy) : Nat := (List.range (goL n m t x)).countP fun j => decide (atC i k (iter t x j))
/-- It comes into the cell again. -/
def retB (n m : Nat) (t : Int → Int → UInt8) (i k : Int) (x : Wy) : Bool := (List.range (goL n m t x)).any fun j => decide (0 < j ∧ atC i k (iter t x j))
theorem retB_iff {x : Wy} : retB n m t i k x = true ↔ ∃ j, 0 < j ∧ j < goL n m t x ∧ atC i k (iter t x j) := by
  unfold retB
  rw [List.any_eq_true]
  constructor
  · rintro ⟨j, hj, h⟩
    have h := of_decide_eq_true h
    exact ⟨j, h.1, List.mem_range.1 hj, h.2⟩
  · rintro ⟨j, h1, h2, h3⟩
    exact ⟨j, List.mem_range.2 h2, decide_eq_true ⟨h1, h3⟩⟩
theorem cntAt_ret {x : Wy} (hd : x.d < 4) (hx : inG n m x) (h : atC i k x) : 1 ≤ cntAt n m t i k x ∧ (retB n m t i k x = true ↔ 2 ≤ cntAt n m t i k x) := by
  obtain ⟨L, hL⟩ : ∃ L, goL n m t x = L + 1 := ⟨goL n m t x - 1, by have := (goL_facts (t := t) hd hx).1; omega⟩
  have e : cntAt n m t i k x = 1 + (List.range L).countP fun j => decide (atC i k (iter t x (j + 1))) := by
    unfold cntAt
    rw [hL, List.range_succ_eq_map, List.countP_cons, List.countP_map]
    rw [if_pos (decide_eq_true (show atC i k (iter t x 0) from h)), Nat.add_comm]
    rfl
  refine ⟨by omega, ?_⟩
  rw [retB_iff, e]
  constructor
  · rintro ⟨j, h1, h2, h3⟩
    have hp : 0 < (List.range L).countP fun j => decide (atC i k (iter t x (j + 1))) := List.countP_pos_iff.2 ⟨j - 1, List.mem_range.2 (by omega), by rw [show j - 1 + 1 = j by omega]; exact decide_eq_true h3⟩
    omega
  · intro h2
    obtain ⟨j, hj, h3⟩ := List.countP_pos_iff.1 (show 0 < (List.range L).countP fun j => decide (atC i k (iter t x (j + 1))) by omega)
    have hj := List.mem_range.1 hj
    exact ⟨j + 1, by omega, by omega, of_decide_eq_true h3⟩
/-- The same by headings. -/
theorem cntAt_up {x : Wy} (hd : x.d < 4) (hx : inG n m x) : cntAt n m t i k x = upT (fun d => goesTo (iter t x) (goL n m t x) ⟨i, k, d⟩) 4 := by
  unfold cntAt
  rw [times_gen (iter t x) i k (goL n m t x) (fun a b h1 h2 => (goL_facts hd hx).2.2.2.1 a b h1 h2) (fun j _ => iter_d hd j)]
  rfl
/-- On a round a cell is gone through twice at most. -/
theorem goes_rev {x : Wy} (hd : x.d < 4) {L : Nat} {y : Wy} (h : goesTo (iter t x) L y = true) : goesTo (iter t x) L (rev t y) = false := by
  rw [Bool.eq_false_iff]
  intro h2
  obtain ⟨a, _, rfl⟩ := goesTo_iff.1 h
  obtain ⟨b, _, e⟩ := goesTo_iff.1 h2
  exact iter_ne_rev hd b a e
theorem cnt_round {x : Wy} (hd : x.d < 4) (hx : inG n m x) : cntAt n m t i k x ≤ 2 := by
  rw [cntAt_up hd hx, upT_four]
  have hb : ∀ d, d < 4 → goesTo (iter t x) (goL n m t x) ⟨i, k, d⟩ = true → goesTo (iter t x) (goL n m t x) ⟨i, k, opp (bend (t i k) d)⟩ = false := fun d _ h => goes_rev hd h
  generalize goesTo (iter t x) (goL n m t x) = g at hb ⊢
  by_cases h1 : t i k = 114
  · rw [h1] at hb
    have a := pair_le (hb 0 (by decide))
    have b := pair_le (hb 1 (by decide))
    simp only [bend, opp] at a b
    simp at a b
    omega
  · by_cases h2 : t i k = 102
    · rw [h2] at hb
      have a := pair_le (hb 0 (by decide))
      have b := pair_le (hb 2 (by decide))
      simp only [bend, opp] at a b
      simp at a b
      omega
    · have a := pair_le (hb 0 (by decide))
      have b := pair_le (hb 1 (by decide))
      rw [bend_e h1 h2] at a b
      simp only [opp] at a b
      simp at a b
      omega
theorem ret_back {x : Wy} (hd : x.d < 4) (hon : onR n m t x = true) (hr : retB n m t i k (rev t x) = true) : retB n m t i k x = true := by
  obtain ⟨k1, k2, k3, _⟩ := rlen_facts hd hon
  have hon' := onR_rev hd hon
  obtain ⟨j, h1, h2, h3⟩ := retB_iff.1 hr
  have hg : goL n m t (rev t x) = rlen n m t (rev t x) := by unfold goL; rw [if_pos hon']
  have hg' : goL n m t x = rlen n m t x := by unfold goL; rw [if_pos hon]
  rw [hg] at h2
  have hj : j ≤ j * rlen n m t x := Nat.le_mul_of_pos_right _ (by omega)
  have e := iter_rev (t := t) hd (j * rlen n m t x - j) j
  rw [show j * rlen n m t x - j + j = j * rlen n m t x by omega, iter_mul k3] at e
  rw [e] at h3
  have h4 : atC i k (iter t x (j * rlen n m t x - j)) := h3
  rw [iter_mod k3] at h4
  refine retB_iff.2 ⟨(j * rlen n m t x - j) % rlen n m t x, ?_, by rw [hg']; exact Nat.mod_lt _ (by omega), h4⟩
  refine Nat.pos_of_ne_zero fun h0 => ?_
  have e0 : iter t x (j * rlen n m t x - j) = x := by rw [iter_mod k3, h0]; rfl
  rw [e0] at e
  exact (rlen_facts (rev_d x) hon').2.2.2 j h1 h2 e
/-- A beam goes through a cell twice at most, there and back. -/
theorem cnt_beam {d0 : Nat} (hd0 : d0 < 4) (hx : inG n m ⟨i, k, d0⟩) (hon : onR n m t ⟨i, k, d0⟩ = false) : cntAt n m t i k ⟨i, k, d0⟩ + cntAt n m t i k (rev t ⟨i, k, d0⟩) ≤ 3 := by
  have hd : (⟨i, k, d0⟩ : Wy).d < 4 := hd0
  obtain ⟨x, hxe⟩ : ∃ x : Wy, x = ⟨i, k, d0⟩ := ⟨_, rfl⟩
  rw [← hxe] at hx hon hd ⊢
  have hx' : inG n m (rev t x) := hx
  have hd' := rev_d (t := t) x
  have honr : onR n m t (rev t x) = false := by
    rw [Bool.eq_false_iff]
    intro h
    rw [onR_back hd h] at hon
    cases hon
  rw [cntAt_up hd hx, cntAt_up hd' hx', upT_four, upT_four]
  have hb1 : ∀ d, d < 4 → goesTo (iter t x) (goL n m t x) ⟨i, k, d⟩ = true → goesTo (iter t x) (goL n m t x) ⟨i, k, opp (bend (t i k) d)⟩ = false := fun d _ h => goes_rev hd h
  have hb2 : ∀ d, d < 4 → goesTo (iter t (rev t x)) (goL n m t (rev t x)) ⟨i, k, d⟩ = true → goesTo (iter t (rev t x)) (goL n m t (rev t x)) ⟨i, k, opp (bend (t i k) d)⟩ = false := fun d _ h => goes_rev hd' h
  -- one way never lies on both courses
  have hc : ∀ d, goesTo (iter t x) (goL n m t x) ⟨i, k, d⟩ = true → goesTo (iter t (rev t x)) (goL n m t (rev t x)) ⟨i, k, d⟩ = false := fun d h => by
    rw [Bool.eq_false_iff]
    intro h2
    obtain ⟨a, _, ea⟩ := goesTo_iff.1 h
    obtain ⟨b, _, eb⟩ := goesTo_iff.1 h2
    have e := ea.trans eb.symm
    rcases Nat.le_total b a with hle | hle
    · rw [show a = (a - b) + b by omega, iter_add] at e
      exact iter_ne_rev hd (a - b) 0 (iter_inj (iter_d hd _) hd' b e)
    · rw [show b = (b - a) + a by omega, iter_add] at e
      have e2 := iter_inj hd (iter_d hd' _) a e
      exact iter_ne_rev hd' (b - a) 0 (by rw [← e2]; exact (rev_rev hd).symm)
  -- and its way back does on the other one only at the beginning
  have hr : ∀ d, d < 4 → d ≠ d0 → goesTo (iter t x) (goL n m t x) ⟨i, k, d⟩ = true → goesTo (iter t (rev t x)) (goL n m t (rev t x)) ⟨i, k, opp (bend (t i k) d)⟩ = false := fun d hd4 hne h => by
    rw [Bool.eq_false_iff]
    intro h2
    obtain ⟨a, ha, ea⟩ := goesTo_iff.1 h
    obtain ⟨b, hb, eb⟩ := goesTo_iff.1 h2
    have e1 : iter t x a = rev t (iter t (rev t x) b) := by
      rw [ea, eb]
      exact (rev_rev (t := t) (x := ⟨i, k, d⟩) hd4).symm
    have e2 := iter_rev (t := t) hd' 0 b
    rw [Nat.zero_add, ← e1, ← iter_add] at e2
    have e3 : iter t x (a + b) = x := by rw [e2]; exact rev_rev hd
    by_cases h0 : a + b = 0
    · obtain rfl : a = 0 := by omega
      have : x = ⟨i, k, d⟩ := ea
      rw [hxe] at this
      exact hne (congrArg Wy.d this).symm
    · have hin : ∀ j, inG n m (iter t x j) := fun j => by
        rw [iter_mod e3]
        have hj := Nat.mod_lt j (show 0 < a + b by omega)
        by_cases hja : j % (a + b) < goL n m t x
        · exact (goL_facts hd hx).2.2.1 _ hja
        · -- past the end of x's course: it is the other one's
          have e4 : iter t x (j % (a + b)) = rev t (iter t (rev t x) (a + b - j % (a + b))) := by
            have h5 := iter_rev (t := t) hd' 0 b
            have h6 := iter_rev (t := t) hd' (a + b - j % (a + b)) (b - (a + b - j % (a + b)))
            rw [show a + b - j % (a + b) + (b - (a + b - j % (a + b))) = b by omega, ← e1, ← iter_add, show a + (b - (a + b - j % (a + b))) = j % (a + b) by omega] at h6
            exact h6
          rw [e4]
          exact rev_in.2 ((goL_facts hd' hx').2.2.1 _ (by omega))
      rw [onR_of hin] at hon
      cases hon
  have hg0 : goesTo (iter t x) (goL n m t x) ⟨i, k, d0⟩ = true := goesTo_iff.2 ⟨0, (goL_facts hd hx).1, hxe⟩
  have hg1 : goesTo (iter t (rev t x)) (goL n m t (rev t x)) ⟨i, k, opp (bend (t i k) d0)⟩ = true := goesTo_iff.2 ⟨0, (goL_facts hd' hx').1, by rw [hxe]; rfl⟩
  generalize goesTo (iter t x) (goL n m t x) = g at *
  generalize goesTo (iter t (rev t x)) (goL n m t (rev t x)) = f at *
  have fin : ∀ (e : Nat), e < 4 → e ≠ d0 → opp (bend (t i k) e) ≠ d0 → (g ⟨i, k, e⟩).toNat + (g ⟨i, k, opp (bend (t i k) e)⟩).toNat + ((f ⟨i, k, e⟩).toNat + (f ⟨i, k, opp (bend (t i k) e)⟩).toNat) ≤ 1 := fun e he h1 h2 => by
    have p1 := hb1 e he
    have p2 := hb2 e he
    have p3 := hc e
    have p4 := hc (opp (bend (t i k) e))
    have p5 := hr e he h1
    have p6 := hr (opp (bend (t i k) e)) (opp_lt _) h2
    rw [bend_opp _ he, opp_opp he] at p6
    cases e1 : g ⟨i, k, e⟩ <;> cases e2 : g ⟨i, k, opp (bend (t i k) e)⟩ <;> cases e3 : f ⟨i, k, e⟩ <;> cases e4 : f ⟨i, k, opp (bend (t i k) e)⟩ <;> simp_all
  have z0 := hb1 d0 hd0 hg0
  have z1 := hc d0 hg0
  have t1 := toNat_le (g ⟨i, k, d0⟩)
  have t2 := toNat_le (f ⟨i, k, opp (bend (t i k) d0)⟩)
  have z0' := toNat_false z0
  have z1' := toNat_false z1
  clear hb1 hb2 hc hr hg0 hg1 z0 z1 hxe hx hx' hd hd' hon honr
  by_cases h1 : t i k = 114
  · rw [h1] at fin z0' t2
    have e0 : opp (bend 114 0) = 3 := rfl
    have e1 : opp (bend 114 1) = 2 := rfl
    have e2 : opp (bend 114 2) = 1 := rfl
    have e3 : opp (bend 114 3) = 0 := rfl
    rcases four hd0 with rfl | rfl | rfl | rfl
    · have h := fin 1 (by decide) (by decide) (by decide); rw [e1] at h; rw [e0] at z0' t2; omega
    · have h := fin 0 (by decide) (by decide) (by decide); rw [e0] at h; rw [e1] at z0' t2; omega
    · have h := fin 0 (by decide) (by decide) (by decide); rw [e0] at h; rw [e2] at z0' t2; omega
    · have h := fin 1 (by decide) (by decide) (by decide); rw [e1] at h; rw [e3] at z0' t2; omega
  · by_cases h2 : t i k = 102
    · rw [h2] at fin z0' t2
      have e0 : opp (bend 102 0) = 1 := rfl
      have e1 : opp (bend 102 1) = 0 := rfl
      have e2 : opp (bend 102 2) = 3 := rfl
      have e3 : opp (bend 102 3) = 2 := rfl
      rcases four hd0 with rfl | rfl | rfl | rfl
      · have h := fin 2 (by decide) (by decide) (by decide); rw [e2] at h; rw [e0] at z0' t2; omega
      · have h := fin 2 (by decide) (by decide) (by decide); rw [e2] at h; rw [e1] at z0' t2; omega
      · have h := fin 0 (by decide) (by decide) (by decide); rw [e0] at h; rw [e2] at z0' t2; omega
      · have h := fin 0 (by decide) (by decide) (by decide); rw [e0] at h; rw [e3] at z0' t2; omega
    · have e0 : opp (bend (t i k) 0) = 2 := by rw [bend_e h1 h2]; rfl
      have e1 : opp (bend (t i k) 1) = 3 := by rw [bend_e h1 h2]; rfl
      have e2 : opp (bend (t i k) 2) = 0 := by rw [bend_e h1 h2]; rfl
      have e3 : opp (bend (t i k) 3) = 1 := by rw [bend_e h1 h2]; rfl
      rcases four hd0 with rfl | rfl | rfl | rfl
      · have h := fin 1 (by decide) (by decide) (by rw [e1]; decide); rw [e1] at h; rw [e0] at z0' t2; omega
      · have h := fin 0 (by decide) (by decide) (by rw [e0]; decide); rw [e0] at h; rw [e1] at z0' t2; omega
      · have h := fin 1 (by decide) (by decide) (by rw [e1]; decide); rw [e1] at h; rw [e2] at z0' t2; omega
      · have h := fin 0 (by decide) (by decide) (by rw [e0]; decide); rw [e0] at h; rw [e3] at z0' t2; omega

/-- One path goes through the cell twice. -/
def selfB (n m : Nat) (t : Int → Int → UInt8) (i k : Int) : Bool := retB n m t i k ⟨i, k, 0⟩ || retB n m t i k (rev t ⟨i, k, 0⟩)
theorem self_round (hx : inG n m ⟨i, k, 0⟩) (hon : onR n m t ⟨i, k, 0⟩ = true) : (cntAt n m t i k ⟨i, k, 0⟩ == 2) = selfB n m t i k := by
  have hd : (⟨i, k, 0⟩ : Wy).d < 4 := Nat.zero_lt_succ 3
  have h1 := cntAt_ret (t := t) hd hx (atC_mk 0)
  have h2 := cnt_round (t := t) (i := i) (k := k) hd hx
  unfold selfB
  rw [Bool.eq_iff_iff, beq_iff_eq, Bool.or_eq_true]
  constructor
  · intro h
    exact .inl (h1.2.2 (by omega))
  · rintro (h | h)
    · have := h1.2.1 h; omega
    · have := h1.2.1 (ret_back hd hon h); omega
theorem self_beam (hx : inG n m ⟨i, k, 0⟩) (hon : onR n m t ⟨i, k, 0⟩ = false) : (cntAt n m t i k ⟨i, k, 0⟩ + cntAt n m t i k (rev t ⟨i, k, 0⟩) - 1 == 2) = selfB n m t i k := by
  have hd : (⟨i, k, 0⟩ : Wy).d < 4 := Nat.zero_lt_succ 3
  have h1 := cntAt_ret (t := t) hd hx (atC_mk 0)
  have h2 := cntAt_ret (t := t) (i := i) (k := k) (rev_d (t := t) ⟨i, k, 0⟩) hx ⟨rfl, rfl⟩
  have h3 := cnt_beam (t := t) (Nat.zero_lt_succ 3) hx hon
  unfold selfB
  rw [Bool.eq_iff_iff, beq_iff_eq, Bool.or_eq_true]
  constructor
  · intro h
    by_cases h4 : 2 ≤ cntAt n m t i k ⟨i, k, 0⟩
    · exact .inl (h1.2.2 h4)
    · exact .inr (h2.2.2 (by omega))
  · rintro (h | h)
    · have := h1.2.1 h; have := h2.1; omega
    · have := h2.2.1 h; have := h1.1; omega
end
end Go.Proofs.Ytminailbhgimkaa

/- ChangeSelf of the program: a step that returns into its cell, a path that goes through a cell twice, by their contracts. -/
namespace Go.Proofs.Ytminailbhgimkaa
open Go.RowKit Go.Shelf

section
variable {P : Program} (w : World)
theorem run_neq_ptr_nil {tp te : TypeId} (a : Addr) (hp : P.underlying tp = some (.pointer te)) :
    (binOp .neq tp (.pointer (some a)) (.pointer none)).run P w = .ok (.bool true) w := by
  have h : ∀ d : Nat, (Op.equalIn (d + 1) tp (.pointer (some a)) (.pointer none)).run P w = .ok false w := fun d => by
    simp [Op.equalIn, run_underlying hp]
  simp only [binOp]
  simp [Op.equal, Op.maxDepth, h 9999]
theorem run_neq_nil_nil {tp te : TypeId} (hp : P.underlying tp = some (.pointer te)) :
    (binOp .neq tp (.pointer none) (.pointer none)).run P w = .ok (.bool false) w := by
  have h : ∀ d : Nat, (Op.equalIn (d + 1) tp (.pointer none) (.pointer none)).run P w = .ok true w := fun d => by
    simp [Op.equalIn, run_underlying hp]
  simp only [binOp]
  simp [Op.equal, Op.maxDepth, h 9999]
end
theorem run_eq_place (ac : Act) (x y : Operand) (a b c d : Int) (w : World) (hx : ac.eval x = .agg #[.int .i64 a, .int .i64 b]) (hy : ac.eval y = .agg #[.int .i64 c, .int .i64 d]) (o : Oper) (ho : o.op = Op.binOp .eql 105 x y 105) :
    (execOp ac.eval o).run Try.prog w = .ok (.value (.bool (decide (a = c ∧ b = d)))) w := by
  unfold execOp
  simp only [ho, hx, hy]
  go_simp
  by_cases h1 : a = c <;> by_cases h2 : b = d <;> simp [h1, h2]
/-- The place of a step, out of its block. -/
theorem StepsM.place {w : World} {g n m N c : Nat} {t : Int → Int → UInt8} (h : StepsM w g n m t (fun _ => True) N) (hc : c < N) : w.rangeAt g (5 * c) [.int .i64 (wayN m c).i, .int .i64 (wayN m c).k] := by
  have h1 := h.way hc
  intro j v hj
  refine h1 j v ?_
  match j, hj with
  | 0, hj => exact hj
  | 1, hj => exact hj
  | j + 2, hj => simp at hj

/-- A cell, and a bool. -/
def SelfOut (ss : List ByteArray) (cell : Int) (ok : Bool) : Prop :=
  (∃ n m c, CellIn ss cell n m c ∧ ok = selfB n m (lett m (pad (flat ss))) (placeN m c).i (placeN m c).k) ∨ ((∀ n m c, ¬ CellIn ss cell n m c) ∧ ok = false)
theorem SelfOut.uniq {ss : List ByteArray} {cell : Int} {ok ok' : Bool} (h : SelfOut ss cell ok) (h' : SelfOut ss cell ok') : ok' = ok := by
  rcases h with ⟨n, m, c, h1, rfl⟩ | ⟨h1, rfl⟩ <;> rcases h' with ⟨n', m', c', h1', rfl⟩ | ⟨h1', rfl⟩
  · obtain ⟨rfl, rfl, rfl⟩ := h1.uniq h1'
    rfl
  · exact absurd h1 (h1' _ _ _)
  · exact absurd h1' (h1 _ _ _)
  · rfl
/-- What the operations of the program's last statement hand back. -/
def selfIRel (n m c N : Nat) (ls : List UInt8) (i : Nat) (v : Value) (W : World) : Prop :=
  match i with
  | 0 => v = .bool true
  | 1 => v = .bool true
  | 2 => v = .agg (gcells n m ls)
  | 3 => ∃ g, v = .agg (chartC (gcells n m ls) g N) ∧ StepsM W g n m (lett m ls) (fun _ => True) N
  | 4 => v = .agg #[.int .i64 (placeN m c).i, .int .i64 (placeN m c).k]
  | 5 => v = .bool (selfB n m (lett m ls) (placeN m c).i (placeN m c).k)
  | 6 => v = .bool (selfB n m (lett m ls) (placeN m c).i (placeN m c).k)
  | 7 => v = .bool (selfB n m (lett m ls) (placeN m c).i (placeN m c).k)
  | _ => True

end Go.Proofs.Ytminailbhgimkaa

/- ChangeDelta and ChangeEmpty of the program, by their contracts. -/
namespace Go.Proofs.Ytminailbhgimkaa
open Go.RowKit Go.Shelf

/-- What a question on a cell with a mirror comes to, where the answer is an integer and a bool. -/
def MirOut (R : Nat → Nat → List UInt8 → Nat → Int × Bool) (ss : List ByteArray) (cell : Int) (x : Int) (ok : Bool) : Prop :=
  (∃ n m c, MirrorIn ss cell n m c ∧ (x, ok) = R n m (pad (flat ss)) c) ∨ ((∀ n m c, ¬ MirrorIn ss cell n m c) ∧ x = 0 ∧ ok = false)
theorem MirOut.uniq {R : Nat → Nat → List UInt8 → Nat → Int × Bool} {ss : List ByteArray} {cell x x' : Int} {ok ok' : Bool} (h : MirOut R ss cell x ok) (h' : MirOut R ss cell x' ok') : x' = x ∧ ok' = ok := by
  rcases h with ⟨n, m, c, h1, h2⟩ | ⟨h1, rfl, rfl⟩ <;> rcases h' with ⟨n', m', c', h1', h2'⟩ | ⟨h1', rfl, rfl⟩
  · obtain ⟨rfl, rfl, rfl⟩ := h1.1.uniq h1'.1
    have := h2'.trans h2.symm
    cases this
    exact ⟨rfl, rfl⟩
  · exact absurd h1 (h1' _ _ _)
  · exact absurd h1' (h1 _ _ _)
  · exact ⟨rfl, rfl⟩
/-- How many paths more come if a cell becomes a letter. -/
def diffR (n m : Nat) (ls : List UInt8) (c : Nat) (b : UInt8) : Int := (pathsR n m (lett m (ls.set c b))).1 - (pathsR n m (lett m ls)).1
def deltaR (n m : Nat) (ls : List UInt8) (c : Nat) : Int × Bool := (diffR n m ls c (oth (lett m ls ((c / m : Nat) : Int) ((c % m : Nat) : Int))), true)
def emptyR (n m : Nat) (ls : List UInt8) (c : Nat) : Int × Bool := (diffR n m ls c 46, true)

end Go.Proofs.Ytminailbhgimkaa

/- l4Given, l4Mirror, l4Exchange, ChangeDelta and ChangeEmpty of the specification, by their contracts. -/
namespace Go.Proofs.Ytminailbhgimkaa
open Go.RowKit Go.Shelf

/-- What l4Given comes to. -/
def CellEnd (ss : List ByteArray) (cell : Int) (w : World) (e : Ending) (w' : World) : Prop :=
  ∃ ok : Bool, e = .returned (.bool ok) ∧ ((ok = true ∧ ∃ n m c, CellIn ss cell n m c) ∨ (ok = false ∧ ∀ n m c, ¬ CellIn ss cell n m c)) ∧ ∃ d, w' = w.drewN d
/-- What l4Mirror comes to. -/
def MirBEnd (ss : List ByteArray) (cell : Int) (w : World) (e : Ending) (w' : World) : Prop :=
  ∃ ok : Bool, e = .returned (.bool ok) ∧ ((ok = true ∧ ∃ n m c, MirrorIn ss cell n m c) ∨ (ok = false ∧ ∀ n m c, ¬ MirrorIn ss cell n m c)) ∧ ∃ d, w' = w.drewN d

/-- The letter of a cell, as the list of all letters has it. -/
theorem lett_cell {n m c : Nat} {ss : List ByteArray} (hg : IsGrid n m ss) (hc : c < n * m) : (flat ss)[c]? = some (lett m (pad (flat ss)) ((c / m : Nat) : Int) ((c % m : Nat) : Int)) := by
  have h := lett_flat hg (placeN_in hc)
  rw [cellN_place] at h
  exact h

end Go.Proofs.Ytminailbhgimkaa

/- ChangeSelf of the specification: the cells of a path, by their contracts. -/
namespace Go.Proofs.Ytminailbhgimkaa
open Go.RowKit Go.Shelf

/-- How often a cell's number stands among cells. -/
theorem count_cellsP {n m c L : Nat} {bw : Nat → Wy} (hc : c < n * m) (hin : ∀ j, j < L → inG n m (bw j)) : (cellsI m bw L).count ((c : Nat) : Int) = (List.range L).countP fun j => decide (atC (placeN m c).i (placeN m c).k (bw j)) := by
  have hm : 0 < m := by
    rcases Nat.eq_zero_or_pos m with h0 | h0
    · subst h0; simp at hc
    · exact h0
  unfold cellsI
  rw [List.count, List.countP_map]
  refine List.countP_congr fun j hj => ?_
  have h1 := cellN_iff (i := c / m) (hin j (List.mem_range.1 hj)) (Nat.mod_lt c hm)
  rw [show c / m * m + c % m = c by rw [Nat.mul_comm]; exact Nat.div_add_mod c m] at h1
  simp only [Function.comp, decide_eq_true_iff, beq_iff_eq]
  rw [Int.ofNat_inj, h1]
  rfl
/-- The cells of a path: of the way on, and of the way back if it is no round. -/
def pathL (n m : Nat) (t : Int → Int → UInt8) (c : Nat) : List Int :=
  if onR n m t (placeN m c) = true then cellsI m (iter t (placeN m c)) (goL n m t (placeN m c))
  else cellsI m (iter t (placeN m c)) (goL n m t (placeN m c)) ++ (cellsI m (iter t (rev t (placeN m c))) (goL n m t (rev t (placeN m c)))).drop 1
theorem pathL_len {n m c : Nat} {t : Int → Int → UInt8} (hc : c < n * m) : (pathL n m t c).length ≤ 8 * (n * m) := by
  have hx := placeN_in hc
  have h1 := (goL_facts (t := t) (x := placeN m c) (Nat.zero_lt_succ 3) hx).2.1
  have h2 := (goL_facts (t := t) (x := rev t (placeN m c)) (rev_d _) (rev_in.2 hx)).2.1
  unfold pathL
  split
  · rw [cellsI_length]; omega
  · rw [List.length_append, List.length_drop, cellsI_length, cellsI_length]; omega
theorem pathL_two {n m c : Nat} {t : Int → Int → UInt8} (hc : c < n * m) : ((pathL n m t c).count ((c : Nat) : Int) == 2) = selfB n m t (placeN m c).i (placeN m c).k := by
  have hx := placeN_in hc
  have hd : (placeN m c).d < 4 := Nat.zero_lt_succ 3
  have g1 := goL_facts (t := t) (x := placeN m c) hd hx
  have g2 := goL_facts (t := t) (x := rev t (placeN m c)) (rev_d _) (rev_in.2 hx)
  have c1 := count_cellsP (bw := iter t (placeN m c)) hc g1.2.2.1
  have c2 := count_cellsP (bw := iter t (rev t (placeN m c))) hc g2.2.2.1
  unfold pathL
  cases hon : onR n m t (placeN m c) with
  | true =>
    rw [if_pos rfl, c1]
    exact self_round hx hon
  | false =>
    rw [if_neg (by decide), List.count_append, c1]
    have h3 : (cellsI m (iter t (rev t (placeN m c))) (goL n m t (rev t (placeN m c)))).count ((c : Nat) : Int) = 1 + ((cellsI m (iter t (rev t (placeN m c))) (goL n m t (rev t (placeN m c)))).drop 1).count ((c : Nat) : Int) := by
      obtain ⟨L, hL⟩ : ∃ L, goL n m t (rev t (placeN m c)) = L + 1 := ⟨goL n m t (rev t (placeN m c)) - 1, by have := g2.1; omega⟩
      have h0 : (cellsI m (iter t (rev t (placeN m c))) (L + 1)) = ((c : Nat) : Int) :: (cellsI m (iter t (rev t (placeN m c))) (L + 1)).drop 1 := by
        have e0 : ((cellN m (iter t (rev t (placeN m c)) 0) : Nat) : Int) = ((c : Nat) : Int) := by
          have : cellN m (iter t (rev t (placeN m c)) 0) = c := cellN_place m c
          rw [this]
        unfold cellsI
        rw [List.range_succ_eq_map, List.map_cons, e0]
        rfl
      rw [hL]
      conv => lhs; rw [h0]
      rw [List.count_cons]
      simp; omega
    have h4 : (cntAt n m t (placeN m c).i (placeN m c).k (placeN m c) + cntAt n m t (placeN m c).i (placeN m c).k (rev t (placeN m c)) - 1 == 2) = selfB n m t (placeN m c).i (placeN m c).k := self_beam (t := t) (i := (placeN m c).i) (k := (placeN m c).k) hx hon
    rw [← h4]
    rw [c2] at h3
    have e1 : (List.range (goL n m t (placeN m c))).countP (fun j => decide (atC (placeN m c).i (placeN m c).k (iter t (placeN m c) j))) = cntAt n m t (placeN m c).i (placeN m c).k (placeN m c) := rfl
    have e2 : (List.range (goL n m t (rev t (placeN m c)))).countP (fun j => decide (atC (placeN m c).i (placeN m c).k (iter t (rev t (placeN m c)) j))) = cntAt n m t (placeN m c).i (placeN m c).k (rev t (placeN m c)) := rfl
    rw [e1]
    rw [e2] at h3
    rw [h3]
    congr 1
    omega

/-- What the operations on the way back hand back. -/
def pathRelA (A : Option Addr) (nl c cc base b2 o2 L1 c2 : Nat) (bt : UInt8) (on2 : Bool) (l2 : List Int) (i : Nat) (v : Value) (W : World) : Prop :=
  match i with
  | 0 => v = .slice A nl c
  | 1 => v = .int .i64 (cc : Int)
  | 2 => v = .slice A nl c
  | 3 => v = .int .i64 (cc : Int)
  | 4 => v = .int .u8 (bt.toNat : Int)
  | 5 => v = .slice (some ⟨b2, o2, none⟩) L1 c2
  | 6 => v = .pointer (some ⟨b2, o2, none⟩)
  | 7 => v = .int .i64 0
  | 8 => v = .int .i64 ((bend bt 0 : Nat) : Int)
  | 9 => v = .int .i64 ((opp (bend bt 0) : Nat) : Int)
  | 10 => ∃ v1 v2, v = .tuple #[v1, v2, .bool on2] ∧ GrowI W base v1 l2
  | 11 => ∃ v1 v2, v = .tuple #[v1, v2, .bool on2] ∧ GrowI W base v1 l2
  | 12 => GrowI W base v l2
  | 15 => GrowI W base v l2
  | _ => True
/-- What the operations of the two appends hand back, up to the last one. -/
def pathRelB (A1 : Option Addr) (L1 c1 base g cap L2 : Nat) (l1 l2 : List Int) (i : Nat) (v : Value) (W : World) : Prop :=
  match i with
  | 0 => ∃ h, v = .slice (some ⟨h, 0, none⟩) 0 0
  | 1 => v = .slice A1 L1 c1
  | 2 => GrowI W base v l1
  | 3 => v = .slice (some ⟨g, 0, none⟩) L2 cap
  | 4 => ∃ ad c', v = .slice (some ad) (L2 - 1) c' ∧ CellsAt W ad (intsV (l2.drop 1))
  | _ => True

end Go.Proofs.Ytminailbhgimkaa

/- Changes of a cell in a slice: changes, by its contract. -/
namespace Go.Proofs.Ytminailbhgimkaa
open Go.RowKit Go.Shelf

/-- A change in memory: its cell, its letter, the blocks of its closure. -/
structure Chg where
  x : Wy
  b : UInt8
  g0 : Nat
  g1 : Nat
  g2 : Nat
section
variable {ops : Array Oper} {rest : List Oper} {o : Oper} {a : Act} {w : World} {Q : Exit → Act → World → Prop}
end

/-- The letters of a cell, in order. -/
def lets3 : List UInt8 := [46, 114, 102]
end Go.Proofs.Ytminailbhgimkaa

/- ChangePaths of the program, by its contract. -/
namespace Go.Proofs.Ytminailbhgimkaa
open Go.RowKit Go.Shelf

/-- The numbers of paths with the cell empty, with r and with f. -/
def pathsL (n m : Nat) (ls : List UInt8) (c : Nat) : List Int := lets3.map fun b => (pathsR n m (lett m (ls.set c b))).1
theorem pathsL_length (n m : Nat) (ls : List UInt8) (c : Nat) : (pathsL n m ls c).length = 3 := rfl
theorem pathsL_take (n m : Nat) (ls : List UInt8) (c : Nat) {k : Nat} {b : UInt8} (hb : lets3[k]? = some b) : (pathsL n m ls c).take (k + 1) = (pathsL n m ls c).take k ++ [(pathsR n m (lett m (ls.set c b))).1] := by
  match k, hb with
  | 0, hb => cases hb; rfl
  | 1, hb => cases hb; rfl
  | 2, hb => cases hb; rfl
/-- What ChangePaths comes to. -/
def CPOut (ss : List ByteArray) (cell : Int) (l : List Int) (ok : Bool) : Prop :=
  (∃ n m c, CellIn ss cell n m c ∧ l = pathsL n m (pad (flat ss)) c ∧ ok = true) ∨ ((∀ n m c, ¬ CellIn ss cell n m c) ∧ l = [] ∧ ok = false)
theorem CPOut.uniq {ss : List ByteArray} {cell : Int} {l l' : List Int} {ok ok' : Bool} (h : CPOut ss cell l ok) (h' : CPOut ss cell l' ok') : l' = l ∧ ok' = ok := by
  rcases h with ⟨n, m, c, h1, rfl, rfl⟩ | ⟨h1, rfl, rfl⟩ <;> rcases h' with ⟨n', m', c', h1', rfl, rfl⟩ | ⟨h1', rfl, rfl⟩
  · obtain ⟨rfl, rfl, rfl⟩ := h1.uniq h1'
    exact ⟨rfl, rfl⟩
  · exact absurd h1 (h1' _ _ _)
  · exact absurd h1' (h1 _ _ _)
  · exact ⟨rfl, rfl⟩
/-- A goal at which the walk halts. -/
structure Halt (p : Prop) : Prop where
  out : p
theorem CPOut.len {ss : List ByteArray} {cell : Int} {l : List Int} {ok : Bool} (h : CPOut ss cell l ok) : l.length ≤ 1048576 := by
  rcases h with ⟨n, m, c, _, rfl, _⟩ | ⟨_, rfl, _⟩
  · rw [pathsL_length]; decide
  · decide
section
variable {P : Program} {ops : Array Oper} {rest : List Oper} {o : Oper} {a : Act} {w : World} {Q : Exit → Act → World → Prop}
/-- To stop at a load. -/
theorem atLoad (ty : TypeId) (x : Operand) (_ho : o.op = .load ty x) (h : Halt (wpList P ops Q (o :: rest) a w)) : wpList P ops Q (o :: rest) a w := h.out
/-- A struct loaded from the middle of a row. -/
theorem wpList_load_midA (hw : Region.wanted o (yielded ops a.tmps) = true) (ty : TypeId) (x : Operand) (ho : o.op = .load ty x) (b off : Nat) (hx : a.eval x = .pointer (some ⟨b, off, none⟩)) (cs : Array Value) (d : TypeDesc) (hc : w.rangeAt b off cs.toList)
    (hu : P.underlying ty = some d) (hd : d.isRow = true) (hi : (P.info? ty).map (·.size) = some cs.size) (h : wpList P ops Q rest (a.put o.dst (.agg cs)) w) : wpList P ops Q (o :: rest) a w := by
  unfold wpList
  rw [if_pos hw]
  refine .inl ?_
  unfold Oper.wp
  rw [exec_load_mid ty x ho b off hx cs d hc hu hd hi]
  exact h
end
theorem own_int {w : World} {base : Nat} {v : Value} {l : List Int} (h : GrowI w base v l) : ∀ g, v.ownBlock = some g → ∃ cur, w.heap[g]? = some (.cells cur 3 (0, 0)) := by
  intro g hg
  rcases h.2 with ⟨rfl, _⟩ | ⟨g', cap, cur, rfl, _, hgg, _⟩
  · simp [Value.ownBlock] at hg
  · simp [Value.ownBlock] at hg
    subst hg
    exact ⟨cur, hgg⟩
end Go.Proofs.Ytminailbhgimkaa
