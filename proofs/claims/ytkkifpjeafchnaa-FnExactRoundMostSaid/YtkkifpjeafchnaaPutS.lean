/- GridPut of the specification, by its contract. -/
import Derived.Test.YtkkifpjeafchnaaPutI
import Derived.Laws.IdiomStrings
namespace Go.Proofs.Ytkkifpjeafchnaa
open Go.RowKit Go.Shelf

/-- A letter of a row turned. -/
def rowSet (s : ByteArray) (q : Nat) (b : UInt8) : ByteArray := ⟨(s.data.toList.set q b).toArray⟩
/-- The texts of a list, one text turned. -/
theorem put_same {n m c : Nat} {ss : List ByteArray} {b : UInt8} {s : ByteArray} (h : IsGrid n m ss) (hc : c < n * m) (hs : ss[c / m]? = some s) : textsOf n m ((pad (flat ss)).set c b) = ss.set (c / m) (rowSet s (c % m) b) := by
  have hm : 0 < m := h.2.2.2.1
  have hfl := h.flen
  apply List.ext_getElem?
  intro r
  by_cases hr : r < n
  · have hrs : r < ss.length := by rw [h.1]; exact hr
    have hk := List.getElem?_eq_getElem hrs
    have hsz : (ss[r]).size = m := (h.2.2.2.2.2 _ (List.mem_of_getElem? hk)).1
    rw [textsOf_at hr]
    have hat : ∀ q, q < m → (flat ss)[r * m + q]? = (ss[r]).data.toList[q]? := fun q hq => flat_at ss r q _ (fun i t _ ht => (h.2.2.2.2.2 t (List.mem_of_getElem? ht)).1) hk (by rw [hsz]; exact hq)
    have hlen : (ss[r]).data.toList.length = m := by rw [← Lib.size_eq]; exact hsz
    have hrow : ∀ (L : List UInt8), L.length = m → (∀ q, q < m → ((pad (flat ss)).set c b)[r * m + q]? = L[q]?) → rowText m ((pad (flat ss)).set c b) r = ⟨L.toArray⟩ := fun L hL hq => by
      unfold rowText
      congr 2
      apply List.ext_getElem?
      intro q
      by_cases hqm : q < m
      · rw [List.getElem?_take_of_lt hqm, List.getElem?_drop, hq q hqm]
      · rw [List.getElem?_eq_none (by rw [List.length_take]; omega), List.getElem?_eq_none (by omega)]
    have hpad : ∀ q, q < m → (pad (flat ss))[r * m + q]? = (ss[r]).data.toList[q]? := fun q hq => by
      rw [pad, List.getElem?_append_left (by rw [hfl]; exact lt_of_parts hr hq), hat q hq]
    have hdm : c / m * m + c % m = c := by rw [Nat.mul_comm]; exact Nat.div_add_mod c m
    have hcm : c % m < m := Nat.mod_lt _ hm
    have hc25 : c < (pad (flat ss)).length := by rw [h.plen]; have := h.le25; omega
    by_cases hrc : r = c / m
    · subst hrc
      rw [hk] at hs
      cases hs
      rw [List.getElem?_set_self hrs]
      congr 1
      refine hrow _ (by rw [List.length_set]; exact hlen) fun q hq => ?_
      by_cases hqc : q = c % m
      · subst hqc
        rw [hdm, List.getElem?_set_self hc25, List.getElem?_set_self (by rw [hlen]; exact hcm)]
      · rw [List.getElem?_set_ne (fun e => hqc (by have := (mul_inj (e.symm.trans hdm.symm) hq hcm).2; exact this)), List.getElem?_set_ne (fun e => hqc e.symm)]
        exact hpad q hq
    · rw [List.getElem?_set_ne (fun e => hrc e.symm), hk]
      congr 1
      have e := hrow (ss[r]).data.toList hlen fun q hq => by
        rw [List.getElem?_set_ne (fun e => hrc (mul_inj (e.symm.trans hdm.symm) hq hcm).1)]
        exact hpad q hq
      rw [e]
  · rw [List.getElem?_eq_none (by rw [textsOf_length]; omega), List.getElem?_eq_none (by rw [List.length_set, h.1]; omega)]

set_option maxRecDepth 100000 in
/-- The letters of a row, one turned, as a text. -/
theorem row_back (W : World) (hb rn m cap : Nat) (s : ByteArray) (bt : UInt8) (hz : s.size = m) (hr : rn < m) (cs : Array Value) (hbr : ∀ q, q < m → cs[q]? = some (.int .u8 ((s.data.toList.getD q 0).toNat : Int))) (hbs : m ≤ cs.size)
    (fr : Nat × Nat) (hw : W.heap[hb]? = some (.cells (cs.setIfInBounds rn (.int .u8 bt.toNat)) 5 fr)) :
    (convert 38 9 (.slice (some ⟨hb, 0, none⟩) m cap)).run Try.prog W = .ok (.string (rowSet s rn bt)) W := by
  have hlen : s.data.toList.length = m := by rw [← Lib.size_eq]; exact hz
  have hcv := run_convert_bytes_arg (P := Try.prog) W 38 5 Try.underlying38 Try.underlying5 hb 0 m cap ((s.data.toList.set rn bt).map fun b => (b.toNat : Int)) (by simp [hlen]) (fun i hi => by
    rw [cell_of_row _ _ _ _ _ _ hw, Nat.zero_add]
    by_cases e : i = rn
    · subst e
      rw [Array.getElem?_setIfInBounds_self_of_lt (by omega)]
      simp [hlen, hi]
    · rw [Array.getElem?_setIfInBounds_ne (fun h => e h.symm), hbr i hi]
      have hl : i < s.data.toList.length := by omega
      rw [List.getD_eq_getElem?_getD, List.getElem?_eq_getElem hl, List.getD_eq_getElem?_getD, List.getElem?_map, List.getElem?_set_ne (fun h => e h.symm), List.getElem?_eq_getElem hl]
      rfl) 9 Try.underlying9
  rw [hcv]
  unfold strOfNums rowSet
  congr 3
  rw [List.map_map]
  rw [show ((fun n : Int => UInt8.ofNat n.toNat) ∘ fun b : UInt8 => (b.toNat : Int)) = id from funext fun b => by simp, List.map_id]

end Go.Proofs.Ytkkifpjeafchnaa
