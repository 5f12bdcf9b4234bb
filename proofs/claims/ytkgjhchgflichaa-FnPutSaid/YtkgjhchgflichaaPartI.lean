/- GridPart of the program, by its contract. -/
import Derived.Test.YtkgjhchgflichaaPart
namespace Go.Proofs.Ytkgjhchgflichaa
open Go.RowKit Go.Shelf

theorem spanIn_any (a b n : Int) (w : World) :
    Calls Try.prog 78 #[.int .i64 a, .int .i64 b, .int .i64 n] w fun e w' => e = .returned (.bool (decide (0 ≤ a ∧ a ≤ b ∧ b < n))) ∧ w = w' := by
  by_cases h1 : 0 ≤ a
  · by_cases h2 : a ≤ b
    · by_cases h3 : b < n
      · have e : decide (0 ≤ a ∧ a ≤ b ∧ b < n) = true := by simp; omega
        rw [e]
        go_enter Try.func78, Try.ntmps78
        go_wp2
        go_ret
        exact ⟨rfl, rfl⟩
      · have e : decide (0 ≤ a ∧ a ≤ b ∧ b < n) = false := by simp; omega
        rw [e]
        go_enter Try.func78, Try.ntmps78
        go_wp2
        go_ret
        exact ⟨rfl, rfl⟩
    · have e : decide (0 ≤ a ∧ a ≤ b ∧ b < n) = false := by simp; omega
      rw [e]
      go_enter Try.func78, Try.ntmps78
      go_wp2
      go_ret
      exact ⟨rfl, rfl⟩
  · have e : decide (0 ≤ a ∧ a ≤ b ∧ b < n) = false := by simp; omega
    rw [e]
    go_enter Try.func78, Try.ntmps78
    go_wp2
    go_ret
    exact ⟨rfl, rfl⟩

/-- What GridPart takes. -/
def PartIn (ss : List ByteArray) (t lo le ri : Int) (n m a n1 l m1 : Nat) : Prop :=
  IsGrid n m ss ∧ t = (a : Int) ∧ lo = ((a + n1 : Nat) : Int) - 1 ∧ le = (l : Int) ∧ ri = ((l + m1 : Nat) : Int) - 1 ∧ 1 ≤ n1 ∧ a + n1 ≤ n ∧ 1 ≤ m1 ∧ l + m1 ≤ m
def partF (m a l : Nat) (fl : List UInt8) (r q : Nat) : UInt8 := fl.getD ((a + r) * m + (l + q)) 0
def PartOut (ss : List ByteArray) (t lo le ri : Int) (ok : Bool) (res : List ByteArray) : Prop :=
  (∃ n m a n1 l m1, PartIn ss t lo le ri n m a n1 l m1 ∧ ok = true ∧ res = ruleG n1 m1 (partF m a l (flat ss))) ∨ ((∀ n m a n1 l m1, ¬ PartIn ss t lo le ri n m a n1 l m1) ∧ ok = false ∧ res = [])
theorem PartOut.uniq {ss : List ByteArray} {t lo le ri : Int} {ok ok' : Bool} {res res' : List ByteArray} (h : PartOut ss t lo le ri ok res) (h' : PartOut ss t lo le ri ok' res') : ok' = ok ∧ res' = res := by
  rcases h with ⟨n, m, a, n1, l, m1, hg, rfl, rfl⟩ | ⟨hn, rfl, rfl⟩ <;> rcases h' with ⟨n', m', a', n1', l', m1', hg', rfl, rfl⟩ | ⟨hn', rfl, rfl⟩
  · obtain ⟨g1, g2, g3, g4, g5, _, _, _, _⟩ := hg
    obtain ⟨k1, k2, k3, k4, k5, _, _, _, _⟩ := hg'
    obtain ⟨rfl, rfl⟩ := g1.uniq k1
    obtain rfl : a = a' := by omega
    obtain rfl : l = l' := by omega
    obtain rfl : n1 = n1' := by omega
    obtain rfl : m1 = m1' := by omega
    exact ⟨rfl, rfl⟩
  · exact absurd hg (hn' _ _ _ _ _ _)
  · exact absurd hg' (hn _ _ _ _ _ _)
  · exact ⟨rfl, rfl⟩
theorem PartOut.len {ss : List ByteArray} {t lo le ri : Int} {ok : Bool} {res : List ByteArray} (h : PartOut ss t lo le ri ok res) : res.length ≤ 1048576 := by
  rcases h with ⟨n, m, a, n1, l, m1, hg, _, rfl⟩ | ⟨_, _, rfl⟩
  · have h1 := hg.1.2.2.1
    have h2 := hg.2.2.2.2.2.2.1
    rw [ruleG_length]; omega
  · simp
theorem part_same {n m a n1 l m1 : Nat} {ss : List ByteArray} (h : IsGrid n m ss) (h1 : a + n1 ≤ n) (h2 : l + m1 ≤ m) : textsOf n1 m1 (putAll samePos (partVal m m1 a l (pad (flat ss))) (List.finRange (n1 * m1)) (pad [])) = ruleG n1 m1 (partF m a l (flat ss)) := by
  have hfl := h.flen
  have hn5 := h.2.2.1
  have hm5 := h.2.2.2.2.1
  refine rows_eq _ _ _ _ fun r hr q hq => ?_
  have hp := lt_of_parts hr hq
  have h25 : n1 * m1 ≤ 5 * 5 := Nat.mul_le_mul (by omega) (by omega)
  have hx : (a + r) * m + (l + q) < n * m := lt_of_parts (by omega) (by omega)
  have hd := div_of (a := r) (m := m1) (b := q) hq
  rw [put_all samePos (partVal m m1 a l (pad (flat ss))) (r * m1 + q) (r * m1 + q) hp (by omega) rfl (fun x _ hx => hx)]
  unfold partVal partF
  rw [hd.1, hd.2, pad_getD _ _ (by rw [hfl]; exact hx)]

set_option maxRecDepth 100000 in
set_option maxHeartbeats 2000000 in
theorem implGridPart_any (A : Option Addr) (c : Nat) (ss : List ByteArray) (t lo le ri : Int) (w : World) (h : Strs w w.heap.size A ss) (hn : ss.length ≤ 1048576) (hs : ∀ s ∈ ss, s.size ≤ 1048576) :
    Calls Try.prog 29 #[.slice A ss.length c, .int .i64 t, .int .i64 lo, .int .i64 le, .int .i64 ri] w fun e w' => Below w.heap.size w w' ∧ ∃ A res ok, e = .returned (.tuple #[.slice A res.length res.length, .bool ok]) ∧ PartOut ss t lo le ri ok res ∧ Own2 w' w.heap.size A res := by
  have HR := hid (readGrid_any A c ss w h hn hs)
  clear h hs
  go_enter Try.func29, Try.ntmps29
  go_wp2_with fail
  refine HR.out.mono ?_
  rintro e w1 ⟨hbel, ⟨n, m, hg, rfl⟩ | ⟨hno, rfl⟩⟩
  · have HGr := hid hg
    have hn5 := hg.2.2.1
    have hm5 := hg.2.2.2.2.1
    have HPL := hid hg.plen
    have HS := hid (show (Try.prog.info? 57).map (·.size) = some (gcells n m (pad (flat ss))).size by rw [hg.csize]; exact Try.size_grid)
    have HZ := hid (show zeroG.size = (gcells n m (pad (flat ss))).size by rw [hg.csize]; rfl)
    have hL := setRow_heap (w1.alloc (.cells zeroG 57)) w1.heap.size zeroG (gcells n m (pad (flat ss))) 57 (0, 0) (heap_new0 w1 _)
    have HBB := hid (hbel.trans (below_setRow' ((Below.refl _ w1).alloc hbel.size (.cells zeroG 57)) hbel.size (gcells n m (pad (flat ss)))))
    obtain ⟨W0, hW0⟩ : ∃ W0, (w1.alloc (.cells zeroG 57)).setRow w1.heap.size (gcells n m (pad (flat ss))) = W0 := ⟨_, rfl⟩
    have HW0 := hid hW0
    rw [hW0] at hL HBB
    have HL := hid hL
    have hc0 : W0.cell? ⟨w1.heap.size, 0, none⟩ = some (.int .i64 n) := by rw [cell_of_row _ _ _ _ _ _ hL, gcells_0]
    have hc1 : W0.cell? ⟨w1.heap.size, 1, none⟩ = some (.int .i64 m) := by rw [cell_of_row _ _ _ _ _ _ hL, gcells_1]
    have g1 := hid (spanIn_any t lo n W0)
    have g2 := hid (spanIn_any le ri m W0)
    clear hbel hg hW0 hL
    go_wp2_with (refine wpList_store_row rfl 57 _ _ rfl w1.heap.size (gcells n m (pad (flat ss))) rfl rfl 57 zeroG (heap_new0 w1 _) HS.out HZ.out (gcells_one _ _ _) ?_; rw [HW0.out])
    refine g1.out.mono ?_
    rintro e w' ⟨rfl, rfl⟩
    by_cases ha : 0 ≤ t ∧ t ≤ lo ∧ lo < (n : Int)
    · rw [show decide (0 ≤ t ∧ t ≤ lo ∧ lo < (n : Int)) = true by simpa using ha]
      have HA := hid ha
      clear ha
      go_wp2_with fail
      refine g2.out.mono ?_
      rintro e w' ⟨rfl, rfl⟩
      by_cases hb : 0 ≤ le ∧ le ≤ ri ∧ ri < (m : Int)
      · rw [show decide (0 ≤ le ∧ le ≤ ri ∧ ri < (m : Int)) = true by simpa using hb]
        have HB := hid hb
        clear hb
        obtain ⟨a, rfl⟩ : ∃ a : Nat, t = a := ⟨t.toNat, by have := HA.out.1; omega⟩
        obtain ⟨l, rfl⟩ : ∃ l : Nat, le = l := ⟨le.toNat, by have := HB.out.1; omega⟩
        obtain ⟨n1, hn1⟩ : ∃ n1 : Nat, lo = ((a + n1 : Nat) : Int) - 1 := ⟨(lo - a + 1).toNat, by have := HA.out; omega⟩
        obtain ⟨m1, hm1⟩ : ∃ m1 : Nat, ri = ((l + m1 : Nat) : Int) - 1 := ⟨(ri - l + 1).toNat, by have := HB.out; omega⟩
        have q1 : 1 ≤ n1 := by have := HA.out; omega
        have q2 : a + n1 ≤ n := by have := HA.out; omega
        have q3 : 1 ≤ m1 := by have := HB.out; omega
        have q4 : l + m1 ≤ m := by have := HB.out; omega
        have HP := hid (part_any n m n1 m1 a l (pad (flat ss)) W0 HPL.out hn5 hm5 q1 q3 q2 q4)
        rw [← hn1, ← hm1] at HP
        have HYes := hid (show PartIn ss a lo l ri n m a n1 l m1 from ⟨HGr.out, rfl, hn1, rfl, hm1, q1, q2, q3, q4⟩)
        have HQ2 := hid q2
        have HQ4 := hid q4
        have hn15 : n1 ≤ 5 := by omega
        have hm15 : m1 ≤ 5 := by omega
        clear hn1 hm1 q1 q2 q3 q4
        go_wp2_with (refine wpList_load_row rfl 57 _ rfl w1.heap.size rfl 57 (gcells n m (pad (flat ss))) (0, 0) _ HL.out Try.underlying57 rfl HS.out ?_)
        refine HP.out.mono ?_
        rintro e w2 ⟨rfl, hb2⟩
        have HB2 := hid (HBB.out.trans (hb2.mono HBB.out.size))
        have HT := hid (texts_any n1 m1 (putAll samePos (partVal m m1 a l (pad (flat ss))) (List.finRange (n1 * m1)) (pad [])) w2 (by rw [putAll_length]; rfl) hn15 hm15)
        clear hb2
        go_wp2_with fail
        refine HT.out.mono ?_
        rintro e w3 ⟨rfl, hrow, hb3⟩
        rw [part_same HGr.out HQ2.out HQ4.out] at hrow
        have HB3 := hid (HB2.out.trans (hb3.mono HB2.out.size))
        have HRow := hid hrow
        clear hb3 hrow
        go_wp2_with fail
        refine bodyPost_ret (results_tmp2 rfl _ _ _) rfl ?_
        have hlen : (ruleG n1 m1 (partF m a l (flat ss))).length = n1 := ruleG_length _ _ _
        exact ⟨HB3.out, some ⟨w2.heap.size + 1, 0, none⟩, ruleG n1 m1 (partF m a l (flat ss)), true, by rw [hlen]; rfl, .inl ⟨n, m, a, n1, l, m1, HYes.out, rfl, rfl⟩, .inr ⟨_, rfl, by have := HB2.out.size; omega, HRow.out⟩⟩
      · rw [show decide (0 ≤ le ∧ le ≤ ri ∧ ri < (m : Int)) = false by simpa using hb]
        have HNo := hid (show ∀ n m a n1 l m1, ¬ PartIn ss t lo le ri n m a n1 l m1 from fun n' m' a n1 l m1 h => by
          obtain ⟨k1, k2, k3, k4, k5, k6, k7, k8, k9⟩ := h
          obtain ⟨rfl, rfl⟩ := HGr.out.uniq k1
          exact hb ⟨by omega, by omega, by omega⟩)
        clear hb
        go_wp2_with fail
        refine bodyPost_ret (results_tmp2 rfl _ _ _) rfl ?_
        exact ⟨HBB.out, none, [], false, rfl, .inr ⟨HNo.out, rfl, rfl⟩, .inl ⟨rfl, rfl⟩⟩
    · rw [show decide (0 ≤ t ∧ t ≤ lo ∧ lo < (n : Int)) = false by simpa using ha]
      have HNo := hid (show ∀ n m a n1 l m1, ¬ PartIn ss t lo le ri n m a n1 l m1 from fun n' m' a n1 l m1 h => by
        obtain ⟨k1, k2, k3, k4, k5, k6, k7, k8, k9⟩ := h
        obtain ⟨rfl, rfl⟩ := HGr.out.uniq k1
        exact ha ⟨by omega, by omega, by omega⟩)
      clear ha
      go_wp2_with fail
      refine bodyPost_ret (results_tmp2 rfl _ _ _) rfl ?_
      exact ⟨HBB.out, none, [], false, rfl, .inr ⟨HNo.out, rfl, rfl⟩, .inl ⟨rfl, rfl⟩⟩
  · have HNo := hid (show ∀ n m a n1 l m1, ¬ PartIn ss t lo le ri n m a n1 l m1 from fun n' m' a n1 l m1 h => hno n' m' h.1)
    have HBB := hid (hbel.trans (below_setRow' ((Below.refl _ w1).alloc hbel.size (.cells zeroG 57)) hbel.size zeroG))
    clear hbel hno
    go_wp2_with (refine wpList_store_row rfl 57 _ _ rfl w1.heap.size zeroG rfl rfl 57 zeroG (heap_new0 w1 _) Try.size_grid rfl (gcells_one 0 0 (pad [])) ?_)
    refine bodyPost_ret (results_tmp2 rfl _ _ _) rfl ?_
    exact ⟨HBB.out, none, [], false, rfl, .inr ⟨HNo.out, rfl, rfl⟩, .inl ⟨rfl, rfl⟩⟩

end Go.Proofs.Ytkgjhchgflichaa
