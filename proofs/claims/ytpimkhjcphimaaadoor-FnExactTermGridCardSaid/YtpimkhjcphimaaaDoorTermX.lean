/- Terms tidied by the specification (l11Tidy), by its contract. -/
import Derived.Test.YtpimkhjcphimaaaDoorTermS
import Derived.Test.YtpimkhjcphimaaaDoorBunC
namespace Go.Proofs.YtpimkhjcphimaaaDoor
open Go.RowKit

def TidIs (u : Tm) (w : World) (e : Ending) (w' : World) : Prop := e = .returned (.string (strB u.text)) ∧ Below w.heap.size w w'
def TidC (t : Tm) : Prop := ∀ (k : Nat) (f o : Bool) (w : World) (cs : Array Value), k < 4 → TmAt 0 w t cs → Calls Tryd.prog 27 #[.agg cs, .int .i64 (k : Int), .bool f, .bool o] w (TidIs (t.tidS k f o) w)
theorem tidS_len : ∀ (t : Tm) (k : Nat) (f o : Bool), (t.tidS k f o).text.length ≤ t.text.length
  | .lone _, _, _, _ => by simp [Tm.tidS, Tm.text]
  | .sig s t, k, f, o => by
    have h := fun k f o => tidS_len t k f o
    simp only [Tm.tidS, Tm.text, List.length_cons]
    split
    · split
      · exact Nat.le_succ_of_le (h _ _ _)
      · exact Nat.le_succ_of_le (h _ _ _)
    · split
      · exact Nat.le_succ_of_le (h _ _ _)
      · exact Nat.le_succ_of_le (h _ _ _)
  | .cpl a s b, k, f, o => by
    have h1 := tidS_len a k f o
    have h2 := tidS_len b k f o
    simp only [Tm.tidS]
    split <;> simp [Tm.text] <;> omega
/-- A struct of four cells in a row. -/
theorem four_cells {w : World} {g off : Nat} {cs : Array Value} {ty : TypeId} {s : UInt8} {d : Nat × Nat} {sl : Value} (h : w.heap[g]? = some (.cells cs ty (0, 0))) (hc : ∀ j v, (tmC s d sl)[j]? = some v → cs[off + j]? = some v) :
    w.cell? ⟨g, off, none⟩ = some (.int .u8 s.toNat) ∧ w.cell? ⟨g, off + 1, none⟩ = some (.int .i64 (d.1 : Int)) ∧ w.cell? ⟨g, off + 2, none⟩ = some (.int .i64 (d.2 : Int)) ∧ w.cell? ⟨g, off + 3, none⟩ = some sl := by
  refine ⟨?_, ?_, ?_, ?_⟩
  · rw [cell_of_row _ _ _ _ _ _ h]; exact hc 0 _ rfl
  · rw [cell_of_row _ _ _ _ _ _ h]; exact hc 1 _ rfl
  · rw [cell_of_row _ _ _ _ _ _ h]; exact hc 2 _ rfl
  · rw [cell_of_row _ _ _ _ _ _ h]; exact hc 3 _ rfl

set_option maxRecDepth 100000 in
set_option maxHeartbeats 4000000 in
theorem tidy_flip (t : Tm) (k : Nat) (f o : Bool) (w : World) (cs : Array Value) (hk : k < 4) (h : TmAt 0 w (.sig 94 t) cs) (IH : TidC t) : Calls Tryd.prog 27 #[.agg cs, .int .i64 (k : Int), .bool f, .bool o] w (TidIs (t.tidS k (!f) o) w) := by
  obtain ⟨g, kk, c', rfl, _, hg, ht⟩ := h
  obtain ⟨A, n, q, rfl⟩ := ht.shape
  have HI := hid (fun W (h : TmAt 0 W t (tmC t.sgn t.dim (.slice A n q))) => IH k (!f) o W _ hk h)
  have HB := hid ((Below.refl w.heap.size w).alloc (Nat.le_refl _) (.cells (tmC 94 (Tm.sig 94 t).dim (.slice (some ⟨g, 0, none⟩) 1 kk)) 35))
  have HT := hid (ht.kept (Keeps.of HB.out))
  obtain ⟨c0, c1, c2, c3⟩ := four_cells (off := 0) hg (s := t.sgn) (d := t.dim) (sl := .slice A n q) (fun j v h => by rw [Nat.zero_add]; exact h)
  have hgl := lt_of_block hg
  clear ht IH hg
  unfold TidIs at HI ⊢
  unfold tmC at HI HB HT ⊢
  simp only [show ((94 : UInt8).toNat : Int) = 94 from rfl] at HB HT
  go_enter Tryd.func27, Tryd.ntmps27
  go_wp2_with fail
  generalize World.alloc w _ = Y at HB HT ⊢
  refine (HI.out _ HT.out).mono ?_
  rintro e w' ⟨rfl, hb⟩
  have HB2 := hid (HB.out.trans (hb.mono HB.out.size))
  clear hb
  go_wp2_with fail
  go_ret
  exact ⟨rfl, HB2.out⟩
set_option maxRecDepth 100000 in
set_option maxHeartbeats 4000000 in
theorem tidy_other (t : Tm) (k : Nat) (f o : Bool) (w : World) (cs : Array Value) (hk : k < 4) (h : TmAt 0 w (.sig 42 t) cs) (IH : TidC t) : Calls Tryd.prog 27 #[.agg cs, .int .i64 (k : Int), .bool f, .bool o] w (TidIs (t.tidS k f (!o)) w) := by
  obtain ⟨g, kk, c', rfl, _, hg, ht⟩ := h
  obtain ⟨A, n, q, rfl⟩ := ht.shape
  have HI := hid (fun W (h : TmAt 0 W t (tmC t.sgn t.dim (.slice A n q))) => IH k f (!o) W _ hk h)
  have HB := hid ((Below.refl w.heap.size w).alloc (Nat.le_refl _) (.cells (tmC 42 (Tm.sig 42 t).dim (.slice (some ⟨g, 0, none⟩) 1 kk)) 35))
  have HT := hid (ht.kept (Keeps.of HB.out))
  obtain ⟨c0, c1, c2, c3⟩ := four_cells (off := 0) hg (s := t.sgn) (d := t.dim) (sl := .slice A n q) (fun j v h => by rw [Nat.zero_add]; exact h)
  have hgl := lt_of_block hg
  clear ht IH hg
  unfold TidIs at HI ⊢
  unfold tmC at HI HB HT ⊢
  simp only [show ((42 : UInt8).toNat : Int) = 42 from rfl] at HB HT
  go_enter Tryd.func27, Tryd.ntmps27
  go_wp2_with fail
  generalize World.alloc w _ = Y at HB HT ⊢
  refine (HI.out _ HT.out).mono ?_
  rintro e w' ⟨rfl, hb⟩
  have HB2 := hid (HB.out.trans (hb.mono HB.out.size))
  clear hb
  go_wp2_with fail
  go_ret
  exact ⟨rfl, HB2.out⟩
set_option maxRecDepth 100000 in
set_option maxHeartbeats 4000000 in
theorem tidy_turn0t (t : Tm) (o : Bool) (w : World) (cs : Array Value) (h : TmAt 0 w (.sig 62 t) cs) (IH : TidC t) : Calls Tryd.prog 27 #[.agg cs, .int .i64 0, .bool true, .bool o] w (TidIs (t.tidS 3 true o) w) := by
  obtain ⟨g, kk, c', rfl, _, hg, ht⟩ := h
  obtain ⟨A, n, q, rfl⟩ := ht.shape
  have HI := hid (fun W (h : TmAt 0 W t (tmC t.sgn t.dim (.slice A n q))) => IH 3 true o W _ (by omega) h)
  have HB := hid ((Below.refl w.heap.size w).alloc (Nat.le_refl _) (.cells (tmC 62 (Tm.sig 62 t).dim (.slice (some ⟨g, 0, none⟩) 1 kk)) 35))
  have HT := hid (ht.kept (Keeps.of HB.out))
  obtain ⟨c0, c1, c2, c3⟩ := four_cells (off := 0) hg (s := t.sgn) (d := t.dim) (sl := .slice A n q) (fun j v h => by rw [Nat.zero_add]; exact h)
  have hgl := lt_of_block hg
  clear ht IH hg
  unfold TidIs at HI ⊢
  unfold tmC at HI HB HT ⊢
  simp only [show ((62 : UInt8).toNat : Int) = 62 from rfl] at HB HT
  go_enter Tryd.func27, Tryd.ntmps27
  go_wp2_with fail
  generalize World.alloc w _ = Y at HB HT ⊢
  refine (HI.out _ HT.out).mono ?_
  rintro e w' ⟨rfl, hb⟩
  have HB2 := hid (HB.out.trans (hb.mono HB.out.size))
  clear hb
  go_wp2_with fail
  go_ret
  exact ⟨rfl, HB2.out⟩
set_option maxRecDepth 100000 in
set_option maxHeartbeats 4000000 in
theorem tidy_turn0f (t : Tm) (o : Bool) (w : World) (cs : Array Value) (h : TmAt 0 w (.sig 62 t) cs) (IH : TidC t) : Calls Tryd.prog 27 #[.agg cs, .int .i64 0, .bool false, .bool o] w (TidIs (t.tidS 1 false o) w) := by
  obtain ⟨g, kk, c', rfl, _, hg, ht⟩ := h
  obtain ⟨A, n, q, rfl⟩ := ht.shape
  have HI := hid (fun W (h : TmAt 0 W t (tmC t.sgn t.dim (.slice A n q))) => IH 1 false o W _ (by omega) h)
  have HB := hid ((Below.refl w.heap.size w).alloc (Nat.le_refl _) (.cells (tmC 62 (Tm.sig 62 t).dim (.slice (some ⟨g, 0, none⟩) 1 kk)) 35))
  have HT := hid (ht.kept (Keeps.of HB.out))
  obtain ⟨c0, c1, c2, c3⟩ := four_cells (off := 0) hg (s := t.sgn) (d := t.dim) (sl := .slice A n q) (fun j v h => by rw [Nat.zero_add]; exact h)
  have hgl := lt_of_block hg
  clear ht IH hg
  unfold TidIs at HI ⊢
  unfold tmC at HI HB HT ⊢
  simp only [show ((62 : UInt8).toNat : Int) = 62 from rfl] at HB HT
  go_enter Tryd.func27, Tryd.ntmps27
  go_wp2_with fail
  generalize World.alloc w _ = Y at HB HT ⊢
  refine (HI.out _ HT.out).mono ?_
  rintro e w' ⟨rfl, hb⟩
  have HB2 := hid (HB.out.trans (hb.mono HB.out.size))
  clear hb
  go_wp2_with fail
  go_ret
  exact ⟨rfl, HB2.out⟩
set_option maxRecDepth 100000 in
set_option maxHeartbeats 4000000 in
theorem tidy_turn1t (t : Tm) (o : Bool) (w : World) (cs : Array Value) (h : TmAt 0 w (.sig 62 t) cs) (IH : TidC t) : Calls Tryd.prog 27 #[.agg cs, .int .i64 1, .bool true, .bool o] w (TidIs (t.tidS 0 true o) w) := by
  obtain ⟨g, kk, c', rfl, _, hg, ht⟩ := h
  obtain ⟨A, n, q, rfl⟩ := ht.shape
  have HI := hid (fun W (h : TmAt 0 W t (tmC t.sgn t.dim (.slice A n q))) => IH 0 true o W _ (by omega) h)
  have HB := hid ((Below.refl w.heap.size w).alloc (Nat.le_refl _) (.cells (tmC 62 (Tm.sig 62 t).dim (.slice (some ⟨g, 0, none⟩) 1 kk)) 35))
  have HT := hid (ht.kept (Keeps.of HB.out))
  obtain ⟨c0, c1, c2, c3⟩ := four_cells (off := 0) hg (s := t.sgn) (d := t.dim) (sl := .slice A n q) (fun j v h => by rw [Nat.zero_add]; exact h)
  have hgl := lt_of_block hg
  clear ht IH hg
  unfold TidIs at HI ⊢
  unfold tmC at HI HB HT ⊢
  simp only [show ((62 : UInt8).toNat : Int) = 62 from rfl] at HB HT
  go_enter Tryd.func27, Tryd.ntmps27
  go_wp2_with fail
  generalize World.alloc w _ = Y at HB HT ⊢
  refine (HI.out _ HT.out).mono ?_
  rintro e w' ⟨rfl, hb⟩
  have HB2 := hid (HB.out.trans (hb.mono HB.out.size))
  clear hb
  go_wp2_with fail
  go_ret
  exact ⟨rfl, HB2.out⟩
set_option maxRecDepth 100000 in
set_option maxHeartbeats 4000000 in
theorem tidy_turn1f (t : Tm) (o : Bool) (w : World) (cs : Array Value) (h : TmAt 0 w (.sig 62 t) cs) (IH : TidC t) : Calls Tryd.prog 27 #[.agg cs, .int .i64 1, .bool false, .bool o] w (TidIs (t.tidS 2 false o) w) := by
  obtain ⟨g, kk, c', rfl, _, hg, ht⟩ := h
  obtain ⟨A, n, q, rfl⟩ := ht.shape
  have HI := hid (fun W (h : TmAt 0 W t (tmC t.sgn t.dim (.slice A n q))) => IH 2 false o W _ (by omega) h)
  have HB := hid ((Below.refl w.heap.size w).alloc (Nat.le_refl _) (.cells (tmC 62 (Tm.sig 62 t).dim (.slice (some ⟨g, 0, none⟩) 1 kk)) 35))
  have HT := hid (ht.kept (Keeps.of HB.out))
  obtain ⟨c0, c1, c2, c3⟩ := four_cells (off := 0) hg (s := t.sgn) (d := t.dim) (sl := .slice A n q) (fun j v h => by rw [Nat.zero_add]; exact h)
  have hgl := lt_of_block hg
  clear ht IH hg
  unfold TidIs at HI ⊢
  unfold tmC at HI HB HT ⊢
  simp only [show ((62 : UInt8).toNat : Int) = 62 from rfl] at HB HT
  go_enter Tryd.func27, Tryd.ntmps27
  go_wp2_with fail
  generalize World.alloc w _ = Y at HB HT ⊢
  refine (HI.out _ HT.out).mono ?_
  rintro e w' ⟨rfl, hb⟩
  have HB2 := hid (HB.out.trans (hb.mono HB.out.size))
  clear hb
  go_wp2_with fail
  go_ret
  exact ⟨rfl, HB2.out⟩
set_option maxRecDepth 100000 in
set_option maxHeartbeats 4000000 in
theorem tidy_turn2t (t : Tm) (o : Bool) (w : World) (cs : Array Value) (h : TmAt 0 w (.sig 62 t) cs) (IH : TidC t) : Calls Tryd.prog 27 #[.agg cs, .int .i64 2, .bool true, .bool o] w (TidIs (t.tidS 1 true o) w) := by
  obtain ⟨g, kk, c', rfl, _, hg, ht⟩ := h
  obtain ⟨A, n, q, rfl⟩ := ht.shape
  have HI := hid (fun W (h : TmAt 0 W t (tmC t.sgn t.dim (.slice A n q))) => IH 1 true o W _ (by omega) h)
  have HB := hid ((Below.refl w.heap.size w).alloc (Nat.le_refl _) (.cells (tmC 62 (Tm.sig 62 t).dim (.slice (some ⟨g, 0, none⟩) 1 kk)) 35))
  have HT := hid (ht.kept (Keeps.of HB.out))
  obtain ⟨c0, c1, c2, c3⟩ := four_cells (off := 0) hg (s := t.sgn) (d := t.dim) (sl := .slice A n q) (fun j v h => by rw [Nat.zero_add]; exact h)
  have hgl := lt_of_block hg
  clear ht IH hg
  unfold TidIs at HI ⊢
  unfold tmC at HI HB HT ⊢
  simp only [show ((62 : UInt8).toNat : Int) = 62 from rfl] at HB HT
  go_enter Tryd.func27, Tryd.ntmps27
  go_wp2_with fail
  generalize World.alloc w _ = Y at HB HT ⊢
  refine (HI.out _ HT.out).mono ?_
  rintro e w' ⟨rfl, hb⟩
  have HB2 := hid (HB.out.trans (hb.mono HB.out.size))
  clear hb
  go_wp2_with fail
  go_ret
  exact ⟨rfl, HB2.out⟩
set_option maxRecDepth 100000 in
set_option maxHeartbeats 4000000 in
theorem tidy_turn2f (t : Tm) (o : Bool) (w : World) (cs : Array Value) (h : TmAt 0 w (.sig 62 t) cs) (IH : TidC t) : Calls Tryd.prog 27 #[.agg cs, .int .i64 2, .bool false, .bool o] w (TidIs (t.tidS 3 false o) w) := by
  obtain ⟨g, kk, c', rfl, _, hg, ht⟩ := h
  obtain ⟨A, n, q, rfl⟩ := ht.shape
  have HI := hid (fun W (h : TmAt 0 W t (tmC t.sgn t.dim (.slice A n q))) => IH 3 false o W _ (by omega) h)
  have HB := hid ((Below.refl w.heap.size w).alloc (Nat.le_refl _) (.cells (tmC 62 (Tm.sig 62 t).dim (.slice (some ⟨g, 0, none⟩) 1 kk)) 35))
  have HT := hid (ht.kept (Keeps.of HB.out))
  obtain ⟨c0, c1, c2, c3⟩ := four_cells (off := 0) hg (s := t.sgn) (d := t.dim) (sl := .slice A n q) (fun j v h => by rw [Nat.zero_add]; exact h)
  have hgl := lt_of_block hg
  clear ht IH hg
  unfold TidIs at HI ⊢
  unfold tmC at HI HB HT ⊢
  simp only [show ((62 : UInt8).toNat : Int) = 62 from rfl] at HB HT
  go_enter Tryd.func27, Tryd.ntmps27
  go_wp2_with fail
  generalize World.alloc w _ = Y at HB HT ⊢
  refine (HI.out _ HT.out).mono ?_
  rintro e w' ⟨rfl, hb⟩
  have HB2 := hid (HB.out.trans (hb.mono HB.out.size))
  clear hb
  go_wp2_with fail
  go_ret
  exact ⟨rfl, HB2.out⟩
set_option maxRecDepth 100000 in
set_option maxHeartbeats 4000000 in
theorem tidy_turn3t (t : Tm) (o : Bool) (w : World) (cs : Array Value) (h : TmAt 0 w (.sig 62 t) cs) (IH : TidC t) : Calls Tryd.prog 27 #[.agg cs, .int .i64 3, .bool true, .bool o] w (TidIs (t.tidS 2 true o) w) := by
  obtain ⟨g, kk, c', rfl, _, hg, ht⟩ := h
  obtain ⟨A, n, q, rfl⟩ := ht.shape
  have HI := hid (fun W (h : TmAt 0 W t (tmC t.sgn t.dim (.slice A n q))) => IH 2 true o W _ (by omega) h)
  have HB := hid ((Below.refl w.heap.size w).alloc (Nat.le_refl _) (.cells (tmC 62 (Tm.sig 62 t).dim (.slice (some ⟨g, 0, none⟩) 1 kk)) 35))
  have HT := hid (ht.kept (Keeps.of HB.out))
  obtain ⟨c0, c1, c2, c3⟩ := four_cells (off := 0) hg (s := t.sgn) (d := t.dim) (sl := .slice A n q) (fun j v h => by rw [Nat.zero_add]; exact h)
  have hgl := lt_of_block hg
  clear ht IH hg
  unfold TidIs at HI ⊢
  unfold tmC at HI HB HT ⊢
  simp only [show ((62 : UInt8).toNat : Int) = 62 from rfl] at HB HT
  go_enter Tryd.func27, Tryd.ntmps27
  go_wp2_with fail
  generalize World.alloc w _ = Y at HB HT ⊢
  refine (HI.out _ HT.out).mono ?_
  rintro e w' ⟨rfl, hb⟩
  have HB2 := hid (HB.out.trans (hb.mono HB.out.size))
  clear hb
  go_wp2_with fail
  go_ret
  exact ⟨rfl, HB2.out⟩
set_option maxRecDepth 100000 in
set_option maxHeartbeats 4000000 in
theorem tidy_turn3f (t : Tm) (o : Bool) (w : World) (cs : Array Value) (h : TmAt 0 w (.sig 62 t) cs) (IH : TidC t) : Calls Tryd.prog 27 #[.agg cs, .int .i64 3, .bool false, .bool o] w (TidIs (t.tidS 0 false o) w) := by
  obtain ⟨g, kk, c', rfl, _, hg, ht⟩ := h
  obtain ⟨A, n, q, rfl⟩ := ht.shape
  have HI := hid (fun W (h : TmAt 0 W t (tmC t.sgn t.dim (.slice A n q))) => IH 0 false o W _ (by omega) h)
  have HB := hid ((Below.refl w.heap.size w).alloc (Nat.le_refl _) (.cells (tmC 62 (Tm.sig 62 t).dim (.slice (some ⟨g, 0, none⟩) 1 kk)) 35))
  have HT := hid (ht.kept (Keeps.of HB.out))
  obtain ⟨c0, c1, c2, c3⟩ := four_cells (off := 0) hg (s := t.sgn) (d := t.dim) (sl := .slice A n q) (fun j v h => by rw [Nat.zero_add]; exact h)
  have hgl := lt_of_block hg
  clear ht IH hg
  unfold TidIs at HI ⊢
  unfold tmC at HI HB HT ⊢
  simp only [show ((62 : UInt8).toNat : Int) = 62 from rfl] at HB HT
  go_enter Tryd.func27, Tryd.ntmps27
  go_wp2_with fail
  generalize World.alloc w _ = Y at HB HT ⊢
  refine (HI.out _ HT.out).mono ?_
  rintro e w' ⟨rfl, hb⟩
  have HB2 := hid (HB.out.trans (hb.mono HB.out.size))
  clear hb
  go_wp2_with fail
  go_ret
  exact ⟨rfl, HB2.out⟩
theorem tidy_turn (t : Tm) (k : Nat) (f o : Bool) (w : World) (cs : Array Value) (hk : k < 4) (h : TmAt 0 w (.sig 62 t) cs) (IH : TidC t) : Calls Tryd.prog 27 #[.agg cs, .int .i64 (k : Int), .bool f, .bool o] w (TidIs ((Tm.sig 62 t).tidS k f o) w) := by
  rcases tfour hk with rfl | rfl | rfl | rfl <;> cases f
  · exact tidy_turn0f t o w cs h IH
  · exact tidy_turn0t t o w cs h IH
  · exact tidy_turn1f t o w cs h IH
  · exact tidy_turn1t t o w cs h IH
  · exact tidy_turn2f t o w cs h IH
  · exact tidy_turn2t t o w cs h IH
  · exact tidy_turn3f t o w cs h IH
  · exact tidy_turn3t t o w cs h IH
section
variable {ops : Array Oper} {rest : List Oper} {o : Oper} {a : Act} {w w' : World} {Q : Exit → Act → World → Prop}
theorem wpList_execT {P : Program} (hgd : o.guard = none) {v : Value} (hr : (execOp a.eval o).run P w = .ok (.value v) w') (h : wpList P ops Q rest (a.put o.dst v) w') : wpList P ops Q (o :: rest) a w := by
  refine wpList_plain hgd fun K hK => ?_
  unfold Oper.wp
  rw [hr]
  exact hK _ _ h
end
set_option maxRecDepth 100000 in
theorem one_text (W : World) (b : UInt8) (n : Nat) (hn : n = W.heap.size) : (convert 66 9 (.slice (some ⟨n, 0, none⟩) 1 1)).run Tryd.prog (W.alloc (.cells #[.int .u8 (b.toNat : Int)] 5)) = .ok (.string (strB [b])) (W.alloc (.cells #[.int .u8 (b.toNat : Int)] 5)) := by
  subst hn
  have h := run_convert_bytes_arg (P := Tryd.prog) (W.alloc (.cells #[.int .u8 (b.toNat : Int)] 5)) 66 5 Tryd.underlying66 Tryd.underlying5 W.heap.size 0 1 1 [(b.toNat : Int)] (by simp) (fun i hi => by
    obtain rfl : i = 0 := by simp at hi; omega
    rw [cell_of_row _ _ _ _ _ _ (heap_new0 W _)]
    rfl) 9 Tryd.underlying9
  rw [h]
  congr 2
  simp [strOfNums, strB]
set_option maxRecDepth 100000 in
set_option maxHeartbeats 4000000 in
theorem tidy_lone (c : UInt8) (k : Nat) (f o : Bool) (w : World) (cs : Array Value) (hk : k < 4) (hc : isLet c = true) (h : TmAt 0 w (.lone c) cs) : Calls Tryd.prog 27 #[.agg cs, .int .i64 (k : Int), .bool f, .bool o] w (TidIs ((Tm.lone c).tidS k f o) w) := by
  obtain ⟨A, kk, rfl⟩ := h
  have HO := hid (l1Other_any c)
  have HB := hid (((Below.refl w.heap.size w).alloc (Nat.le_refl _) (.cells (tmC c (1, 1) (.slice A 0 kk)) 35)).alloc (by simp) (.cells #[.int .u8 (c.toNat : Int)] 5))
  have HB2 := hid (((Below.refl w.heap.size w).alloc (Nat.le_refl _) (.cells (tmC c (1, 1) (.slice A 0 kk)) 35)).alloc (by simp) (.cells #[.int .u8 ((oth c).toNat : Int)] 5))
  have hcs : c = 46 ∨ c = 114 ∨ c = 102 := by
    unfold isLet at hc
    simpa only [Bool.or_eq_true, beq_iff_eq, or_assoc] using hc
  have n1 : ((c.toNat : Int) == 62) = false := by rcases hcs with rfl | rfl | rfl <;> rfl
  have n2 : ((c.toNat : Int) == 94) = false := by rcases hcs with rfl | rfl | rfl <;> rfl
  have n3 : ((c.toNat : Int) == 42) = false := by rcases hcs with rfl | rfl | rfl <;> rfl
  have n4 : ((c.toNat : Int) == 124) = false := by rcases hcs with rfl | rfl | rfl <;> rfl
  have n5 : ((c.toNat : Int) == 45) = false := by rcases hcs with rfl | rfl | rfl <;> rfl
  have hv := fun W n hn => one_text W c n hn
  have hv2 := fun W n hn => one_text W (oth c) n hn
  clear hcs hc
  unfold TidIs
  unfold tmC at HB HB2 ⊢
  rcases tfour hk with rfl | rfl | rfl | rfl <;> cases f <;> cases o
  · go_enter Tryd.func27, Tryd.ntmps27
    go_wp2_with fail
    go_ret
    exact ⟨rfl, HB.out⟩
  · go_enter Tryd.func27, Tryd.ntmps27
    go_wp2_with fail
    refine (HO.out _).mono ?_
    rintro e w' ⟨rfl, rfl⟩
    go_wp2_with fail
    go_ret
    exact ⟨rfl, HB2.out⟩
  · go_enter Tryd.func27, Tryd.ntmps27
    go_wp2_with fail
    refine (HO.out _).mono ?_
    rintro e w' ⟨rfl, rfl⟩
    go_wp2_with fail
    go_ret
    exact ⟨rfl, HB2.out⟩
  · go_enter Tryd.func27, Tryd.ntmps27
    go_wp2_with fail
    go_ret
    exact ⟨rfl, HB.out⟩
  · go_enter Tryd.func27, Tryd.ntmps27
    go_wp2_with fail
    refine (HO.out _).mono ?_
    rintro e w' ⟨rfl, rfl⟩
    go_wp2_with fail
    go_ret
    exact ⟨rfl, HB2.out⟩
  · go_enter Tryd.func27, Tryd.ntmps27
    go_wp2_with fail
    go_ret
    exact ⟨rfl, HB.out⟩
  · go_enter Tryd.func27, Tryd.ntmps27
    go_wp2_with fail
    go_ret
    exact ⟨rfl, HB.out⟩
  · go_enter Tryd.func27, Tryd.ntmps27
    go_wp2_with fail
    refine (HO.out _).mono ?_
    rintro e w' ⟨rfl, rfl⟩
    go_wp2_with fail
    go_ret
    exact ⟨rfl, HB2.out⟩
  · go_enter Tryd.func27, Tryd.ntmps27
    go_wp2_with fail
    go_ret
    exact ⟨rfl, HB.out⟩
  · go_enter Tryd.func27, Tryd.ntmps27
    go_wp2_with fail
    refine (HO.out _).mono ?_
    rintro e w' ⟨rfl, rfl⟩
    go_wp2_with fail
    go_ret
    exact ⟨rfl, HB2.out⟩
  · go_enter Tryd.func27, Tryd.ntmps27
    go_wp2_with fail
    refine (HO.out _).mono ?_
    rintro e w' ⟨rfl, rfl⟩
    go_wp2_with fail
    go_ret
    exact ⟨rfl, HB2.out⟩
  · go_enter Tryd.func27, Tryd.ntmps27
    go_wp2_with fail
    go_ret
    exact ⟨rfl, HB.out⟩
  · go_enter Tryd.func27, Tryd.ntmps27
    go_wp2_with fail
    refine (HO.out _).mono ?_
    rintro e w' ⟨rfl, rfl⟩
    go_wp2_with fail
    go_ret
    exact ⟨rfl, HB2.out⟩
  · go_enter Tryd.func27, Tryd.ntmps27
    go_wp2_with fail
    go_ret
    exact ⟨rfl, HB.out⟩
  · go_enter Tryd.func27, Tryd.ntmps27
    go_wp2_with fail
    go_ret
    exact ⟨rfl, HB.out⟩
  · go_enter Tryd.func27, Tryd.ntmps27
    go_wp2_with fail
    refine (HO.out _).mono ?_
    rintro e w' ⟨rfl, rfl⟩
    go_wp2_with fail
    go_ret
    exact ⟨rfl, HB2.out⟩
def cplS (k : Nat) (s : UInt8) (f : Bool) (A B : Tm) : Tm := if (midN k s (f && s == 124)).2 = true then .cpl B (midN k s (f && s == 124)).1 A else .cpl A (midN k s (f && s == 124)).1 B
set_option maxRecDepth 100000 in
set_option maxHeartbeats 40000000 in
theorem tidy_cpl (a b A B : Tm) (s : UInt8) (k : Nat) (f o : Bool) (w : World) (cs : Array Value) (hk : k < 4) (hs : isMid s = true) (h : TmAt 0 w (.cpl a s b) cs) (hA : A.text.length ≤ 1000) (hB : B.text.length ≤ 1000)
    (IHA : ∀ (w : World) (cs : Array Value), TmAt 0 w a cs → Calls Tryd.prog 27 #[.agg cs, .int .i64 (k : Int), .bool f, .bool o] w (TidIs A w))
    (IHB : ∀ (w : World) (cs : Array Value), TmAt 0 w b cs → Calls Tryd.prog 27 #[.agg cs, .int .i64 (k : Int), .bool f, .bool o] w (TidIs B w)) :
    Calls Tryd.prog 27 #[.agg cs, .int .i64 (k : Int), .bool f, .bool o] w (TidIs (cplS k s f A B) w) := by
  obtain ⟨g, kk, ca, cb, rfl, _, hg, hta, htb⟩ := h
  obtain ⟨A1, n1, q1, rfl⟩ := hta.shape
  obtain ⟨A2, n2, q2, rfl⟩ := htb.shape
  have HIA := hid (fun W (h : TmAt 0 W a (tmC a.sgn a.dim (.slice A1 n1 q1))) => IHA W _ h)
  have HIB := hid (fun W (h : TmAt 0 W b (tmC b.sgn b.dim (.slice A2 n2 q2))) => IHB W _ h)
  have HW := hid ((Below.refl w.heap.size w).alloc (Nat.le_refl _) (.cells (tmC s (Tm.cpl a s b).dim (.slice (some ⟨g, 0, none⟩) 2 kk)) 35))
  have HTa := hid (hta.kept (Keeps.of HW.out))
  have HTb := hid (htb.kept (Keeps.of HW.out))
  have HG := hid ((HW.out.block _ (lt_of_block hg)).trans hg)
  have HN := hid (heap_new0 w (.cells (tmC s (Tm.cpl a s b).dim (.slice (some ⟨g, 0, none⟩) 2 kk)) 35))
  have HLA := hid hA
  have HLB := hid hB
  have HK := hid hk
  have HS := hid hs
  have m1 : ((s.toNat : Int) == 62) = false := by rcases mid_two hs with rfl | rfl <;> rfl
  have m2 : ((s.toNat : Int) == 94) = false := by rcases mid_two hs with rfl | rfl <;> rfl
  have m3 : ((s.toNat : Int) == 42) = false := by rcases mid_two hs with rfl | rfl <;> rfl
  have ho : ∀ w : World, w.cell? ⟨g, 0, none⟩ = w.cell? ⟨g, 0, none⟩ := fun _ => rfl
  clear hta htb IHA IHB hA hB hg ho hk
  unfold TidIs at HIA HIB ⊢
  unfold tmC at HIA HIB HW HTa HTb HG HN ⊢
  rcases mid_two hs with rfl | rfl
  · simp only [show ((124 : UInt8).toNat : Int) = 124 from rfl] at HW HTa HTb HG HN
    have hcell0 := four_cells (off := 0) HG.out (s := a.sgn) (d := a.dim) (sl := .slice A1 n1 q1) (fun j v h => by
      have hj : j < 4 := (Array.getElem?_eq_some_iff.1 h).1
      rw [Nat.zero_add]
      match j, hj with
      | 0, _ => exact h
      | 1, _ => exact h
      | 2, _ => exact h
      | 3, _ => exact h)
    obtain ⟨c0, c1, c2, c3⟩ := hcell0
    go_enter Tryd.func27, Tryd.ntmps27
    go_wp2_with fail
    generalize World.alloc w _ = Y at HW HTa HTb HG HN c0 c1 c2 c3 ⊢
    refine (HIA.out _ HTa.out).mono ?_
    rintro e w1 ⟨rfl, hb1⟩
    have HW1 := hid (HW.out.trans (hb1.mono HW.out.size))
    have HTb1 := hid (HTb.out.kept (Keeps.of hb1))
    have HG1 := hid ((hb1.block _ (lt_of_block HG.out)).trans HG.out)
    have HN1 := (hb1.block _ (lt_of_block HN.out)).trans HN.out
    have e3 : w1.cell? ⟨w.heap.size, 3, none⟩ = some (.slice (some ⟨g, 0, none⟩) 2 kk) := by rw [cell_of_row _ _ _ _ _ _ HN1]; rfl
    obtain ⟨d0, d1, d2, d3⟩ := four_cells (off := 4) HG1.out (s := b.sgn) (d := b.dim) (sl := .slice A2 n2 q2) (fun j v h => by
      have hj : j < 4 := (Array.getElem?_eq_some_iff.1 h).1
      match j, hj with
      | 0, _ => exact h
      | 1, _ => exact h
      | 2, _ => exact h
      | 3, _ => exact h)
    clear hb1 c0 c1 c2 c3 HN1
    go_wp2_with fail
    clear d0 d1 d2 d3 e3
    refine (HIB.out _ HTb1.out).mono ?_
    rintro e w2 ⟨rfl, hb2⟩
    have HW2 := hid (HW1.out.trans (hb2.mono HW1.out.size))
    clear hb2 HIA HIB HTa HTb HTb1 HG HG1 HN HW HW1
    rcases tfour HK.out with rfl | rfl | rfl | rfl <;> cases f
    · have hv : ∀ (W : World) (n : Nat), n = W.heap.size → (convert 66 9 (.slice (some ⟨n, 0, none⟩) 1 1)).run Tryd.prog (W.alloc (.cells #[.int .u8 124] 5)) = .ok (.string (strB [124])) (W.alloc (.cells #[.int .u8 124] 5)) := fun W n hn => one_text W 124 n hn
      go_wp2_with fail
      refine wp_loop_rounds 1 ?_
      rw [rounds_succ]
      go_wp2_with (first
        | refine wpList_execT rfl (add_str _ _ rfl [40] A.text rfl rfl (by have := HLA.out; simp; omega)) ?_
        | refine wpList_execT rfl (add_str _ _ rfl ([40] ++ A.text) [124] rfl rfl (by have := HLA.out; simp; omega)) ?_
        | refine wpList_execT rfl (add_str _ _ rfl ([40] ++ A.text ++ [124]) B.text rfl rfl (by have := HLA.out; have := HLB.out; simp; omega)) ?_
        | refine wpList_execT rfl (add_str _ _ rfl ([40] ++ A.text ++ [124] ++ B.text) [41] rfl rfl (by have := HLA.out; have := HLB.out; simp; omega)) ?_)
      go_ret
      exact ⟨rfl, HW2.out.alloc HW2.out.size _⟩
    · have hv : ∀ (W : World) (n : Nat), n = W.heap.size → (convert 66 9 (.slice (some ⟨n, 0, none⟩) 1 1)).run Tryd.prog (W.alloc (.cells #[.int .u8 124] 5)) = .ok (.string (strB [124])) (W.alloc (.cells #[.int .u8 124] 5)) := fun W n hn => one_text W 124 n hn
      go_wp2_with fail
      refine wp_loop_rounds 1 ?_
      rw [rounds_succ]
      go_wp2_with (first
        | refine wpList_execT rfl (add_str _ _ rfl [40] B.text rfl rfl (by have := HLB.out; simp; omega)) ?_
        | refine wpList_execT rfl (add_str _ _ rfl ([40] ++ B.text) [124] rfl rfl (by have := HLB.out; simp; omega)) ?_
        | refine wpList_execT rfl (add_str _ _ rfl ([40] ++ B.text ++ [124]) A.text rfl rfl (by have := HLA.out; have := HLB.out; simp; omega)) ?_
        | refine wpList_execT rfl (add_str _ _ rfl ([40] ++ B.text ++ [124] ++ A.text) [41] rfl rfl (by have := HLA.out; have := HLB.out; simp; omega)) ?_)
      go_ret
      exact ⟨rfl, HW2.out.alloc HW2.out.size _⟩
    · have hv : ∀ (W : World) (n : Nat), n = W.heap.size → (convert 66 9 (.slice (some ⟨n, 0, none⟩) 1 1)).run Tryd.prog (W.alloc (.cells #[.int .u8 45] 5)) = .ok (.string (strB [45])) (W.alloc (.cells #[.int .u8 45] 5)) := fun W n hn => one_text W 45 n hn
      go_wp2_with fail
      refine wp_loop_rounds 2 ?_
      rw [rounds_succ]
      go_wp2_with fail
      rw [rounds_succ]
      go_wp2_with (first
        | refine wpList_execT rfl (add_str _ _ rfl [40] A.text rfl rfl (by have := HLA.out; simp; omega)) ?_
        | refine wpList_execT rfl (add_str _ _ rfl ([40] ++ A.text) [45] rfl rfl (by have := HLA.out; simp; omega)) ?_
        | refine wpList_execT rfl (add_str _ _ rfl ([40] ++ A.text ++ [45]) B.text rfl rfl (by have := HLA.out; have := HLB.out; simp; omega)) ?_
        | refine wpList_execT rfl (add_str _ _ rfl ([40] ++ A.text ++ [45] ++ B.text) [41] rfl rfl (by have := HLA.out; have := HLB.out; simp; omega)) ?_)
      go_ret
      exact ⟨rfl, HW2.out.alloc HW2.out.size _⟩
    · have hv : ∀ (W : World) (n : Nat), n = W.heap.size → (convert 66 9 (.slice (some ⟨n, 0, none⟩) 1 1)).run Tryd.prog (W.alloc (.cells #[.int .u8 45] 5)) = .ok (.string (strB [45])) (W.alloc (.cells #[.int .u8 45] 5)) := fun W n hn => one_text W 45 n hn
      go_wp2_with fail
      refine wp_loop_rounds 2 ?_
      rw [rounds_succ]
      go_wp2_with fail
      rw [rounds_succ]
      go_wp2_with (first
        | refine wpList_execT rfl (add_str _ _ rfl [40] B.text rfl rfl (by have := HLB.out; simp; omega)) ?_
        | refine wpList_execT rfl (add_str _ _ rfl ([40] ++ B.text) [45] rfl rfl (by have := HLB.out; simp; omega)) ?_
        | refine wpList_execT rfl (add_str _ _ rfl ([40] ++ B.text ++ [45]) A.text rfl rfl (by have := HLA.out; have := HLB.out; simp; omega)) ?_
        | refine wpList_execT rfl (add_str _ _ rfl ([40] ++ B.text ++ [45] ++ A.text) [41] rfl rfl (by have := HLA.out; have := HLB.out; simp; omega)) ?_)
      go_ret
      exact ⟨rfl, HW2.out.alloc HW2.out.size _⟩
    · have hv : ∀ (W : World) (n : Nat), n = W.heap.size → (convert 66 9 (.slice (some ⟨n, 0, none⟩) 1 1)).run Tryd.prog (W.alloc (.cells #[.int .u8 124] 5)) = .ok (.string (strB [124])) (W.alloc (.cells #[.int .u8 124] 5)) := fun W n hn => one_text W 124 n hn
      go_wp2_with fail
      refine wp_loop_rounds 3 ?_
      rw [rounds_succ]
      go_wp2_with fail
      rw [rounds_succ]
      go_wp2_with fail
      rw [rounds_succ]
      go_wp2_with (first
        | refine wpList_execT rfl (add_str _ _ rfl [40] B.text rfl rfl (by have := HLB.out; simp; omega)) ?_
        | refine wpList_execT rfl (add_str _ _ rfl ([40] ++ B.text) [124] rfl rfl (by have := HLB.out; simp; omega)) ?_
        | refine wpList_execT rfl (add_str _ _ rfl ([40] ++ B.text ++ [124]) A.text rfl rfl (by have := HLA.out; have := HLB.out; simp; omega)) ?_
        | refine wpList_execT rfl (add_str _ _ rfl ([40] ++ B.text ++ [124] ++ A.text) [41] rfl rfl (by have := HLA.out; have := HLB.out; simp; omega)) ?_)
      go_ret
      exact ⟨rfl, HW2.out.alloc HW2.out.size _⟩
    · have hv : ∀ (W : World) (n : Nat), n = W.heap.size → (convert 66 9 (.slice (some ⟨n, 0, none⟩) 1 1)).run Tryd.prog (W.alloc (.cells #[.int .u8 124] 5)) = .ok (.string (strB [124])) (W.alloc (.cells #[.int .u8 124] 5)) := fun W n hn => one_text W 124 n hn
      go_wp2_with fail
      refine wp_loop_rounds 3 ?_
      rw [rounds_succ]
      go_wp2_with fail
      rw [rounds_succ]
      go_wp2_with fail
      rw [rounds_succ]
      go_wp2_with (first
        | refine wpList_execT rfl (add_str _ _ rfl [40] A.text rfl rfl (by have := HLA.out; simp; omega)) ?_
        | refine wpList_execT rfl (add_str _ _ rfl ([40] ++ A.text) [124] rfl rfl (by have := HLA.out; simp; omega)) ?_
        | refine wpList_execT rfl (add_str _ _ rfl ([40] ++ A.text ++ [124]) B.text rfl rfl (by have := HLA.out; have := HLB.out; simp; omega)) ?_
        | refine wpList_execT rfl (add_str _ _ rfl ([40] ++ A.text ++ [124] ++ B.text) [41] rfl rfl (by have := HLA.out; have := HLB.out; simp; omega)) ?_)
      go_ret
      exact ⟨rfl, HW2.out.alloc HW2.out.size _⟩
    · have hv : ∀ (W : World) (n : Nat), n = W.heap.size → (convert 66 9 (.slice (some ⟨n, 0, none⟩) 1 1)).run Tryd.prog (W.alloc (.cells #[.int .u8 45] 5)) = .ok (.string (strB [45])) (W.alloc (.cells #[.int .u8 45] 5)) := fun W n hn => one_text W 45 n hn
      go_wp2_with fail
      refine wp_loop_rounds 4 ?_
      rw [rounds_succ]
      go_wp2_with fail
      rw [rounds_succ]
      go_wp2_with fail
      rw [rounds_succ]
      go_wp2_with fail
      rw [rounds_succ]
      go_wp2_with (first
        | refine wpList_execT rfl (add_str _ _ rfl [40] B.text rfl rfl (by have := HLB.out; simp; omega)) ?_
        | refine wpList_execT rfl (add_str _ _ rfl ([40] ++ B.text) [45] rfl rfl (by have := HLB.out; simp; omega)) ?_
        | refine wpList_execT rfl (add_str _ _ rfl ([40] ++ B.text ++ [45]) A.text rfl rfl (by have := HLA.out; have := HLB.out; simp; omega)) ?_
        | refine wpList_execT rfl (add_str _ _ rfl ([40] ++ B.text ++ [45] ++ A.text) [41] rfl rfl (by have := HLA.out; have := HLB.out; simp; omega)) ?_)
      go_ret
      exact ⟨rfl, HW2.out.alloc HW2.out.size _⟩
    · have hv : ∀ (W : World) (n : Nat), n = W.heap.size → (convert 66 9 (.slice (some ⟨n, 0, none⟩) 1 1)).run Tryd.prog (W.alloc (.cells #[.int .u8 45] 5)) = .ok (.string (strB [45])) (W.alloc (.cells #[.int .u8 45] 5)) := fun W n hn => one_text W 45 n hn
      go_wp2_with fail
      refine wp_loop_rounds 4 ?_
      rw [rounds_succ]
      go_wp2_with fail
      rw [rounds_succ]
      go_wp2_with fail
      rw [rounds_succ]
      go_wp2_with fail
      rw [rounds_succ]
      go_wp2_with (first
        | refine wpList_execT rfl (add_str _ _ rfl [40] A.text rfl rfl (by have := HLA.out; simp; omega)) ?_
        | refine wpList_execT rfl (add_str _ _ rfl ([40] ++ A.text) [45] rfl rfl (by have := HLA.out; simp; omega)) ?_
        | refine wpList_execT rfl (add_str _ _ rfl ([40] ++ A.text ++ [45]) B.text rfl rfl (by have := HLA.out; have := HLB.out; simp; omega)) ?_
        | refine wpList_execT rfl (add_str _ _ rfl ([40] ++ A.text ++ [45] ++ B.text) [41] rfl rfl (by have := HLA.out; have := HLB.out; simp; omega)) ?_)
      go_ret
      exact ⟨rfl, HW2.out.alloc HW2.out.size _⟩
  · simp only [show ((45 : UInt8).toNat : Int) = 45 from rfl] at HW HTa HTb HG HN
    have hcell0 := four_cells (off := 0) HG.out (s := a.sgn) (d := a.dim) (sl := .slice A1 n1 q1) (fun j v h => by
      have hj : j < 4 := (Array.getElem?_eq_some_iff.1 h).1
      rw [Nat.zero_add]
      match j, hj with
      | 0, _ => exact h
      | 1, _ => exact h
      | 2, _ => exact h
      | 3, _ => exact h)
    obtain ⟨c0, c1, c2, c3⟩ := hcell0
    go_enter Tryd.func27, Tryd.ntmps27
    go_wp2_with fail
    generalize World.alloc w _ = Y at HW HTa HTb HG HN c0 c1 c2 c3 ⊢
    refine (HIA.out _ HTa.out).mono ?_
    rintro e w1 ⟨rfl, hb1⟩
    have HW1 := hid (HW.out.trans (hb1.mono HW.out.size))
    have HTb1 := hid (HTb.out.kept (Keeps.of hb1))
    have HG1 := hid ((hb1.block _ (lt_of_block HG.out)).trans HG.out)
    have HN1 := (hb1.block _ (lt_of_block HN.out)).trans HN.out
    have e3 : w1.cell? ⟨w.heap.size, 3, none⟩ = some (.slice (some ⟨g, 0, none⟩) 2 kk) := by rw [cell_of_row _ _ _ _ _ _ HN1]; rfl
    obtain ⟨d0, d1, d2, d3⟩ := four_cells (off := 4) HG1.out (s := b.sgn) (d := b.dim) (sl := .slice A2 n2 q2) (fun j v h => by
      have hj : j < 4 := (Array.getElem?_eq_some_iff.1 h).1
      match j, hj with
      | 0, _ => exact h
      | 1, _ => exact h
      | 2, _ => exact h
      | 3, _ => exact h)
    clear hb1 c0 c1 c2 c3 HN1
    go_wp2_with fail
    clear d0 d1 d2 d3 e3
    refine (HIB.out _ HTb1.out).mono ?_
    rintro e w2 ⟨rfl, hb2⟩
    have HW2 := hid (HW1.out.trans (hb2.mono HW1.out.size))
    clear hb2 HIA HIB HTa HTb HTb1 HG HG1 HN HW HW1
    rcases tfour HK.out with rfl | rfl | rfl | rfl <;> cases f
    · have hv : ∀ (W : World) (n : Nat), n = W.heap.size → (convert 66 9 (.slice (some ⟨n, 0, none⟩) 1 1)).run Tryd.prog (W.alloc (.cells #[.int .u8 45] 5)) = .ok (.string (strB [45])) (W.alloc (.cells #[.int .u8 45] 5)) := fun W n hn => one_text W 45 n hn
      go_wp2_with fail
      refine wp_loop_rounds 1 ?_
      rw [rounds_succ]
      go_wp2_with (first
        | refine wpList_execT rfl (add_str _ _ rfl [40] A.text rfl rfl (by have := HLA.out; simp; omega)) ?_
        | refine wpList_execT rfl (add_str _ _ rfl ([40] ++ A.text) [45] rfl rfl (by have := HLA.out; simp; omega)) ?_
        | refine wpList_execT rfl (add_str _ _ rfl ([40] ++ A.text ++ [45]) B.text rfl rfl (by have := HLA.out; have := HLB.out; simp; omega)) ?_
        | refine wpList_execT rfl (add_str _ _ rfl ([40] ++ A.text ++ [45] ++ B.text) [41] rfl rfl (by have := HLA.out; have := HLB.out; simp; omega)) ?_)
      go_ret
      exact ⟨rfl, HW2.out.alloc HW2.out.size _⟩
    · have hv : ∀ (W : World) (n : Nat), n = W.heap.size → (convert 66 9 (.slice (some ⟨n, 0, none⟩) 1 1)).run Tryd.prog (W.alloc (.cells #[.int .u8 45] 5)) = .ok (.string (strB [45])) (W.alloc (.cells #[.int .u8 45] 5)) := fun W n hn => one_text W 45 n hn
      go_wp2_with fail
      refine wp_loop_rounds 1 ?_
      rw [rounds_succ]
      go_wp2_with (first
        | refine wpList_execT rfl (add_str _ _ rfl [40] A.text rfl rfl (by have := HLA.out; simp; omega)) ?_
        | refine wpList_execT rfl (add_str _ _ rfl ([40] ++ A.text) [45] rfl rfl (by have := HLA.out; simp; omega)) ?_
        | refine wpList_execT rfl (add_str _ _ rfl ([40] ++ A.text ++ [45]) B.text rfl rfl (by have := HLA.out; have := HLB.out; simp; omega)) ?_
        | refine wpList_execT rfl (add_str _ _ rfl ([40] ++ A.text ++ [45] ++ B.text) [41] rfl rfl (by have := HLA.out; have := HLB.out; simp; omega)) ?_)
      go_ret
      exact ⟨rfl, HW2.out.alloc HW2.out.size _⟩
    · have hv : ∀ (W : World) (n : Nat), n = W.heap.size → (convert 66 9 (.slice (some ⟨n, 0, none⟩) 1 1)).run Tryd.prog (W.alloc (.cells #[.int .u8 124] 5)) = .ok (.string (strB [124])) (W.alloc (.cells #[.int .u8 124] 5)) := fun W n hn => one_text W 124 n hn
      go_wp2_with fail
      refine wp_loop_rounds 2 ?_
      rw [rounds_succ]
      go_wp2_with fail
      rw [rounds_succ]
      go_wp2_with (first
        | refine wpList_execT rfl (add_str _ _ rfl [40] B.text rfl rfl (by have := HLB.out; simp; omega)) ?_
        | refine wpList_execT rfl (add_str _ _ rfl ([40] ++ B.text) [124] rfl rfl (by have := HLB.out; simp; omega)) ?_
        | refine wpList_execT rfl (add_str _ _ rfl ([40] ++ B.text ++ [124]) A.text rfl rfl (by have := HLA.out; have := HLB.out; simp; omega)) ?_
        | refine wpList_execT rfl (add_str _ _ rfl ([40] ++ B.text ++ [124] ++ A.text) [41] rfl rfl (by have := HLA.out; have := HLB.out; simp; omega)) ?_)
      go_ret
      exact ⟨rfl, HW2.out.alloc HW2.out.size _⟩
    · have hv : ∀ (W : World) (n : Nat), n = W.heap.size → (convert 66 9 (.slice (some ⟨n, 0, none⟩) 1 1)).run Tryd.prog (W.alloc (.cells #[.int .u8 124] 5)) = .ok (.string (strB [124])) (W.alloc (.cells #[.int .u8 124] 5)) := fun W n hn => one_text W 124 n hn
      go_wp2_with fail
      refine wp_loop_rounds 2 ?_
      rw [rounds_succ]
      go_wp2_with fail
      rw [rounds_succ]
      go_wp2_with (first
        | refine wpList_execT rfl (add_str _ _ rfl [40] B.text rfl rfl (by have := HLB.out; simp; omega)) ?_
        | refine wpList_execT rfl (add_str _ _ rfl ([40] ++ B.text) [124] rfl rfl (by have := HLB.out; simp; omega)) ?_
        | refine wpList_execT rfl (add_str _ _ rfl ([40] ++ B.text ++ [124]) A.text rfl rfl (by have := HLA.out; have := HLB.out; simp; omega)) ?_
        | refine wpList_execT rfl (add_str _ _ rfl ([40] ++ B.text ++ [124] ++ A.text) [41] rfl rfl (by have := HLA.out; have := HLB.out; simp; omega)) ?_)
      go_ret
      exact ⟨rfl, HW2.out.alloc HW2.out.size _⟩
    · have hv : ∀ (W : World) (n : Nat), n = W.heap.size → (convert 66 9 (.slice (some ⟨n, 0, none⟩) 1 1)).run Tryd.prog (W.alloc (.cells #[.int .u8 45] 5)) = .ok (.string (strB [45])) (W.alloc (.cells #[.int .u8 45] 5)) := fun W n hn => one_text W 45 n hn
      go_wp2_with fail
      refine wp_loop_rounds 3 ?_
      rw [rounds_succ]
      go_wp2_with fail
      rw [rounds_succ]
      go_wp2_with fail
      rw [rounds_succ]
      go_wp2_with (first
        | refine wpList_execT rfl (add_str _ _ rfl [40] B.text rfl rfl (by have := HLB.out; simp; omega)) ?_
        | refine wpList_execT rfl (add_str _ _ rfl ([40] ++ B.text) [45] rfl rfl (by have := HLB.out; simp; omega)) ?_
        | refine wpList_execT rfl (add_str _ _ rfl ([40] ++ B.text ++ [45]) A.text rfl rfl (by have := HLA.out; have := HLB.out; simp; omega)) ?_
        | refine wpList_execT rfl (add_str _ _ rfl ([40] ++ B.text ++ [45] ++ A.text) [41] rfl rfl (by have := HLA.out; have := HLB.out; simp; omega)) ?_)
      go_ret
      exact ⟨rfl, HW2.out.alloc HW2.out.size _⟩
    · have hv : ∀ (W : World) (n : Nat), n = W.heap.size → (convert 66 9 (.slice (some ⟨n, 0, none⟩) 1 1)).run Tryd.prog (W.alloc (.cells #[.int .u8 45] 5)) = .ok (.string (strB [45])) (W.alloc (.cells #[.int .u8 45] 5)) := fun W n hn => one_text W 45 n hn
      go_wp2_with fail
      refine wp_loop_rounds 3 ?_
      rw [rounds_succ]
      go_wp2_with fail
      rw [rounds_succ]
      go_wp2_with fail
      rw [rounds_succ]
      go_wp2_with (first
        | refine wpList_execT rfl (add_str _ _ rfl [40] B.text rfl rfl (by have := HLB.out; simp; omega)) ?_
        | refine wpList_execT rfl (add_str _ _ rfl ([40] ++ B.text) [45] rfl rfl (by have := HLB.out; simp; omega)) ?_
        | refine wpList_execT rfl (add_str _ _ rfl ([40] ++ B.text ++ [45]) A.text rfl rfl (by have := HLA.out; have := HLB.out; simp; omega)) ?_
        | refine wpList_execT rfl (add_str _ _ rfl ([40] ++ B.text ++ [45] ++ A.text) [41] rfl rfl (by have := HLA.out; have := HLB.out; simp; omega)) ?_)
      go_ret
      exact ⟨rfl, HW2.out.alloc HW2.out.size _⟩
    · have hv : ∀ (W : World) (n : Nat), n = W.heap.size → (convert 66 9 (.slice (some ⟨n, 0, none⟩) 1 1)).run Tryd.prog (W.alloc (.cells #[.int .u8 124] 5)) = .ok (.string (strB [124])) (W.alloc (.cells #[.int .u8 124] 5)) := fun W n hn => one_text W 124 n hn
      go_wp2_with fail
      refine wp_loop_rounds 4 ?_
      rw [rounds_succ]
      go_wp2_with fail
      rw [rounds_succ]
      go_wp2_with fail
      rw [rounds_succ]
      go_wp2_with fail
      rw [rounds_succ]
      go_wp2_with (first
        | refine wpList_execT rfl (add_str _ _ rfl [40] A.text rfl rfl (by have := HLA.out; simp; omega)) ?_
        | refine wpList_execT rfl (add_str _ _ rfl ([40] ++ A.text) [124] rfl rfl (by have := HLA.out; simp; omega)) ?_
        | refine wpList_execT rfl (add_str _ _ rfl ([40] ++ A.text ++ [124]) B.text rfl rfl (by have := HLA.out; have := HLB.out; simp; omega)) ?_
        | refine wpList_execT rfl (add_str _ _ rfl ([40] ++ A.text ++ [124] ++ B.text) [41] rfl rfl (by have := HLA.out; have := HLB.out; simp; omega)) ?_)
      go_ret
      exact ⟨rfl, HW2.out.alloc HW2.out.size _⟩
    · have hv : ∀ (W : World) (n : Nat), n = W.heap.size → (convert 66 9 (.slice (some ⟨n, 0, none⟩) 1 1)).run Tryd.prog (W.alloc (.cells #[.int .u8 124] 5)) = .ok (.string (strB [124])) (W.alloc (.cells #[.int .u8 124] 5)) := fun W n hn => one_text W 124 n hn
      go_wp2_with fail
      refine wp_loop_rounds 4 ?_
      rw [rounds_succ]
      go_wp2_with fail
      rw [rounds_succ]
      go_wp2_with fail
      rw [rounds_succ]
      go_wp2_with fail
      rw [rounds_succ]
      go_wp2_with (first
        | refine wpList_execT rfl (add_str _ _ rfl [40] A.text rfl rfl (by have := HLA.out; simp; omega)) ?_
        | refine wpList_execT rfl (add_str _ _ rfl ([40] ++ A.text) [124] rfl rfl (by have := HLA.out; simp; omega)) ?_
        | refine wpList_execT rfl (add_str _ _ rfl ([40] ++ A.text ++ [124]) B.text rfl rfl (by have := HLA.out; have := HLB.out; simp; omega)) ?_
        | refine wpList_execT rfl (add_str _ _ rfl ([40] ++ A.text ++ [124] ++ B.text) [41] rfl rfl (by have := HLA.out; have := HLB.out; simp; omega)) ?_)
      go_ret
      exact ⟨rfl, HW2.out.alloc HW2.out.size _⟩
end Go.Proofs.YtpimkhjcphimaaaDoor
