/- The grid that a term tells, by the specification (l11Grid): letters and signs. -/
import Derived.Test.YtongjijkdjagdaaDoorTermQ2
import Derived.Test.YtongjijkdjagdaaDoorTermX
import Derived.Test.YtongjijkdjagdaaDoorTermG
import Derived.Test.YtongjijkdjagdaaDoorBunD
import Derived.Test.YtongjijkdjagdaaDoorBunF
namespace Go.Proofs.YtongjijkdjagdaaDoor
open Go.RowKit

theorem lone_G (c : UInt8) : (Tm.lone c).G = [strB [c]] := rfl

set_option maxRecDepth 100000 in
set_option maxHeartbeats 4000000 in
theorem gridS_lone (c : UInt8) (w : World) (cs : Array Value) (hc : isLet c = true) (h : TmAt 0 w (.lone c) cs) : Calls Tryd.prog 40 #[.agg cs] w (GridS (Tm.lone c).G w) := by
  obtain ⟨A, kk, rfl⟩ := h
  have hcs : c = 46 ∨ c = 114 ∨ c = 102 := by
    unfold isLet at hc
    simpa only [Bool.or_eq_true, beq_iff_eq, or_assoc] using hc
  have n1 : ((c.toNat : Int) == 62) = false := by rcases hcs with rfl | rfl | rfl <;> rfl
  have n2 : ((c.toNat : Int) == 94) = false := by rcases hcs with rfl | rfl | rfl <;> rfl
  have n3 : ((c.toNat : Int) == 42) = false := by rcases hcs with rfl | rfl | rfl <;> rfl
  have n4 : ((c.toNat : Int) == 124) = false := by rcases hcs with rfl | rfl | rfl <;> rfl
  have n5 : ((c.toNat : Int) == 45) = false := by rcases hcs with rfl | rfl | rfl <;> rfl
  have hv := fun W n hn => one_text W c n hn
  have HB := hid ((((Below.refl w.heap.size w).alloc (Nat.le_refl _) (.cells (tmC c (1, 1) (.slice A 0 kk)) 72)).alloc (by simp) (.cells #[.int .u8 (c.toNat : Int)] 5)).alloc (by simp; omega) (.cells #[.string (strB [c])] 9))
  clear hcs hc
  rw [lone_G]
  unfold tmC at HB ⊢
  go_enter Tryd.func40, Tryd.ntmps40
  go_wp2_with fail
  refine bodyPost_ret (results_tmp rfl _ _ _) rfl ?_
  refine ⟨HB.out, some ⟨w.heap.size + 1 + 1, 0, none⟩, 1, rfl, fun _ => ⟨_, 0, rfl, by simp, fun k s hk => ?_⟩⟩
  obtain rfl : k = 0 := by
    rcases k with _ | k
    · rfl
    · simp at hk
  have hs : strB [c] = s := by simpa using hk
  subst hs
  have h2 := heap_new0 ((w.alloc (.cells (tmC c (1, 1) (.slice A 0 kk)) 72)).alloc (.cells #[.int .u8 (c.toNat : Int)] 5)) (.cells #[.string (strB [c])] 9)
  rw [World.size_alloc, World.size_alloc] at h2
  exact (cell_of_row _ _ _ _ _ _ h2).trans rfl

set_option maxRecDepth 100000 in
set_option maxHeartbeats 4000000 in
theorem gridS_turn (t : Tm) (w : World) (cs : Array Value) (hg : GridT t.dim t.G) (h : TmAt 0 w (.sig 62 t) cs) (IH : GridC t) : Calls Tryd.prog 40 #[.agg cs] w (GridS (Tm.sig 62 t).G w) := by
  obtain ⟨g, kk, c', rfl, _, hgg, ht⟩ := h
  obtain ⟨A, n, q, rfl⟩ := ht.shape
  have HI := hid (fun W (h : TmAt 0 W t (tmC t.sgn t.dim (.slice A n q))) => IH W _ h)
  have HB := hid ((Below.refl w.heap.size w).alloc (Nat.le_refl _) (.cells (tmC 62 (Tm.sig 62 t).dim (.slice (some ⟨g, 0, none⟩) 1 kk)) 72))
  have HT := hid (ht.kept (Keeps.of HB.out))
  have HG := hid hg
  obtain ⟨c0, c1, c2, c3⟩ := four_cells (off := 0) hgg (s := t.sgn) (d := t.dim) (sl := .slice A n q) (fun j v h => by rw [Nat.zero_add]; exact h)
  have hgl := lt_of_block hgg
  clear ht IH hgg hg
  rw [show (Tm.sig 62 t).G = turnT t.dim t.G from rfl]
  unfold tmC at HI HB HT ⊢
  simp only [show ((62 : UInt8).toNat : Int) = 62 from rfl] at HB HT
  go_enter Tryd.func40, Tryd.ntmps40
  go_wp2_with fail
  generalize World.alloc w _ = Y at HB HT ⊢
  refine (HI.out _ HT.out).mono ?_
  rintro e w1 ⟨hb, A2, k2, rfl, hs⟩
  have HB2 := hid (HB.out.trans (hb.mono HB.out.size))
  have HL := hid (l1Turn_any A2 k2 w1.heap.size t.dim.1 t.dim.2 t.G w1 hs (Nat.le_refl _) HG.out (turnF t.dim.1 t.dim.2 (flat t.G)) (fun _ _ => rfl))
  clear hb hs
  go_wp2_with fail
  refine HL.out.mono ?_
  rintro e w2 ⟨⟨v, rfl, hv⟩, hb⟩
  have HB3 := hid (HB2.out.trans (hb.mono HB2.out.size))
  obtain ⟨A3, k3, rfl, hs3⟩ := hv.strs
  have HS3 := hid hs3
  clear hb hv hs3
  go_wp2_with fail
  refine bodyPost_ret (results_tmp rfl _ _ _) rfl ?_
  exact ⟨HB3.out, A3, k3, rfl, HS3.out⟩
set_option maxRecDepth 100000 in
set_option maxHeartbeats 4000000 in
theorem gridS_flip (t : Tm) (w : World) (cs : Array Value) (hg : GridT t.dim t.G) (h : TmAt 0 w (.sig 94 t) cs) (IH : GridC t) : Calls Tryd.prog 40 #[.agg cs] w (GridS (Tm.sig 94 t).G w) := by
  obtain ⟨g, kk, c', rfl, _, hgg, ht⟩ := h
  obtain ⟨A, n, q, rfl⟩ := ht.shape
  have HI := hid (fun W (h : TmAt 0 W t (tmC t.sgn t.dim (.slice A n q))) => IH W _ h)
  have HB := hid ((Below.refl w.heap.size w).alloc (Nat.le_refl _) (.cells (tmC 94 (Tm.sig 94 t).dim (.slice (some ⟨g, 0, none⟩) 1 kk)) 72))
  have HT := hid (ht.kept (Keeps.of HB.out))
  have HG := hid hg
  obtain ⟨c0, c1, c2, c3⟩ := four_cells (off := 0) hgg (s := t.sgn) (d := t.dim) (sl := .slice A n q) (fun j v h => by rw [Nat.zero_add]; exact h)
  have hgl := lt_of_block hgg
  clear ht IH hgg hg
  rw [show (Tm.sig 94 t).G = flipT t.dim t.G from rfl]
  unfold tmC at HI HB HT ⊢
  simp only [show ((94 : UInt8).toNat : Int) = 94 from rfl] at HB HT
  go_enter Tryd.func40, Tryd.ntmps40
  go_wp2_with fail
  generalize World.alloc w _ = Y at HB HT ⊢
  refine (HI.out _ HT.out).mono ?_
  rintro e w1 ⟨hb, A2, k2, rfl, hs⟩
  have HB2 := hid (HB.out.trans (hb.mono HB.out.size))
  have HL := hid (l1Flip_any A2 k2 w1.heap.size t.dim.1 t.dim.2 t.G w1 hs (Nat.le_refl _) HG.out (flipF t.dim.2 (flat t.G)) (fun _ _ => rfl))
  clear hb hs
  go_wp2_with fail
  refine HL.out.mono ?_
  rintro e w2 ⟨⟨v, rfl, hv⟩, hb⟩
  have HB3 := hid (HB2.out.trans (hb.mono HB2.out.size))
  obtain ⟨A3, k3, rfl, hs3⟩ := hv.strs
  have HS3 := hid hs3
  clear hb hv hs3
  go_wp2_with fail
  refine bodyPost_ret (results_tmp rfl _ _ _) rfl ?_
  exact ⟨HB3.out, A3, k3, rfl, HS3.out⟩
set_option maxRecDepth 100000 in
set_option maxHeartbeats 4000000 in
theorem gridS_other (t : Tm) (w : World) (cs : Array Value) (hg : GridT t.dim t.G) (h : TmAt 0 w (.sig 42 t) cs) (IH : GridC t) : Calls Tryd.prog 40 #[.agg cs] w (GridS (Tm.sig 42 t).G w) := by
  obtain ⟨g, kk, c', rfl, _, hgg, ht⟩ := h
  obtain ⟨A, n, q, rfl⟩ := ht.shape
  have HI := hid (fun W (h : TmAt 0 W t (tmC t.sgn t.dim (.slice A n q))) => IH W _ h)
  have HB := hid ((Below.refl w.heap.size w).alloc (Nat.le_refl _) (.cells (tmC 42 (Tm.sig 42 t).dim (.slice (some ⟨g, 0, none⟩) 1 kk)) 72))
  have HT := hid (ht.kept (Keeps.of HB.out))
  have HG := hid hg
  have HN := hid (show t.G.length ≤ 1048576 by have := hg.1; have := hg.2.2.1; omega)
  have HSZ := hid (show ∀ s ∈ t.G, s.size ≤ 1048576 from fun s hs => by have := (hg.2.2.2.2.2 s hs).1; have := hg.2.2.2.2.1; omega)
  obtain ⟨c0, c1, c2, c3⟩ := four_cells (off := 0) hgg (s := t.sgn) (d := t.dim) (sl := .slice A n q) (fun j v h => by rw [Nat.zero_add]; exact h)
  have hgl := lt_of_block hgg
  clear ht IH hgg hg
  rw [show (Tm.sig 42 t).G = otherT t.dim t.G from rfl]
  unfold tmC at HI HB HT ⊢
  simp only [show ((42 : UInt8).toNat : Int) = 42 from rfl] at HB HT
  go_enter Tryd.func40, Tryd.ntmps40
  go_wp2_with fail
  generalize World.alloc w _ = Y at HB HT ⊢
  refine (HI.out _ HT.out).mono ?_
  rintro e w1 ⟨hb, A2, k2, rfl, hs⟩
  have HB2 := hid (HB.out.trans (hb.mono HB.out.size))
  have HL := hid (specGridOther_any A2 k2 w1.heap.size t.G w1 hs (Nat.le_refl _) HN.out HSZ.out)
  clear hb hs
  go_wp2_with fail
  refine HL.out.mono ?_
  intro e w2 hend
  obtain ⟨A3, k3, res, ok, rfl, ho, hs3, hb⟩ := hend.open_
  have hres : res = otherT t.dim t.G := by
    rcases ho with ⟨n', m', hg', _, hr⟩ | ⟨hno, _, _⟩
    · obtain ⟨e1, e2⟩ := hg'.uniq HG.out
      subst e1
      subst e2
      rw [hr]
      exact other_same HG.out
    · exact absurd HG.out (hno _ _)
  subst hres
  have HB3 := hid (HB2.out.trans (hb.mono HB2.out.size))
  have HS3 := hid hs3
  clear hb ho hs3
  go_wp2_with fail
  refine bodyPost_ret (results_tmp rfl _ _ _) rfl ?_
  exact ⟨HB3.out, A3, k3, rfl, HS3.out⟩
/-- The grid that a term tells, for every term. -/
theorem l11Grid_any : ∀ t : Tm, t.wf = true → t.fits = true → GridC t
  | .lone c, hw, _ => fun w cs h => gridS_lone c w cs hw h
  | .sig s t, hw, hf => by
    simp only [Tm.wf, Bool.and_eq_true] at hw
    have IH := l11Grid_any t hw.2 hf
    have hg := t.grid hw.2 hf
    have hs : s = 62 ∨ s = 94 ∨ s = 42 := by
      have := hw.1
      unfold isSig at this
      simpa only [Bool.or_eq_true, beq_iff_eq, or_assoc] using this
    rcases hs with rfl | rfl | rfl
    · exact fun w cs h => gridS_turn t w cs hg h IH
    · exact fun w cs h => gridS_flip t w cs hg h IH
    · exact fun w cs h => gridS_other t w cs hg h IH
  | .cpl a s b, hw, hf => by
    simp only [Tm.wf, Bool.and_eq_true] at hw
    simp only [Tm.fits, Bool.and_eq_true] at hf
    have IA := l11Grid_any a hw.1.1 hf.1.1
    have IB := l11Grid_any b hw.2 hf.1.2
    have ga := a.grid hw.1.1 hf.1.1
    have gb := b.grid hw.2 hf.1.2
    rcases mid_two hw.1.2 with rfl | rfl
    · exact fun w cs h => gridS_beside a b w cs ga gb (fit_beside hf.2 (by decide)).1 h IA IB
    · exact fun w cs h => gridS_under a b w cs ga gb (fit_under hf.2 rfl).1 h IA IB
end Go.Proofs.YtongjijkdjagdaaDoor
