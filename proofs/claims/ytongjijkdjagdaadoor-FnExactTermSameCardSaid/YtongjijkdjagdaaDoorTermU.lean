/- A whole text read as a term that tells a grid: TermIn of both, by contracts. -/
import Derived.Test.YtongjijkdjagdaaDoorTermT
import Derived.Test.YtongjijkdjagdaaDoorTermW
namespace Go.Proofs.YtongjijkdjagdaaDoor
open Go.RowKit

theorem read_any (L : List UInt8) (hL : L.length ≤ 60) : ∀ (f at_ : Nat) (w : World), at_ ≤ L.length → L.length - at_ < f → Calls Tryd.prog 75 #[.string (strB L), .int .i64 (at_ : Int)] w (ReadS f at_ L w)
  | 0, _, _, _, h => absurd h (by omega)
  | f + 1, at_, w, ha, hf => by
    have ih := fun (j : Nat) (w : World) (hj : j ≤ L.length) (hlt : at_ < j) => read_any L hL f j w hj (by omega)
    have ih1 : at_ < L.length → ∀ w, Calls Tryd.prog 75 #[.string (strB L), .int .i64 ((at_ : Int) + 1)] w (ReadS f (at_ + 1) L w) := fun h w => by
      have := ih (at_ + 1) w (by omega) (by omega)
      rwa [Int.natCast_add] at this
    rcases Nat.lt_or_ge at_ L.length with hlt | hge
    · obtain ⟨c, l, hd⟩ : ∃ c l, L.drop at_ = c :: l := by
        cases h : L.drop at_ with
        | nil => rw [List.drop_eq_nil_iff] at h; omega
        | cons c l => exact ⟨c, l, rfl⟩
      by_cases h40 : c = 40
      · subst h40
        exact read_open f at_ L l w hd hL ih
      · by_cases hlet : isLet c = true
        · exact read_letter f at_ L c l w hd hlet hL
        · by_cases hsg : isSig c = true
          · rcases sig_three hsg with rfl | rfl | rfl
            · exact read_turn f at_ L l w hd hL (ih1 hlt)
            · exact read_flip f at_ L l w hd hL (ih1 hlt)
            · exact read_other f at_ L l w hd hL (ih1 hlt)
          · exact read_wrong f at_ L c l w hd h40 (by simpa using hlet) (by simpa using hsg) hL
    · exact read_end (f + 1) at_ L w hge

/-- What l11Of hands back. -/
def OfIs (l : List UInt8) (w : World) (e : Ending) (w' : World) : Prop :=
  Below w.heap.size w w' ∧ ∃ t cs ok, e = .returned (.tuple #[.agg cs, .bool ok]) ∧ TmAt w.heap.size w' t cs ∧ t.fits = true ∧ ((ok = true ∧ okT l = some t) ∨ (ok = false ∧ ∀ t', okT l = some t' → t'.fits = false))

set_option maxRecDepth 100000 in
set_option maxHeartbeats 4000000 in
theorem l11Of_any (l : List UInt8) (w : World) (hl : l.length ≤ 1048576) : Calls Tryd.prog 38 #[.string (strB l)] w (OfIs l w) := by
  have hsz : ((strB l).size : Int) = (l.length : Int) := by rw [strB_size]
  have hli : (l.length : Int) ≤ 1048576 := by omega
  by_cases h60 : l.length ≤ 60
  · have h60i : (l.length : Int) ≤ 60 := by omega
    have HR := hid (read_any l h60 (l.length + 1) 0 (w.alloc (.cells zeroTm 72)) (by omega) (by omega))
    have HB := hid ((Below.refl w.heap.size w).alloc (Nat.le_refl _) (.cells zeroTm 72))
    have L0 := hid (heap_new0 w (.cells zeroTm 72))
    have H60 := hid h60
    rw [show ((0 : Nat) : Int) = 0 from rfl] at HR
    unfold zeroTm at HR HB L0
    clear h60 hl
    go_enter Tryd.func38, Tryd.ntmps38
    go_wp2_with fail
    have HSZ := hid (show w.heap.size + 1 ≤ (World.alloc w (.cells #[.int .u8 0, .int .i64 0, .int .i64 0, .slice none 0 0] 72)).heap.size by simp)
    generalize World.alloc w _ = X at HR HB L0 HSZ ⊢
    refine HR.out.mono ?_
    rintro e w1 ⟨hb1, t, cs, k, rfl, ht, hf, hrd⟩
    obtain ⟨A, n, kk, rfl⟩ := ht.shape
    have HT := hid (ht.mono HSZ.out)
    have HF := hid hf
    have I0 := hid ((hb1.block _ (lt_of_block L0.out)).trans L0.out)
    have IB := hid (HB.out.trans (hb1.mono HB.out.size))
    have IL := hid (lt_of_block I0.out)
    have J0 := hid ((Below.heap_alloc w1 (.cells (tmC t.sgn t.dim (.slice A n kk)) 72) _ IL.out).trans I0.out)
    clear hb1 ht hf L0 HB HR
    have hk : (k : Int) ≤ 60 := by
      rcases hrd with ⟨r, _, h2, _⟩ | ⟨h2, _⟩
      · have := H60.out; omega
      · omega
    have fin : ∀ ok : Bool, ((ok = true ∧ okT l = some t) ∨ (ok = false ∧ ∀ t', okT l = some t' → t'.fits = false)) → OfIs l w (.returned (.tuple #[.agg (tmC t.sgn t.dim (.slice A n kk)), .bool ok])) ((w1.alloc (.cells (tmC t.sgn t.dim (.slice A n kk)) 72)).setRow w.heap.size (tmC t.sgn t.dim (.slice A n kk))) := fun ok hok =>
      ⟨below_setRow' (IB.out.alloc IB.out.size _) (Nat.le_refl _) _, t, _, ok, rfl, (HT.out.kept (((Keeps.refl _ w1).alloc (Nat.le_refl _) _).setRow (Nat.lt_succ_self _) _)).mono (by omega), HF.out, hok⟩
    have HFIN := hid fin
    clear fin
    unfold tmC
    have hd0 : l.drop 0 = l := rfl
    rw [hd0] at hrd
    rcases hrd with ⟨r, g1, g2, g3⟩ | ⟨g1, g2⟩
    · have hp : 0 < (k : Int) := by omega
      have G1 := hid g1
      have hrl := rd_len g1
      cases r with
      | nil =>
        have hke : ((k : Int) == (l.length : Int)) = true := by rw [beq_iff_eq]; simp at g2; omega
        clear g1 g2 g3 hrl
        go_wp2_with (refine wpList_store_row rfl 72 _ _ rfl w.heap.size (tmC t.sgn t.dim (.slice A n kk)) rfl rfl 72 zeroTm J0.out Tryd.size_tm rfl (tmC_one _ _ _ _ _) ?_)
        refine bodyPost_ret (results_row_tmp Tryd.results38 _ w.heap.size 72 (tmC t.sgn t.dim (.slice A n kk)) (0, 0) _ (by rfl) (setRow_heap _ _ _ _ _ _ J0.out) Tryd.underlying72 rfl Tryd.size_tm) rfl ?_
        exact HFIN.out true (.inl ⟨rfl, by unfold okT rdAll; rw [if_pos H60.out, G1.out]⟩)
      | cons c r2 =>
        have hke : ((k : Int) == (l.length : Int)) = false := by rw [beq_eq_false_iff_ne]; rw [List.length_cons] at g2 hrl; omega
        clear g1 g2 g3 hrl
        go_wp2_with (refine wpList_store_row rfl 72 _ _ rfl w.heap.size (tmC t.sgn t.dim (.slice A n kk)) rfl rfl 72 zeroTm J0.out Tryd.size_tm rfl (tmC_one _ _ _ _ _) ?_)
        refine bodyPost_ret (results_row_tmp Tryd.results38 _ w.heap.size 72 (tmC t.sgn t.dim (.slice A n kk)) (0, 0) _ (by rfl) (setRow_heap _ _ _ _ _ _ J0.out) Tryd.underlying72 rfl Tryd.size_tm) rfl ?_
        refine HFIN.out false (.inr ⟨rfl, fun t' h => ?_⟩)
        unfold okT rdAll at h
        rw [if_pos H60.out, G1.out] at h
        cases h
    · have G2 := hid g2
      clear g2
      subst g1
      go_wp2_with (refine wpList_store_row rfl 72 _ _ rfl w.heap.size (tmC t.sgn t.dim (.slice A n kk)) rfl rfl 72 zeroTm J0.out Tryd.size_tm rfl (tmC_one _ _ _ _ _) ?_)
      refine bodyPost_ret (results_row_tmp Tryd.results38 _ w.heap.size 72 (tmC t.sgn t.dim (.slice A n kk)) (0, 0) _ (by rfl) (setRow_heap _ _ _ _ _ _ J0.out) Tryd.underlying72 rfl Tryd.size_tm) rfl ?_
      refine HFIN.out false (.inr ⟨rfl, fun t' h => ?_⟩)
      unfold okT rdAll at h
      rw [if_pos H60.out] at h
      split at h
      · rename_i t2 e2
        cases h
        exact G2.out _ _ e2
      · cases h
  · have h60i : ¬ (l.length : Int) ≤ 60 := by omega
    have H60 := hid h60
    clear h60 hl
    go_enter Tryd.func38, Tryd.ntmps38
    go_wp2_with fail
    refine bodyPost_ret (results_row_tmp Tryd.results38 _ w.heap.size 72 (tmC 46 (1, 1) (.slice (some ⟨w.heap.size + 1, 0, none⟩) 0 0)) (0, 0) _ (by rfl) (heap_new1 w _ _) Tryd.underlying72 rfl Tryd.size_tm) rfl ?_
    refine ⟨((Below.refl _ w).alloc (Nat.le_refl _) _).alloc (by simp) _, .lone 46, _, false, rfl, ⟨_, _, rfl⟩, rfl, .inr ⟨rfl, fun t' h => ?_⟩⟩
    unfold okT at h
    rw [if_neg H60.out] at h
    cases h

/-- Whether a text is a term that tells a grid. -/
def okF (l : List UInt8) : Bool := match okT l with | some t => t.fits | none => false
theorem okF_of {l : List UInt8} {t : Tm} {ok : Bool} (hf : t.fits = true) (h : (ok = true ∧ okT l = some t) ∨ (ok = false ∧ ∀ t', okT l = some t' → t'.fits = false)) : ok = okF l := by
  unfold okF
  rcases h with ⟨rfl, h⟩ | ⟨rfl, h⟩
  · rw [h]; exact hf.symm
  · cases hc : okT l with
    | none => rfl
    | some t' => exact (h t' hc).symm
theorem strB_all (s : ByteArray) : s = strB s.data.toList := by
  apply ByteArray.ext
  simp [strB]
end Go.Proofs.YtongjijkdjagdaaDoor
