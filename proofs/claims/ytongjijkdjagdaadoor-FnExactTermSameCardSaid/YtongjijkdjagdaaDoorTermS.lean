/- Terms as trees in memory, and what the specification reads of a text. -/
import Derived.Test.YtongjijkdjagdaaDoorTermM
import Derived.Test.YtongjijkdjagdaaDoorTermV
import Derived.Test.YtongjijkdjagdaaDoorBunA
namespace Go.Proofs.YtongjijkdjagdaaDoor
open Go.RowKit

/-- The cells of a term. -/
def tmC (s : UInt8) (p : Nat × Nat) (sl : Value) : Array Value := #[.int .u8 s.toNat, .int .i64 (p.1 : Int), .int .i64 (p.2 : Int), sl]
theorem tmC_one (s : UInt8) (p : Nat × Nat) (A : Option Addr) (n k : Nat) : (tmC s p (.slice A n k)).all (·.oneCell') = true := by
  rw [Array.all_eq_true_iff_forall_mem]
  intro x hx
  simp [tmC] at hx
  rcases hx with rfl | rfl | rfl | rfl <;> rfl
/-- All blocks from one on are as they were. -/
def Keeps (lo : Nat) (w w' : World) : Prop := ∀ k, lo ≤ k → k < w.heap.size → w'.heap[k]? = w.heap[k]?
theorem Keeps.refl (lo : Nat) (w : World) : Keeps lo w w := fun _ _ _ => rfl
theorem Keeps.of {lo : Nat} {w w' : World} (h : Below w.heap.size w w') : Keeps lo w w' := fun k _ hk => h.block k hk
theorem Keeps.trans {lo : Nat} {a b c : World} (h : Keeps lo a b) (k : Keeps lo b c) (hs : a.heap.size ≤ b.heap.size) : Keeps lo a c := fun j h1 h2 => (k j h1 (by omega)).trans (h j h1 h2)
theorem Keeps.setRow {lo g : Nat} {a w : World} (h : Keeps lo a w) (hg : g < lo) (cs : Array Value) : Keeps lo a (w.setRow g cs) := fun k h1 h2 => (setRow_other w g k cs (by omega)).trans (h k h1 h2)
theorem Keeps.alloc {lo : Nat} {a w : World} (h : Keeps lo a w) (hs : a.heap.size ≤ w.heap.size) (o : Obj) : Keeps lo a (w.alloc o) := fun k h1 h2 => (Below.heap_alloc _ _ _ (by omega)).trans (h k h1 h2)
/-- A term as a tree in memory, in blocks from one on. -/
def TmAt (lo : Nat) (w : World) : Tm → Array Value → Prop
  | .lone c, cs => ∃ A k, cs = tmC c (1, 1) (.slice A 0 k)
  | .sig s t, cs => ∃ g k cs', cs = tmC s (Tm.sig s t).dim (.slice (some ⟨g, 0, none⟩) 1 k) ∧ lo ≤ g ∧ w.heap[g]? = some (.cells cs' 72 (0, 0)) ∧ TmAt lo w t cs'
  | .cpl a s b, cs => ∃ g k ca cb, cs = tmC s (Tm.cpl a s b).dim (.slice (some ⟨g, 0, none⟩) 2 k) ∧ lo ≤ g ∧ w.heap[g]? = some (.cells (ca ++ cb) 72 (0, 0)) ∧ TmAt lo w a ca ∧ TmAt lo w b cb
theorem TmAt.kept {lo : Nat} {w w' : World} (hb : Keeps lo w w') : ∀ {t : Tm} {cs : Array Value}, TmAt lo w t cs → TmAt lo w' t cs
  | .lone _, _, h => h
  | .sig _ _, _, ⟨g, k, cs', h1, h0, h2, h3⟩ => ⟨g, k, cs', h1, h0, (hb g h0 (lt_of_block h2)).trans h2, h3.kept hb⟩
  | .cpl _ _ _, _, ⟨g, k, ca, cb, h1, h0, h2, h3, h4⟩ => ⟨g, k, ca, cb, h1, h0, (hb g h0 (lt_of_block h2)).trans h2, h3.kept hb, h4.kept hb⟩
theorem TmAt.mono {lo lo' : Nat} {w : World} (hl : lo' ≤ lo) : ∀ {t : Tm} {cs : Array Value}, TmAt lo w t cs → TmAt lo' w t cs
  | .lone _, _, h => h
  | .sig _ _, _, ⟨g, k, cs', h1, h0, h2, h3⟩ => ⟨g, k, cs', h1, Nat.le_trans hl h0, h2, h3.mono hl⟩
  | .cpl _ _ _, _, ⟨g, k, ca, cb, h1, h0, h2, h3, h4⟩ => ⟨g, k, ca, cb, h1, Nat.le_trans hl h0, h2, h3.mono hl, h4.mono hl⟩
def Tm.sgn : Tm → UInt8
  | .lone c => c
  | .sig s _ => s
  | .cpl _ s _ => s
theorem TmAt.shape {lo : Nat} {w : World} {t : Tm} {cs : Array Value} (h : TmAt lo w t cs) : ∃ A n k, cs = tmC t.sgn t.dim (.slice A n k) := by
  cases t with
  | lone c => obtain ⟨A, k, h⟩ := h; exact ⟨_, _, _, h⟩
  | sig s t => obtain ⟨g, k, cs', h, _⟩ := h; exact ⟨_, _, _, h⟩
  | cpl a s b => obtain ⟨g, k, ca, cb, h, _⟩ := h; exact ⟨_, _, _, h⟩
theorem TmAt.size {lo : Nat} {w : World} {t : Tm} {cs : Array Value} (h : TmAt lo w t cs) : cs.size = 4 := by
  obtain ⟨A, n, k, rfl⟩ := h.shape
  rfl
/-- What is read of a text from a place on. -/
def ReadS (f at_ : Nat) (L : List UInt8) (w : World) (e : Ending) (w' : World) : Prop :=
  Below w.heap.size w w' ∧ ∃ t cs, ∃ k : Nat, e = .returned (.tuple #[.agg cs, .int .i64 (k : Int)]) ∧ TmAt w.heap.size w' t cs ∧ t.fits = true ∧
    ((∃ r, rd f (L.drop at_) = some (t, r) ∧ k = L.length - r.length ∧ 0 < k) ∨ (k = 0 ∧ ∀ t' r, rd f (L.drop at_) = some (t', r) → t'.fits = false))

theorem Tryd.size_tm : (Tryd.prog.info? 72).map (·.size) = some 4 := by kernel_rfl
set_option maxRecDepth 100000 in
set_option maxHeartbeats 4000000 in
theorem read_end (f : Nat) (at_ : Nat) (L : List UInt8) (w : World) (h : L.length ≤ at_) : Calls Tryd.prog 75 #[.string (strB L), .int .i64 (at_ : Int)] w (ReadS f at_ L w) := by
  have hsz : ((strB L).size : Int) = (L.length : Int) := by rw [strB_size]
  have h1 : (L.length : Int) ≤ (at_ : Int) := by omega
  have HA := hid h
  clear h
  go_enter Tryd.func75, Tryd.ntmps75
  go_wp2_with fail
  refine bodyPost_ret (results_row_tmp Tryd.results75 _ w.heap.size 72 (tmC 46 (1, 1) (.slice (some ⟨w.heap.size + 1, 0, none⟩) 0 0)) (0, 0) _ (by rfl) (heap_new2 w _ _ _) Tryd.underlying72 rfl Tryd.size_tm) rfl ?_
  refine ⟨(((Below.refl _ w).alloc (Nat.le_refl _) _).alloc (by simp) _).alloc (by simp; omega) _, .lone 46, _, 0, rfl, ⟨_, _, rfl⟩, rfl, .inr ⟨rfl, fun t' r hr => ?_⟩⟩
  rw [List.drop_eq_nil_of_le HA.out] at hr
  cases f <;> simp [rd] at hr

theorem rd_letter {f : Nat} {c : UInt8} {l : List UInt8} (h : isLet c = true) : rd (f + 1) (c :: l) = some (.lone c, l) := by
  unfold rd
  rw [if_neg (let_not h), if_pos h]
theorem rd_sign {f : Nat} {c : UInt8} {l : List UInt8} (h : isSig c = true) : rd (f + 1) (c :: l) = (match rd f l with | some (t, r) => some (.sig c t, r) | none => none) := by
  conv => lhs; unfold rd
  rw [if_neg (sig_not h).1, if_neg (by rw [(sig_not h).2]; decide), if_pos h]
  rfl
theorem rd_other {f : Nat} {c : UInt8} {l : List UInt8} (h1 : c ≠ 40) (h2 : isLet c = false) (h3 : isSig c = false) : rd (f + 1) (c :: l) = none := by
  unfold rd
  rw [if_neg h1, if_neg (by rw [h2]; decide), if_neg (by rw [h3]; decide)]
theorem strB_at (L : List UInt8) (k : Nat) (c : UInt8) (l : List UInt8) (h : L.drop k = c :: l) : ∃ hk : k < (strB L).size, (strB L)[k]'hk = c := by
  have hk : k < L.length := by
    rcases Nat.lt_or_ge k L.length with h2 | h2
    · exact h2
    · rw [List.drop_eq_nil_of_le h2] at h; cases h
  refine ⟨by rw [strB_size]; exact hk, ?_⟩
  refine byte_of ?_ _
  have e := List.getElem?_drop (xs := L) (i := k) (j := 0)
  rw [h] at e
  simpa [strB] using e.symm

set_option maxRecDepth 100000 in
set_option maxHeartbeats 4000000 in
theorem read_letter (f : Nat) (at_ : Nat) (L : List UInt8) (c : UInt8) (l : List UInt8) (w : World) (h : L.drop at_ = c :: l) (hc : isLet c = true) (hL : L.length ≤ 60) : Calls Tryd.prog 75 #[.string (strB L), .int .i64 (at_ : Int)] w (ReadS (f + 1) at_ L w) := by
  have hsz : ((strB L).size : Int) = (L.length : Int) := by rw [strB_size]
  obtain ⟨hk, hb⟩ := strB_at L at_ c l h
  have hlt : at_ < L.length := by rw [strB_size] at hk; exact hk
  have h1 : (at_ : Int) < (L.length : Int) := by omega
  have h0 : (L.length : Int) ≤ 60 := by omega
  have HLT := hid hlt
  have HD := hid h
  have HC := hid hc
  have HL := hid (l1Letter_any c)
  rw [hc] at HL
  clear h hL hlt hc
  go_enter Tryd.func75, Tryd.ntmps75
  go_wp2_with fail
  refine (HL.out _).mono ?_
  rintro e w' ⟨rfl, rfl⟩
  go_wp2_with fail
  refine bodyPost_ret (results_row_tmp Tryd.results75 _ w.heap.size 72 (tmC c (1, 1) (.slice (some ⟨w.heap.size + 1 + 1 + 1, 0, none⟩) 0 0)) (0, 0) _ (by rfl) ((Below.heap_alloc _ _ _ (by simp; omega)).trans (heap_new2 w _ _ _)) Tryd.underlying72 rfl Tryd.size_tm) rfl ?_
  refine ⟨((((Below.refl _ w).alloc (Nat.le_refl _) _).alloc (by simp) _).alloc (by simp; omega) _).alloc (by simp; omega) _, .lone c, _, at_ + 1, rfl, ⟨_, _, rfl⟩, rfl, .inl ⟨l, ?_, ?_, by omega⟩⟩
  · rw [HD.out, rd_letter HC.out]
  · have e := congrArg List.length HD.out
    have := HLT.out
    rw [List.length_drop, List.length_cons] at e
    omega

set_option maxRecDepth 100000 in
set_option maxHeartbeats 8000000 in
theorem read_turn (f : Nat) (at_ : Nat) (L : List UInt8) (l : List UInt8) (w : World) (h : L.drop at_ = 62 :: l) (hL : L.length ≤ 60) (IH : ∀ w, Calls Tryd.prog 75 #[.string (strB L), .int .i64 ((at_ : Int) + 1)] w (ReadS f (at_ + 1) L w)) :
    Calls Tryd.prog 75 #[.string (strB L), .int .i64 (at_ : Int)] w (ReadS (f + 1) at_ L w) := by
  have hsz : ((strB L).size : Int) = (L.length : Int) := by rw [strB_size]
  obtain ⟨hk, hb⟩ := strB_at L at_ 62 l h
  have hlt : at_ < L.length := by rw [strB_size] at hk; exact hk
  have h1 : (at_ : Int) < (L.length : Int) := by omega
  have h0 : (L.length : Int) ≤ 60 := by omega
  have HD := hid h
  have HD1 := hid (show L.drop (at_ + 1) = l by rw [← List.drop_drop, h]; rfl)
  have HL := hid (l1Letter_any 62)
  rw [show isLet 62 = false from rfl] at HL
  have HIH := hid IH
  clear h hL hlt IH
  have HB := hid ((((Below.refl _ w).alloc (Nat.le_refl _) (.cells (tmC 0 (0, 0) (.slice none 0 0)) 72)).alloc (by simp) (.cells #[] 72)).alloc (by simp; omega) (.cells (tmC 46 (1, 1) (.slice (some ⟨w.heap.size + 1, 0, none⟩) 0 0)) 72))
  have L0 := hid (heap_new2 w (.cells (tmC 0 (0, 0) (.slice none 0 0)) 72) (.cells #[] 72) (.cells (tmC 46 (1, 1) (.slice (some ⟨w.heap.size + 1, 0, none⟩) 0 0)) 72))
  go_enter Tryd.func75, Tryd.ntmps75
  go_wp2_with fail
  refine (HL.out _).mono ?_
  rintro e w' ⟨rfl, rfl⟩
  go_wp2_with fail
  have HLO := hid (show w.heap.size + 1 ≤ (World.alloc (World.alloc (World.alloc w (.cells (tmC 0 (0, 0) (.slice none 0 0)) 72)) (.cells #[] 72)) (.cells (tmC 46 (1, 1) (.slice (some ⟨w.heap.size + 1, 0, none⟩) 0 0)) 72)).heap.size by simp <;> omega)
  unfold tmC at L0 HB HLO
  simp only [show ((0 : UInt8).toNat : Int) = 0 from rfl, show ((46 : UInt8).toNat : Int) = 46 from rfl, show ((0 : Nat) : Int) = 0 from rfl, show ((1 : Nat) : Int) = 1 from rfl] at L0 HB HLO
  generalize World.alloc (World.alloc (World.alloc w _) _) _ = Y at L0 HB HLO ⊢
  refine (HIH.out _).mono ?_
  rintro e w1 ⟨hb1, t, cs, k, rfl, ht, hf, hrd⟩
  obtain ⟨A, n, kk, rfl⟩ := ht.shape
  have HT := hid (ht.mono HLO.out)
  have HF := hid hf
  have HR := hid hrd
  have hd := t.dim_le hf
  have I0 := hid ((hb1.block _ (lt_of_block L0.out)).trans L0.out)
  have IB := hid (HB.out.trans (hb1.mono HB.out.size))
  have IL := hid (lt_of_block I0.out)
  obtain ⟨dt, hdt⟩ : ∃ d, t.dim = d := ⟨_, rfl⟩
  have HDT := hid hdt
  rw [hdt] at hd HT
  have d1 : (dt.1 : Int) ≤ 5 := by omega
  have d2 : (dt.2 : Int) ≤ 5 := by omega
  rw [hdt]
  unfold tmC
  clear hb1 ht hf hrd hdt hd L0 HB HIH
  go_wp2_with (refine wpList_store_row rfl 72 _ _ rfl w.heap.size (tmC 62 (dt.2, dt.1) (.slice (some ⟨w1.heap.size + 1, 0, none⟩) 1 1)) rfl rfl 72 #[.int .u8 0, .int .i64 0, .int .i64 0, .slice none 0 0] ((Below.heap_alloc _ _ _ (by have := IL.out; simp; omega)).trans ((Below.heap_alloc _ _ _ (by have := IL.out; simp; omega)).trans ((Below.heap_alloc _ _ _ IL.out).trans I0.out))) Tryd.size_tm rfl (tmC_one _ _ _ _ _) ?_)
  refine bodyPost_ret (results_row_tmp Tryd.results75 _ w.heap.size 72 (tmC 62 (dt.2, dt.1) (.slice (some ⟨w1.heap.size + 1, 0, none⟩) 1 1)) (0, 0) _ (by rfl) (setRow_heap _ _ _ _ _ _ ((Below.heap_alloc _ _ _ (by have := IL.out; simp; omega)).trans ((Below.heap_alloc _ _ _ (by have := IL.out; simp; omega)).trans ((Below.heap_alloc _ _ _ IL.out).trans I0.out)))) Tryd.underlying72 rfl Tryd.size_tm) rfl ?_
  refine ⟨below_setRow' (((IB.out.alloc IB.out.size _).alloc (by have := IB.out.size; simp; omega) _).alloc (by have := IB.out.size; simp; omega) _) (Nat.le_refl _) _, .sig 62 t, _, k, rfl, ⟨w1.heap.size + 1, 1, tmC t.sgn dt (.slice A n kk), ?_, by have := IB.out.size; omega, ?_, ?_⟩, HF.out, ?_⟩
  · rw [show (Tm.sig 62 t).dim = (t.dim.2, t.dim.1) from rfl, HDT.out]
  · rw [setRow_other _ _ _ _ (by have := IL.out; omega), Below.heap_alloc _ _ _ (by simp)]
    have := heap_new0 (w1.alloc (.cells (tmC t.sgn dt (.slice A n kk)) 72)) (.cells (tmC t.sgn dt (.slice A n kk)) 72)
    rw [World.size_alloc] at this
    exact this
  · refine (HT.out.kept ((((Keeps.refl _ w1).alloc (Nat.le_refl _) _).alloc (by simp) _).alloc (by simp; omega) _ |>.setRow (Nat.lt_succ_self _) _)).mono (by omega)
  · rw [HD.out, rd_sign (show isSig 62 = true from rfl)]
    rcases HR.out with ⟨r, h1, h2, h3⟩ | ⟨h1, h2⟩
    · rw [HD1.out] at h1
      exact .inl ⟨r, by rw [h1], h2, h3⟩
    · rw [HD1.out] at h2
      refine .inr ⟨h1, fun t' r hr => ?_⟩
      split at hr
      · rename_i t2 r2 e2
        simp only [Option.some.injEq, Prod.mk.injEq] at hr
        obtain ⟨rfl, rfl⟩ := hr
        exact h2 t2 r2 e2
      · cases hr

set_option maxRecDepth 100000 in
set_option maxHeartbeats 8000000 in
theorem read_flip (f : Nat) (at_ : Nat) (L : List UInt8) (l : List UInt8) (w : World) (h : L.drop at_ = 94 :: l) (hL : L.length ≤ 60) (IH : ∀ w, Calls Tryd.prog 75 #[.string (strB L), .int .i64 ((at_ : Int) + 1)] w (ReadS f (at_ + 1) L w)) :
    Calls Tryd.prog 75 #[.string (strB L), .int .i64 (at_ : Int)] w (ReadS (f + 1) at_ L w) := by
  have hsz : ((strB L).size : Int) = (L.length : Int) := by rw [strB_size]
  obtain ⟨hk, hb⟩ := strB_at L at_ 94 l h
  have hlt : at_ < L.length := by rw [strB_size] at hk; exact hk
  have h1 : (at_ : Int) < (L.length : Int) := by omega
  have h0 : (L.length : Int) ≤ 60 := by omega
  have HD := hid h
  have HD1 := hid (show L.drop (at_ + 1) = l by rw [← List.drop_drop, h]; rfl)
  have HL := hid (l1Letter_any 94)
  rw [show isLet 94 = false from rfl] at HL
  have HIH := hid IH
  clear h hL hlt IH
  have HB := hid ((((Below.refl _ w).alloc (Nat.le_refl _) (.cells (tmC 0 (0, 0) (.slice none 0 0)) 72)).alloc (by simp) (.cells #[] 72)).alloc (by simp; omega) (.cells (tmC 46 (1, 1) (.slice (some ⟨w.heap.size + 1, 0, none⟩) 0 0)) 72))
  have L0 := hid (heap_new2 w (.cells (tmC 0 (0, 0) (.slice none 0 0)) 72) (.cells #[] 72) (.cells (tmC 46 (1, 1) (.slice (some ⟨w.heap.size + 1, 0, none⟩) 0 0)) 72))
  go_enter Tryd.func75, Tryd.ntmps75
  go_wp2_with fail
  refine (HL.out _).mono ?_
  rintro e w' ⟨rfl, rfl⟩
  go_wp2_with fail
  have HLO := hid (show w.heap.size + 1 ≤ (World.alloc (World.alloc (World.alloc w (.cells (tmC 0 (0, 0) (.slice none 0 0)) 72)) (.cells #[] 72)) (.cells (tmC 46 (1, 1) (.slice (some ⟨w.heap.size + 1, 0, none⟩) 0 0)) 72)).heap.size by simp <;> omega)
  unfold tmC at L0 HB HLO
  simp only [show ((0 : UInt8).toNat : Int) = 0 from rfl, show ((46 : UInt8).toNat : Int) = 46 from rfl, show ((0 : Nat) : Int) = 0 from rfl, show ((1 : Nat) : Int) = 1 from rfl] at L0 HB HLO
  generalize World.alloc (World.alloc (World.alloc w _) _) _ = Y at L0 HB HLO ⊢
  refine (HIH.out _).mono ?_
  rintro e w1 ⟨hb1, t, cs, k, rfl, ht, hf, hrd⟩
  obtain ⟨A, n, kk, rfl⟩ := ht.shape
  have HT := hid (ht.mono HLO.out)
  have HF := hid hf
  have HR := hid hrd
  have hd := t.dim_le hf
  have I0 := hid ((hb1.block _ (lt_of_block L0.out)).trans L0.out)
  have IB := hid (HB.out.trans (hb1.mono HB.out.size))
  have IL := hid (lt_of_block I0.out)
  obtain ⟨dt, hdt⟩ : ∃ d, t.dim = d := ⟨_, rfl⟩
  have HDT := hid hdt
  rw [hdt] at hd HT
  have d1 : (dt.1 : Int) ≤ 5 := by omega
  have d2 : (dt.2 : Int) ≤ 5 := by omega
  rw [hdt]
  unfold tmC
  clear hb1 ht hf hrd hdt hd L0 HB HIH
  go_wp2_with (refine wpList_store_row rfl 72 _ _ rfl w.heap.size (tmC 94 dt (.slice (some ⟨w1.heap.size + 1, 0, none⟩) 1 1)) rfl rfl 72 #[.int .u8 0, .int .i64 0, .int .i64 0, .slice none 0 0] ((Below.heap_alloc _ _ _ (by have := IL.out; simp; omega)).trans ((Below.heap_alloc _ _ _ (by have := IL.out; simp; omega)).trans ((Below.heap_alloc _ _ _ IL.out).trans I0.out))) Tryd.size_tm rfl (tmC_one _ _ _ _ _) ?_)
  refine bodyPost_ret (results_row_tmp Tryd.results75 _ w.heap.size 72 (tmC 94 dt (.slice (some ⟨w1.heap.size + 1, 0, none⟩) 1 1)) (0, 0) _ (by rfl) (setRow_heap _ _ _ _ _ _ ((Below.heap_alloc _ _ _ (by have := IL.out; simp; omega)).trans ((Below.heap_alloc _ _ _ (by have := IL.out; simp; omega)).trans ((Below.heap_alloc _ _ _ IL.out).trans I0.out)))) Tryd.underlying72 rfl Tryd.size_tm) rfl ?_
  refine ⟨below_setRow' (((IB.out.alloc IB.out.size _).alloc (by have := IB.out.size; simp; omega) _).alloc (by have := IB.out.size; simp; omega) _) (Nat.le_refl _) _, .sig 94 t, _, k, rfl, ⟨w1.heap.size + 1, 1, tmC t.sgn dt (.slice A n kk), ?_, by have := IB.out.size; omega, ?_, ?_⟩, HF.out, ?_⟩
  · rw [show (Tm.sig 94 t).dim = t.dim from rfl, HDT.out]
  · rw [setRow_other _ _ _ _ (by have := IL.out; omega), Below.heap_alloc _ _ _ (by simp)]
    have := heap_new0 (w1.alloc (.cells (tmC t.sgn dt (.slice A n kk)) 72)) (.cells (tmC t.sgn dt (.slice A n kk)) 72)
    rw [World.size_alloc] at this
    exact this
  · refine (HT.out.kept ((((Keeps.refl _ w1).alloc (Nat.le_refl _) _).alloc (by simp) _).alloc (by simp; omega) _ |>.setRow (Nat.lt_succ_self _) _)).mono (by omega)
  · rw [HD.out, rd_sign (show isSig 94 = true from rfl)]
    rcases HR.out with ⟨r, h1, h2, h3⟩ | ⟨h1, h2⟩
    · rw [HD1.out] at h1
      exact .inl ⟨r, by rw [h1], h2, h3⟩
    · rw [HD1.out] at h2
      refine .inr ⟨h1, fun t' r hr => ?_⟩
      split at hr
      · rename_i t2 r2 e2
        simp only [Option.some.injEq, Prod.mk.injEq] at hr
        obtain ⟨rfl, rfl⟩ := hr
        exact h2 t2 r2 e2
      · cases hr

set_option maxRecDepth 100000 in
set_option maxHeartbeats 8000000 in
theorem read_other (f : Nat) (at_ : Nat) (L : List UInt8) (l : List UInt8) (w : World) (h : L.drop at_ = 42 :: l) (hL : L.length ≤ 60) (IH : ∀ w, Calls Tryd.prog 75 #[.string (strB L), .int .i64 ((at_ : Int) + 1)] w (ReadS f (at_ + 1) L w)) :
    Calls Tryd.prog 75 #[.string (strB L), .int .i64 (at_ : Int)] w (ReadS (f + 1) at_ L w) := by
  have hsz : ((strB L).size : Int) = (L.length : Int) := by rw [strB_size]
  obtain ⟨hk, hb⟩ := strB_at L at_ 42 l h
  have hlt : at_ < L.length := by rw [strB_size] at hk; exact hk
  have h1 : (at_ : Int) < (L.length : Int) := by omega
  have h0 : (L.length : Int) ≤ 60 := by omega
  have HD := hid h
  have HD1 := hid (show L.drop (at_ + 1) = l by rw [← List.drop_drop, h]; rfl)
  have HL := hid (l1Letter_any 42)
  rw [show isLet 42 = false from rfl] at HL
  have HIH := hid IH
  clear h hL hlt IH
  have HB := hid ((((Below.refl _ w).alloc (Nat.le_refl _) (.cells (tmC 0 (0, 0) (.slice none 0 0)) 72)).alloc (by simp) (.cells #[] 72)).alloc (by simp; omega) (.cells (tmC 46 (1, 1) (.slice (some ⟨w.heap.size + 1, 0, none⟩) 0 0)) 72))
  have L0 := hid (heap_new2 w (.cells (tmC 0 (0, 0) (.slice none 0 0)) 72) (.cells #[] 72) (.cells (tmC 46 (1, 1) (.slice (some ⟨w.heap.size + 1, 0, none⟩) 0 0)) 72))
  go_enter Tryd.func75, Tryd.ntmps75
  go_wp2_with fail
  refine (HL.out _).mono ?_
  rintro e w' ⟨rfl, rfl⟩
  go_wp2_with fail
  have HLO := hid (show w.heap.size + 1 ≤ (World.alloc (World.alloc (World.alloc w (.cells (tmC 0 (0, 0) (.slice none 0 0)) 72)) (.cells #[] 72)) (.cells (tmC 46 (1, 1) (.slice (some ⟨w.heap.size + 1, 0, none⟩) 0 0)) 72)).heap.size by simp <;> omega)
  unfold tmC at L0 HB HLO
  simp only [show ((0 : UInt8).toNat : Int) = 0 from rfl, show ((46 : UInt8).toNat : Int) = 46 from rfl, show ((0 : Nat) : Int) = 0 from rfl, show ((1 : Nat) : Int) = 1 from rfl] at L0 HB HLO
  generalize World.alloc (World.alloc (World.alloc w _) _) _ = Y at L0 HB HLO ⊢
  refine (HIH.out _).mono ?_
  rintro e w1 ⟨hb1, t, cs, k, rfl, ht, hf, hrd⟩
  obtain ⟨A, n, kk, rfl⟩ := ht.shape
  have HT := hid (ht.mono HLO.out)
  have HF := hid hf
  have HR := hid hrd
  have hd := t.dim_le hf
  have I0 := hid ((hb1.block _ (lt_of_block L0.out)).trans L0.out)
  have IB := hid (HB.out.trans (hb1.mono HB.out.size))
  have IL := hid (lt_of_block I0.out)
  obtain ⟨dt, hdt⟩ : ∃ d, t.dim = d := ⟨_, rfl⟩
  have HDT := hid hdt
  rw [hdt] at hd HT
  have d1 : (dt.1 : Int) ≤ 5 := by omega
  have d2 : (dt.2 : Int) ≤ 5 := by omega
  rw [hdt]
  unfold tmC
  clear hb1 ht hf hrd hdt hd L0 HB HIH
  go_wp2_with (refine wpList_store_row rfl 72 _ _ rfl w.heap.size (tmC 42 dt (.slice (some ⟨w1.heap.size + 1, 0, none⟩) 1 1)) rfl rfl 72 #[.int .u8 0, .int .i64 0, .int .i64 0, .slice none 0 0] ((Below.heap_alloc _ _ _ (by have := IL.out; simp; omega)).trans ((Below.heap_alloc _ _ _ (by have := IL.out; simp; omega)).trans ((Below.heap_alloc _ _ _ IL.out).trans I0.out))) Tryd.size_tm rfl (tmC_one _ _ _ _ _) ?_)
  refine bodyPost_ret (results_row_tmp Tryd.results75 _ w.heap.size 72 (tmC 42 dt (.slice (some ⟨w1.heap.size + 1, 0, none⟩) 1 1)) (0, 0) _ (by rfl) (setRow_heap _ _ _ _ _ _ ((Below.heap_alloc _ _ _ (by have := IL.out; simp; omega)).trans ((Below.heap_alloc _ _ _ (by have := IL.out; simp; omega)).trans ((Below.heap_alloc _ _ _ IL.out).trans I0.out)))) Tryd.underlying72 rfl Tryd.size_tm) rfl ?_
  refine ⟨below_setRow' (((IB.out.alloc IB.out.size _).alloc (by have := IB.out.size; simp; omega) _).alloc (by have := IB.out.size; simp; omega) _) (Nat.le_refl _) _, .sig 42 t, _, k, rfl, ⟨w1.heap.size + 1, 1, tmC t.sgn dt (.slice A n kk), ?_, by have := IB.out.size; omega, ?_, ?_⟩, HF.out, ?_⟩
  · rw [show (Tm.sig 42 t).dim = t.dim from rfl, HDT.out]
  · rw [setRow_other _ _ _ _ (by have := IL.out; omega), Below.heap_alloc _ _ _ (by simp)]
    have := heap_new0 (w1.alloc (.cells (tmC t.sgn dt (.slice A n kk)) 72)) (.cells (tmC t.sgn dt (.slice A n kk)) 72)
    rw [World.size_alloc] at this
    exact this
  · refine (HT.out.kept ((((Keeps.refl _ w1).alloc (Nat.le_refl _) _).alloc (by simp) _).alloc (by simp; omega) _ |>.setRow (Nat.lt_succ_self _) _)).mono (by omega)
  · rw [HD.out, rd_sign (show isSig 42 = true from rfl)]
    rcases HR.out with ⟨r, h1, h2, h3⟩ | ⟨h1, h2⟩
    · rw [HD1.out] at h1
      exact .inl ⟨r, by rw [h1], h2, h3⟩
    · rw [HD1.out] at h2
      refine .inr ⟨h1, fun t' r hr => ?_⟩
      split at hr
      · rename_i t2 r2 e2
        simp only [Option.some.injEq, Prod.mk.injEq] at hr
        obtain ⟨rfl, rfl⟩ := hr
        exact h2 t2 r2 e2
      · cases hr

end Go.Proofs.YtongjijkdjagdaaDoor
