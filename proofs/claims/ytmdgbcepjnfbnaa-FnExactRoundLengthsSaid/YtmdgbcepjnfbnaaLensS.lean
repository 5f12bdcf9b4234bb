/- RoundLengths of the specification, by its contract. -/
import Derived.Test.YtmdgbcepjnfbnaaLensI
import Derived.Test.YtmdgbcepjnfbnaaLin
import Derived.Test.YtmdgbcepjnfbnaaApp
namespace Go.Proofs.Ytmdgbcepjnfbnaa
open Go.RowKit Go.Shelf

/-- What the operations that write nothing hand back where an integer is put between others. -/
def insV (W0 : World) (g len cap k : Nat) (lv : Value) (bl ol i : Nat) (x : Int) (l : List Int) (j : Nat) (v : Value) : Prop :=
  match j with
  | 1 => v = .slice (some ⟨g, 0, none⟩) len cap
  | 2 => v = .int .i64 (k : Int)
  | 3 => v = .slice (some ⟨g, 0, none⟩) k cap
  | 5 => v = lv
  | 6 => v = .int .i64 (i : Int)
  | 7 => v = .pointer (some ⟨bl, ol + i, none⟩)
  | 8 => v = .int .i64 x
  | 11 => v = .slice (some ⟨g, 0, none⟩) len cap
  | 12 => v = .int .i64 (k : Int)
  | 13 => ∃ ad c', v = .slice (some ad) (len - k) c' ∧ CellsAt W0 ad (intsV (l.drop k))
  | _ => True
/-- What stands where an integer is put between others, by what has been listed. -/
structure InsI (W0 : World) (g len cap k : Nat) (lv : Value) (bl ol i : Nat) (x : Int) (l : List Int) (s : Nat → Bool) (us : Nat → Value) (W : World) : Prop where
  below : Below W0.heap.size W0 W
  val : ∀ j, j < 14 → s j = true → insV W0 g len cap k lv bl ol i x l j (us j)
  e0 : s 0 = true → s 4 = false → ∃ b, us 0 = .slice (some ⟨b, 0, none⟩) 0 0 ∧ W0.heap.size ≤ b ∧ W.heap[b]? = some (.cells #[] 3 (0, 0))
  e4 : s 4 = true → s 10 = false → GrowI W W0.heap.size (us 4) (l.take k) ∧ us 4 ≠ .slice none 0 0
  e9 : s 9 = true → s 10 = false → ∃ h, us 9 = .slice (some ⟨h, 0, none⟩) 1 1 ∧ W.heap[h]? = some (.cells #[.int .i64 x] 3 (0, 0))
  e10 : s 10 = true → (GrowI W W0.heap.size (us 10) (l.take k ++ [x]) ∧ us 10 ≠ .slice none 0 0) ∧ s 4 = true ∧ s 9 = true
section
variable {W0 W W' : World} {g len cap k : Nat} {lv : Value} {bl ol i : Nat} {x : Int} {l : List Int} {s : Nat → Bool} {us : Nat → Value}
theorem InsI.grow (h : InsI W0 g len cap k lv bl ol i x l s us W) (hb : Below W.heap.size W W') : InsI W0 g len cap k lv bl ol i x l s us W' := by
  refine ⟨h.below.trans (hb.mono h.below.size), h.val, fun h1 h2 => ?_, fun h1 h2 => ⟨(h.e4 h1 h2).1.belowC hb, (h.e4 h1 h2).2⟩, fun h1 h2 => ?_, fun h1 => ⟨⟨(h.e10 h1).1.1.belowC hb, (h.e10 h1).1.2⟩, (h.e10 h1).2⟩⟩
  · obtain ⟨b, h3, h4, h5⟩ := h.e0 h1 h2
    exact ⟨b, h3, h4, (hb.block _ (lt_of_block h5)).trans h5⟩
  · obtain ⟨b, h3, h4⟩ := h.e9 h1 h2
    exact ⟨b, h3, (hb.block _ (lt_of_block h4)).trans h4⟩
theorem InsI.set (h : InsI W0 g len cap k lv bl ol i x l s us W) (j : Nat) (v : Value) (hj : j ≠ 0 ∧ j ≠ 4 ∧ j ≠ 9 ∧ j ≠ 10) (hv : insV W0 g len cap k lv bl ol i x l j v) :
    InsI W0 g len cap k lv bl ol i x l (fun q => if q = j then true else s q) (fun q => if q = j then v else us q) W := by
  obtain ⟨j0, j4, j9, j10⟩ := hj
  refine ⟨h.below, fun q hq hs => ?_, ?_, ?_, ?_, ?_⟩
  · by_cases e : q = j
    · subst e
      simp only [if_true]
      exact hv
    · simp only [if_neg e] at hs ⊢
      exact h.val q hq hs
  · simp only [if_neg (Ne.symm j0), if_neg (Ne.symm j4)]; exact h.e0
  · simp only [if_neg (Ne.symm j4), if_neg (Ne.symm j10)]; exact h.e4
  · simp only [if_neg (Ne.symm j9), if_neg (Ne.symm j10)]; exact h.e9
  · simp only [if_neg (Ne.symm j10), if_neg (Ne.symm j4), if_neg (Ne.symm j9)]; exact h.e10
theorem InsI.set0 (h : InsI W0 g len cap k lv bl ol i x l s us W) :
    InsI W0 g len cap k lv bl ol i x l (fun q => if q = 0 then true else s q) (fun q => if q = 0 then .slice (some ⟨W.heap.size, 0, none⟩) 0 0 else us q) (W.alloc (.cells #[] 3)) := by
  have h' := h.grow ((Below.refl _ W).alloc (Nat.le_refl _) (.cells #[] 3))
  refine ⟨h'.below, fun q hq hs => ?_, fun _ _ => ⟨_, rfl, h.below.size, heap_new0 W _⟩, h'.e4, h'.e9, h'.e10⟩
  by_cases e : q = 0
  · subst e; trivial
  · simp only [if_neg e] at hs ⊢
    exact h'.val q hq hs
theorem InsI.set9 (h : InsI W0 g len cap k lv bl ol i x l s us W) (_hs9 : s 9 = false) :
    InsI W0 g len cap k lv bl ol i x l (fun q => if q = 9 then true else s q) (fun q => if q = 9 then .slice (some ⟨W.heap.size, 0, none⟩) 1 1 else us q) (W.alloc (.cells #[.int .i64 x] 3)) := by
  have h' := h.grow ((Below.refl _ W).alloc (Nat.le_refl _) (.cells #[.int .i64 x] 3))
  refine ⟨h'.below, fun q hq hs => ?_, h'.e0, h'.e4, fun _ _ => ⟨_, rfl, heap_new0 W _⟩, fun h1 => ⟨(h'.e10 h1).1, (h'.e10 h1).2.1, rfl⟩⟩
  by_cases e : q = 9
  · subst e; trivial
  · simp only [if_neg e] at hs ⊢
    exact h'.val q hq hs
theorem InsI.set4 (h : InsI W0 g len cap k lv bl ol i x l s us W) (hs4 : s 4 = false) {v' : Value} {b : Nat} (hbb : W0.heap.size ≤ b) (hb : W.heap[b]? = some (.cells #[] 3 (0, 0)))
    (hgr : GrowI W' W0.heap.size v' (l.take k)) (hgw : W.grownBy W' (some b)) (hn : v' ≠ .slice none 0 0) :
    InsI W0 g len cap k lv bl ol i x l (fun q => if q = 4 then true else s q) (fun q => if q = 4 then v' else us q) W' := by
  refine ⟨h.below.grown hgw h.below.size (fun q e => (by cases e; exact hbb)), fun q hq hs => ?_, fun _ h2 => (by cases h2), fun _ _ => ⟨hgr, hn⟩, fun h1 h2 => ?_, fun h1 => ?_⟩
  · by_cases e : q = 4
    · subst e; trivial
    · simp only [if_neg e] at hs ⊢
      exact h.val q hq hs
  · obtain ⟨c, h3, h4⟩ := h.e9 h1 h2
    refine ⟨c, h3, (hgw.block c (lt_of_block h4) (fun e => ?_)).trans h4⟩
    cases e
    rw [hb] at h4
    cases h4
  · have := (h.e10 h1).2.1
    rw [hs4] at this
    cases this
theorem InsI.set10 (h : InsI W0 g len cap k lv bl ol i x l s us W) (hs4 : s 4 = true) (hs9 : s 9 = true) {v' : Value} (hown : GrowI W W0.heap.size (us 4) (l.take k))
    (hgr : GrowI W' W0.heap.size v' (l.take k ++ [x])) (hgw : W.grownBy W' (us 4).ownBlock) (hn : v' ≠ .slice none 0 0) :
    InsI W0 g len cap k lv bl ol i x l (fun q => if q = 10 then true else s q) (fun q => if q = 10 then v' else us q) W' := by
  refine ⟨h.below.grown hgw h.below.size (fun q e => (World.ownsRow.lt hown q e).1), fun q hq hs => ?_, fun _ h2 => ?_, fun _ h2 => (by cases h2), fun _ h2 => (by cases h2), fun _ => ⟨⟨hgr, hn⟩, hs4, hs9⟩⟩
  · by_cases e : q = 10
    · subst e; trivial
    · simp only [if_neg e] at hs ⊢
      exact h.val q hq hs
  · have h3 : s 4 = false := h2
    rw [hs4] at h3
    cases h3
end

set_option maxRecDepth 100000 in
set_option maxHeartbeats 2000000 in
theorem specRoundLengths_any (A : Option Addr) (c B : Nat) (ss : List ByteArray) (w : World) (h : Strs w B A ss) (hB : B ≤ w.heap.size) (hn : ss.length ≤ 1048576) (hs : ∀ s ∈ ss, s.size ≤ 1048576) :
    Calls Try.prog 35 #[.slice A ss.length c] w fun e w' => Below w.heap.size w w' ∧ ∃ A c l ok, e = .returned (.tuple #[.slice A l.length c, .bool ok]) ∧ LensOut ss l ok ∧ Ints w' w'.heap.size A l := by
  have HB0 := hid ((Below.refl w.heap.size w).alloc (Nat.le_refl _) (.cells #[] 3))
  have HG0 := hid (growI_new w w.heap.size (Nat.le_refl _))
  have HD := hid (h.below HB0.out hB)
  have HI := hid (specGridIn_any A c B ss (w.alloc (.cells #[] 3)) HD.out hn hs)
  have HBW := hid (Nat.le_trans hB HB0.out.size)
  clear h hs hB
  go_enter Try.func35, Try.ntmps35
  go_wp2_with fail
  refine HI.out.mono ?_
  rintro e w' ⟨ok, rfl, hok, d, rfl⟩
  have HO := hid hok
  have HBd := hid (below_drewN' HB0.out d)
  clear hok HI
  cases ok with
  | false =>
    go_wp2_with fail
    refine bodyPost_ret (results_tmp2 rfl _ _ _) rfl ?_
    exact ⟨HBd.out, _, _, [], false, rfl, .inr ⟨noGrid_of HO.out, rfl, rfl⟩, fun h => absurd h (by simp)⟩
  | true =>
    obtain ⟨n, m, hg⟩ := HO.out.1 rfl
    have HG := hid hg
    have c1 := hid (l3Rounds_any A c B n m ss ((w.alloc (.cells #[] 3)).drewN d) (HD.out.drewN d) HBW.out hg)
    have HLE := hid (lensTo_le n m (lett m (pad (flat ss))) (4 * (n * m)))
    have H25 := hid hg.le25
    have HW0 := hid (show ((w.alloc (.cells #[] 3)).drewN d).heap.size = w.heap.size + 1 by show (w.alloc (.cells #[] 3)).heap.size = _; simp)
    clear hg
    go_wp2_with fail
    refine c1.out.mono ?_
    rintro e w1 ⟨lv, rfl, hgr, hb1⟩
    have HB1 := hid (HBd.out.trans (hb1.mono HBd.out.size))
    have HZ1 := hid (Nat.le_trans (Nat.le_of_eq HW0.out.symm) hb1.size)
    have HG1 := hid (show GrowI w1 w.heap.size (.slice (some ⟨w.heap.size, 0, none⟩) 0 0) [] from GrowI.belowC (w := (w.alloc (.cells #[] 3)).drewN d) HG0.out hb1)
    obtain ⟨Al, cl, rfl, hil⟩ := hgr.ints
    have HIL := hid hil
    have HLR := hid (show lensR n m (lett m (pad (flat ss))) = sortI (lensTo n m (lett m (pad (flat ss))) (4 * (n * m))) from rfl)
    clear hgr hb1 hil
    generalize lensTo n m (lett m (pad (flat ss))) (4 * (n * m)) = ll at *
    obtain ⟨K, hK⟩ : ∃ K, ll.length = K := ⟨_, rfl⟩
    have HK := hid hK
    have hKb : ((K : Nat) : Int) ≤ 100 := by have h1 := HLE.out; have h2 := H25.out; omega
    rw [hK]
    clear hK HG0 HD HBd HB0 HBW HW0 HO
    go_wp2_with fail
    go_loopw [4, 6] (fun (v iv : Value) (wr : World) => ∃ (i g cap : Nat) (l : List Int), i ≤ K ∧ l.length = i ∧ iv = .int .i64 i ∧ v = .slice (some ⟨g, 0, none⟩) i cap ∧ i ≤ cap ∧ GrowI wr w.heap.size v l ∧ l.Pairwise (· ≤ ·) ∧ l.Perm (ll.take i) ∧ Below w1.heap.size w1 wr) (fun _ iv _ => K - (intOf iv).toNat)
    case atStart => exact ⟨0, w.heap.size, 0, [], by omega, rfl, rfl, rfl, Nat.le_refl _, HG1.out, List.Pairwise.nil, by simp, Below.refl _ _⟩
    case round =>
      obtain ⟨i, g, cap, l, hiK, hli, rfl, rfl, hic, hgr, hso, hpe, hbel⟩ := hrel
      have HLI := hid hli
      have HGR := hid hgr
      have HSO := hid hso
      have HPE := hid hpe
      have HBE := hid hbel
      have HBF := hid (HB1.out.trans (hbel.mono HB1.out.size))
      clear hli hgr hso hpe hbel
      by_cases hlt : i < K
      · have hii : (i : Int) < (K : Int) := by omega
        have hii0 : (0 : Int) ≤ (i : Int) := by omega
        obtain ⟨bl, ol, x, hA, hbl, hx, hcx⟩ := HIL.out.at_ (k := i) (by rw [HK.out]; exact hlt)
        subst hA
        have HX := hid hx
        have HCX := hid (show ∀ W, Below w1.heap.size w1 W → W.cell? ⟨bl, ol + i, none⟩ = some (.int .i64 x) from fun W hb => (hb.cell (p := ⟨bl, ol + i, none⟩) (by show bl < _; exact hbl)).trans hcx)
        have HCL := hid (show ∀ (j : Nat) (u : Int), l[j]? = some u → wr.cell? ⟨g, j, none⟩ = some (.int .i64 u) from fun j u hj => by
          have h0 := (List.getElem?_eq_some_iff.1 hj).1
          obtain ⟨g', cap', e, _, hca⟩ := HGR.out.head (by omega)
          rw [HLI.out] at e
          cases e
          have h1 := hca.2 j (.int .i64 u) (by unfold intsV; rw [List.getElem?_map, hj]; rfl)
          have e2 : (Addr.add ⟨g, 0, none⟩ j : Addr) = ⟨g, j, none⟩ := by unfold Addr.add; split <;> simp_all
          rw [e2] at h1
          exact h1)
        clear hx hcx
        go_wp2_with fail
        go_loopw [7] (fun (kv : Value) (wi : World) => ∃ k : Nat, k ≤ i ∧ kv = .int .i64 k ∧ Hid (∀ j u, k ≤ j → l[j]? = some u → x ≤ u) ∧ ∃ d, wi = wr.drewN d) (fun kv _ => (intOf kv).toNat)
        case atStart => exact ⟨i, Nat.le_refl _, rfl, hid (fun j u hj hu => by have := (List.getElem?_eq_some_iff.1 hu).1; have := HLI.out; omega), 0, rfl⟩
        case round =>
          obtain ⟨k, hki, rfl, hup, d, rfl⟩ := hrel
          have HUP := hup
          clear hup
          have hcx := HCX.out wr HBE.out
          cases k with
          | zero =>
            go_wp2_with fail
            go_quiet (fail)
            go_wp2_with fail
            obtain ⟨W0, hW0⟩ : ∃ W0, (wr.drewN d).drewN nq = W0 := ⟨_, rfl⟩
            have HE0 := hid (show Below wr.heap.size wr W0 by rw [← hW0]; exact below_drewN' (below_drewN' (Below.refl _ wr) d) nq)
            rw [hW0]
            clear hW0
            have HB0 := hid (HBE.out.trans (HE0.out.mono HBE.out.size))
            have HBF0 := hid (HBF.out.trans (HE0.out.mono HBF.out.size))
            have HCL0 := hid (show CellsAt W0 ⟨g, 0, none⟩ (intsV l) from ⟨by
                rcases HGR.out.2 with ⟨h1, _⟩ | ⟨g', _, _, h1, _, h2, _⟩
                · cases h1
                · cases h1
                  exact .inr (Nat.lt_of_lt_of_le (lt_of_block h2) HE0.out.size), fun j u hj => by
                unfold intsV at hj
                rw [List.getElem?_map] at hj
                cases hlj : l[j]? with
                | none => rw [hlj] at hj; cases hj
                | some y =>
                  rw [hlj] at hj
                  cases hj
                  have e2 : (Addr.add ⟨g, 0, none⟩ j : Addr) = ⟨g, j, none⟩ := by unfold Addr.add; split <;> simp_all
                  rw [e2]
                  rcases HGR.out.2 with ⟨h1, _⟩ | ⟨g', _, _, h1, _, h2, _⟩
                  · cases h1
                  · cases h1
                    exact (HE0.out.cell (p := ⟨g, j, none⟩) (lt_of_block h2)).trans (HCL.out j y hlj)⟩)
            have hkc : ((0 : Nat) : Int) ≤ (cap : Int) := by omega
            have hki' : ((0 : Nat) : Int) ≤ (i : Int) := by omega
            have hici : (i : Int) ≤ (cap : Int) := by omega
            refine wp_region_lin_tail (by kernel_rfl) 14 (by kernel_rfl) (fun us => { tmps := #[.slice A ss.length c, undef, .slice none 0 0, .bool false, .slice (some ⟨g, 0, none⟩) i cap, .slice (some ⟨bl, ol, none⟩) K cl, .int .i64 (i : Int), .int .i64 ((0 : Nat) : Int), .slice (some ⟨w.heap.size, 0, none⟩) 0 0, .slice A ss.length c, .bool true, .bool false, undef, .slice A ss.length c, .slice (some ⟨bl, ol, none⟩) K cl, .int .i64 (i : Int), .slice (some ⟨bl, ol, none⟩) K cl, .int .i64 (K : Int), .bool true, u19, u20, .slice (some ⟨g, 0, none⟩) i cap, .int .i64 (i : Int), .int .i64 ((0 : Nat) : Int), .bool false, .bool false, undef, undef, undef, undef, undef, undef, undef, undef, undef, undef, .bool false, u37, u38, us 0, us 1, us 2, us 3, us 4, us 5, us 6, us 7, us 8, us 9, us 10, us 11, us 12, us 13, u53, undef], defers := [] }) (fun j => ([u39, u40, u41, u42, u43, u44, u45, u46, u47, u48, u49, u50, u51, u52] : List Value).getD j undef) rfl (InsI W0 g i cap 0 (.slice (some ⟨bl, ol, none⟩) K cl) bl ol i x l) (fun s hs => ?_) (fun j us v hj => ?_) (fun j s us W hj hsj hd hI => ?_) (fun s us W hs hI => ?_)
            · exact ⟨(Below.refl _ W0).drew, fun j hj h => (by rw [hs j hj] at h; cases h), fun h => (by rw [hs 0 (by omega)] at h; cases h), fun h => (by rw [hs 4 (by omega)] at h; cases h), fun h => (by rw [hs 9 (by omega)] at h; cases h), fun h => (by rw [hs 10 (by omega)] at h; cases h)⟩
            · match j, hj with
              | 0, _ => rfl
              | 1, _ => rfl
              | 2, _ => rfl
              | 3, _ => rfl
              | 4, _ => rfl
              | 5, _ => rfl
              | 6, _ => rfl
              | 7, _ => rfl
              | 8, _ => rfl
              | 9, _ => rfl
              | 10, _ => rfl
              | 11, _ => rfl
              | 12, _ => rfl
              | 13, _ => rfl
            · have HV := hid hI.val
              match j, hj with
              | 0, _ => exact wpOp_run (u := .slice (some ⟨W.heap.size, 0, none⟩) 0 0) (w' := W.alloc (.cells #[] 3)) rfl rfl (by go_simp) ⟨_, rfl, hI.set0⟩
              | 1, _ => exact wpOp_run rfl rfl (by go_simp) ⟨_, rfl, hI.set 1 _ (by decide) rfl⟩
              | 2, _ => exact wpOp_run rfl rfl (by go_simp) ⟨_, rfl, hI.set 2 _ (by decide) rfl⟩
              | 3, _ =>
                have h1 : us 1 = _ := HV.out 1 (by omega) (hd _ rfl { on := 1, ground := .data } (by simp) rfl)
                have h2 : us 2 = _ := HV.out 2 (by omega) (hd _ rfl { on := 2, ground := .data } (by simp) rfl)
                rw [h1, h2]
                exact wpOp_run (u := .slice (some ⟨g, 0, none⟩) 0 cap) (w' := W) rfl rfl (by go_simp) ⟨_, rfl, hI.set 3 _ (by decide) rfl⟩
              | 4, _ =>
                have h3 : us 3 = _ := HV.out 3 (by omega) (hd _ rfl { on := 3, ground := .data } (by simp) rfl)
                obtain ⟨b, h4, h5, h6⟩ := hI.e0 (hd _ rfl { on := 0, ground := .data } (by simp) rfl) hsj
                have htl : (l.take (0)).length = 0 := by rw [List.length_take, HLI.out]; omega
                refine wpOp_appendG (base := W0.heap.size) (l := []) (l2 := l.take (0)) (ad := ⟨g, 0, none⟩) (c := cap) rfl rfl _ _ rfl (us 0) rfl ?_ (by rw [h3, htl]; rfl) (fun q y hq => ?_) (by rw [htl]; simp <;> omega) hI.below.size (fun v' w' hg hw hn => ⟨v', rfl, hI.set4 hsj h5 h6 hg (by rw [h4] at hw; exact hw) (fun e => ?_)⟩)
                · rw [h4]
                  exact ⟨rfl, .inr ⟨b, 0, #[], rfl, h5, h6, Nat.le_refl _, by unfold maxLen; omega, rfl, rfl⟩⟩
                · have h7 : (intsV l)[q]? = some y := by
                    unfold intsV at hq ⊢
                    rw [List.map_take, List.getElem?_take] at hq
                    split at hq
                    · exact hq
                    · cases hq
                  exact ((HCL0.out.1.elim (fun h => by rw [h] at h7; simp at h7) (fun h => hI.below.cell (p := Addr.add ⟨g, 0, none⟩ q) (by unfold Addr.add; split <;> exact h)))).trans (HCL0.out.2 q y h7)
                · have := hn e
                  rw [h4] at this
                  cases this
              | 5, _ => exact wpOp_run rfl rfl (by go_simp) ⟨_, rfl, hI.set 5 _ (by decide) rfl⟩
              | 6, _ => exact wpOp_run rfl rfl (by go_simp) ⟨_, rfl, hI.set 6 _ (by decide) rfl⟩
              | 7, _ =>
                have h1 : us 5 = _ := HV.out 5 (by omega) (hd _ rfl { on := 5, ground := .data } (by simp) rfl)
                have h2 : us 6 = _ := HV.out 6 (by omega) (hd _ rfl { on := 6, ground := .data } (by simp) rfl)
                rw [h1, h2]
                exact wpOp_run (u := .pointer (some ⟨bl, ol + i, none⟩)) (w' := W) rfl rfl (by go_simp) ⟨_, rfl, hI.set 7 _ (by decide) rfl⟩
              | 8, _ =>
                have h1 : us 7 = _ := HV.out 7 (by omega) (hd _ rfl { on := 7, ground := .data } (by simp) rfl)
                have hcx := HCX.out W (HB0.out.trans (hI.below.mono HB0.out.size))
                rw [h1]
                exact wpOp_run (u := .int .i64 x) (w' := W) rfl rfl (by go_simp) ⟨_, rfl, hI.set 8 _ (by decide) rfl⟩
              | 9, _ =>
                have h1 : us 8 = _ := HV.out 8 (by omega) (hd _ rfl { on := 8, ground := .data } (by simp) rfl)
                rw [h1]
                exact wpOp_run (u := .slice (some ⟨W.heap.size, 0, none⟩) 1 1) (w' := W.alloc (.cells #[.int .i64 x] 3)) rfl rfl (by go_simp) ⟨_, rfl, hI.set9 hsj⟩
              | 10, _ =>
                have hs4 := hd _ rfl { on := 4, ground := .data } (by simp) rfl
                have hs9 := hd _ rfl { on := 9, ground := .data } (by simp) rfl
                obtain ⟨h4, h4n⟩ := hI.e4 hs4 hsj
                obtain ⟨h, h5, h6⟩ := hI.e9 hs9 hsj
                have htl : (l.take (0)).length = 0 := by rw [List.length_take, HLI.out]; omega
                refine wpOp_appendG (base := W0.heap.size) (l := l.take (0)) (l2 := [x]) (ad := ⟨h, 0, none⟩) (c := 1) rfl rfl _ _ rfl (us 4) rfl h4 (by rw [h5]; rfl) (fun q y hq => ?_) (by rw [htl]; simp <;> omega) hI.below.size (fun v' w' hg hw hn => ⟨v', rfl, hI.set10 hs4 hs9 h4 hg hw (fun e => h4n (hn e))⟩)
                match q, hq with
                | 0, hq =>
                  cases hq
                  have e2 : (Addr.add ⟨h, 0, none⟩ 0 : Addr) = ⟨h, 0, none⟩ := by unfold Addr.add; split <;> simp_all
                  rw [e2, cell_of_row _ _ _ _ _ _ h6]
                  rfl
                | q + 1, hq => simp [intsV] at hq
              | 11, _ => exact wpOp_run rfl rfl (by go_simp) ⟨_, rfl, hI.set 11 _ (by decide) rfl⟩
              | 12, _ => exact wpOp_run rfl rfl (by go_simp) ⟨_, rfl, hI.set 12 _ (by decide) rfl⟩
              | 13, _ =>
                have h1 : us 11 = _ := HV.out 11 (by omega) (hd _ rfl { on := 11, ground := .data } (by simp) rfl)
                have h2 : us 12 = _ := HV.out 12 (by omega) (hd _ rfl { on := 12, ground := .data } (by simp) rfl)
                rw [h1, h2]
                have hcd := HCL0.out.drop (0)
                by_cases hc : cap = 0
                · subst hc
                  obtain rfl : i = 0 := by omega
                  exact wpOp_run (u := .slice (some ⟨g, 0, none⟩) 0 0) (w' := W) rfl rfl (by go_simp) ⟨_, rfl, hI.set 13 _ (by decide) ⟨_, _, by rw [Nat.sub_self], by rw [List.drop_of_length_le (by rw [HLI.out]; exact Nat.le_refl _)]; exact ⟨.inl rfl, fun j u hj => by simp [intsV] at hj⟩⟩⟩
                · have hc1 : ((0 : Nat) : Int) < (cap : Int) := by omega
                  exact wpOp_run (u := .slice (some ⟨g, 0, none⟩) (i - (0)) (cap - (0))) (w' := W) rfl rfl (by go_simp) ⟨_, rfl, hI.set 13 _ (by decide) ⟨_, _, rfl, hcd⟩⟩
            · obtain ⟨⟨h10, h10n⟩, _, _⟩ := hI.e10 (hs 10 (by omega))
              obtain ⟨ad, c', h13, hc13⟩ := hI.val 13 (by omega) (hs 13 (by omega))
              have htl : (l.take (0)).length = 0 := by rw [List.length_take, HLI.out]; omega
              have hdl : (l.drop (0)).length = i - (0) := by rw [List.length_drop, HLI.out]
              have HI2 := hid hI.below
              rw [h13]
              obtain ⟨i0, hi0, hz0, hz1, hz2⟩ := info_parts Try.info_int
              have h10' := h10
              unfold GrowI at h10'
              rw [List.length_append, htl] at h10'
              have hcw : ∀ (j : Nat) u, (intsV (l.drop (0)))[j]? = some u → W.cell? (ad.add j) = some u := fun j u hj => by
                rcases hc13.1 with h1 | h1
                · rw [h1] at hj; simp at hj
                · exact (hI.below.cell (p := Addr.add ad j) (by unfold Addr.add; split <;> exact h1)).trans (hc13.2 j u hj)
              have HCW := hid hcw
              have H10 := hid h10
              have HHN := hid h10n
              have HDL := hid hdl
              have HTL := hid htl
              clear hI h10 h10n hcw hc13 hdl htl hs
              generalize us 0 = q0 at *
              generalize us 1 = q1 at *
              generalize us 2 = q2 at *
              generalize us 3 = q3 at *
              generalize us 4 = q4 at *
              generalize us 5 = q5 at *
              generalize us 6 = q6 at *
              generalize us 7 = q7 at *
              generalize us 8 = q8 at *
              generalize us 9 = q9 at *
              generalize us 10 = q10 at *
              generalize us 11 = q11 at *
              generalize us 12 = q12 at *
              clear h13
              refine wpList_append_own _ rfl _ _ 31 rfl W0.heap.size 3 i0 (.int .i64 0) 1 8 Try.underlying31 hi0 hz0 hz1 hz2 rfl (by decide) q10 (0 + [x].length) (intsV (l.take (0) ++ [x])) rfl h10' ad (i - (0)) c' (intsV (l.drop (0))) rfl (by rw [intsV, List.length_map, HDL.out, Nat.mul_one]) HCW.out (intsV_one _) (by unfold maxLen; simp; omega) (by simp; omega) HI2.out.size ?_
              intro v2 w2 hown hgw hnn
              have HLEN := hid (show (l.take (0) ++ [x] ++ l.drop (0)).length = i + 1 by rw [List.length_append, List.length_append, HTL.out, HDL.out]; simp; omega)
              have HB2 := hid (HB0.out.trans ((HI2.out.grown hgw HI2.out.size (fun q e => (World.ownsRow.lt h10' q e).1)).mono HB0.out.size))
              have HG2 := hid (show GrowI w2 w.heap.size v2 (l.take (0) ++ [x] ++ l.drop (0)) from GrowI.lower (base := W0.heap.size) (by
                unfold GrowI
                rw [HLEN.out]
                unfold intsV at hown ⊢
                rw [← List.map_append] at hown
                rw [show i + 1 = 0 + [x].length + (i - (0)) by simp; omega]
                exact hown) HBF0.out.size)
              obtain ⟨g2, cap2, hv2, hc2, _⟩ := HG2.out.head (by rw [HLEN.out]; omega)
              rw [HLEN.out] at hv2 hc2
              subst hv2
              have HSO2 := hid (ins_sorted (x := x) (k := 0) HSO.out (by rw [HLI.out]; omega) HUP.out (fun y hy0 hy => absurd hy0 (by omega)))
              have HPE2 := hid (show (l.take (0) ++ [x] ++ l.drop (0)).Perm (ll.take (i + 1)) from (ins_perm l x (0)).trans (by
                obtain ⟨h1, h2⟩ := List.getElem?_eq_some_iff.1 HX.out
                rw [List.take_succ_eq_append_getElem h1, h2]
                exact List.Perm.append_right _ HPE.out))
              clear hown hgw hnn h10'
              go_wp2_with fail
              go_roundw
              case rel => exact ⟨i + 1, g2, cap2, _, by omega, HLEN.out, by go_num, rfl, hc2, HG2.out, HSO2.out, HPE2.out, HB2.out⟩
              case measure => simp [intOf]; omega
          | succ k =>
            obtain ⟨u, hu⟩ : ∃ u, l[k]? = some u := ⟨_, List.getElem?_eq_getElem (by rw [HLI.out]; omega)⟩
            have hcu := HCL.out k u hu
            have HU := hid hu
            clear hu
            by_cases hxu : x < u
            · have hxd : decide (x < u) = true := decide_eq_true hxu
              have hki2 : (((k + 1 : Nat) : Int) - 1) = (k : Int) := by omega
              have HXU := hid hxu
              clear hxu
              go_wp2_with fail
              go_quiet (fail)
              go_wp2_with fail
              go_roundw
              case rel => exact ⟨k, by omega, by go_num, hid (fun j y hj hy => by
                rcases Nat.eq_or_lt_of_le hj with h | h
                · subst h
                  rw [HU.out] at hy
                  cases hy
                  exact Int.le_of_lt HXU.out
                · exact HUP.out j y (by omega) hy), _, rfl⟩
              case measure => simp [intOf]
            · have hxd : decide (x < u) = false := decide_eq_false hxu
              have HNX := hid (show u ≤ x by omega)
              have hki2 : (((k + 1 : Nat) : Int) - 1) = (k : Int) := by omega
              clear hxu
              go_wp2_with fail
              go_quiet (fail)
              go_wp2_with fail
              obtain ⟨kk, hkk⟩ : ∃ kk, k + 1 = kk := ⟨_, rfl⟩
              have HKK := hid hkk
              rw [hkk] at HUP hki ⊢
              clear hkk
              obtain ⟨W0, hW0⟩ : ∃ W0, (wr.drewN d).drewN nq = W0 := ⟨_, rfl⟩
              have HE0 := hid (show Below wr.heap.size wr W0 by rw [← hW0]; exact below_drewN' (below_drewN' (Below.refl _ wr) d) nq)
              rw [hW0]
              clear hW0
              have HB0 := hid (HBE.out.trans (HE0.out.mono HBE.out.size))
              have HBF0 := hid (HBF.out.trans (HE0.out.mono HBF.out.size))
              have HCL0 := hid (show CellsAt W0 ⟨g, 0, none⟩ (intsV l) from ⟨by
                  rcases HGR.out.2 with ⟨h1, _⟩ | ⟨g', _, _, h1, _, h2, _⟩
                  · cases h1
                  · cases h1
                    exact .inr (Nat.lt_of_lt_of_le (lt_of_block h2) HE0.out.size), fun j u hj => by
                  unfold intsV at hj
                  rw [List.getElem?_map] at hj
                  cases hlj : l[j]? with
                  | none => rw [hlj] at hj; cases hj
                  | some y =>
                    rw [hlj] at hj
                    cases hj
                    have e2 : (Addr.add ⟨g, 0, none⟩ j : Addr) = ⟨g, j, none⟩ := by unfold Addr.add; split <;> simp_all
                    rw [e2]
                    rcases HGR.out.2 with ⟨h1, _⟩ | ⟨g', _, _, h1, _, h2, _⟩
                    · cases h1
                    · cases h1
                      exact (HE0.out.cell (p := ⟨g, j, none⟩) (lt_of_block h2)).trans (HCL.out j y hlj)⟩)
              have hkc : ((kk : Nat) : Int) ≤ (cap : Int) := by omega
              have hki' : ((kk : Nat) : Int) ≤ (i : Int) := by omega
              have hici : (i : Int) ≤ (cap : Int) := by omega
              refine wp_region_lin_tail (by kernel_rfl) 14 (by kernel_rfl) (fun us => { tmps := #[.slice A ss.length c, undef, .slice none 0 0, .bool false, .slice (some ⟨g, 0, none⟩) i cap, .slice (some ⟨bl, ol, none⟩) K cl, .int .i64 (i : Int), .int .i64 ((kk : Nat) : Int), .slice (some ⟨w.heap.size, 0, none⟩) 0 0, .slice A ss.length c, .bool true, .bool false, undef, .slice A ss.length c, .slice (some ⟨bl, ol, none⟩) K cl, .int .i64 (i : Int), .slice (some ⟨bl, ol, none⟩) K cl, .int .i64 (K : Int), .bool true, u19, u20, .slice (some ⟨g, 0, none⟩) i cap, .int .i64 (i : Int), .int .i64 ((kk : Nat) : Int), .bool true, .bool true, .slice (some ⟨bl, ol, none⟩) K cl, .int .i64 (i : Int), .pointer (some ⟨bl, ol + i, none⟩), .int .i64 x, .slice (some ⟨g, 0, none⟩) i cap, .int .i64 ((kk : Nat) : Int), .int .i64 (k : Int), .pointer (some ⟨g, k, none⟩), .int .i64 u, .bool false, .bool false, u37, u38, us 0, us 1, us 2, us 3, us 4, us 5, us 6, us 7, us 8, us 9, us 10, us 11, us 12, us 13, u53, undef], defers := [] }) (fun j => ([u39, u40, u41, u42, u43, u44, u45, u46, u47, u48, u49, u50, u51, u52] : List Value).getD j undef) rfl (InsI W0 g i cap (kk) (.slice (some ⟨bl, ol, none⟩) K cl) bl ol i x l) (fun s hs => ?_) (fun j us v hj => ?_) (fun j s us W hj hsj hd hI => ?_) (fun s us W hs hI => ?_)
              · exact ⟨(Below.refl _ W0).drew, fun j hj h => (by rw [hs j hj] at h; cases h), fun h => (by rw [hs 0 (by omega)] at h; cases h), fun h => (by rw [hs 4 (by omega)] at h; cases h), fun h => (by rw [hs 9 (by omega)] at h; cases h), fun h => (by rw [hs 10 (by omega)] at h; cases h)⟩
              · match j, hj with
                | 0, _ => rfl
                | 1, _ => rfl
                | 2, _ => rfl
                | 3, _ => rfl
                | 4, _ => rfl
                | 5, _ => rfl
                | 6, _ => rfl
                | 7, _ => rfl
                | 8, _ => rfl
                | 9, _ => rfl
                | 10, _ => rfl
                | 11, _ => rfl
                | 12, _ => rfl
                | 13, _ => rfl
              · have HV := hid hI.val
                match j, hj with
                | 0, _ => exact wpOp_run (u := .slice (some ⟨W.heap.size, 0, none⟩) 0 0) (w' := W.alloc (.cells #[] 3)) rfl rfl (by go_simp) ⟨_, rfl, hI.set0⟩
                | 1, _ => exact wpOp_run rfl rfl (by go_simp) ⟨_, rfl, hI.set 1 _ (by decide) rfl⟩
                | 2, _ => exact wpOp_run rfl rfl (by go_simp) ⟨_, rfl, hI.set 2 _ (by decide) rfl⟩
                | 3, _ =>
                  have h1 : us 1 = _ := HV.out 1 (by omega) (hd _ rfl { on := 1, ground := .data } (by simp) rfl)
                  have h2 : us 2 = _ := HV.out 2 (by omega) (hd _ rfl { on := 2, ground := .data } (by simp) rfl)
                  rw [h1, h2]
                  exact wpOp_run (u := .slice (some ⟨g, 0, none⟩) (kk) cap) (w' := W) rfl rfl (by go_simp) ⟨_, rfl, hI.set 3 _ (by decide) rfl⟩
                | 4, _ =>
                  have h3 : us 3 = _ := HV.out 3 (by omega) (hd _ rfl { on := 3, ground := .data } (by simp) rfl)
                  obtain ⟨b, h4, h5, h6⟩ := hI.e0 (hd _ rfl { on := 0, ground := .data } (by simp) rfl) hsj
                  have htl : (l.take (kk)).length = kk := by rw [List.length_take, HLI.out]; omega
                  refine wpOp_appendG (base := W0.heap.size) (l := []) (l2 := l.take (kk)) (ad := ⟨g, 0, none⟩) (c := cap) rfl rfl _ _ rfl (us 0) rfl ?_ (by rw [h3, htl]; rfl) (fun q y hq => ?_) (by rw [htl]; simp <;> omega) hI.below.size (fun v' w' hg hw hn => ⟨v', rfl, hI.set4 hsj h5 h6 hg (by rw [h4] at hw; exact hw) (fun e => ?_)⟩)
                  · rw [h4]
                    exact ⟨rfl, .inr ⟨b, 0, #[], rfl, h5, h6, Nat.le_refl _, by unfold maxLen; omega, rfl, rfl⟩⟩
                  · have h7 : (intsV l)[q]? = some y := by
                      unfold intsV at hq ⊢
                      rw [List.map_take, List.getElem?_take] at hq
                      split at hq
                      · exact hq
                      · cases hq
                    exact ((HCL0.out.1.elim (fun h => by rw [h] at h7; simp at h7) (fun h => hI.below.cell (p := Addr.add ⟨g, 0, none⟩ q) (by unfold Addr.add; split <;> exact h)))).trans (HCL0.out.2 q y h7)
                  · have := hn e
                    rw [h4] at this
                    cases this
                | 5, _ => exact wpOp_run rfl rfl (by go_simp) ⟨_, rfl, hI.set 5 _ (by decide) rfl⟩
                | 6, _ => exact wpOp_run rfl rfl (by go_simp) ⟨_, rfl, hI.set 6 _ (by decide) rfl⟩
                | 7, _ =>
                  have h1 : us 5 = _ := HV.out 5 (by omega) (hd _ rfl { on := 5, ground := .data } (by simp) rfl)
                  have h2 : us 6 = _ := HV.out 6 (by omega) (hd _ rfl { on := 6, ground := .data } (by simp) rfl)
                  rw [h1, h2]
                  exact wpOp_run (u := .pointer (some ⟨bl, ol + i, none⟩)) (w' := W) rfl rfl (by go_simp) ⟨_, rfl, hI.set 7 _ (by decide) rfl⟩
                | 8, _ =>
                  have h1 : us 7 = _ := HV.out 7 (by omega) (hd _ rfl { on := 7, ground := .data } (by simp) rfl)
                  have hcx := HCX.out W (HB0.out.trans (hI.below.mono HB0.out.size))
                  rw [h1]
                  exact wpOp_run (u := .int .i64 x) (w' := W) rfl rfl (by go_simp) ⟨_, rfl, hI.set 8 _ (by decide) rfl⟩
                | 9, _ =>
                  have h1 : us 8 = _ := HV.out 8 (by omega) (hd _ rfl { on := 8, ground := .data } (by simp) rfl)
                  rw [h1]
                  exact wpOp_run (u := .slice (some ⟨W.heap.size, 0, none⟩) 1 1) (w' := W.alloc (.cells #[.int .i64 x] 3)) rfl rfl (by go_simp) ⟨_, rfl, hI.set9 hsj⟩
                | 10, _ =>
                  have hs4 := hd _ rfl { on := 4, ground := .data } (by simp) rfl
                  have hs9 := hd _ rfl { on := 9, ground := .data } (by simp) rfl
                  obtain ⟨h4, h4n⟩ := hI.e4 hs4 hsj
                  obtain ⟨h, h5, h6⟩ := hI.e9 hs9 hsj
                  have htl : (l.take (kk)).length = kk := by rw [List.length_take, HLI.out]; omega
                  refine wpOp_appendG (base := W0.heap.size) (l := l.take (kk)) (l2 := [x]) (ad := ⟨h, 0, none⟩) (c := 1) rfl rfl _ _ rfl (us 4) rfl h4 (by rw [h5]; rfl) (fun q y hq => ?_) (by rw [htl]; simp <;> omega) hI.below.size (fun v' w' hg hw hn => ⟨v', rfl, hI.set10 hs4 hs9 h4 hg hw (fun e => h4n (hn e))⟩)
                  match q, hq with
                  | 0, hq =>
                    cases hq
                    have e2 : (Addr.add ⟨h, 0, none⟩ 0 : Addr) = ⟨h, 0, none⟩ := by unfold Addr.add; split <;> simp_all
                    rw [e2, cell_of_row _ _ _ _ _ _ h6]
                    rfl
                  | q + 1, hq => simp [intsV] at hq
                | 11, _ => exact wpOp_run rfl rfl (by go_simp) ⟨_, rfl, hI.set 11 _ (by decide) rfl⟩
                | 12, _ => exact wpOp_run rfl rfl (by go_simp) ⟨_, rfl, hI.set 12 _ (by decide) rfl⟩
                | 13, _ =>
                  have h1 : us 11 = _ := HV.out 11 (by omega) (hd _ rfl { on := 11, ground := .data } (by simp) rfl)
                  have h2 : us 12 = _ := HV.out 12 (by omega) (hd _ rfl { on := 12, ground := .data } (by simp) rfl)
                  rw [h1, h2]
                  have hcd := HCL0.out.drop (kk)
                  by_cases hc : cap = kk
                  · subst hc
                    obtain rfl : i = cap := by omega
                    exact wpOp_run (u := .slice (some ⟨g, 0, none⟩) 0 0) (w' := W) rfl rfl (by go_simp) ⟨_, rfl, hI.set 13 _ (by decide) ⟨_, _, by rw [Nat.sub_self], by rw [List.drop_of_length_le (by rw [HLI.out]; exact Nat.le_refl _)]; exact ⟨.inl rfl, fun j u hj => by simp [intsV] at hj⟩⟩⟩
                  · have hc1 : ((kk : Nat) : Int) < (cap : Int) := by omega
                    exact wpOp_run (u := .slice (some ⟨g, kk, none⟩) (i - (kk)) (cap - (kk))) (w' := W) rfl rfl (by go_simp) ⟨_, rfl, hI.set 13 _ (by decide) ⟨_, _, rfl, hcd⟩⟩
              · obtain ⟨⟨h10, h10n⟩, _, _⟩ := hI.e10 (hs 10 (by omega))
                obtain ⟨ad, c', h13, hc13⟩ := hI.val 13 (by omega) (hs 13 (by omega))
                have htl : (l.take (kk)).length = kk := by rw [List.length_take, HLI.out]; omega
                have hdl : (l.drop (kk)).length = i - (kk) := by rw [List.length_drop, HLI.out]
                have HI2 := hid hI.below
                rw [h13]
                obtain ⟨i0, hi0, hz0, hz1, hz2⟩ := info_parts Try.info_int
                have h10' := h10
                unfold GrowI at h10'
                rw [List.length_append, htl] at h10'
                have hcw : ∀ (j : Nat) u, (intsV (l.drop (kk)))[j]? = some u → W.cell? (ad.add j) = some u := fun j u hj => by
                  rcases hc13.1 with h1 | h1
                  · rw [h1] at hj; simp at hj
                  · exact (hI.below.cell (p := Addr.add ad j) (by unfold Addr.add; split <;> exact h1)).trans (hc13.2 j u hj)
                have HCW := hid hcw
                have H10 := hid h10
                have HHN := hid h10n
                have HDL := hid hdl
                have HTL := hid htl
                clear hI h10 h10n hcw hc13 hdl htl hs
                generalize us 0 = q0 at *
                generalize us 1 = q1 at *
                generalize us 2 = q2 at *
                generalize us 3 = q3 at *
                generalize us 4 = q4 at *
                generalize us 5 = q5 at *
                generalize us 6 = q6 at *
                generalize us 7 = q7 at *
                generalize us 8 = q8 at *
                generalize us 9 = q9 at *
                generalize us 10 = q10 at *
                generalize us 11 = q11 at *
                generalize us 12 = q12 at *
                clear h13
                refine wpList_append_own _ rfl _ _ 31 rfl W0.heap.size 3 i0 (.int .i64 0) 1 8 Try.underlying31 hi0 hz0 hz1 hz2 rfl (by decide) q10 (kk + [x].length) (intsV (l.take (kk) ++ [x])) rfl h10' ad (i - (kk)) c' (intsV (l.drop (kk))) rfl (by rw [intsV, List.length_map, HDL.out, Nat.mul_one]) HCW.out (intsV_one _) (by unfold maxLen; simp; omega) (by simp; omega) HI2.out.size ?_
                intro v2 w2 hown hgw hnn
                have HLEN := hid (show (l.take (kk) ++ [x] ++ l.drop (kk)).length = i + 1 by rw [List.length_append, List.length_append, HTL.out, HDL.out]; simp; omega)
                have HB2 := hid (HB0.out.trans ((HI2.out.grown hgw HI2.out.size (fun q e => (World.ownsRow.lt h10' q e).1)).mono HB0.out.size))
                have HG2 := hid (show GrowI w2 w.heap.size v2 (l.take (kk) ++ [x] ++ l.drop (kk)) from GrowI.lower (base := W0.heap.size) (by
                  unfold GrowI
                  rw [HLEN.out]
                  unfold intsV at hown ⊢
                  rw [← List.map_append] at hown
                  rw [show i + 1 = kk + [x].length + (i - (kk)) by simp; omega]
                  exact hown) HBF0.out.size)
                obtain ⟨g2, cap2, hv2, hc2, _⟩ := HG2.out.head (by rw [HLEN.out]; omega)
                rw [HLEN.out] at hv2 hc2
                subst hv2
                have HSO2 := hid (ins_sorted (x := x) (k := kk) HSO.out (by rw [HLI.out]; omega) HUP.out (fun y hy0 hy => by rw [← HKK.out, show k + 1 - 1 = k from rfl, HU.out] at hy; cases hy; exact HNX.out))
                have HPE2 := hid (show (l.take (kk) ++ [x] ++ l.drop (kk)).Perm (ll.take (i + 1)) from (ins_perm l x (kk)).trans (by
                  obtain ⟨h1, h2⟩ := List.getElem?_eq_some_iff.1 HX.out
                  rw [List.take_succ_eq_append_getElem h1, h2]
                  exact List.Perm.append_right _ HPE.out))
                clear hown hgw hnn h10'
                go_wp2_with fail
                go_roundw
                case rel => exact ⟨i + 1, g2, cap2, _, by omega, HLEN.out, by go_num, rfl, hc2, HG2.out, HSO2.out, HPE2.out, HB2.out⟩
                case measure => simp [intOf]; omega
      · obtain rfl : i = K := by omega
        obtain ⟨A2, c2, hA2, hint⟩ := HGR.out.ints
        rw [HLI.out] at hA2
        have hall : ll.take i = ll := List.take_of_length_le (Nat.le_of_eq HK.out)
        have HEQ := hid (sortI_of (l := ll) (by have := HPE.out; rw [hall] at this; exact this) HSO.out)
        have HIN := hid hint
        have HA2 := hid hA2
        clear hint hall hA2
        go_wp2_with fail
        refine bodyPost_ret (results_tmp2 rfl _ _ _) rfl ?_
        exact ⟨HBF.out, A2, c2, l, true, by rw [HLI.out, ← HA2.out]; rfl, .inl ⟨n, m, HG.out, by rw [HLR.out]; exact HEQ.out, rfl⟩, HIN.out⟩
end Go.Proofs.Ytmdgbcepjnfbnaa
