/- TermTidy of both, by contracts. -/
import Derived.Test.YtpimkhjcphimaaaDoorTermX
import Derived.Test.YtpimkhjcphimaaaDoorTermY
import Derived.Test.YtpimkhjcphimaaaDoorTermU
namespace Go.Proofs.YtpimkhjcphimaaaDoor
open Go.RowKit

theorem tidyS_any : ∀ t : Tm, t.wf = true → t.text.length ≤ 1000 → TidC t
  | .lone c, hw, _ => fun k f o w cs hk h => tidy_lone c k f o w cs hk hw h
  | .sig s t, hw, hl => fun k f o w cs hk h => by
    simp only [Tm.wf, Bool.and_eq_true] at hw
    have ih := tidyS_any t hw.2 (by simp [Tm.text] at hl; omega)
    rcases sig_three hw.1 with rfl | rfl | rfl
    · exact tidy_turn t k f o w cs hk h ih
    · exact tidy_flip t k f o w cs hk h ih
    · exact tidy_other t k f o w cs hk h ih
  | .cpl a s b, hw, hl => fun k f o w cs hk h => by
    simp only [Tm.wf, Bool.and_eq_true] at hw
    have h1 : a.text.length ≤ 1000 := by simp [Tm.text] at hl; omega
    have h2 : b.text.length ≤ 1000 := by simp [Tm.text] at hl; omega
    have iha := tidyS_any a hw.1.1 h1
    have ihb := tidyS_any b hw.2 h2
    have := tidy_cpl a b (a.tidS k f o) (b.tidS k f o) s k f o w cs hk hw.1.2 h (Nat.le_trans (tidS_len a k f o) h1) (Nat.le_trans (tidS_len b k f o) h2) (fun w cs h => iha k f o w cs hk h) (fun w cs h => ihb k f o w cs hk h)
    exact this
theorem app_len (x : UInt8) : ∀ u : Tm, u.tidy = true → (u.app x).text.length = u.text.length
  | .lone _, _ => rfl
  | .sig _ _, h => by cases h
  | .cpl a s b, h => by
    simp only [Tm.tidy, Bool.and_eq_true] at h
    have h1 := app_len x a h.1.1
    have h2 := app_len x b h.2
    show (movedT x s (a.app x) (b.app x)).text.length = _
    unfold movedT
    split
    · simp [Tm.text, h1, h2]
    · split
      · simp [Tm.text, h1, h2]; omega
      · split
        · simp [Tm.text, h1, h2]; omega
        · simp [Tm.text, h1, h2]
theorem tid_len : ∀ t : Tm, t.wf = true → t.tid.text.length ≤ t.text.length
  | .lone _, _ => Nat.le_refl _
  | .sig s t, h => by
    simp only [Tm.wf, Bool.and_eq_true] at h
    have := tid_len t h.2
    show (t.tid.app s).text.length ≤ _
    rw [app_len s _ (t.tid_ok h.2).1]
    simp [Tm.text]
    omega
  | .cpl a s b, h => by
    simp only [Tm.wf, Bool.and_eq_true] at h
    have h1 := tid_len a h.1.1
    have h2 := tid_len b h.2
    show (Tm.cpl a.tid s b.tid).text.length ≤ _
    simp [Tm.text]
    omega
/-- The tidy text of a text. -/
def tidF (l : List UInt8) : List UInt8 := match okT l with | some t => if t.fits = true then t.tid.text else [] | none => []
def TidyIs (l : List UInt8) (w : World) (e : Ending) (w' : World) : Prop := e = .returned (.tuple #[.string (strB (tidF l)), .bool (okF l)]) ∧ Below w.heap.size w w'

set_option maxRecDepth 100000 in
set_option maxHeartbeats 4000000 in
theorem specTermTidy_any (l : List UInt8) (w : World) (hl : l.length ≤ 1048576) : Calls Tryd.prog 17 #[.string (strB l)] w (TidyIs l w) := by
  have HO := hid (l11Of_any l w hl)
  clear hl
  unfold TidyIs
  go_enter Tryd.func17, Tryd.ntmps17
  go_wp2_with fail
  refine HO.out.mono ?_
  rintro e w1 ⟨hb, t, cs, ok, rfl, ht, hf, hok⟩
  have HOK := hid (okF_of hf hok)
  obtain ⟨A, n, kk, rfl⟩ := ht.shape
  have HB := hid (hb.alloc hb.size (.cells (tmC t.sgn t.dim (.slice A n kk)) 35))
  have HT := hid ((ht.mono (Nat.zero_le _)).kept (Keeps.of ((Below.refl w1.heap.size w1).alloc (Nat.le_refl _) (.cells (tmC t.sgn t.dim (.slice A n kk)) 35))))
  clear hb ht
  rcases hok with ⟨rfl, h⟩ | ⟨rfl, h⟩
  · obtain ⟨hx, hwf, h60⟩ := okT_text h
    have HS := hid (show tidF l = t.tid.text by unfold tidF; rw [h]; exact if_pos hf)
    have HC := hid (fun W (h : TmAt 0 W t (tmC t.sgn t.dim (.slice A n kk))) => tidyS_any t hwf (by rw [← hx]; omega) 0 false false W _ (by omega) h)
    rw [t.tid_same hwf] at HC
    unfold TidIs at HC
    unfold tmC at HB HT HC ⊢
    clear h hf hx hwf h60
    go_wp2_with fail
    generalize World.alloc w1 _ = Y at HB HT ⊢
    refine (HC.out _ HT.out).mono ?_
    rintro e w2 ⟨rfl, hb2⟩
    have HB2 := hid (HB.out.trans (hb2.mono HB.out.size))
    clear hb2
    go_wp2_with fail
    refine bodyPost_ret (results_tmp2 rfl _ _ _) rfl ?_
    exact ⟨by rw [← HOK.out, HS.out]; rfl, HB2.out⟩
  · have HS := hid (show tidF l = [] by
      unfold tidF
      cases hc : okT l with
      | none => rfl
      | some t' => exact if_neg (by rw [h t' hc]; decide))
    unfold tmC at HB ⊢
    clear h hf
    go_wp2_with fail
    refine bodyPost_ret (results_tmp2 rfl _ _ _) rfl ?_
    exact ⟨by rw [← HOK.out, HS.out]; rfl, HB.out⟩

set_option maxRecDepth 100000 in
set_option maxHeartbeats 4000000 in
theorem implTermTidy_any (l : List UInt8) (w : World) (hl : l.length ≤ 1048576) (hE : LaidE w) : Calls Tryd.prog 18 #[.string (strB l)] w (TidyIs l w) := by
  have HO := hid (readTerm_any l w hl hE)
  clear hl hE
  unfold TidyIs
  go_enter Tryd.func18, Tryd.ntmps18
  go_wp2_with fail
  refine HO.out.mono ?_
  rintro e w1 ⟨hb, ⟨t, ht, rfl⟩ | ⟨ht, rfl⟩⟩
  · obtain ⟨hx, hwf, h60⟩ := okT_text ht
    have HT := hid (show t.fits = okF l by unfold okF; rw [ht])
    have HS := hid (t.gc_size hwf)
    have HZ := hid (t.gc_zero hwf)
    have HO1 := hid t.gc_one
    have HD := hid (show tidF l = if t.fits = true then t.tid.text else [] by unfold tidF; rw [ht])
    have HTD := hid ((tidied_any t hwf).1)
    have HTX := hid (fun W => t.tid.text_any W (by have := tid_len t hwf; rw [← hx] at this; omega))
    have hm := t.tid.meth_text
    have hc := t.tid.call_text
    generalize t.gc = gt at *
    have HB := hid (below_setRow' (hb.alloc hb.size (.cells zeroG 42)) hb.size gt)
    generalize hY : (w1.alloc (.cells zeroG 42)).setRow w1.heap.size gt = Y at HB
    have HY := hid hY
    clear hb ht hwf hx h60 hY
    unfold ValIs at HTD
    cases hf : t.fits with
    | false =>
      rw [hf] at HT HD
      clear hf
      go_wp2_with (refine wpList_store_row rfl 42 _ _ rfl w1.heap.size gt rfl rfl 42 zeroG (heap_new0 w1 _) HS.out HZ.out HO1.out ?_; rw [HY.out])
      refine bodyPost_ret (results_tmp2 rfl _ _ _) rfl ?_
      exact ⟨by rw [← HT.out, HD.out]; rfl, HB.out⟩
    | true =>
      rw [hf] at HT HD
      clear hf
      go_wp2_with (refine wpList_store_row rfl 42 _ _ rfl w1.heap.size gt rfl rfl 42 zeroG (heap_new0 w1 _) HS.out HZ.out HO1.out ?_; rw [HY.out])
      refine (HTD.out _).mono ?_
      rintro e w2 ⟨rfl, hb2⟩
      have HB2 := hid (HB.out.trans (hb2.mono HB.out.size))
      clear hb2
      go_wp2_with fail
      refine (HTX.out _).mono ?_
      rintro e w3 ⟨rfl, hb3⟩
      have HB3 := hid (HB2.out.trans (hb3.mono HB2.out.size))
      clear hb3
      go_wp2_with fail
      refine bodyPost_ret (results_tmp2 rfl _ _ _) rfl ?_
      exact ⟨by rw [← HT.out, HD.out]; rfl, HB3.out⟩
  · have HT := hid (show false = okF l by unfold okF; rw [ht])
    have HD := hid (show tidF l = [] by unfold tidF; rw [ht])
    have HB := hid (below_setRow' (hb.alloc hb.size (.cells zeroG 42)) hb.size zeroG)
    clear hb ht
    go_wp2_with (refine wpList_store_row rfl 42 _ _ rfl w1.heap.size zeroG rfl rfl 42 zeroG (heap_new0 w1 _) Tryd.size_grid rfl (gcells_one 0 0 (pad [])) ?_)
    refine bodyPost_ret (results_tmp2 rfl _ _ _) rfl ?_
    exact ⟨by rw [← HT.out, HD.out]; rfl, HB.out⟩
end Go.Proofs.YtpimkhjcphimaaaDoor
