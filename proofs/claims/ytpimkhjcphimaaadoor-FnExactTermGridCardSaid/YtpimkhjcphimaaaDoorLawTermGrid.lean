/- For every text, TermGrid of the program answers as TermGrid of the specification: the law FnExactTermGrid returns true, and its argument reads as it did. The variable that package errors lays at start-up holds what its text lays; the card ties it to the text. -/
import Derived.Test.YtpimkhjcphimaaaDoorTermGd
import Derived.Test.YtpimkhjcphimaaaDoorBunF
import Derived.Test.YtpimkhjcphimaaaDoorTermK
import Derived.Test.YtpimkhjcphimaaaDoorBunA
import Derived.Test.YtpimkhjcphimaaaDoorHead
import Derived.Test.YtpimkhjcphimaaaDoorCards
import Derived.Test.YtpimkhjcphimaaaDoorTie
import Derived.SevenTiedAt
namespace Go.Proofs.YtpimkhjcphimaaaDoor.lawTermGrid
open Go.ChangeShapes Go.WideShapes Go.ChangeAt Go.RowKit
open Go.ChangeMaps (open_string shut_string)

theorem gridF_len (l : List UInt8) : (gridF l).length ≤ 1048576 := by
  unfold gridF
  cases h : okT l with
  | none => simp
  | some t =>
    show (if t.fits = true then t.G else []).length ≤ 1048576
    split
    · rename_i hf
      have hg := t.grid (okT_text h).2.1 hf
      have h1 := hg.1
      have h2 := hg.2.2.1
      omega
    · simp
set_option maxRecDepth 100000 in
set_option maxHeartbeats 4000000 in
theorem walk (l : List UInt8) (w : World) (hE : LaidE w) : Calls Tryd.prog 4 #[.string (strB l)] w fun e w' => e = .returned (.bool true) ∧ Below w.heap.size w w' := by
  have hsz : ((strB l).size : Int) = (l.length : Int) := by rw [strB_size]
  by_cases hl : l.length ≤ 1048576
  · have hli : (l.length : Int) ≤ 1048576 := by omega
    have HE := hid hE
    have HL := hid hl
    have HLr := hid (gridF_len l)
    have HSP := hid (specTermGrid_any l w hl)
    have HI := hid (fun W (h : LaidE W) => implTermGrid_any l W hl h)
    unfold GridFS at HSP
    unfold GridFP at HI
    clear hE hl
    generalize okF l = ok at HSP HI
    generalize hR : gridF l = R at HSP HI HLr
    clear hR
    go_enter Tryd.func4, Tryd.ntmps4
    go_wp2_with fail
    refine HSP.out.mono ?_
    rintro e w2 ⟨⟨A0, c0, rfl, hs0⟩, hb2⟩
    have HS0 := hid hs0
    have HB2 := hid hb2
    clear hs0 hb2
    have hne : (ok != ok) = false := by simp
    go_wp2_with fail
    refine (HI.out w2 (HE.out.below HB2.out)).mono ?_
    rintro e w4 ⟨⟨Ag, rfl, hown⟩, hb4⟩
    have HG4 := hid hown
    have T4 := hid hb4
    clear hown hb4
    go_wp2_with fail
    refine (eqStringS_same Ag A0 R.length c0 w4.heap.size R w4 HG4.out.strs ((HS0.out.below T4.out (Nat.le_refl _)).more T4.out.size) HLr.out).mono ?_
    rintro e w9 ⟨rfl, d5, rfl⟩
    have T9 := hid (below_drewN' T4.out d5)
    have HG9 := hid (HG4.out.below (below_drewN' (Below.refl w4.heap.size w4) d5))
    obtain ⟨w9, hw9⟩ : ∃ w9, w4.drewN d5 = w9 := ⟨_, rfl⟩
    rw [hw9] at T9 HG9 ⊢
    clear hw9
    -- the result is marked, and holds its marks
    obtain ⟨k2, hk2⟩ : ∃ k2, 1 + R.length = k2 := ⟨_, rfl⟩
    have HK2 := hid hk2
    have hk20 : 0 ≤ (k2 : Int) := Int.natCast_nonneg _
    clear hk2
    have HM := hid (markOwn Ag w2.heap.size k2 R w9 HG9.out T9.out.size HLr.out HK2.out)
    go_wp2_with fail
    refine HM.out.mono ?_
    rintro e w10 ⟨rfl, hb10, hg10⟩
    have T10 := hid (T9.out.trans hb10)
    have HG10 := hid hg10
    clear hb10 hg10
    have HD := hid (heldOwn Ag w2.heap.size k2 R.length w10 HG10.out HLr.out HK2.out)
    go_wp2_with fail
    refine HD.out.mono ?_
    rintro e w11 ⟨rfl, hb11⟩
    have T11 := hid (T10.out.trans (hb11.mono T10.out.size))
    have HG11 := hid (HG10.out.below hb11)
    clear hb11
    go_wp2_with fail
    refine (HI.out w11 ((HE.out.below HB2.out).below (T11.out.mono (Nat.le_refl _)))).mono ?_
    rintro e w13 ⟨⟨Ah, rfl, hown⟩, hb13⟩
    have HH13 := hid hown
    have T13 := hid (T11.out.trans (hb13.mono T11.out.size))
    have HG13 := hid (HG11.out.below hb13)
    clear hown hb13
    go_wp2_with fail
    refine (eqStringS_same Ah A0 R.length c0 w13.heap.size R w13 HH13.out.strs ((HS0.out.below T13.out (Nat.le_refl _)).more T13.out.size) HLr.out).mono ?_
    rintro e w14 ⟨rfl, d14, rfl⟩
    have T14 := hid (below_drewN' T13.out d14)
    have HG14 := hid (HG13.out.below (below_drewN' (Below.refl w13.heap.size w13) d14))
    have HD2 := hid (heldOwn Ag w2.heap.size k2 R.length (w13.drewN d14) HG14.out HLr.out HK2.out)
    go_wp2_with fail
    refine HD2.out.mono ?_
    rintro e w15 ⟨rfl, hb15⟩
    have T15 := hid (T14.out.trans (hb15.mono T14.out.size))
    clear hb15
    go_wp2_with fail
    go_ret
    exact ⟨rfl, HB2.out.trans (T15.out.mono HB2.out.size)⟩
  · have hli : ¬ (l.length : Int) ≤ 1048576 := by omega
    clear hl hE
    go_enter Tryd.func4, Tryd.ntmps4
    go_wp2_with fail
    go_ret
    exact ⟨rfl, Below.refl _ _⟩

set_option maxRecDepth 100000 in
theorem lifted (os : Os) (started : os.Started) (H : Type) (enc : TypeId × Value → H) :
    ReturnsInHanded {} Tryd.checked os 4 .any (fun w args => (Rows.fnExactTermGridSpec.pre enc Tryd.prog Tryd.f4 [] false w args ∧ laidMetH Tryd.prog laidL w) ∧ sizedMet enc Tryd.prog Tryd.f4 (OpenSpec.ofChange Rows.fnExactTermGridSpec) false w args)
      (Rows.fnExactTermGridSpec.post enc Tryd.prog Tryd.f4 false true false false) := by
  refine returnsInHanded_of_change_and (C := Tryd.checked) (X := fun w _ => laidMetH Tryd.prog laidL w) (fun _ _ _ hh h => h.of_heap hh) Tryd.own started (by kernel_rfl) Tryd.func4
    (ChangeSpec.witness_at (enc := enc) (C := Tryd.checked) (os := os) (X := fun w _ => laidMetH Tryd.prog laidL w) false (laidWorld os) #[.string ByteArray.empty] 8 rfl (by kernel_rfl) (by kernel_rfl) (by kernel_rfl) (by kernel_rfl) (by kernel_rfl) (laidWorld_met os _)) ?_
  intro W base args ds gs before hval0 hW _ _ hL _
  have hval : ∀ (j : Nat) t v, Tryd.f4.params[j]? = some t → args[j]? = some v → Value.okWide Tryd.prog W .any base t v := hval0
  have hW' := hW
  obtain ⟨p, q, hA0, hV, rfl, hfz, hnd⟩ := hW
  have hA : DataW.TrodAll enc Tryd.prog W 0 (fun _ => true) true Tryd.f4.params.toList args.toList ds p := hA0
  rw [Tryd.params4] at hA hval
  obtain ⟨v0, d0, rfl, rfl, h0⟩ := trodAll_one hA
  obtain ⟨rfl, rfl⟩ := trodVars_none hV
  obtain ⟨t, rfl, rfl, rfl, ht⟩ := open_string Tryd.underlying9 (hval 0 9 v0 rfl rfl) h0
  have hg := laid_cell hL
  clear hA0 hval0
  have hw := walk t.data.toList W hg
  rw [← strB_all t] at hw
  refine hw.mono fun e W' ⟨he, bel⟩ => ?_
  subst he
  exact ⟨_, rfl, _, _, _, [], _, [], hW', trodAll_mk1 (shut_bool Tryd.underlying4 _), trodAll_mk1 (shut_string Tryd.underlying9 ht), rfl, bel.frame _, fun h => by cases h⟩

theorem closed : joinedFacts Tryd.pinned.checked.prog 4 Tryd.f4 Rows.fnExactTermGridSpec Rows.fnExactTermGridRow = true := by
  unfold joinedFacts
  exact and8 (by as_aux_lemma => kernel_rfl) head_enter head_lifts head_make (by as_aux_lemma => kernel_rfl) (by as_aux_lemma => kernel_rfl) (by as_aux_lemma => kernel_rfl) (by as_aux_lemma => kernel_rfl)

theorem said : Rows.FnExactTermGridSaid :=
  OpenClaim.holds_of_wide 4 Tryd.f4 rfl rfl rfl rfl rfl rfl rfl ⟨rfl, rfl, rfl, rfl, rfl⟩ rfl rfl rfl rfl rfl (by kernel_rfl) Tryd.func4 closed
    (of_decide_eq_true (by kernel_rfl)) (by unfold Func.isWrapper; first | (rw [if_pos (by decide +kernel)]; kernel_rfl) | (rw [if_neg (by decide +kernel)]; exact ⟨rfl, rfl⟩))
    (fun os started H enc _ => lifted os started H enc)

theorem proved : Rows.FnExactTermGridCardSaid :=
  Claim7.holds_tied_plain_at .later [] [.handle] true Rows.fnExactTermGridCard.stood.harness true
    said (fun _ h => by cases h) (by kernel_rfl) (fun _ h => by cases h) fnExactTermGrid_row_tie rfl ⟨rfl, rfl⟩ (by kernel_rfl) rfl
    (fun f fn hf hfn => by
      obtain rfl : f = 4 := Option.some.inj ((show Tryd.prog.funcNamed "loop.example/mirrorgrids/laws.FnExactTermGrid" = some 4 by kernel_rfl).symm.trans hf) |>.symm
      obtain rfl : fn = Tryd.f4 := (Option.some.inj (Tryd.func4.symm.trans hfn)).symm
      exact ⟨by kernel_rfl, fun j t ht => by
        rw [Tryd.params4] at ht
        have h3 : t = 9 := by
          rcases j with _ | j
          · simpa using ht.symm
          · simp at ht
        subst h3
        exact (show Tryd.prog.wantsStandIn 9 = false by kernel_rfl)⟩)
    (by kernel_rfl)
#print axioms proved
end Go.Proofs.YtpimkhjcphimaaaDoor.lawTermGrid
