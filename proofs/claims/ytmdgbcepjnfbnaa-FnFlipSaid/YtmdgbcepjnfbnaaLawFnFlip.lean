/- For every code, the drawn grid flipped twice is the grid, turned and flipped and turned is the grid flipped, and the program's and the specification's answers are the same: the law FnFlip returns true, and its argument reads as it did. No condition. -/
import Derived.Test.YtmdgbcepjnfbnaaBunF
import Derived.Test.YtmdgbcepjnfbnaaTwice
import Derived.Test.YtmdgbcepjnfbnaaCode
namespace Go.Proofs.Ytmdgbcepjnfbnaa.lawFnFlip
open Go.ChangeShapes Go.WideShapes Go.ChangeAt Go.RowKit
open Go.ChangeMaps (open_string shut_string)

theorem of_grid {G : Nat → Nat → List UInt8 → List ByteArray} {ss res : List ByteArray} {ok : Bool} {n m : Nat} (h : Outcome G ss ok res) (hg : IsGrid n m ss) : ok = true ∧ res = G n m (pad (flat ss)) := by
  rcases h with ⟨n', m', hg', rfl, rfl⟩ | ⟨hn, _, _⟩
  · obtain ⟨rfl, rfl⟩ := hg.uniq hg'
    exact ⟨rfl, rfl⟩
  · exact absurd hg (hn _ _)
theorem small {n m : Nat} {ss : List ByteArray} (hg : IsGrid n m ss) : ss.length ≤ 1048576 ∧ ∀ s ∈ ss, s.size ≤ 1048576 := by
  have h1 := hg.1
  have h2 := hg.2.2.1
  have h3 := hg.2.2.2.2.1
  exact ⟨by omega, fun s hs => by have := (hg.2.2.2.2.2 s hs).1; omega⟩

set_option maxRecDepth 100000 in
set_option maxHeartbeats 1000000 in
theorem draw_any (A : Option Addr) (len cap : Nat) (w : World) (h : CodeAt w A len) (hl : len ≤ 1048576) (hc : len ≤ cap) (hc2 : cap ≤ 9223372036854775807) :
    Calls Try.prog 16 #[.slice A len cap] w fun e w' => (∃ A c ts, e = .returned (.slice A ts.length c) ∧ Strs w' w'.heap.size A ts ∧ Drawn 4 4 ts) ∧ Below w.heap.size w w' := by
  have HC := hid (l91One_any A len cap w h hl hc hc2)
  clear h
  go_enter Try.func16, Try.ntmps16
  go_wp2_with fail
  refine HC.out.mono ?_
  rintro e w1 ⟨⟨A1, c1, ts, rfl, hst, hd⟩, hb⟩
  have HST := hid hst
  have HD := hid hd
  have HB := hid hb
  clear hst hd hb
  go_wp2_with fail
  go_ret
  exact ⟨⟨A1, c1, ts, rfl, HST.out, HD.out⟩, HB.out⟩

set_option maxRecDepth 100000 in
set_option maxHeartbeats 4000000 in
theorem walk (v : Value) (w : World) (hc : CameB w v) :
    Calls Try.prog 3 #[v] w fun e w' => e = .returned (.bool true) ∧ Below w.heap.size w w' := by
  obtain ⟨A, len, cap, rfl, hcode, hlc, hcap⟩ := hc
  have HCD := hid hcode
  clear hcode
  go_enter Try.func3, Try.ntmps3
  by_cases hbig : 1048576 < len
  · have hbi : (1048576 : Int) < (len : Int) := by omega
    go_wp2_with fail
    go_ret
    exact ⟨rfl, Below.refl _ _⟩
  have hbi : ¬ (1048576 : Int) < (len : Int) := by omega
  have HDR := hid (draw_any A len cap w HCD.out (by omega) hlc hcap)
  go_wp2_with fail
  refine HDR.out.mono ?_
  rintro e w1 ⟨⟨A1, c1, ts, rfl, hst, hd⟩, hb1⟩
  have HB1 := hid hb1
  have HST := hid hst
  have HN := hid (show ts.length ≤ 1048576 by have := hd.2.1; omega)
  have HNS := hid (show ∀ s ∈ ts, s.size ≤ 1048576 from fun s hs => by have := (hd.2.2 s hs).2; omega)
  have HI := hid (implGridFlip_any A1 c1 ts w1 hst HN.out HNS.out)
  clear hst hb1 HDR hd
  go_wp2_with fail
  refine HI.out.mono ?_
  intro e w2 hend
  obtain ⟨A2, res, ok, rfl, hout, how, _, hb2⟩ := hend.open_
  have HO := hid hout
  have HW2 := hid how
  have HB2 := hid (HB1.out.trans (hb2.mono HB1.out.size))
  have HT2 := hid ((HST.out.below hb2 (Nat.le_refl _)).more hb2.size)
  have HSP := hid (specGridFlip_any A1 c1 w2.heap.size ts w2 HT2.out (Nat.le_refl _) HN.out HNS.out)
  clear hb2 hout how hend HI
  go_wp2_with fail
  refine HSP.out.mono ?_
  intro e w3 hend
  obtain ⟨A3, c3, res', ok', rfl, hout, hs3, hb3⟩ := hend.open_
  obtain ⟨rfl, rfl⟩ := HO.out.uniq hout
  have HW3 := hid (HW2.out.below hb3)
  have HS3 := hid hs3
  have HT3 := hid ((HT2.out.below hb3 (Nat.le_refl _)).more hb3.size)
  have HB3 := hid (HB2.out.trans (hb3.mono HB2.out.size))
  clear hb3 hout hs3 hend HSP
  rcases HO.out with ⟨n, m, hg, rfl, rfl⟩ | ⟨_, rfl, rfl⟩
  · have HG := hid hg
    have hfs := flip_same hg
    have hgr := flip_grid hg
    rw [← hfs] at hgr
    have HGR := hid hgr
    have htw := flip_flip hg
    have hts : flipG n m (pad (flat (flipG n m (pad (flat ts))))) = ts := by rw [flip_same hgr, hfs]; exact htw
    have HTS := hid hts
    have hgt := turn_grid hg
    rw [← turn_same hg] at hgt
    have HGT := hid hgt
    have hgu := flip_grid hgt
    rw [← flip_same hgt] at hgu
    have HGU := hid hgu
    have htv : turnG m n (pad (flat (flipG m n (pad (flat (turnG n m (pad (flat ts)))))))) = flipG n m (pad (flat ts)) := by
      rw [turn_same hgu, flip_same hgt, turn_same hg, hfs]
      exact turn_flip_turn hg
    have HTV := hid htv
    obtain ⟨fl, hfl⟩ : ∃ fl, flipG n m (pad (flat ts)) = fl := ⟨_, rfl⟩
    rw [hfl] at HW3 HS3 HGR HTS HTV ⊢
    clear hg hfs hgr htw hts hgt hgu htv hfl
    have HSM := hid (sameTexts_same A2 A3 fl.length c3 w3.heap.size fl w3 HW3.out.strs HS3.out (small HGR.out).1)
    go_wp2_with fail
    refine HSM.out.mono ?_
    rintro e w4 ⟨rfl, d4, rfl⟩
    have HB4 := hid (below_drewN' HB3.out d4)
    have HW4 := hid (HW3.out.below (below_drewN' (Below.refl _ w3) d4))
    have HT4 := hid (HT3.out.drewN d4)
    obtain ⟨w4, hw4⟩ : ∃ w4, w3.drewN d4 = w4 := ⟨_, rfl⟩
    have HZ4 := hid (show w3.heap.size = w4.heap.size by rw [← hw4]; rfl)
    rw [hw4] at HB4 HW4 HT4 ⊢
    clear hw4 HSM
    have HX := hid (implGridFlip_any A2 fl.length fl w4 HW4.out.strs (small HGR.out).1 (small HGR.out).2)
    go_wp2_with fail
    refine HX.out.mono ?_
    intro e w5 hend
    obtain ⟨A5, r5, ok5, rfl, hout, how, _, hb5⟩ := hend.open_
    obtain ⟨rfl, rfl⟩ := of_grid hout HGR.out
    rw [HTS.out] at how ⊢
    have HW5 := hid (HW4.out.below hb5)
    have HX5 := hid how
    have HT5 := hid ((HT4.out.below hb5 (Nat.le_of_eq HZ4.out)).more (Nat.le_trans (Nat.le_of_eq HZ4.out) hb5.size))
    have HB5 := hid (HB4.out.trans (hb5.mono HB4.out.size))
    clear hend hout how hb5 HX
    have HTU := hid (implGridTurn_any A1 c1 ts w5 HT5.out HN.out HNS.out)
    go_wp2_with fail
    refine HTU.out.mono ?_
    intro e w6 hend
    obtain ⟨A6, r6, ok6, rfl, hout, how, _, hb6⟩ := hend.open_
    obtain ⟨rfl, rfl⟩ := of_grid hout HG.out
    have HW6 := hid (HW5.out.below hb6)
    have HX6 := hid (HX5.out.below hb6)
    have HY6 := hid how
    have HT6 := hid ((HT5.out.below hb6 (Nat.le_refl _)).more hb6.size)
    have HB6 := hid (HB5.out.trans (hb6.mono HB5.out.size))
    obtain ⟨tt, htt⟩ : ∃ tt, turnG n m (pad (flat ts)) = tt := ⟨_, rfl⟩
    rw [htt] at HY6 HGT HGU HTV ⊢
    clear hend hout how hb6 HTU htt
    have HFU := hid (implGridFlip_any A6 tt.length tt w6 HY6.out.strs (small HGT.out).1 (small HGT.out).2)
    go_wp2_with fail
    refine HFU.out.mono ?_
    intro e w7 hend
    obtain ⟨A7, r7, ok7, rfl, hout, how, _, hb7⟩ := hend.open_
    obtain ⟨rfl, rfl⟩ := of_grid hout HGT.out
    have HW7 := hid (HW6.out.below hb7)
    have HX7 := hid (HX6.out.below hb7)
    have HY7 := hid how
    have HT7 := hid ((HT6.out.below hb7 (Nat.le_refl _)).more hb7.size)
    have HB7 := hid (HB6.out.trans (hb7.mono HB6.out.size))
    obtain ⟨uu, huu⟩ : ∃ uu, flipG m n (pad (flat tt)) = uu := ⟨_, rfl⟩
    rw [huu] at HY7 HGU HTV ⊢
    clear hend hout how hb7 HFU huu
    have HTT := hid (implGridTurn_any A7 uu.length uu w7 HY7.out.strs (small HGU.out).1 (small HGU.out).2)
    go_wp2_with fail
    refine HTT.out.mono ?_
    intro e w8 hend
    obtain ⟨A8, r8, ok8, rfl, hout, how, _, hb8⟩ := hend.open_
    obtain ⟨rfl, rfl⟩ := of_grid hout HGU.out
    rw [HTV.out] at how ⊢
    have HW8 := hid (HW7.out.below hb8)
    have HX8 := hid (HX7.out.below hb8)
    have HY8 := hid how
    have HT8 := hid ((HT7.out.below hb8 (Nat.le_refl _)).more hb8.size)
    have HB8 := hid (HB7.out.trans (hb8.mono HB7.out.size))
    clear hend hout how hb8 HTT
    have HS8 := hid (sameTexts_same A5 A1 ts.length c1 w8.heap.size ts w8 HX8.out.strs HT8.out HN.out)
    go_wp2_with fail
    refine HS8.out.mono ?_
    rintro e w9 ⟨rfl, d9, rfl⟩
    have HB9 := hid (below_drewN' HB8.out d9)
    have HS9 := hid (sameTexts_same A8 A2 fl.length fl.length w8.heap.size fl (w8.drewN d9) (HY8.out.strs.drewN d9) (HW8.out.strs.drewN d9) (small HGR.out).1)
    go_wp2_with fail
    refine HS9.out.mono ?_
    rintro e w10 ⟨rfl, d10, rfl⟩
    have HB10 := hid (below_drewN' HB8.out (d9 + d10))
    go_wp2_with fail
    go_ret
    exact ⟨rfl, HB10.out⟩
  · have HSM := hid (fun W => sameTexts_same A2 A3 0 c3 W.heap.size [] W (Strs.nil_ _ _ _) (Strs.nil_ _ _ _) (by simp))
    go_wp2_with fail
    refine (HSM.out w3).mono ?_
    rintro e w4 ⟨rfl, d4, rfl⟩
    go_wp2_with fail
    refine (HSM.out _).mono ?_
    rintro e w5 ⟨rfl, d5, rfl⟩
    have HB5 := hid (below_drewN' HB3.out (d4 + d5))
    go_wp2_with fail
    go_ret
    exact ⟨rfl, HB5.out⟩

set_option maxRecDepth 100000 in
theorem lifted (os : Os) (started : os.Started) (H : Type) (enc : TypeId × Value → H) :
    ReturnsInHanded {} Try.checked os 3 .any (Rows.fnFlipSpec.pre6 enc Try.prog Try.f3 Rows.fnFlipRow.domain false) (Rows.fnFlipSpec.post enc Try.prog Try.f3 false true false false) := by
  refine returnsInHanded_of_change (C := Try.checked) Try.own started (by kernel_rfl) Try.func3
    (ChangeSpec.witness6 (enc := enc) (C := Try.checked) false ⟨#[], #[.slice none 0 0], []⟩ 8 (by kernel_rfl) (by kernel_rfl) (by kernel_rfl) (by kernel_rfl)) ?_
  intro W base args ds gs before hval0 hW hcnd _
  have hval : ∀ (j : Nat) t v, Try.f3.params[j]? = some t → args[j]? = some v → Value.okWide Try.prog W .any base t v := hval0
  have hW' := hW
  obtain ⟨p, q, hA0, hV, rfl, hfz, hnd⟩ := hW
  have hA : DataW.TrodAll enc Try.prog W 0 (fun _ => true) true Try.f3.params.toList args.toList ds p := hA0
  rw [Try.params3] at hA hval
  obtain ⟨v0, vs0, d0, ds0, p0, q0, hargs, rfl, rfl, h0, r0⟩ := trodAll_cons hA
  obtain ⟨rfl, rfl, rfl⟩ := trodAll_nil r0
  obtain rfl : args = #[v0] := by cases args; simp_all
  obtain ⟨rfl, rfl⟩ := trodVars_none hV
  have k0 := h0
  have lt0 : ∀ x ∈ p0, x.block < W.heap.size := by obtain ⟨m, hm⟩ := k0; exact DataW.trod_lt m _ _ _ hm
  have c0 := cameB_of (hval 0 22 v0 rfl rfl) h0
  clear hA0 hval0
  refine (walk v0 W c0).mono fun e W' ⟨he, bel⟩ => ?_
  subst he
  exact ⟨_, rfl, _, _, _, [], _, [], hW', trodAll_mk1 (shut_bool Try.underlying4 _), (trodAll_cons_mk (Below.trod Try.laidOut (by kernel_rfl) (of_decide_eq_true (by kernel_rfl)) k0 bel lt0) trodAll_mk0), rfl, bel.frame _, fun h => by cases h⟩

theorem closed : joinedFacts Try.pinned.checked.prog 3 Try.f3 Rows.fnFlipSpec Rows.fnFlipRow = true := by
  unfold joinedFacts
  exact and8 (by as_aux_lemma => kernel_rfl) head_enter head_lifts head_make (by as_aux_lemma => kernel_rfl) (by as_aux_lemma => kernel_rfl) (by as_aux_lemma => kernel_rfl) (by as_aux_lemma => kernel_rfl)

theorem proved : Rows.FnFlipSaid :=
  OpenClaim.holds_of_wide 3 Try.f3 rfl rfl rfl rfl rfl rfl rfl ⟨rfl, rfl, rfl, rfl, rfl⟩ rfl rfl rfl rfl rfl (by kernel_rfl) Try.func3 closed
    (of_decide_eq_true (by kernel_rfl)) (by unfold Func.isWrapper; first | (rw [if_pos (by decide +kernel)]; kernel_rfl) | (rw [if_neg (by decide +kernel)]; exact ⟨rfl, rfl⟩))
    (fun os started H enc _ => lifted os started H enc)
#print axioms proved

end Go.Proofs.Ytmdgbcepjnfbnaa.lawFnFlip
