/- For every code, the two drawn pairings, if neither has pairs that cross, are joined to one that has none, and the program's and the specification's answers are the same: the law FnJoinChords returns true, and its argument reads as it did. No condition. -/
import Derived.Test.YtkkifpjeafchnaaBunA
import Derived.Test.YtkkifpjeafchnaaHead
import Derived.Test.YtkkifpjeafchnaaBunN
import Derived.Test.YtkkifpjeafchnaaTwoS
import Derived.Test.YtkkifpjeafchnaaBunM
namespace Go.Proofs.Ytkkifpjeafchnaa.lawFnJoinChords
open Go.ChangeShapes Go.WideShapes Go.ChangeAt Go.RowKit
open Go.ChangeMaps (open_string shut_string)

theorem two_plane {n m k : Nat} {a b : List Int} (h : TwoOf (n : Int) (m : Int) a (k : Int) b) (ca : chordsC (intAt a) a.length a.length = 0) (cb : chordsC (intAt b) b.length b.length = 0) :
    chordsC (intAt (joinedL n m a b)) (joinedL n m a b).length (joinedL n m a b).length = 0 := by
  have h1 := h.1.2.2.2
  have h2 := h.2.1.2.2.2
  exact joined_plane h.1.2.2.1 h.2.1.2.2.1 (by omega) (by omega) (joinedL_pair h).1 ca cb

set_option maxRecDepth 100000 in
set_option maxHeartbeats 4000000 in
theorem walk (v : Value) (w : World) (hc : CameB w v) :
    Calls Try.prog 10 #[v] w fun e w' => e = .returned (.bool true) ∧ Below w.heap.size w w' := by
  obtain ⟨A, len, cap, rfl, hcode, hlc, hcap⟩ := hc
  have HCD := hid hcode
  clear hcode
  go_enter Try.func10, Try.ntmps10
  by_cases hbig : 1048576 < len
  · have hbi : (1048576 : Int) < (len : Int) := by omega
    go_wp2_with fail
    go_ret
    exact ⟨rfl, Below.refl _ _⟩
  have hbi : ¬ (1048576 : Int) < (len : Int) := by omega
  have HDR := hid (drawJoinPairs_any A len cap w HCD.out (by omega) hlc hcap)
  go_wp2_with fail
  refine HDR.out.mono ?_
  rintro e w1 ⟨⟨n, m, k, A1, c1, a, A2, c2, b, rfl, hn3, hm3, hk3, hla, hlb, hia, hib⟩, hb1⟩
  have HB1 := hid hb1
  have HIA1 := hid hia
  have HIB1 := hid hib
  have HI := hid (implJoinPairs_any (n : Int) (m : Int) A1 c1 a (k : Int) A2 c2 b w1 hia hib (by omega) (by omega))
  have HTP := hid (fun h : TwoOf (n : Int) (m : Int) a (k : Int) b => two_plane h)
  have HJP := hid (fun h : TwoOf (n : Int) (m : Int) a (k : Int) b => joinedL_pair h)
  have HLA := hid (show a.length ≤ 1048576 by omega)
  have HLB := hid (show b.length ≤ 1048576 by omega)
  have HNM := hid (show (n : Int).toNat = n ∧ (m : Int).toNat = m by omega)
  rw [HNM.out.1, HNM.out.2] at HI
  clear hb1 hia hib HDR hla hlb hn3 hm3 hk3
  go_wp2_with fail
  refine HI.out.mono ?_
  rintro e w2 ⟨hb2, A3, c3, l, ok, rfl, hout, hown⟩
  have HO := hid hout
  have HW2 := hid hown
  have HIA2 := hid ((HIA1.out.below hb2 (Nat.le_refl _)).more hb2.size)
  have HIB2 := hid ((HIB1.out.below hb2 (Nat.le_refl _)).more hb2.size)
  have HB2 := hid (HB1.out.trans (hb2.mono HB1.out.size))
  have HSP := hid (specJoinPairs_any (n : Int) (m : Int) A1 c1 a (k : Int) A2 c2 w2.heap.size b w2 HIA2.out HIB2.out (Nat.le_refl _) HLA.out HLB.out)
  rw [HNM.out.1, HNM.out.2] at HSP
  clear hb2 hout hown HI
  go_wp2_with fail
  refine HSP.out.mono ?_
  rintro e w3 ⟨hb3, A4, c4, l', ok', rfl, hout, hint⟩
  obtain ⟨rfl, rfl⟩ := HO.out.uniq hout
  have HW3 := hid (HW2.out.below hb3)
  have HI3 := hid hint
  have HIA3 := hid ((HIA2.out.below hb3 (Nat.le_refl _)).more hb3.size)
  have HIB3 := hid ((HIB2.out.below hb3 (Nat.le_refl _)).more hb3.size)
  have HB3 := hid (HB2.out.trans (hb3.mono HB2.out.size))
  have HLN := hid (show l'.length ≤ 1048576 from hout.len (fun h => by have := (HJP.out h).1.2.1; omega))
  clear hb3 hout hint HSP
  have HSI := hid (sameInts_same A3 A4 c3 c4 w3.heap.size l' w3 HW3.out.ints HI3.out HLN.out)
  rcases HO.out with ⟨hD, hlj, rfl⟩ | ⟨_, rfl, rfl⟩
  · have HD := hid hD
    have HLJ := hid hlj
    have HZ := hid (HTP.out hD)
    rw [← hlj] at HZ
    clear hD hlj
    go_wp2_with fail
    refine HSI.out.mono ?_
    rintro e w4 ⟨rfl, d4, rfl⟩
    have HB4 := hid (below_drewN' HB3.out d4)
    have HCA := hid (implCrossChords_any A1 c1 a (w3.drewN d4) (HIA3.out.drewN d4) HLA.out)
    clear HSI
    go_wp2_with fail
    refine HCA.out.mono ?_
    rintro e w5 ⟨hb5, x, okx, rfl, hx⟩
    obtain ⟨rfl, rfl⟩ : x = ((chordsC (intAt a) a.length a.length : Nat) : Int) ∧ okx = true := by
      rcases hx with ⟨_, h1, h2⟩ | ⟨h0, _⟩
      · exact ⟨h1, h2⟩
      · exact absurd HD.out.1.2.2.1 h0
    have HB5 := hid (HB4.out.trans (hb5.mono HB4.out.size))
    have HIB5 := hid (show Ints w5 w5.heap.size A2 b from ((HIB3.out.drewN d4).below hb5 (Nat.le_refl _)).more hb5.size)
    have HW5 := hid (show Own3 w5 w1.heap.size A3 l' from (show Own3 (w3.drewN d4) w1.heap.size A3 l' from HW3.out).below hb5)
    have HCB := hid (implCrossChords_any A2 c2 b w5 HIB5.out HLB.out)
    clear hb5 hx HCA
    go_wp2_with fail
    refine HCB.out.mono ?_
    rintro e w6 ⟨hb6, y, oky, rfl, hy⟩
    obtain ⟨rfl, rfl⟩ : y = ((chordsC (intAt b) b.length b.length : Nat) : Int) ∧ oky = true := by
      rcases hy with ⟨_, h1, h2⟩ | ⟨h0, _⟩
      · exact ⟨h1, h2⟩
      · exact absurd HD.out.2.1.2.2.1 h0
    have HB6 := hid (HB5.out.trans (hb6.mono HB5.out.size))
    have HW6 := hid (HW5.out.below hb6)
    have HCL := hid (implCrossChords_any A3 c3 l' w6 HW6.out.ints HLN.out)
    clear hb6 hy HCB
    go_wp2_with fail
    refine HCL.out.mono ?_
    rintro e w7 ⟨hb7, z, okz, rfl, hz⟩
    obtain ⟨rfl, rfl⟩ : z = ((chordsC (intAt l') l'.length l'.length : Nat) : Int) ∧ okz = true := by
      rcases hz with ⟨_, h1, h2⟩ | ⟨h0, _⟩
      · exact ⟨h1, h2⟩
      · exact absurd (by rw [HLJ.out]; exact (HJP.out HD.out).1) h0
    have HB7 := hid (HB6.out.trans (hb7.mono HB6.out.size))
    clear hb7 hz HCL
    generalize chordsC (intAt a) a.length a.length = x at *
    generalize chordsC (intAt b) b.length b.length = y at *
    generalize chordsC (intAt l') l'.length l'.length = z at *
    by_cases hx : x = 0
    · by_cases hy : y = 0
      · obtain rfl : z = 0 := HZ.out hx hy
        subst hx
        subst hy
        go_wp2_with fail
        go_ret
        exact ⟨rfl, HB7.out⟩
      · have hyi : (0 : Int) < (y : Int) := by omega
        subst hx
        go_wp2_with fail
        go_ret
        exact ⟨rfl, HB7.out⟩
    · have hxi : (0 : Int) < (x : Int) := by omega
      go_wp2_with fail
      go_ret
      exact ⟨rfl, HB7.out⟩
  · go_wp2_with fail
    refine HSI.out.mono ?_
    rintro e w4 ⟨rfl, d4, rfl⟩
    have HSI2 := hid (sameInts_same A3 A4 c3 c4 w3.heap.size [] (w3.drewN d4) (HW3.out.ints.drewN d4) (HI3.out.drewN d4) HLN.out)
    go_wp2_with fail
    refine HSI2.out.mono ?_
    rintro e w5 ⟨rfl, d5, rfl⟩
    have HB5 := hid (below_drewN' HB3.out (d4 + d5))
    go_wp2_with fail
    go_ret
    exact ⟨rfl, HB5.out⟩

set_option maxRecDepth 100000 in
theorem lifted (os : Os) (started : os.Started) (H : Type) (enc : TypeId × Value → H) :
    ReturnsInHanded {} Try.checked os 10 .any (Rows.fnJoinChordsSpec.pre6 enc Try.prog Try.f10 Rows.fnJoinChordsRow.domain false) (Rows.fnJoinChordsSpec.post enc Try.prog Try.f10 false true false false) := by
  refine returnsInHanded_of_change (C := Try.checked) Try.own started (by kernel_rfl) Try.func10
    (ChangeSpec.witness6 (enc := enc) (C := Try.checked) false ⟨#[], #[.slice none 0 0], []⟩ 8 (by kernel_rfl) (by kernel_rfl) (by kernel_rfl) (by kernel_rfl)) ?_
  intro W base args ds gs before hval0 hW hcnd _
  have hval : ∀ (j : Nat) t v, Try.f10.params[j]? = some t → args[j]? = some v → Value.okWide Try.prog W .any base t v := hval0
  have hW' := hW
  obtain ⟨p, q, hA0, hV, rfl, hfz, hnd⟩ := hW
  have hA : DataW.TrodAll enc Try.prog W 0 (fun _ => true) true Try.f10.params.toList args.toList ds p := hA0
  rw [Try.params10] at hA hval
  obtain ⟨v0, vs0, d0, ds0, p0, q0, hargs, rfl, rfl, h0, r0⟩ := trodAll_cons hA
  obtain ⟨rfl, rfl, rfl⟩ := trodAll_nil r0
  obtain rfl : args = #[v0] := by cases args; simp_all
  obtain ⟨rfl, rfl⟩ := trodVars_none hV
  have k0 := h0
  have lt0 : ∀ x ∈ p0, x.block < W.heap.size := by obtain ⟨m, hm⟩ := k0; exact DataW.trod_lt m _ _ _ hm
  have c0 := cameB_of (hval 0 38 v0 rfl rfl) h0
  clear hA0 hval0
  refine (walk v0 W c0).mono fun e W' ⟨he, bel⟩ => ?_
  subst he
  exact ⟨_, rfl, _, _, _, [], _, [], hW', trodAll_mk1 (shut_bool Try.underlying4 _), (trodAll_cons_mk (Below.trod Try.laidOut (by kernel_rfl) (of_decide_eq_true (by kernel_rfl)) k0 bel lt0) trodAll_mk0), rfl, bel.frame _, fun h => by cases h⟩

theorem closed : joinedFacts Try.pinned.checked.prog 10 Try.f10 Rows.fnJoinChordsSpec Rows.fnJoinChordsRow = true := by
  unfold joinedFacts
  exact and8 (by as_aux_lemma => kernel_rfl) head_enter head_lifts head_make (by as_aux_lemma => kernel_rfl) (by as_aux_lemma => kernel_rfl) (by as_aux_lemma => kernel_rfl) (by as_aux_lemma => kernel_rfl)

theorem proved : Rows.FnJoinChordsSaid :=
  OpenClaim.holds_of_wide 10 Try.f10 rfl rfl rfl rfl rfl rfl rfl ⟨rfl, rfl, rfl, rfl, rfl⟩ rfl rfl rfl rfl rfl (by kernel_rfl) Try.func10 closed
    (of_decide_eq_true (by kernel_rfl)) (by unfold Func.isWrapper; first | (rw [if_pos (by decide +kernel)]; kernel_rfl) | (rw [if_neg (by decide +kernel)]; exact ⟨rfl, rfl⟩))
    (fun os started H enc _ => lifted os started H enc)
#print axioms proved

end Go.Proofs.Ytkkifpjeafchnaa.lawFnJoinChords
