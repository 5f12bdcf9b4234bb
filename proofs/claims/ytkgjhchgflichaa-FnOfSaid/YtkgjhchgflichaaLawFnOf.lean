/- For every code, the grid that the drawn number tells has that number, and as many rows and columns as told; the program's and the specification's answers are the same: the law FnOf returns true, and its argument reads as it did. No condition. -/
import Derived.Test.YtkgjhchgflichaaPK
import Derived.Test.YtkgjhchgflichaaPKG
import Derived.Test.YtkgjhchgflichaaPKD
import Derived.Test.YtkgjhchgflichaaGridP
namespace Go.Proofs.Ytkgjhchgflichaa.lawFnOf
open Go.ChangeShapes Go.WideShapes Go.ChangeAt Go.RowKit
open Go.ChangeMaps (open_string shut_string)

theorem facts {n m k : Nat} {a b x : Int} (h : OfIn a b x n m k) : ∃ fl, ruleG n m (ofF m k) = fl ∧ IsGrid n m fl ∧ numOf (flat fl) = k := by
  obtain ⟨_, _, _, h1, h2, h3, h4, h5⟩ := h
  exact ⟨_, rfl, of_grid2 h1 h2 h3 h4, by rw [of_flat h3, numOf_ofL _ _ h5]⟩

set_option maxRecDepth 100000 in
set_option maxHeartbeats 2000000 in
theorem draw_any (A : Option Addr) (len cap : Nat) (w : World) (h : CodeAt w A len) (hl : len ≤ 1048576) (hc : len ≤ cap) (hc2 : cap ≤ 9223372036854775807) :
    Calls Try.prog 43 #[.slice A len cap] w fun e w' => Below w.heap.size w w' ∧ ∃ x y z : Int, e = .returned (.tuple #[.int .i64 x, .int .i64 y, .int .i64 z]) ∧ x ≤ 10 ∧ y ≤ 10 ∧ z ≤ 100000 := by
  have HOP := hid (dOpen A len cap w h hl hc hc2)
  clear h
  go_enter Try.func43, Try.ntmps43
  go_wp2_with fail
  refine HOP.out.mono ?_
  rintro e w1 ⟨rfl, hd⟩
  have HD1 := hid hd
  clear hd HOP
  have HC1 := hid (dPick 3 HD1.out (by omega) (by omega) (by omega))
  go_wp2_with fail
  refine HC1.out.mono ?_
  rintro e w2 ⟨hg, hd, v1, hv1, rfl⟩
  have HD2 := hid hd
  clear hg hd HC1 HD1
  have HC2 := hid (dPick 24 HD2.out (by omega) (by omega) (by omega))
  go_wp2_with fail
  refine HC2.out.mono ?_
  rintro e w3 ⟨hg, hd, v2, hv2, rfl⟩
  have HD3 := hid hd
  clear hg hd HC2 HD2
  obtain ⟨q, hq, hq23⟩ := q23 v2 hv2
  have HC3 := hid (dPick 3 HD3.out (by omega) (by omega) (by omega))
  go_wp2_with fail
  refine HC3.out.mono ?_
  rintro e w4 ⟨hg, hd, v3, hv3, rfl⟩
  have HD4 := hid hd
  clear hg hd HC3 HD3
  have HC4 := hid (dPick 200 HD4.out (by omega) (by omega) (by omega))
  go_wp2_with fail
  refine HC4.out.mono ?_
  rintro e w5 ⟨hg, hd, v4, hv4, rfl⟩
  have HD5 := hid hd
  clear hg hd HC4 HD4
  have HC5 := hid (dPick 200 HD5.out (by omega) (by omega) (by omega))
  go_wp2_with fail
  refine HC5.out.mono ?_
  rintro e w6 ⟨hg, hd, v5, hv5, rfl⟩
  have HD6 := hid hd
  clear hg hd HC5 HD5
  obtain ⟨N, hN⟩ : ∃ N, v4 * v5 = N := ⟨_, rfl⟩
  have hNi : (v4 : Int) * (v5 : Int) = (N : Int) := by rw [← Int.natCast_mul, hN]
  have hNb : N ≤ 199 * 199 := by rw [← hN]; exact Nat.mul_le_mul (by omega) (by omega)
  clear hN
  have HC6 := hid (dPick 9 HD6.out (by omega) (by omega) (by omega))
  go_wp2_with fail
  refine HC6.out.mono ?_
  rintro e w7 ⟨hg, hd, v6, hv6, rfl⟩
  have HD7 := hid hd
  clear hg hd HC6 HD6
  have HC7 := hid (dPick 24 HD7.out (by omega) (by omega) (by omega))
  go_wp2_with fail
  refine HC7.out.mono ?_
  rintro e w8 ⟨hg, hd, v7, hv7, rfl⟩
  have HD8 := hid hd
  clear hg hd HC7 HD7
  obtain ⟨q2, hq2, hq232⟩ := q23 v7 hv7
  go_wp2_with fail
  refine bodyPost_ret (results_tmp3 rfl _ _ _) rfl ?_
  exact ⟨HD8.out.below, _, _, _, rfl, by omega, by omega, by omega⟩

set_option maxRecDepth 100000 in
set_option maxHeartbeats 4000000 in
theorem walk (v : Value) (w : World) (hc : CameB w v) :
    Calls Try.prog 12 #[v] w fun e w' => e = .returned (.bool true) ∧ Below w.heap.size w w' := by
  obtain ⟨A, len, cap, rfl, hcode, hlc, hcap⟩ := hc
  have HCD := hid hcode
  clear hcode
  go_enter Try.func12, Try.ntmps12
  by_cases hbig : 1048576 < len
  · have hbi : (1048576 : Int) < (len : Int) := by omega
    go_wp2_with fail
    go_ret
    exact ⟨rfl, Below.refl _ _⟩
  have hbi : ¬ (1048576 : Int) < (len : Int) := by omega
  have HDR := hid (draw_any A len cap w HCD.out (by omega) hlc hcap)
  have HC1 := hid (HDR.out)
  go_wp2_with fail
  refine HC1.out.mono ?_
  rintro e w1 ⟨hb, x, y, z, rfl, hx, hy, hz⟩
  have HB1 := hid hb
  clear hb HC1
  have HC2 := hid ((implGridOf_any x y z w1 (by omega)).mono fun _ _ h => tend_own h)
  go_wp2_with fail
  refine HC2.out.mono ?_
  rintro e w2 ⟨hb, A2, c2, res, ok, rfl, hout, hl⟩
  have HB2 := hid (HB1.out.trans (hb.mono HB1.out.size))
  clear HB1
  have Lout2 := hid hl
  clear hl
  clear hb HC2
  have HO := hid hout
  clear hout
  have HC3 := hid ((specGridOf_any x y z w2 (by omega)).mono fun _ _ h => tend_spec h)
  go_wp2_with fail
  refine HC3.out.mono ?_
  rintro e w3 ⟨hb, A3, c3, res2, ok2, rfl, hout2, hl⟩
  have HB3 := hid (HB2.out.trans (hb.mono HB2.out.size))
  clear HB2
  have Lout3 := hid (Lout2.out.step hb)
  clear Lout2
  have Lwant3 := hid hl
  clear hl
  clear hb HC3
  obtain ⟨rfl, rfl⟩ := HO.out.uniq hout2
  clear hout2
  rcases HO.out with ⟨n, m, k, hg, rfl, rfl⟩ | ⟨_, rfl, rfl⟩
  · obtain ⟨fl, e1, g1, k1⟩ := facts hg
    rw [e1] at Lout3 Lwant3 ⊢
    obtain ⟨rfl, rfl, rfl, _⟩ := hg
    obtain ⟨b0, o0, s0, rfl, hk0, hs0, hl0⟩ := Lout3.out.addr g1
    have hn : ((fl.length : Nat) : Int) = (n : Int) := by rw [g1.1]
    have hn5 := g1.2.2.1
    have hm5 := g1.2.2.2.2.1
    obtain ⟨N, hN⟩ : ∃ N, n * m = N := ⟨_, rfl⟩
    have hNi : (n : Int) * (m : Int) = (N : Int) := by rw [← Int.natCast_mul, hN]
    have hN25 : N ≤ 25 := by rw [← hN]; exact g1.le25
    clear e1
    have G1 := hid g1
    have K1 := hid k1
    have HK0 := hid hk0
    have HN := hid hN
    clear g1 k1 hk0 hN
    go_wp2_with fail
    refine (nSameT (Lout3.out) (Lwant3.out) (gsmall G1.out).1).mono ?_
    rintro e w4 ⟨hb, rfl⟩
    have HB4 := hid (HB3.out.trans (hb.mono HB3.out.size))
    clear HB3
    have Lout4 := hid (Lout3.out.step hb)
    clear Lout3
    have Lwant4 := hid (Lwant3.out.step hb)
    clear Lwant3
    clear hb
    clear Lwant4
    by_cases hbigN : 20 < N
    · have hbI : (20 : Int) < (N : Int) := by omega
      go_wp2_with fail
      go_ret
      exact ⟨rfl, HB4.out⟩
    · have hbI : ¬ ((20 : Int) < (N : Int)) := by omega
      go_wp2_with fail
      refine (nGridNumber (Lout4.out) G1.out (by have := HN.out; omega) K1.out).mono ?_
      rintro e w5 ⟨hb, rfl⟩
      have HB5 := hid (HB4.out.trans (hb.mono HB4.out.size))
      clear HB4
      have Lout5 := hid (Lout4.out.step hb)
      clear Lout4
      clear hb
      have c0 := Lout5.out.cell0 HK0.out
      go_wp2_with fail
      go_ret
      exact ⟨rfl, HB5.out⟩
  · skip
    go_wp2_with fail
    refine (nSameT (Lout3.out) (Lwant3.out) (by simp)).mono ?_
    rintro e w4 ⟨hb, rfl⟩
    have HB4 := hid (HB3.out.trans (hb.mono HB3.out.size))
    clear HB3
    have Lout4 := hid (Lout3.out.step hb)
    clear Lout3
    have Lwant4 := hid (Lwant3.out.step hb)
    clear Lwant3
    clear hb
    go_wp2_with fail
    refine (nSameT (Lout4.out) (Lwant4.out) (by simp)).mono ?_
    rintro e w5 ⟨hb, rfl⟩
    have HB5 := hid (HB4.out.trans (hb.mono HB4.out.size))
    clear HB4
    have Lout5 := hid (Lout4.out.step hb)
    clear Lout4
    have Lwant5 := hid (Lwant4.out.step hb)
    clear Lwant4
    clear hb
    go_wp2_with fail
    go_ret
    exact ⟨rfl, HB5.out⟩

set_option maxRecDepth 100000 in
theorem lifted (os : Os) (started : os.Started) (H : Type) (enc : TypeId × Value → H) :
    ReturnsInHanded {} Try.checked os 12 .any (Rows.fnOfSpec.pre6 enc Try.prog Try.f12 Rows.fnOfRow.domain false) (Rows.fnOfSpec.post enc Try.prog Try.f12 false true false false) := by
  refine returnsInHanded_of_change (C := Try.checked) Try.own started (by kernel_rfl) Try.func12
    (ChangeSpec.witness6 (enc := enc) (C := Try.checked) false ⟨#[], #[.slice none 0 0], []⟩ 8 (by kernel_rfl) (by kernel_rfl) (by kernel_rfl) (by kernel_rfl)) ?_
  intro W base args ds gs before hval0 hW hcnd _
  have hval : ∀ (j : Nat) t v, Try.f12.params[j]? = some t → args[j]? = some v → Value.okWide Try.prog W .any base t v := hval0
  have hW' := hW
  obtain ⟨p, q, hA0, hV, rfl, hfz, hnd⟩ := hW
  have hA : DataW.TrodAll enc Try.prog W 0 (fun _ => true) true Try.f12.params.toList args.toList ds p := hA0
  rw [Try.params12] at hA hval
  obtain ⟨v0, vs0, d0, ds0, p0, q0, hargs, rfl, rfl, h0, r0⟩ := trodAll_cons hA
  obtain ⟨rfl, rfl, rfl⟩ := trodAll_nil r0
  obtain rfl : args = #[v0] := by cases args; simp_all
  obtain ⟨rfl, rfl⟩ := trodVars_none hV
  have k0 := h0
  have lt0 : ∀ x ∈ p0, x.block < W.heap.size := by obtain ⟨m, hm⟩ := k0; exact DataW.trod_lt m _ _ _ hm
  have c0 := cameB_of (hval 0 22 v0 rfl rfl) h0
  clear hA0 hval0
  refine (walk v0 W c0).mono fun e W' ⟨he, bel⟩ => ?_
  subst he
  exact ⟨_, rfl, _, _, _, [], _, [], hW', trodAll_mk1 (shut_bool Try.underlying4 _), (trodAll_cons_mk (Below.trod Try.laidOut (by kernel_rfl) (of_decide_eq_true (by kernel_rfl)) k0 bel lt0) trodAll_mk0), rfl, bel.frame _, fun h => by cases h⟩

theorem closed : joinedFacts Try.pinned.checked.prog 12 Try.f12 Rows.fnOfSpec Rows.fnOfRow = true := by
  unfold joinedFacts
  exact and8 (by as_aux_lemma => kernel_rfl) head_enter head_lifts head_make (by as_aux_lemma => kernel_rfl) (by as_aux_lemma => kernel_rfl) (by as_aux_lemma => kernel_rfl) (by as_aux_lemma => kernel_rfl)

theorem proved : Rows.FnOfSaid :=
  OpenClaim.holds_of_wide 12 Try.f12 rfl rfl rfl rfl rfl rfl rfl ⟨rfl, rfl, rfl, rfl, rfl⟩ rfl rfl rfl rfl rfl (by kernel_rfl) Try.func12 closed
    (of_decide_eq_true (by kernel_rfl)) (by unfold Func.isWrapper; first | (rw [if_pos (by decide +kernel)]; kernel_rfl) | (rw [if_neg (by decide +kernel)]; exact ⟨rfl, rfl⟩))
    (fun os started H enc _ => lifted os started H enc)
#print axioms proved

end Go.Proofs.Ytkgjhchgflichaa.lawFnOf
