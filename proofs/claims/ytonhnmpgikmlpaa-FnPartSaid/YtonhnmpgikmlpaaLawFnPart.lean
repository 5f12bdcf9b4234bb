/- For every code, the drawn part of the drawn grid has its rows and columns, and its whole part is itself; the program's and the specification's answers are the same: the law FnPart returns true, and its argument reads as it did. No condition. -/
import Derived.Test.YtonhnmpgikmlpaaPK
import Derived.Test.YtonhnmpgikmlpaaPKG
import Derived.Test.YtonhnmpgikmlpaaPartS
import Derived.Test.YtonhnmpgikmlpaaGridP
import Derived.Test.YtonhnmpgikmlpaaDrawPart
namespace Go.Proofs.Ytonhnmpgikmlpaa.lawFnPart
open Go.ChangeShapes Go.WideShapes Go.ChangeAt Go.RowKit
open Go.ChangeMaps (open_string shut_string)

theorem facts {n m a n1 l m1 : Nat} {ts : List ByteArray} {t lo le ri : Int} (h : PartIn ts t lo le ri n m a n1 l m1) : ∃ (fl : List ByteArray) (d e : Nat), ruleG n1 m1 (partF m a l (flat ts)) = fl ∧ lo - t = (d : Int) ∧ ri - le = (e : Int) ∧ (d : Int) + 1 = (n1 : Int) ∧ (e : Int) + 1 = (m1 : Int) ∧ n1 ≤ 5 ∧ m1 ≤ 5 ∧ IsGrid n1 m1 fl ∧ PartIn fl 0 (d : Int) 0 (e : Int) n1 m1 0 n1 0 m1 ∧ ruleG n1 m1 (partF m1 0 0 (flat fl)) = fl := by
  obtain ⟨hg, h1, h2, h3, h4, h5, h6, h7, h8⟩ := h
  have g := part_grid hg h5 h6 h7 h8
  have hn := hg.2.2.1
  have hm := hg.2.2.2.2.1
  exact ⟨_, n1 - 1, m1 - 1, rfl, by omega, by omega, by omega, by omega, by omega, by omega, g, ⟨g, rfl, by omega, rfl, by omega, h5, by omega, h7, by omega⟩, part_all g⟩

theorem draw_any (A : Option Addr) (len cap : Nat) (w : World) (h : CodeAt w A len) (hl : len ≤ 1048576) (hc : len ≤ cap) (hc2 : cap ≤ 9223372036854775807) :
    Calls Try.prog 54 #[.slice A len cap] w fun e w' => Below w.heap.size w w' ∧ ∃ (A : Option Addr) (c : Nat) (ts : List ByteArray) (t lo le ri : Int), e = .returned (.tuple #[.slice A ts.length c, .int .i64 t, .int .i64 lo, .int .i64 le, .int .i64 ri]) ∧ LS w' A ts ∧ Drawn 4 4 ts :=
  drawGridPart_any A len cap w h hl hc hc2

set_option maxRecDepth 100000 in
set_option maxHeartbeats 4000000 in
theorem walk (v : Value) (w : World) (hc : CameB w v) :
    Calls Try.prog 12 #[v] w fun e w' => e = .returned (.bool true) ∧ Below w.heap.size w w' := by
  obtain ⟨A, len, cap, rfl, hcode, hlc, hcap⟩ := hc
  have HCD := hid hcode
  clear hcode
  go_enter Try.func12, Try.ntmps12
  by_cases hbig : 1048576 < len
  · have hbi : (1048576 : Int) < (len : Int) := by omega
    go_wp2_with fail
    go_ret
    exact ⟨rfl, Below.refl _ _⟩
  have hbi : ¬ (1048576 : Int) < (len : Int) := by omega
  have HDR := hid (draw_any A len cap w HCD.out (by omega) hlc hcap)
  have HC1 := hid (HDR.out)
  go_wp2_with fail
  refine HC1.out.mono ?_
  rintro e w1 ⟨hb, A1, c1, ts, t, lo, le, ri, rfl, hl, hd⟩
  have HB1 := hid hb
  have Lts1 := hid hl
  clear hl
  clear hb HC1
  have HSM := hid (hd.small (by decide) (by decide))
  clear hd
  have HC2 := hid ((implGridPart_any A1 c1 ts t lo le ri w1 Lts1.out HSM.out.1 HSM.out.2).mono fun _ _ h => tend_own h)
  go_wp2_with fail
  refine HC2.out.mono ?_
  rintro e w2 ⟨hb, A2, c2, res, ok, rfl, hout, hl⟩
  have HB2 := hid (HB1.out.trans (hb.mono HB1.out.size))
  clear HB1
  have Lts2 := hid (Lts1.out.step hb)
  clear Lts1
  have Lout2 := hid hl
  clear hl
  clear hb HC2
  have HO := hid hout
  clear hout
  have HC3 := hid ((specGridPart_any A1 c1 w2.heap.size ts t lo le ri w2 Lts2.out (Nat.le_refl _) HSM.out.1 HSM.out.2).mono fun _ _ h => tend_spec h)
  go_wp2_with fail
  refine HC3.out.mono ?_
  rintro e w3 ⟨hb, A3, c3, res2, ok2, rfl, hout2, hl⟩
  have HB3 := hid (HB2.out.trans (hb.mono HB2.out.size))
  clear HB2
  have Lts3 := hid (Lts2.out.step hb)
  clear Lts2
  have Lout3 := hid (Lout2.out.step hb)
  clear Lout2
  have Lwant3 := hid hl
  clear hl
  clear hb HC3
  obtain ⟨rfl, rfl⟩ := HO.out.uniq hout2
  clear hout2
  rcases HO.out with ⟨n, m, a, n1, l, m1, hg, rfl, rfl⟩ | ⟨_, rfl, rfl⟩
  · obtain ⟨fl, d, e, e1, hd, he, hd1, he1, hn5, hm5, g1, p1, e2⟩ := facts hg
    rw [e1] at Lout3 Lwant3 ⊢
    obtain ⟨b0, o0, s0, rfl, hk0, hs0, hl0⟩ := Lout3.out.addr g1
    have hn : ((fl.length : Nat) : Int) = (n1 : Int) := by rw [g1.1]
    clear e1 hg
    have G1 := hid g1
    have P1 := hid p1
    have E2 := hid e2
    have HK0 := hid hk0
    clear g1 p1 e2 hk0
    go_wp2_with fail
    refine (nSameT (Lout3.out) (Lwant3.out) (gsmall G1.out).1).mono ?_
    rintro e w4 ⟨hb, rfl⟩
    have HB4 := hid (HB3.out.trans (hb.mono HB3.out.size))
    clear HB3
    have Lts4 := hid (Lts3.out.step hb)
    clear Lts3
    have Lout4 := hid (Lout3.out.step hb)
    clear Lout3
    have Lwant4 := hid (Lwant3.out.step hb)
    clear Lwant3
    clear hb
    clear Lwant4
    go_wp2_with fail
    refine (nGridPart (Lout4.out) P1.out E2.out).mono ?_
    rintro e w5 ⟨hb, A5, c5, rfl, hl⟩
    have HB5 := hid (HB4.out.trans (hb.mono HB4.out.size))
    clear HB4
    have Lts5 := hid (Lts4.out.step hb)
    clear Lts4
    have Lout5 := hid (Lout4.out.step hb)
    clear Lout4
    have Lx5 := hid hl
    clear hl
    clear hb
    have c0 := Lout5.out.cell0 HK0.out
    go_wp2_with fail
    refine (nSameT (Lx5.out) (Lout5.out) (gsmall G1.out).1).mono ?_
    rintro e w6 ⟨hb, rfl⟩
    have HB6 := hid (HB5.out.trans (hb.mono HB5.out.size))
    clear HB5
    have Lts6 := hid (Lts5.out.step hb)
    clear Lts5
    have Lout6 := hid (Lout5.out.step hb)
    clear Lout5
    have Lx6 := hid (Lx5.out.step hb)
    clear Lx5
    clear hb
    go_wp2_with fail
    go_ret
    exact ⟨rfl, HB6.out⟩
  · skip
    go_wp2_with fail
    refine (nSameT (Lout3.out) (Lwant3.out) (by simp)).mono ?_
    rintro e w4 ⟨hb, rfl⟩
    have HB4 := hid (HB3.out.trans (hb.mono HB3.out.size))
    clear HB3
    have Lts4 := hid (Lts3.out.step hb)
    clear Lts3
    have Lout4 := hid (Lout3.out.step hb)
    clear Lout3
    have Lwant4 := hid (Lwant3.out.step hb)
    clear Lwant3
    clear hb
    go_wp2_with fail
    refine (nSameT (Lout4.out) (Lwant4.out) (by simp)).mono ?_
    rintro e w5 ⟨hb, rfl⟩
    have HB5 := hid (HB4.out.trans (hb.mono HB4.out.size))
    clear HB4
    have Lts5 := hid (Lts4.out.step hb)
    clear Lts4
    have Lout5 := hid (Lout4.out.step hb)
    clear Lout4
    have Lwant5 := hid (Lwant4.out.step hb)
    clear Lwant4
    clear hb
    go_wp2_with fail
    go_ret
    exact ⟨rfl, HB5.out⟩

set_option maxRecDepth 100000 in
theorem lifted (os : Os) (started : os.Started) (H : Type) (enc : TypeId × Value → H) :
    ReturnsInHanded {} Try.checked os 12 .any (Rows.fnPartSpec.pre6 enc Try.prog Try.f12 Rows.fnPartRow.domain false) (Rows.fnPartSpec.post enc Try.prog Try.f12 false true false false) := by
  refine returnsInHanded_of_change (C := Try.checked) Try.own started (by kernel_rfl) Try.func12
    (ChangeSpec.witness6 (enc := enc) (C := Try.checked) false ⟨#[], #[.slice none 0 0], []⟩ 8 (by kernel_rfl) (by kernel_rfl) (by kernel_rfl) (by kernel_rfl)) ?_
  intro W base args ds gs before hval0 hW hcnd _
  have hval : ∀ (j : Nat) t v, Try.f12.params[j]? = some t → args[j]? = some v → Value.okWide Try.prog W .any base t v := hval0
  have hW' := hW
  obtain ⟨p, q, hA0, hV, rfl, hfz, hnd⟩ := hW
  have hA : DataW.TrodAll enc Try.prog W 0 (fun _ => true) true Try.f12.params.toList args.toList ds p := hA0
  rw [Try.params12] at hA hval
  obtain ⟨v0, vs0, d0, ds0, p0, q0, hargs, rfl, rfl, h0, r0⟩ := trodAll_cons hA
  obtain ⟨rfl, rfl, rfl⟩ := trodAll_nil r0
  obtain rfl : args = #[v0] := by cases args; simp_all
  obtain ⟨rfl, rfl⟩ := trodVars_none hV
  have k0 := h0
  have lt0 : ∀ x ∈ p0, x.block < W.heap.size := by obtain ⟨m, hm⟩ := k0; exact DataW.trod_lt m _ _ _ hm
  have c0 := cameB_of (hval 0 22 v0 rfl rfl) h0
  clear hA0 hval0
  refine (walk v0 W c0).mono fun e W' ⟨he, bel⟩ => ?_
  subst he
  exact ⟨_, rfl, _, _, _, [], _, [], hW', trodAll_mk1 (shut_bool Try.underlying4 _), (trodAll_cons_mk (Below.trod Try.laidOut (by kernel_rfl) (of_decide_eq_true (by kernel_rfl)) k0 bel lt0) trodAll_mk0), rfl, bel.frame _, fun h => by cases h⟩

theorem closed : joinedFacts Try.pinned.checked.prog 12 Try.f12 Rows.fnPartSpec Rows.fnPartRow = true := by
  unfold joinedFacts
  exact and8 (by as_aux_lemma => kernel_rfl) head_enter head_lifts head_make (by as_aux_lemma => kernel_rfl) (by as_aux_lemma => kernel_rfl) (by as_aux_lemma => kernel_rfl) (by as_aux_lemma => kernel_rfl)

theorem proved : Rows.FnPartSaid :=
  OpenClaim.holds_of_wide 12 Try.f12 rfl rfl rfl rfl rfl rfl rfl ⟨rfl, rfl, rfl, rfl, rfl⟩ rfl rfl rfl rfl rfl (by kernel_rfl) Try.func12 closed
    (of_decide_eq_true (by kernel_rfl)) (by unfold Func.isWrapper; first | (rw [if_pos (by decide +kernel)]; kernel_rfl) | (rw [if_neg (by decide +kernel)]; exact ⟨rfl, rfl⟩))
    (fun os started H enc _ => lifted os started H enc)
#print axioms proved

end Go.Proofs.Ytonhnmpgikmlpaa.lawFnPart
