/- For every code, the drawn grid has no round if it is one row or one column, and two rounds at most for four cells; the program's and the specification's answers are the same: the law FnRoundPlain returns true, and its argument reads as it did. No condition. -/
import Derived.Test.YtkaiadgldppbiaaPKR
import Derived.Test.YtkaiadgldppbiaaBunF
import Derived.Test.YtkaiadgldppbiaaBunM
import Derived.Test.YtkaiadgldppbiaaRoundQ
import Derived.Test.YtkaiadgldppbiaaColQ
namespace Go.Proofs.Ytkaiadgldppbiaa.lawFnRoundPlain
open Go.ChangeShapes Go.WideShapes Go.ChangeAt Go.RowKit
open Go.ChangeMaps (open_string shut_string)

theorem line_none {n m : Nat} {t : Int → Int → UInt8} (hn : 1 ≤ n) (hm : 1 ≤ m) (h : n = 1 ∨ m = 1) : (leads n m t).length = 0 := by
  have hcol : ∀ (n : Nat) (t : Int → Int → UInt8), 1 ≤ n → (leads n 1 t).length = 0 := fun n t hn => by
    rw [no_lead fun c _ => col_onR hn (wayN_d c)]
    rfl
  rcases h with rfl | rfl
  · have h1 := leads_turn (n := 1) (m := m) (t := t) (t' := fun i k => swapM (t ((1 : Nat) - 1 - k) i)) fun i k h1 h2 h3 h4 => by
      show swapM (t ((1 : Nat) - 1 - ((1 : Nat) - 1 - i)) k) = swapM (t i k)
      congr 2
      omega
    rw [← h1]
    exact hcol m _ hm
  · exact hcol n _ hn
theorem facts {n m : Nat} {ts : List ByteArray} (h : IsGrid n m ts) : ∃ (k N : Nat), manyR n m (lett m (pad (flat ts))) = ((k : Int), true) ∧ (n : Int) * (m : Int) = (N : Int) ∧ 2 * k ≤ N ∧ N ≤ 25 ∧ ((1 < n ∧ 1 < m) ∨ ((n = 1 ∨ (1 < n ∧ m = 1)) ∧ k = 0)) := by
  have h1 := leads_eight (n := n) (m := m) (t := lett m (pad (flat ts)))
  have hn := h.2.1
  have hm := h.2.2.2.1
  refine ⟨(leads n m (lett m (pad (flat ts)))).length, n * m, rfl, by rw [Int.natCast_mul], by omega, h.le25, ?_⟩
  by_cases h1 : n = 1
  · exact .inr ⟨.inl h1, line_none hn hm (.inl h1)⟩
  · by_cases h2 : m = 1
    · exact .inr ⟨.inr ⟨by omega, h2⟩, line_none hn hm (.inr h2)⟩
    · exact .inl ⟨by omega, by omega⟩

set_option maxRecDepth 100000 in
set_option maxHeartbeats 1000000 in
theorem draw_any (A : Option Addr) (len cap : Nat) (w : World) (h : CodeAt w A len) (hl : len ≤ 1048576) (hc : len ≤ cap) (hc2 : cap ≤ 9223372036854775807) :
    Calls Try.prog 6 #[.slice A len cap] w fun e w' => Below w.heap.size w w' ∧ ∃ A c ts, e = .returned (.slice A ts.length c) ∧ LS w' A ts ∧ Drawn 5 5 ts := by
  have HOP := hid (l6Open_any A len cap w (by omega) hc hc2)
  have HRD := hid (fun len' (h1 : len' ≤ len) (h2 : len' ≤ 2000) => open_rd (cap := cap) h h1 h2)
  have HSO := hid (fun W (hr : Rd W w.heap.size 0) => l91Some_any w.heap.size 0 5 5 W hr (by omega) (by omega) (by omega) (by omega) (by omega))
  clear h
  go_enter Try.func6, Try.ntmps6
  go_wp2_with fail
  refine HOP.out.mono ?_
  rintro e w1 ⟨rfl, len', h1, h2, _, rfl⟩
  have HS := hid (HSO.out _ (HRD.out len' h1 h2))
  go_wp2_with fail
  refine HS.out.mono ?_
  rintro e w2 ⟨⟨gb, c1, ts, rfl, _, hst, h3, h4, h5⟩, _, hgw⟩
  have HST := hid (hst.strs hst.lt)
  have HD := hid (show Drawn 5 5 ts from ⟨h3, h4, h5⟩)
  have HB := hid (((Below.refl _ w).alloc (Nat.le_refl _) (.cells #[.slice A len' cap, .int .i64 0] 76)).grown hgw (by simp) (fun k e => by cases e; exact Nat.le_refl _))
  clear hst h3 h4 h5 hgw
  go_wp2_with fail
  go_ret
  exact ⟨HB.out, _, c1, ts, rfl, HST.out, HD.out⟩

set_option maxRecDepth 100000 in
set_option maxHeartbeats 4000000 in
theorem walk (v : Value) (w : World) (hc : CameB w v) :
    Calls Try.prog 4 #[v] w fun e w' => e = .returned (.bool true) ∧ Below w.heap.size w w' := by
  obtain ⟨A, len, cap, rfl, hcode, hlc, hcap⟩ := hc
  have HCD := hid hcode
  clear hcode
  go_enter Try.func4, Try.ntmps4
  by_cases hbig : 1048576 < len
  · have hbi : (1048576 : Int) < (len : Int) := by omega
    go_wp2_with fail
    go_ret
    exact ⟨rfl, Below.refl _ _⟩
  have hbi : ¬ (1048576 : Int) < (len : Int) := by omega
  have HDR := hid (draw_any A len cap w HCD.out (by omega) hlc hcap)
  have HC1 := hid (HDR.out)
  go_wp2_with fail
  refine HC1.out.mono ?_
  rintro e w1 ⟨hb, A1, c1, ts, rfl, hl, hd⟩
  have HB1 := hid hb
  have Lts1 := hid hl
  clear hl
  clear hb HC1
  have HSM := hid (hd.small (by decide) (by decide))
  clear hd
  have HC2 := hid (implRoundMany_any A1 c1 ts w1 Lts1.out HSM.out.1 HSM.out.2)
  go_wp2_with fail
  refine HC2.out.mono ?_
  rintro e w2 ⟨hb, out, ok, rfl, hout⟩
  have HB2 := hid (HB1.out.trans (hb.mono HB1.out.size))
  clear HB1
  have Lts2 := hid (Lts1.out.step hb)
  clear Lts1
  clear hb HC2
  have HO := hid hout
  clear hout
  have HC3 := hid (specRoundMany_any A1 c1 w2.heap.size ts w2 Lts2.out (Nat.le_refl _) HSM.out.1 HSM.out.2)
  go_wp2_with fail
  refine HC3.out.mono ?_
  rintro e w3 ⟨hb, out2, ok2, rfl, hout2⟩
  have HB3 := hid (HB2.out.trans (hb.mono HB2.out.size))
  clear HB2
  have Lts3 := hid (Lts2.out.step hb)
  clear Lts2
  clear hb HC3
  obtain ⟨rfl, rfl⟩ := HO.out.uniq hout2
  clear hout2
  rcases HO.out with ⟨n, m, hg, hv⟩ | ⟨_, rfl, rfl⟩
  · obtain ⟨k, N, hR, hN, hk, hN25, hcase⟩ := facts hg
    rw [hR] at hv
    obtain ⟨rfl, rfl⟩ := Prod.mk.inj hv
    clear hv hR
    obtain ⟨b0, o0, s0, rfl, hk0, hs0, hl0⟩ := Lts3.out.addr hg
    have hn : ((ts.length : Nat) : Int) = (n : Int) := by rw [(hg).1]
    have hn0 : 0 < n := (hg).2.1
    have hn5 := (hg).2.2.1
    have hm1 := (hg).2.2.2.1
    have hm5 := (hg).2.2.2.2.1
    have HK0 := hid hk0
    clear hk0
    have hki : 2 * (k : Int) ≤ (N : Int) := by omega
    have hk25 : k ≤ 25 := by omega
    clear hg
    rcases hcase with ⟨h1, h2⟩ | ⟨h1 | ⟨h1, h2⟩, h0⟩
    · have h1i : (1 : Int) < (n : Int) := by omega
      have h2i : (1 : Int) < (m : Int) := by omega
      have c0 := Lts3.out.cell0 HK0.out
      go_wp2_with fail
      go_ret
      exact ⟨rfl, HB3.out⟩
    · have h1i : ¬ (1 : Int) < (n : Int) := by omega
      have h0i : decide ((k : Int) = 0) = true := by simp; omega
      have h0j : ((k : Int) == 0) = true := by simp; omega
      have c0 := Lts3.out.cell0 HK0.out
      go_wp2_with fail
      go_ret
      exact ⟨rfl, HB3.out⟩
    · have h1i : (1 : Int) < (n : Int) := by omega
      have h2i : ¬ (1 : Int) < (m : Int) := by omega
      have h0i : decide ((k : Int) = 0) = true := by simp; omega
      have h0j : ((k : Int) == 0) = true := by simp; omega
      have c0 := Lts3.out.cell0 HK0.out
      go_wp2_with fail
      go_ret
      exact ⟨rfl, HB3.out⟩
  · skip
    go_wp2_with fail
    go_ret
    exact ⟨rfl, HB3.out⟩

set_option maxRecDepth 100000 in
theorem lifted (os : Os) (started : os.Started) (H : Type) (enc : TypeId × Value → H) :
    ReturnsInHanded {} Try.checked os 4 .any (Rows.fnRoundPlainSpec.pre6 enc Try.prog Try.f4 Rows.fnRoundPlainRow.domain false) (Rows.fnRoundPlainSpec.post enc Try.prog Try.f4 false true false false) := by
  refine returnsInHanded_of_change (C := Try.checked) Try.own started (by kernel_rfl) Try.func4
    (ChangeSpec.witness6 (enc := enc) (C := Try.checked) false ⟨#[], #[.slice none 0 0], []⟩ 8 (by kernel_rfl) (by kernel_rfl) (by kernel_rfl) (by kernel_rfl)) ?_
  intro W base args ds gs before hval0 hW hcnd _
  have hval : ∀ (j : Nat) t v, Try.f4.params[j]? = some t → args[j]? = some v → Value.okWide Try.prog W .any base t v := hval0
  have hW' := hW
  obtain ⟨p, q, hA0, hV, rfl, hfz, hnd⟩ := hW
  have hA : DataW.TrodAll enc Try.prog W 0 (fun _ => true) true Try.f4.params.toList args.toList ds p := hA0
  rw [Try.params4] at hA hval
  obtain ⟨v0, vs0, d0, ds0, p0, q0, hargs, rfl, rfl, h0, r0⟩ := trodAll_cons hA
  obtain ⟨rfl, rfl, rfl⟩ := trodAll_nil r0
  obtain rfl : args = #[v0] := by cases args; simp_all
  obtain ⟨rfl, rfl⟩ := trodVars_none hV
  have k0 := h0
  have lt0 : ∀ x ∈ p0, x.block < W.heap.size := by obtain ⟨m, hm⟩ := k0; exact DataW.trod_lt m _ _ _ hm
  have c0 := cameB_of (hval 0 22 v0 rfl rfl) h0
  clear hA0 hval0
  refine (walk v0 W c0).mono fun e W' ⟨he, bel⟩ => ?_
  subst he
  exact ⟨_, rfl, _, _, _, [], _, [], hW', trodAll_mk1 (shut_bool Try.underlying4 _), (trodAll_cons_mk (Below.trod Try.laidOut (by kernel_rfl) (of_decide_eq_true (by kernel_rfl)) k0 bel lt0) trodAll_mk0), rfl, bel.frame _, fun h => by cases h⟩

theorem closed : joinedFacts Try.pinned.checked.prog 4 Try.f4 Rows.fnRoundPlainSpec Rows.fnRoundPlainRow = true := by
  unfold joinedFacts
  exact and8 (by as_aux_lemma => kernel_rfl) head_enter head_lifts head_make (by as_aux_lemma => kernel_rfl) (by as_aux_lemma => kernel_rfl) (by as_aux_lemma => kernel_rfl) (by as_aux_lemma => kernel_rfl)

theorem proved : Rows.FnRoundPlainSaid :=
  OpenClaim.holds_of_wide 4 Try.f4 rfl rfl rfl rfl rfl rfl rfl ⟨rfl, rfl, rfl, rfl, rfl⟩ rfl rfl rfl rfl rfl (by kernel_rfl) Try.func4 closed
    (of_decide_eq_true (by kernel_rfl)) (by unfold Func.isWrapper; first | (rw [if_pos (by decide +kernel)]; kernel_rfl) | (rw [if_neg (by decide +kernel)]; exact ⟨rfl, rfl⟩))
    (fun os started H enc _ => lifted os started H enc)
#print axioms proved

end Go.Proofs.Ytkaiadgldppbiaa.lawFnRoundPlain
