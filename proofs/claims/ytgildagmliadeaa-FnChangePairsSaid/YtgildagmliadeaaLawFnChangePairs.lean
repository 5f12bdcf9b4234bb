/- For every code, exchanging the drawn mirror changes the partners of four ports or of none, and of four just where paths stay as many; the program's and the specification's answers are the same: the law FnChangePairs returns true, and its argument reads as it did. No condition. -/
import Derived.Test.YtgildagmliadeaaPKR
import Derived.Test.YtgildagmliadeaaDrawCell
import Derived.Test.YtgildagmliadeaaBunB
import Derived.Test.YtgildagmliadeaaExch
import Derived.Test.YtgildagmliadeaaBunR
import Derived.Test.YtgildagmliadeaaPairsC
import Derived.Test.YtgildagmliadeaaMovedQ
namespace Go.Proofs.Ytgildagmliadeaa.lawFnChangePairs
open Go.ChangeShapes Go.WideShapes Go.ChangeAt Go.RowKit
open Go.ChangeMaps (open_string shut_string)

theorem lett_at {m c : Nat} {ls : List UInt8} {b : UInt8} (hl : c < ls.length) : lett m (ls.set c b) (placeN m c).i (placeN m c).k = b := by
  rw [lett_place, List.getD_eq_getElem?_getD, List.getElem?_set_self hl]
  rfl
theorem lett_off {n m c : Nat} {ls : List UInt8} {b b' : UInt8} (hc : c < n * m) : OffSame n m (lett m (ls.set c b)) (lett m (ls.set c b')) (placeN m c).i (placeN m c).k := fun x hx hat => by
  have hm : 0 < m := by
    rcases Nat.eq_zero_or_pos m with h0 | h0
    · subst h0; simp at hc
    · exact h0
  have h1 := cellN_iff (i := c / m) hx (Nat.mod_lt c hm)
  rw [show c / m * m + c % m = c by rw [Nat.mul_comm]; exact Nat.div_add_mod c m] at h1
  have hne : cellN m x ≠ c := fun e => hat (h1.1 e)
  unfold lett
  rw [cellN_int hx, Int.toNat_natCast, List.getD_eq_getElem?_getD, List.getD_eq_getElem?_getD, List.getElem?_set_ne (fun e => hne e.symm), List.getElem?_set_ne (fun e => hne e.symm)]
/-- Two letters of a cell: the numbers of paths differ by one at most. -/
theorem near {n m c : Nat} {ls : List UInt8} {b b' : UInt8} (hc : c < n * m) (hl : c < ls.length) (hb : isLet b = true) (hb' : isLet b' = true) : -1 ≤ (pathsR n m (lett m (ls.set c b))).1 - (pathsR n m (lett m (ls.set c b'))).1 ∧ (pathsR n m (lett m (ls.set c b))).1 - (pathsR n m (lett m (ls.set c b'))).1 ≤ 1 := by
  have h3 := three_leads (n := n) (m := m) (t0 := lett m (ls.set c 46)) (t1 := lett m (ls.set c 114)) (t2 := lett m (ls.set c 102)) (i := (placeN m c).i) (k := (placeN m c).k) (placeN_in hc) (lett_off hc) (lett_off hc) (lett_at hl) (lett_at hl) (lett_at hl)
  unfold law3 at h3
  rw [Bool.or_eq_true, beq_iff_eq, beq_iff_eq] at h3
  simp only [isLet, Bool.or_eq_true, beq_iff_eq] at hb hb'
  rcases hb with (rfl | rfl) | rfl <;> rcases hb' with (rfl | rfl) | rfl <;> simp only [pathsR] <;> omega
theorem set_same {ls : List UInt8} {c : Nat} {b : UInt8} (h : ls[c]? = some b) : ls.set c b = ls := by
  apply List.ext_getElem?
  intro i
  by_cases hi : c = i
  · subst hi; rw [List.getElem?_set_self (List.getElem?_eq_some_iff.1 h).1, h]
  · rw [List.getElem?_set_ne hi]
theorem pad_at {n m c : Nat} {ts : List ByteArray} (h : IsGrid n m ts) (hc : c < n * m) : ∃ b, (pad (flat ts))[c]? = some b ∧ isLet b = true ∧ lett m (pad (flat ts)) ((c / m : Nat) : Int) ((c % m : Nat) : Int) = b ∧ (flat ts)[c]? = some b := by
  obtain ⟨b, h1, h2⟩ := h.let_at hc
  have hcl : c < (flat ts).length := by rw [h.flen]; exact hc
  have e : (pad (flat ts))[c]? = some b := by unfold pad; rw [List.getElem?_append_left hcl]; exact h1
  refine ⟨b, e, h2, ?_, h1⟩
  have hl := lett_place (m := m) (c := c) (ls := pad (flat ts))
  have h3 : lett m (pad (flat ts)) ((c / m : Nat) : Int) ((c % m : Nat) : Int) = (pad (flat ts)).getD c 0 := hl
  rw [h3, List.getD_eq_getElem?_getD, e]
  rfl

theorem facts {n m c : Nat} {ts : List ByteArray} {x : Int} (h : MirrorIn ts x n m c) : ∃ (k : Nat) (d : Int), movedR n m (pad (flat ts)) c = ((k : Int), true) ∧ deltaR n m (pad (flat ts)) c = (d, true) ∧ (k = 0 ∨ (k = 4 ∧ d = 0)) := by
  obtain ⟨⟨hg, hx, hc⟩, h46⟩ := h
  have hn := hg.2.1
  have hm := hg.2.2.2.1
  have h25 := hg.le25
  obtain ⟨b, h0, hb, hlb, hfb⟩ := pad_at hg hc
  rw [hlb] at h46
  have hbo : (b = 114 ∧ oth b = 102) ∨ (b = 102 ∧ oth b = 114) := by
    simp only [isLet, Bool.or_eq_true, beq_iff_eq] at hb
    rcases hb with (rfl | rfl) | rfl
    · exact absurd rfl h46
    · exact .inl ⟨rfl, rfl⟩
    · exact .inr ⟨rfl, rfl⟩
  have hl : c < (pad (flat ts)).length := by rw [hg.plen]; omega
  have hse : (pad (flat ts)).set c b = pad (flat ts) := set_same h0
  have hoff : OffSame n m (lett m (pad (flat ts))) (lett m ((pad (flat ts)).set c (oth b))) (placeN m c).i (placeN m c).k := by
    have := lett_off (n := n) (m := m) (c := c) (ls := pad (flat ts)) (b := b) (b' := oth b) hc
    rwa [hse] at this
  have e3 : lett m (pad (flat ts)) (placeN m c).i (placeN m c).k = b := hlb
  have e4 : lett m ((pad (flat ts)).set c (oth b)) (placeN m c).i (placeN m c).k = oth b := lett_at hl
  have hmf := moved_four (placeN_in hc) hn hm hoff (by have h3 : lett m (pad (flat ts)) ((c / m : Nat) : Int) ((c % m : Nat) : Int) = b := e3; have h4 : lett m ((pad (flat ts)).set c (oth b)) ((c / m : Nat) : Int) ((c % m : Nat) : Int) = oth b := e4; rw [h3, h4]; exact hbo)
  refine ⟨_, (deltaR n m (pad (flat ts)) c).1, rfl, rfl, ?_⟩
  rw [hlb]
  rcases hmf with h | ⟨h, h2⟩
  · exact .inl h
  · refine .inr ⟨h, ?_⟩
    show (pathsR n m (lett m ((pad (flat ts)).set c (oth (lett m (pad (flat ts)) ((c / m : Nat) : Int) ((c % m : Nat) : Int)))))).1 - (pathsR n m (lett m (pad (flat ts)))).1 = 0
    rw [hlb]
    simp only [pathsR]
    omega

set_option maxRecDepth 100000 in
set_option maxHeartbeats 1000000 in
theorem draw_any (A : Option Addr) (len cap : Nat) (w : World) (h : CodeAt w A len) (hl : len ≤ 1048576) (hc : len ≤ cap) (hc2 : cap ≤ 9223372036854775807) :
    Calls Try.prog 31 #[.slice A len cap] w fun e w' => Below w.heap.size w w' ∧ ∃ A c ts x, e = .returned (.tuple #[.slice A ts.length c, .int .i64 x]) ∧ LS w' A ts ∧ Drawn 4 4 ts ∧ -100 ≤ x ∧ x ≤ 100 := by
  have HC := hid (l91Cell_any A len cap w h hl hc hc2)
  clear h
  go_enter Try.func31, Try.ntmps31
  go_wp2_with fail
  refine HC.out.mono ?_
  rintro e w1 ⟨⟨A1, c1, ts, x, rfl, hst, hd, hx⟩, hb⟩
  have HST := hid hst
  have HD := hid hd
  have HX := hid hx
  have HB := hid hb
  clear hst hd hx hb
  go_wp2_with fail
  refine bodyPost_ret (results_tmp2 rfl _ _ _) rfl ?_
  exact ⟨HB.out, A1, c1, ts, x, rfl, HST.out, HD.out, HX.out⟩

set_option maxRecDepth 100000 in
set_option maxHeartbeats 4000000 in
theorem walk (v : Value) (w : World) (hc : CameB w v) :
    Calls Try.prog 7 #[v] w fun e w' => e = .returned (.bool true) ∧ Below w.heap.size w w' := by
  obtain ⟨A, len, cap, rfl, hcode, hlc, hcap⟩ := hc
  have HCD := hid hcode
  clear hcode
  go_enter Try.func7, Try.ntmps7
  by_cases hbig : 1048576 < len
  · have hbi : (1048576 : Int) < (len : Int) := by omega
    go_wp2_with fail
    go_ret
    exact ⟨rfl, Below.refl _ _⟩
  have hbi : ¬ (1048576 : Int) < (len : Int) := by omega
  have HDR := hid (draw_any A len cap w HCD.out (by omega) hlc hcap)
  have HC1 := hid (HDR.out)
  go_wp2_with fail
  refine HC1.out.mono ?_
  rintro e w1 ⟨hb, A1, c1, ts, x, rfl, hl, hd, hx0, hx1⟩
  have HB1 := hid hb
  have Lts1 := hid hl
  clear hl
  clear hb HC1
  have HSM := hid (hd.small (by decide) (by decide))
  clear hd
  have HC2 := hid (implChangePairs_any A1 c1 ts x w1 Lts1.out HSM.out.1 HSM.out.2)
  go_wp2_with fail
  refine HC2.out.mono ?_
  rintro e w2 ⟨hb, out, ok, rfl, hout⟩
  have HB2 := hid (HB1.out.trans (hb.mono HB1.out.size))
  clear HB1
  have Lts2 := hid (Lts1.out.step hb)
  clear Lts1
  clear hb HC2
  have HO := hid hout
  clear hout
  have HC3 := hid (specChangePairs_any A1 c1 w2.heap.size ts x w2 Lts2.out (Nat.le_refl _) HSM.out.1 HSM.out.2)
  go_wp2_with fail
  refine HC3.out.mono ?_
  rintro e w3 ⟨hb, out2, ok2, rfl, hout2⟩
  have HB3 := hid (HB2.out.trans (hb.mono HB2.out.size))
  clear HB2
  have Lts3 := hid (Lts2.out.step hb)
  clear Lts2
  clear hb HC3
  obtain ⟨rfl, rfl⟩ := HO.out.uniq hout2
  clear hout2
  rcases HO.out with ⟨n, m, c, hp, hv⟩ | ⟨_, rfl, rfl⟩
  · obtain ⟨k, d, hR, e2, hk⟩ := facts hp
    rw [hR] at hv
    obtain ⟨rfl, rfl⟩ := Prod.mk.inj hv
    clear hv hR
    have HP := hid hp
    have E2 := hid e2
    clear hp e2
    go_wp2_with fail
    refine (nChangeDelta (Lts3.out) HP.out E2.out).mono ?_
    rintro e w4 ⟨hb, rfl⟩
    have HB4 := hid (HB3.out.trans (hb.mono HB3.out.size))
    clear HB3
    have Lts4 := hid (Lts3.out.step hb)
    clear Lts3
    clear hb
    rcases hk with rfl | ⟨rfl, rfl⟩
    · skip
      go_wp2_with fail
      go_ret
      exact ⟨rfl, HB4.out⟩
    · skip
      go_wp2_with fail
      go_ret
      exact ⟨rfl, HB4.out⟩
  · skip
    go_wp2_with fail
    go_ret
    exact ⟨rfl, HB3.out⟩

set_option maxRecDepth 100000 in
theorem lifted (os : Os) (started : os.Started) (H : Type) (enc : TypeId × Value → H) :
    ReturnsInHanded {} Try.checked os 7 .any (Rows.fnChangePairsSpec.pre6 enc Try.prog Try.f7 Rows.fnChangePairsRow.domain false) (Rows.fnChangePairsSpec.post enc Try.prog Try.f7 false true false false) := by
  refine returnsInHanded_of_change (C := Try.checked) Try.own started (by kernel_rfl) Try.func7
    (ChangeSpec.witness6 (enc := enc) (C := Try.checked) false ⟨#[], #[.slice none 0 0], []⟩ 8 (by kernel_rfl) (by kernel_rfl) (by kernel_rfl) (by kernel_rfl)) ?_
  intro W base args ds gs before hval0 hW hcnd _
  have hval : ∀ (j : Nat) t v, Try.f7.params[j]? = some t → args[j]? = some v → Value.okWide Try.prog W .any base t v := hval0
  have hW' := hW
  obtain ⟨p, q, hA0, hV, rfl, hfz, hnd⟩ := hW
  have hA : DataW.TrodAll enc Try.prog W 0 (fun _ => true) true Try.f7.params.toList args.toList ds p := hA0
  rw [Try.params7] at hA hval
  obtain ⟨v0, vs0, d0, ds0, p0, q0, hargs, rfl, rfl, h0, r0⟩ := trodAll_cons hA
  obtain ⟨rfl, rfl, rfl⟩ := trodAll_nil r0
  obtain rfl : args = #[v0] := by cases args; simp_all
  obtain ⟨rfl, rfl⟩ := trodVars_none hV
  have k0 := h0
  have lt0 : ∀ x ∈ p0, x.block < W.heap.size := by obtain ⟨m, hm⟩ := k0; exact DataW.trod_lt m _ _ _ hm
  have c0 := cameB_of (hval 0 22 v0 rfl rfl) h0
  clear hA0 hval0
  refine (walk v0 W c0).mono fun e W' ⟨he, bel⟩ => ?_
  subst he
  exact ⟨_, rfl, _, _, _, [], _, [], hW', trodAll_mk1 (shut_bool Try.underlying4 _), (trodAll_cons_mk (Below.trod Try.laidOut (by kernel_rfl) (of_decide_eq_true (by kernel_rfl)) k0 bel lt0) trodAll_mk0), rfl, bel.frame _, fun h => by cases h⟩

theorem closed : joinedFacts Try.pinned.checked.prog 7 Try.f7 Rows.fnChangePairsSpec Rows.fnChangePairsRow = true := by
  unfold joinedFacts
  exact and8 (by as_aux_lemma => kernel_rfl) head_enter head_lifts head_make (by as_aux_lemma => kernel_rfl) (by as_aux_lemma => kernel_rfl) (by as_aux_lemma => kernel_rfl) (by as_aux_lemma => kernel_rfl)

theorem proved : Rows.FnChangePairsSaid :=
  OpenClaim.holds_of_wide 7 Try.f7 rfl rfl rfl rfl rfl rfl rfl ⟨rfl, rfl, rfl, rfl, rfl⟩ rfl rfl rfl rfl rfl (by kernel_rfl) Try.func7 closed
    (of_decide_eq_true (by kernel_rfl)) (by unfold Func.isWrapper; first | (rw [if_pos (by decide +kernel)]; kernel_rfl) | (rw [if_neg (by decide +kernel)]; exact ⟨rfl, rfl⟩))
    (fun os started H enc _ => lifted os started H enc)
#print axioms proved

end Go.Proofs.Ytgildagmliadeaa.lawFnChangePairs
