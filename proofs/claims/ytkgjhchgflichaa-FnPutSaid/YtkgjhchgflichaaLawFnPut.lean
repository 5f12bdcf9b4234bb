/- For every code, the drawn letter put at the drawn cell stands there, and the old one put back leads back to the drawn grid; the program's and the specification's answers are the same: the law FnPut returns true, and its argument reads as it did. No condition. -/
import Derived.Test.YtkgjhchgflichaaPK
import Derived.Test.YtkgjhchgflichaaPKG
import Derived.Test.YtkgjhchgflichaaPKD
import Derived.Test.YtkgjhchgflichaaGridP
import Derived.Test.YtkgjhchgflichaaPutS
import Derived.Test.YtkgjhchgflichaaBunG
import Derived.Test.YtkgjhchgflichaaBunC
namespace Go.Proofs.Ytkgjhchgflichaa.lawFnPut
open Go.ChangeShapes Go.WideShapes Go.ChangeAt Go.RowKit
open Go.ChangeMaps (open_string shut_string)

def T9 : List ByteArray := [⟨#[46]⟩, ⟨#[114]⟩, ⟨#[102]⟩, ⟨#[46]⟩, ⟨#[114]⟩, ⟨#[102]⟩, ⟨#[120]⟩, ⟨#[]⟩, ⟨#[114, 102]⟩]
theorem t9_small (t : ByteArray) (h : t ∈ T9) : t.size ≤ 2 := by
  unfold T9 at h
  simp only [List.mem_cons, List.not_mem_nil, or_false] at h
  rcases h with rfl | rfl | rfl | rfl | rfl | rfl | rfl | rfl | rfl <;> decide
theorem cut1 {n m r q : Nat} {ss : List ByteArray} {s : ByteArray} {b : UInt8} (h : IsGrid n m ss) (hs : ss[r]? = some s) (hq : q < m) (hb : (flat ss)[r * m + q]? = some b) : s.extract q (q + 1) = ⟨#[b]⟩ := by
  have hsz : s.size = m := (h.2.2.2.2.2 s (List.mem_of_getElem? hs)).1
  have e := flat_at ss r q s (fun i t _ ht => (h.2.2.2.2.2 t (List.mem_of_getElem? ht)).1) hs (by rw [hsz]; exact hq)
  rw [hb] at e
  have hx : (s.extract q (q + 1)).data.toList = [b] := by
    rw [Lib.extract_data, Nat.add_sub_cancel_left, List.take_one, List.head?_drop, ← e]; rfl
  apply ByteArray.ext
  apply Array.ext'
  rw [hx]
theorem facts {n m k : Nat} {b : UInt8} {ts : List ByteArray} {x : Int} {t : ByteArray} (h : PutIn ts x t n m k b) : ∃ fl b0 r q sr tr, textsOf n m ((pad (flat ts)).set k b) = fl ∧ IsGrid n m fl ∧ PutIn fl x ⟨#[b0]⟩ n m k b0 ∧ textsOf n m ((pad (flat fl)).set k b0) = ts ∧
    r < n ∧ q < m ∧ r * m + q = k ∧ ts[r]? = some sr ∧ sr.size = m ∧ sr.extract q (q + 1) = ⟨#[b0]⟩ ∧ fl[r]? = some tr ∧ tr.size = m ∧ tr.extract q (q + 1) = ⟨#[b]⟩ := by
  obtain ⟨hg, rfl, hk, rfl, hb⟩ := h
  obtain ⟨hg2, hf2⟩ := put_grid hg hk hb
  obtain ⟨b0, h0, hb0⟩ := hg.let_at hk
  have hm := hg.2.2.2.1
  have hr : k / m < n := by rw [Nat.div_lt_iff_lt_mul hm]; exact hk
  have hq : k % m < m := Nat.mod_lt _ hm
  have hrq : k / m * m + k % m = k := by rw [Nat.mul_comm]; exact Nat.div_add_mod k m
  have hl1 : k / m < ts.length := by rw [hg.1]; exact hr
  have hl2 : k / m < (textsOf n m ((pad (flat ts)).set k b)).length := by rw [textsOf_length]; exact hr
  have e1 := List.getElem?_eq_getElem hl1
  have e2 := List.getElem?_eq_getElem hl2
  have hkl : k < (flat ts).length := by rw [hg.flen]; exact hk
  have hb2 : (flat (textsOf n m ((pad (flat ts)).set k b)))[k]? = some b := by
    rw [pad_set_in hkl, (flat_texts hm (by rw [List.length_set, hg.flen])).1, List.getElem?_set_self hkl]
  exact ⟨_, b0, k / m, k % m, _, _, rfl, hg2, ⟨hg2, rfl, hk, rfl, hb0⟩, put_back hg hk hb h0, hr, hq, hrq, e1, (hg.2.2.2.2.2 _ (List.mem_of_getElem? e1)).1, cut1 hg e1 hq (by rw [hrq]; exact h0), e2, (hg2.2.2.2.2.2 _ (List.mem_of_getElem? e2)).1, cut1 hg2 e2 hq (by rw [hrq]; exact hb2)⟩

set_option maxRecDepth 100000 in
set_option maxHeartbeats 2000000 in
theorem draw_any (A : Option Addr) (len cap : Nat) (w : World) (h : CodeAt w A len) (hl : len ≤ 1048576) (hc : len ≤ cap) (hc2 : cap ≤ 9223372036854775807) :
    Calls Try.prog 41 #[.slice A len cap] w fun e w' => Below w.heap.size w w' ∧ ∃ A c ts x t, e = .returned (.tuple #[.slice A ts.length c, .int .i64 x, .string t]) ∧ LS w' A ts ∧ Drawn 4 4 ts ∧ -100 ≤ x ∧ x ≤ 100 ∧ t.size ≤ 2 := by
  have HOP := hid (dOpen A len cap w h hl hc hc2)
  clear h
  go_enter Try.func41, Try.ntmps41
  go_wp2_with fail
  refine HOP.out.mono ?_
  rintro e w1 ⟨rfl, hd⟩
  have HD1 := hid hd
  clear hd HOP
  have HC1 := hid (dSome 4 4 HD1.out (by omega) (by omega) (by omega) (by omega) (by omega))
  go_wp2_with fail
  refine HC1.out.mono ?_
  rintro e w2 ⟨hg, hd, A1, c1, ts, ht, hlc, hx, rfl⟩
  have Xts2 := hid hx
  clear hx
  have HD2 := hid hd
  clear hg hd HC1 HD1
  have HT := hid ht
  clear ht hlc
  have HC2 := hid (dAt (c := c1) HD2.out Xts2.out HT.out (by omega))
  go_wp2_with fail
  refine HC2.out.mono ?_
  rintro e w3 ⟨hg, hd, x, hx0, hx1, rfl⟩
  have Xts3 := hid (Xts2.out.step hg)
  clear Xts2
  have HD3 := hid hd
  clear hg hd HC2 HD2
  have XT9 := hid (HD3.out.texts T9)
  have HDa := hid (HD3.out.alloc (.cells (strsV T9).toArray 9))
  clear HD3
  have HD3 := hid HDa.out
  clear HDa
  have Xa := hid (Xts3.out.alloc (.cells (strsV T9).toArray 9))
  clear Xts3
  have Xts3 := hid Xa.out
  clear Xa
  have HC3 := hid (dText (c := 9) HD3.out XT9.out (by decide) (by decide) (by omega))
  go_wp2_with fail
  refine HC3.out.mono ?_
  rintro e w4 ⟨hg, hd, t, ht, rfl⟩
  have Xts4 := hid (Xts3.out.step hg)
  clear Xts3
  have HD4 := hid hd
  clear hg hd HC3 HD3
  have ht2 := t9_small t ht
  clear ht XT9
  go_wp2_with fail
  refine bodyPost_ret (results_tmp3 rfl _ _ _) rfl ?_
  exact ⟨HD4.out.below, A1, c1, ts, x, t, rfl, Xts4.out.1, HT.out, hx0, hx1, ht2⟩

set_option maxRecDepth 100000 in
set_option maxHeartbeats 4000000 in
theorem walk (v : Value) (w : World) (hc : CameB w v) :
    Calls Try.prog 11 #[v] w fun e w' => e = .returned (.bool true) ∧ Below w.heap.size w w' := by
  obtain ⟨A, len, cap, rfl, hcode, hlc, hcap⟩ := hc
  have HCD := hid hcode
  clear hcode
  go_enter Try.func11, Try.ntmps11
  by_cases hbig : 1048576 < len
  · have hbi : (1048576 : Int) < (len : Int) := by omega
    go_wp2_with fail
    go_ret
    exact ⟨rfl, Below.refl _ _⟩
  have hbi : ¬ (1048576 : Int) < (len : Int) := by omega
  have HDR := hid (draw_any A len cap w HCD.out (by omega) hlc hcap)
  have HC1 := hid (HDR.out)
  go_wp2_with fail
  refine HC1.out.mono ?_
  rintro e w1 ⟨hb, A1, c1, ts, x, t, rfl, hl, hd, hx0, hx1, ht⟩
  have HB1 := hid hb
  have Lts1 := hid hl
  clear hl
  clear hb HC1
  have HSM := hid (hd.small (by decide) (by decide))
  clear hd
  have HC2 := hid ((implGridPut_any A1 c1 ts x t w1 Lts1.out HSM.out.1 HSM.out.2).mono fun _ _ h => tend_own h)
  go_wp2_with fail
  refine HC2.out.mono ?_
  rintro e w2 ⟨hb, A2, c2, res, ok, rfl, hout, hl⟩
  have HB2 := hid (HB1.out.trans (hb.mono HB1.out.size))
  clear HB1
  have Lts2 := hid (Lts1.out.step hb)
  clear Lts1
  have Lout2 := hid hl
  clear hl
  clear hb HC2
  have HO := hid hout
  clear hout
  have HC3 := hid ((specGridPut_any A1 c1 w2.heap.size ts x t w2 Lts2.out (Nat.le_refl _) HSM.out.1 HSM.out.2 (by omega)).mono fun _ _ h => tend_spec h)
  go_wp2_with fail
  refine HC3.out.mono ?_
  rintro e w3 ⟨hb, A3, c3, res2, ok2, rfl, hout2, hl⟩
  have HB3 := hid (HB2.out.trans (hb.mono HB2.out.size))
  clear HB2
  have Lts3 := hid (Lts2.out.step hb)
  clear Lts2
  have Lout3 := hid (Lout2.out.step hb)
  clear Lout2
  have Lwant3 := hid hl
  clear hl
  clear hb HC3
  obtain ⟨rfl, rfl⟩ := HO.out.uniq hout2
  clear hout2
  rcases HO.out with ⟨n, m, k, b, hpi, rfl, rfl⟩ | ⟨_, rfl, rfl⟩
  · obtain ⟨fl, b0, r, q, sr, tr, e1, g1, p1, e2, hr, hq, hrq, hsr, hsz, hy1, htr, htz, hy2⟩ := facts hpi
    rw [e1] at Lout3 Lwant3 ⊢
    have hg := hpi.1
    obtain ⟨b1, o1, s0, rfl, hk0, hs0, hl0⟩ := Lts3.out.addr hg
    obtain ⟨b2, o2, s1, rfl, hk1, hs1, hl1⟩ := Lout3.out.addr g1
    have hkr : (k : Int) / (m : Int) = (r : Int) := by rw [← hrq]; have := (div_of (a := r) hq).1; omega
    have hkq : (k : Int) % (m : Int) = (q : Int) := by rw [← hrq]; have := (div_of (a := r) hq).2; omega
    have hm1 := hg.2.2.2.1
    have hm5 := hg.2.2.2.2.1
    have hn5 := hg.2.2.1
    have hrl : (r : Int) < (ts.length : Int) := by rw [hg.1]; omega
    have hrl2 : (r : Int) < (fl.length : Int) := by rw [g1.1]; omega
    have hqs : (q : Int) + 1 ≤ (sr.size : Int) := by omega
    have hqt : (q : Int) + 1 ≤ (tr.size : Int) := by omega
    have hxk := hpi.2.1
    subst hxk
    have htt := hpi.2.2.2.1
    subst htt
    clear e1 hpi
    have HG := hid hg
    have G1 := hid g1
    have P1 := hid p1
    have E2 := hid e2
    have HK0 := hid hk0
    have HSR := hid hsr
    have HTR := hid htr
    have HY1 := hid hy1
    have HY2 := hid hy2
    clear hg g1 p1 e2 hk0 hsr htr hy1 hy2
    clear hk1 hs1 hrq
    go_wp2_with fail
    refine (nSameT (Lout3.out) (Lwant3.out) (gsmall G1.out).1).mono ?_
    rintro e w4 ⟨hb, rfl⟩
    have HB4 := hid (HB3.out.trans (hb.mono HB3.out.size))
    clear HB3
    have Lts4 := hid (Lts3.out.step hb)
    clear Lts3
    have Lout4 := hid (Lout3.out.step hb)
    clear Lout3
    have Lwant4 := hid (Lwant3.out.step hb)
    clear Lwant3
    clear hb
    clear Lwant4
    have c0 := Lts4.out.cell0 HK0.out
    go_wp2_with fail
    clear c0
    have CR := hid (fun w' (hw : Cls w4 w') => ((Lts4.out).step hw).cellk HSR.out)
    have hr0 : (0 : Int) ≤ (r : Int) := by omega
    have hm0 : m ≠ 0 := by omega
    have hrn : r < ts.length := by omega
    have hrn2 : r < fl.length := by omega
    have hkt : (k : Int).tmod (m : Int) = (q : Int) := by rw [Int.tmod_eq_emod_of_nonneg (by omega)]; exact hkq
    have hq1 : (0 : Int) ≤ (q : Int) + 1 := by omega
    have hq2 : (q : Int) + 1 ≤ (m : Int) := by omega
    have hq3 : (q : Int) ≤ (q : Int) + 1 := by omega
    refine wp_region_quiet (C := Cls w4) (by kernel_rfl) (by kernel_rfl) (Below.refl _ w4).drew ?_
    quiet_step ((intro _; rfl))
    quiet_step ((intro _; rfl))
    quiet_step ((intro _; rfl))
    refine wpQuiet_valueW rfl (.int .i64 r) (fun w' hw => by go_simp; exact IntWalk.i64_in _ (by omega)) ?_
    refine wpQuiet_valueW rfl (.pointer (some ⟨b1, o1 + r, none⟩)) (fun w' hw => by go_simp) ?_
    refine wpQuiet_valueW rfl (.string sr) (fun w' hw => by have hc := CR.out w' hw; go_simp) ?_
    quiet_step ((intro _; rfl))
    quiet_step ((intro _; rfl))
    refine wpQuiet_valueW rfl (.int .i64 q) (fun w' hw => by go_simp) ?_
    quiet_step ((intro _; rfl))
    quiet_step ((intro _; rfl))
    refine wpQuiet_valueW rfl (.int .i64 q) (fun w' hw => by go_simp) ?_
    refine wpQuiet_valueW rfl (.int .i64 ((q : Int) + 1)) (fun w' hw => by go_simp; exact IntWalk.i64_in _ (by omega)) ?_
    refine wpQuiet_valueW rfl (.string ⟨#[b0]⟩) (fun w' hw => by go_simp; exact HY1.out) ?_
    quiet_step ((intro _; rfl))
    refine wpQuiet_nil ?_
    intro w5 hb
    have HB5 := hid (HB4.out.trans (Below.mono hb HB4.out.size))
    clear HB4
    have Lts5 := hid (Lts4.out.step hb)
    clear Lts4
    have Lout5 := hid (Lout4.out.step hb)
    clear Lout4
    clear hb
    go_wp2_with fail
    refine (nGridPut (Lout5.out) P1.out E2.out).mono ?_
    rintro e w6 ⟨hb, A5, c5, rfl, hl⟩
    have HB6 := hid (HB5.out.trans (hb.mono HB5.out.size))
    clear HB5
    have Lts6 := hid (Lts5.out.step hb)
    clear Lts5
    have Lout6 := hid (Lout5.out.step hb)
    clear Lout5
    have Lx6 := hid hl
    clear hl
    clear hb
    go_wp2_with fail
    clear CR
    have CT := hid (fun w' (hw : Cls w6 w') => ((Lout6.out).step hw).cellk HTR.out)
    refine wp_region_quiet (C := Cls w6) (by kernel_rfl) (by kernel_rfl) (Below.refl _ w6).drew ?_
    quiet_step ((intro _; rfl))
    quiet_step ((intro _; rfl))
    quiet_step ((intro _; rfl))
    quiet_step ((intro _; rfl))
    refine wpQuiet_callW rfl 21 #[.slice A5 ts.length c5, .slice (some ⟨b1, o1, none⟩) ts.length c1] (.bool true) (fun w _ => by go_simp) (fun w' hw => (nSameT ((Lx6.out).step hw) ((Lts6.out).step hw) (gsmall HG.out).1).mono fun e w'' ⟨hb, he⟩ => ⟨he, Below.trans hw (hb.mono (Below.size hw))⟩) ?_
    quiet_step ((intro _; rfl))
    quiet_step ((intro _; rfl))
    quiet_step ((intro _; rfl))
    quiet_step ((intro _; rfl))
    quiet_step ((intro _; rfl))
    refine wpQuiet_valueW rfl (.int .i64 r) (fun w' hw => by go_simp; exact IntWalk.i64_in _ (by omega)) ?_
    refine wpQuiet_valueW rfl (.pointer (some ⟨b2, o2 + r, none⟩)) (fun w' hw => by go_simp) ?_
    refine wpQuiet_valueW rfl (.string tr) (fun w' hw => by have hc := CT.out w' hw; go_simp) ?_
    quiet_step ((intro _; rfl))
    quiet_step ((intro _; rfl))
    refine wpQuiet_valueW rfl (.int .i64 q) (fun w' hw => by go_simp) ?_
    quiet_step ((intro _; rfl))
    quiet_step ((intro _; rfl))
    refine wpQuiet_valueW rfl (.int .i64 q) (fun w' hw => by go_simp) ?_
    refine wpQuiet_valueW rfl (.int .i64 ((q : Int) + 1)) (fun w' hw => by go_simp; exact IntWalk.i64_in _ (by omega)) ?_
    refine wpQuiet_valueW rfl (.string ⟨#[b]⟩) (fun w' hw => by go_simp; exact HY2.out) ?_
    quiet_step ((intro _; rfl))
    quiet_step ((intro _; rfl))
    quiet_step ((intro _; rfl))
    quiet_step ((intro _; rfl))
    refine wpQuiet_nil ?_
    intro w7 hb
    have HB7 := hid (HB6.out.trans (Below.mono hb HB6.out.size))
    clear HB6
    have Lts7 := hid (Lts6.out.step hb)
    clear Lts6
    have Lout7 := hid (Lout6.out.step hb)
    clear Lout6
    have Lx7 := hid (Lx6.out.step hb)
    clear Lx6
    clear hb
    go_wp2_with fail
    go_ret
    exact ⟨rfl, HB7.out⟩
  · skip
    go_wp2_with fail
    refine (nSameT (Lout3.out) (Lwant3.out) (by simp)).mono ?_
    rintro e w4 ⟨hb, rfl⟩
    have HB4 := hid (HB3.out.trans (hb.mono HB3.out.size))
    clear HB3
    have Lts4 := hid (Lts3.out.step hb)
    clear Lts3
    have Lout4 := hid (Lout3.out.step hb)
    clear Lout3
    have Lwant4 := hid (Lwant3.out.step hb)
    clear Lwant3
    clear hb
    go_wp2_with fail
    refine (nSameT (Lout4.out) (Lwant4.out) (by simp)).mono ?_
    rintro e w5 ⟨hb, rfl⟩
    have HB5 := hid (HB4.out.trans (hb.mono HB4.out.size))
    clear HB4
    have Lts5 := hid (Lts4.out.step hb)
    clear Lts4
    have Lout5 := hid (Lout4.out.step hb)
    clear Lout4
    have Lwant5 := hid (Lwant4.out.step hb)
    clear Lwant4
    clear hb
    go_wp2_with fail
    go_ret
    exact ⟨rfl, HB5.out⟩

set_option maxRecDepth 100000 in
theorem lifted (os : Os) (started : os.Started) (H : Type) (enc : TypeId × Value → H) :
    ReturnsInHanded {} Try.checked os 11 .any (Rows.fnPutSpec.pre6 enc Try.prog Try.f11 Rows.fnPutRow.domain false) (Rows.fnPutSpec.post enc Try.prog Try.f11 false true false false) := by
  refine returnsInHanded_of_change (C := Try.checked) Try.own started (by kernel_rfl) Try.func11
    (ChangeSpec.witness6 (enc := enc) (C := Try.checked) false ⟨#[], #[.slice none 0 0], []⟩ 8 (by kernel_rfl) (by kernel_rfl) (by kernel_rfl) (by kernel_rfl)) ?_
  intro W base args ds gs before hval0 hW hcnd _
  have hval : ∀ (j : Nat) t v, Try.f11.params[j]? = some t → args[j]? = some v → Value.okWide Try.prog W .any base t v := hval0
  have hW' := hW
  obtain ⟨p, q, hA0, hV, rfl, hfz, hnd⟩ := hW
  have hA : DataW.TrodAll enc Try.prog W 0 (fun _ => true) true Try.f11.params.toList args.toList ds p := hA0
  rw [Try.params11] at hA hval
  obtain ⟨v0, vs0, d0, ds0, p0, q0, hargs, rfl, rfl, h0, r0⟩ := trodAll_cons hA
  obtain ⟨rfl, rfl, rfl⟩ := trodAll_nil r0
  obtain rfl : args = #[v0] := by cases args; simp_all
  obtain ⟨rfl, rfl⟩ := trodVars_none hV
  have k0 := h0
  have lt0 : ∀ x ∈ p0, x.block < W.heap.size := by obtain ⟨m, hm⟩ := k0; exact DataW.trod_lt m _ _ _ hm
  have c0 := cameB_of (hval 0 22 v0 rfl rfl) h0
  clear hA0 hval0
  refine (walk v0 W c0).mono fun e W' ⟨he, bel⟩ => ?_
  subst he
  exact ⟨_, rfl, _, _, _, [], _, [], hW', trodAll_mk1 (shut_bool Try.underlying4 _), (trodAll_cons_mk (Below.trod Try.laidOut (by kernel_rfl) (of_decide_eq_true (by kernel_rfl)) k0 bel lt0) trodAll_mk0), rfl, bel.frame _, fun h => by cases h⟩

theorem closed : joinedFacts Try.pinned.checked.prog 11 Try.f11 Rows.fnPutSpec Rows.fnPutRow = true := by
  unfold joinedFacts
  exact and8 (by as_aux_lemma => kernel_rfl) head_enter head_lifts head_make (by as_aux_lemma => kernel_rfl) (by as_aux_lemma => kernel_rfl) (by as_aux_lemma => kernel_rfl) (by as_aux_lemma => kernel_rfl)

theorem proved : Rows.FnPutSaid :=
  OpenClaim.holds_of_wide 11 Try.f11 rfl rfl rfl rfl rfl rfl rfl ⟨rfl, rfl, rfl, rfl, rfl⟩ rfl rfl rfl rfl rfl (by kernel_rfl) Try.func11 closed
    (of_decide_eq_true (by kernel_rfl)) (by unfold Func.isWrapper; first | (rw [if_pos (by decide +kernel)]; kernel_rfl) | (rw [if_neg (by decide +kernel)]; exact ⟨rfl, rfl⟩))
    (fun os started H enc _ => lifted os started H enc)
#print axioms proved

end Go.Proofs.Ytkgjhchgflichaa.lawFnPut
