/- For every code, exchanging the drawn mirror changes the number of paths by 1, 0 or -1, and exchanging it back by this with its sign turned; the program's and the specification's answers are the same: the law FnDelta returns true, and its argument reads as it did. No condition. -/
import Derived.Test.YtgapdlokljcpbaaPKR
import Derived.Test.YtgapdlokljcpbaaPKG
import Derived.Test.YtgapdlokljcpbaaDrawCell
import Derived.Test.YtgapdlokljcpbaaBunB
import Derived.Test.YtgapdlokljcpbaaExch
import Derived.Test.YtgapdlokljcpbaaBunR
import Derived.Test.YtgapdlokljcpbaaGridQ
namespace Go.Proofs.Ytgapdlokljcpbaa.lawFnDelta
open Go.ChangeShapes Go.WideShapes Go.ChangeAt Go.RowKit
open Go.ChangeMaps (open_string shut_string)

theorem lett_at {m c : Nat} {ls : List UInt8} {b : UInt8} (hl : c < ls.length) : lett m (ls.set c b) (placeN m c).i (placeN m c).k = b := by
  rw [lett_place, List.getD_eq_getElem?_getD, List.getElem?_set_self hl]
  rfl
theorem lett_off {n m c : Nat} {ls : List UInt8} {b b' : UInt8} (hc : c < n * m) : OffSame n m (lett m (ls.set c b)) (lett m (ls.set c b')) (placeN m c).i (placeN m c).k := fun x hx hat => by
  have hm : 0 < m := by
    rcases Nat.eq_zero_or_pos m with h0 | h0
    · subst h0; simp at hc
    · exact h0
  have h1 := cellN_iff (i := c / m) hx (Nat.mod_lt c hm)
  rw [show c / m * m + c % m = c by rw [Nat.mul_comm]; exact Nat.div_add_mod c m] at h1
  have hne : cellN m x ≠ c := fun e => hat (h1.1 e)
  unfold lett
  rw [cellN_int hx, Int.toNat_natCast, List.getD_eq_getElem?_getD, List.getD_eq_getElem?_getD, List.getElem?_set_ne (fun e => hne e.symm), List.getElem?_set_ne (fun e => hne e.symm)]
/-- Two letters of a cell: the numbers of paths differ by one at most. -/
theorem near {n m c : Nat} {ls : List UInt8} {b b' : UInt8} (hc : c < n * m) (hl : c < ls.length) (hb : isLet b = true) (hb' : isLet b' = true) : -1 ≤ (pathsR n m (lett m (ls.set c b))).1 - (pathsR n m (lett m (ls.set c b'))).1 ∧ (pathsR n m (lett m (ls.set c b))).1 - (pathsR n m (lett m (ls.set c b'))).1 ≤ 1 := by
  have h3 := three_leads (n := n) (m := m) (t0 := lett m (ls.set c 46)) (t1 := lett m (ls.set c 114)) (t2 := lett m (ls.set c 102)) (i := (placeN m c).i) (k := (placeN m c).k) (placeN_in hc) (lett_off hc) (lett_off hc) (lett_at hl) (lett_at hl) (lett_at hl)
  unfold law3 at h3
  rw [Bool.or_eq_true, beq_iff_eq, beq_iff_eq] at h3
  simp only [isLet, Bool.or_eq_true, beq_iff_eq] at hb hb'
  rcases hb with (rfl | rfl) | rfl <;> rcases hb' with (rfl | rfl) | rfl <;> simp only [pathsR] <;> omega
theorem set_same {ls : List UInt8} {c : Nat} {b : UInt8} (h : ls[c]? = some b) : ls.set c b = ls := by
  apply List.ext_getElem?
  intro i
  by_cases hi : c = i
  · subst hi; rw [List.getElem?_set_self (List.getElem?_eq_some_iff.1 h).1, h]
  · rw [List.getElem?_set_ne hi]
theorem pad_at {n m c : Nat} {ts : List ByteArray} (h : IsGrid n m ts) (hc : c < n * m) : ∃ b, (pad (flat ts))[c]? = some b ∧ isLet b = true ∧ lett m (pad (flat ts)) ((c / m : Nat) : Int) ((c % m : Nat) : Int) = b ∧ (flat ts)[c]? = some b := by
  obtain ⟨b, h1, h2⟩ := h.let_at hc
  have hcl : c < (flat ts).length := by rw [h.flen]; exact hc
  have e : (pad (flat ts))[c]? = some b := by unfold pad; rw [List.getElem?_append_left hcl]; exact h1
  refine ⟨b, e, h2, ?_, h1⟩
  have hl := lett_place (m := m) (c := c) (ls := pad (flat ts))
  have h3 : lett m (pad (flat ts)) ((c / m : Nat) : Int) ((c % m : Nat) : Int) = (pad (flat ts)).getD c 0 := hl
  rw [h3, List.getD_eq_getElem?_getD, e]
  rfl

theorem row_letter {n m c : Nat} {ts : List ByteArray} {b : UInt8} (hg : IsGrid n m ts) (hb : (flat ts)[c]? = some b) : ∃ (r q : Nat) (s : ByteArray) (hqs : q < s.size), r < n ∧ q < m ∧ (c : Int) / (m : Int) = (r : Int) ∧ (c : Int) % (m : Int) = (q : Int) ∧ ts[r]? = some s ∧ s.size = m ∧ s[q]'hqs = b := by
  have hm := hg.2.2.2.1
  have hc : c < n * m := by rw [← hg.flen]; exact (List.getElem?_eq_some_iff.1 hb).1
  have hr : c / m < n := by rw [Nat.div_lt_iff_lt_mul hm]; exact hc
  have hq : c % m < m := Nat.mod_lt _ hm
  have hrq : c / m * m + c % m = c := by rw [Nat.mul_comm]; exact Nat.div_add_mod c m
  have e1 := List.getElem?_eq_getElem (show c / m < ts.length by rw [hg.1]; exact hr)
  have hsz := (hg.2.2.2.2.2 _ (List.mem_of_getElem? e1)).1
  have hqs : c % m < (ts[c / m]'(by rw [hg.1]; exact hr)).size := by rw [hsz]; exact hq
  have e2 := flat_at ts (c / m) (c % m) _ (fun i t _ ht => (hg.2.2.2.2.2 t (List.mem_of_getElem? ht)).1) e1 hqs
  rw [hrq, hb] at e2
  exact ⟨c / m, c % m, _, hqs, hr, hq, rfl, rfl, e1, hsz, byte_of e2.symm hqs⟩
theorem facts {n m c : Nat} {ts : List ByteArray} {x : Int} (h : MirrorIn ts x n m c) : ∃ (d : Int) (b o : UInt8) (fl : List ByteArray), deltaR n m (pad (flat ts)) c = (d, true) ∧ -1 ≤ d ∧ d ≤ 1 ∧ x = (c : Int) ∧ c ≤ 25 ∧ (flat ts)[c]? = some b ∧ (b = 114 ∧ o = 102 ∨ b = 102 ∧ o = 114) ∧ textsOf n m ((pad (flat ts)).set c o) = fl ∧ PutIn ts (c : Int) ⟨#[o]⟩ n m c o ∧ MirrorIn fl (c : Int) n m c ∧
    deltaR n m (pad (flat fl)) c = (0 - d, true) := by
  obtain ⟨⟨hg, hx, hc⟩, h46⟩ := h
  obtain ⟨b, h0, hb, hlb, hfb⟩ := pad_at hg hc
  rw [hlb] at h46
  have ho := isLet_oth b hb
  have hp := put_grid (b := oth b) hg hc ho
  have hl : c < (pad (flat ts)).length := by rw [hg.plen]; have := hg.le25; omega
  have hn := near (n := n) (m := m) (b := oth b) (b' := b) hc hl ho hb
  rw [set_same h0] at hn
  have hbo : (b = 114 ∧ oth b = 102 ∨ b = 102 ∧ oth b = 114) := by
    simp only [isLet, Bool.or_eq_true, beq_iff_eq] at hb
    rcases hb with (rfl | rfl) | rfl
    · exact absurd rfl h46
    · exact .inl ⟨rfl, rfl⟩
    · exact .inr ⟨rfl, rfl⟩
  have hlo : lett m ((pad (flat ts)).set c (oth b)) ((c / m : Nat) : Int) ((c % m : Nat) : Int) = oth b := lett_at (m := m) hl
  have hoo : oth (oth b) = b := by rcases hbo with ⟨rfl, _⟩ | ⟨rfl, _⟩ <;> rfl
  have h25 := hg.le25
  refine ⟨diffR n m (pad (flat ts)) c (oth b), b, oth b, _, by unfold deltaR; rw [hlb], hn.1, hn.2, hx, by omega, hfb, hbo, rfl, ⟨hg, rfl, hc, rfl, ho⟩, ⟨⟨hp.1, rfl, hc⟩, ?_⟩, ?_⟩
  · rw [hp.2, hlo]
    rcases hbo with ⟨rfl, _⟩ | ⟨rfl, _⟩ <;> decide
  · unfold deltaR
    rw [hp.2, hlo, hoo]
    unfold diffR
    rw [List.set_set, set_same h0]
    congr 1
    omega

set_option maxRecDepth 100000 in
set_option maxHeartbeats 1000000 in
theorem draw_any (A : Option Addr) (len cap : Nat) (w : World) (h : CodeAt w A len) (hl : len ≤ 1048576) (hc : len ≤ cap) (hc2 : cap ≤ 9223372036854775807) :
    Calls Try.prog 19 #[.slice A len cap] w fun e w' => Below w.heap.size w w' ∧ ∃ A c ts x, e = .returned (.tuple #[.slice A ts.length c, .int .i64 x]) ∧ LS w' A ts ∧ Drawn 4 4 ts ∧ -100 ≤ x ∧ x ≤ 100 := by
  have HC := hid (l91Cell_any A len cap w h hl hc hc2)
  clear h
  go_enter Try.func19, Try.ntmps19
  go_wp2_with fail
  refine HC.out.mono ?_
  rintro e w1 ⟨⟨A1, c1, ts, x, rfl, hst, hd, hx⟩, hb⟩
  have HST := hid hst
  have HD := hid hd
  have HX := hid hx
  have HB := hid hb
  clear hst hd hx hb
  go_wp2_with fail
  refine bodyPost_ret (results_tmp2 rfl _ _ _) rfl ?_
  exact ⟨HB.out, A1, c1, ts, x, rfl, HST.out, HD.out, HX.out⟩

set_option maxRecDepth 100000 in
set_option maxHeartbeats 4000000 in
theorem walk (v : Value) (w : World) (hc : CameB w v) :
    Calls Try.prog 4 #[v] w fun e w' => e = .returned (.bool true) ∧ Below w.heap.size w w' := by
  obtain ⟨A, len, cap, rfl, hcode, hlc, hcap⟩ := hc
  have HCD := hid hcode
  clear hcode
  go_enter Try.func4, Try.ntmps4
  by_cases hbig : 1048576 < len
  · have hbi : (1048576 : Int) < (len : Int) := by omega
    go_wp2_with fail
    go_ret
    exact ⟨rfl, Below.refl _ _⟩
  have hbi : ¬ (1048576 : Int) < (len : Int) := by omega
  have HDR := hid (draw_any A len cap w HCD.out (by omega) hlc hcap)
  have HC1 := hid (HDR.out)
  go_wp2_with fail
  refine HC1.out.mono ?_
  rintro e w1 ⟨hb, A1, c1, ts, x, rfl, hl, hd, hx0, hx1⟩
  have HB1 := hid hb
  have Lts1 := hid hl
  clear hl
  clear hb HC1
  have HSM := hid (hd.small (by decide) (by decide))
  clear hd
  have HC2 := hid (implChangeDelta_any A1 c1 ts x w1 Lts1.out HSM.out.1 HSM.out.2)
  go_wp2_with fail
  refine HC2.out.mono ?_
  rintro e w2 ⟨hb, out, ok, rfl, hout⟩
  have HB2 := hid (HB1.out.trans (hb.mono HB1.out.size))
  clear HB1
  have Lts2 := hid (Lts1.out.step hb)
  clear Lts1
  clear hb HC2
  have HO := hid hout
  clear hout
  have HC3 := hid (specChangeDelta_any A1 c1 w2.heap.size ts x w2 Lts2.out (Nat.le_refl _) HSM.out.1 HSM.out.2)
  go_wp2_with fail
  refine HC3.out.mono ?_
  rintro e w3 ⟨hb, out2, ok2, rfl, hout2⟩
  have HB3 := hid (HB2.out.trans (hb.mono HB2.out.size))
  clear HB2
  have Lts3 := hid (Lts2.out.step hb)
  clear Lts2
  clear hb HC3
  obtain ⟨rfl, rfl⟩ := HO.out.uniq hout2
  clear hout2
  rcases HO.out with ⟨n, m, c, hp, hv⟩ | ⟨_, rfl, rfl⟩
  · obtain ⟨d, b, o, fl, hR, hd0, hd1, rfl, hc25, hfb, hbo, e1, p1, p2, e2⟩ := facts hp
    rw [hR] at hv
    obtain ⟨rfl, rfl⟩ := Prod.mk.inj hv
    clear hv hR
    have hg := hp.1.1
    obtain ⟨b0, o0, s0, rfl, hk0, hs0, hl0⟩ := Lts3.out.addr hg
    have hn : ((ts.length : Nat) : Int) = (n : Int) := by rw [(hg).1]
    have hn0 : 0 < n := (hg).2.1
    have hn5 := (hg).2.2.1
    have hm1 := (hg).2.2.2.1
    have hm5 := (hg).2.2.2.2.1
    have HK0 := hid hk0
    clear hk0
    obtain ⟨r, cq, s, hqs, hr, hcq, hdiv, hmod, hsr, hsz, hbyte⟩ := row_letter hg hfb
    have HSR := hid hsr
    have hrl : r < ts.length := by rw [hg.1]; exact hr
    have hri : (r : Int) < (n : Int) := by omega
    have hri0 : (0 : Int) ≤ (r : Int) := by omega
    have hszi : ((s.size : Nat) : Int) = (m : Int) := by rw [hsz]
    have hci : (cq : Int) < (m : Int) := by omega
    have hci0 : (0 : Int) ≤ (cq : Int) := by omega
    have ha0 : (0 : Int) ≤ (c : Int) := by omega
    have hr5 : (r : Int) < 5 := by omega
    have hc5 : (cq : Int) < 5 := by omega
    have ha25 : (c : Int) ≤ 25 := by omega
    have htm : (c : Int).tmod (m : Int) = (cq : Int) := by rw [Int.tmod_eq_emod_of_nonneg ha0]; exact hmod
    have htd : (c : Int).tdiv (m : Int) = (r : Int) := by rw [Int.tdiv_eq_ediv_of_nonneg ha0]; exact hdiv
    have hmz : ((m : Int) == 0) = false := by simp; omega
    have hmz2 : ¬ m = 0 := by omega
    have hm0i : (1 : Int) ≤ (m : Int) := by omega
    have HSZ := hid hsz
    clear hsz hsr hg hfb hp
    have c0 := Lts3.out.cell0 HK0.out
    have E1 := hid e1
    have P1 := hid p1
    have P2 := hid p2
    have E2 := hid e2
    clear e1 p1 p2 e2
    rcases hbo with ⟨rfl, rfl⟩ | ⟨rfl, rfl⟩
    · have HBY := hid hbyte
      clear hbyte
      go_wp2_with fail
      have CC := hid (fun w' (hw : Cls w3 w') => ((Lts3.out).step hw).cellk HSR.out)
      refine wp_region_quiet (C := Cls w3) (by kernel_rfl) (by kernel_rfl) (Below.refl _ w3).drew ?_
      quiet_step ((intro _; rfl))
      quiet_step ((intro _; rfl))
      quiet_step ((intro _; rfl))
      refine wpQuiet_valueW rfl (.int .i64 (r : Int)) (fun w' hw => by first | (go_simp; done) | (go_simp; exact IntWalk.i64_in _ (by omega))) ?_
      refine wpQuiet_valueW rfl (.pointer (some ⟨b0, o0 + r, none⟩)) (fun w' hw => by go_simp) ?_
      refine wpQuiet_valueW rfl (.string s) (fun w' hw => by have hc := CC.out w' hw; go_simp) ?_
      quiet_step ((intro _; rfl))
      quiet_step ((intro _; rfl))
      refine wpQuiet_valueW rfl (.int .i64 (cq : Int)) (fun w' hw => by go_simp) ?_
      refine wpQuiet_valueW rfl (.int .u8 114) (fun w' hw => by first | (go_simp; done) | (go_simp; rw [HBY.out]; rfl)) ?_
      refine wpQuiet_valueW rfl (.bool true) (fun w' hw => by go_simp) ?_
      refine wpQuiet_nil ?_
      intro w4 hb
      have HB4 := hid (HB3.out.trans (Below.mono hb HB3.out.size))
      clear HB3
      have Lts4 := hid (Lts3.out.step hb)
      clear Lts3
      clear hb
      go_wp2_with fail
      refine (nGridPut (Lts4.out) P1.out E1.out).mono ?_
      rintro e w5 ⟨hb, A5, c5, rfl, hl⟩
      have HB5 := hid (HB4.out.trans (hb.mono HB4.out.size))
      clear HB4
      have Lts5 := hid (Lts4.out.step hb)
      clear Lts4
      have Lh5 := hid hl
      clear hl
      clear hb
      go_wp2_with fail
      refine (nChangeDelta (Lh5.out) P2.out E2.out).mono ?_
      rintro e w6 ⟨hb, rfl⟩
      have HB6 := hid (HB5.out.trans (hb.mono HB5.out.size))
      clear HB5
      have Lts6 := hid (Lts5.out.step hb)
      clear Lts5
      have Lh6 := hid (Lh5.out.step hb)
      clear Lh5
      clear hb
      go_wp2_with fail
      go_ret
      exact ⟨rfl, HB6.out⟩
    · have HBY := hid hbyte
      clear hbyte
      go_wp2_with fail
      have CC := hid (fun w' (hw : Cls w3 w') => ((Lts3.out).step hw).cellk HSR.out)
      refine wp_region_quiet (C := Cls w3) (by kernel_rfl) (by kernel_rfl) (Below.refl _ w3).drew ?_
      quiet_step ((intro _; rfl))
      quiet_step ((intro _; rfl))
      quiet_step ((intro _; rfl))
      refine wpQuiet_valueW rfl (.int .i64 (r : Int)) (fun w' hw => by first | (go_simp; done) | (go_simp; exact IntWalk.i64_in _ (by omega))) ?_
      refine wpQuiet_valueW rfl (.pointer (some ⟨b0, o0 + r, none⟩)) (fun w' hw => by go_simp) ?_
      refine wpQuiet_valueW rfl (.string s) (fun w' hw => by have hc := CC.out w' hw; go_simp) ?_
      quiet_step ((intro _; rfl))
      quiet_step ((intro _; rfl))
      refine wpQuiet_valueW rfl (.int .i64 (cq : Int)) (fun w' hw => by go_simp) ?_
      refine wpQuiet_valueW rfl (.int .u8 102) (fun w' hw => by first | (go_simp; done) | (go_simp; rw [HBY.out]; rfl)) ?_
      refine wpQuiet_valueW rfl (.bool false) (fun w' hw => by go_simp) ?_
      refine wpQuiet_nil ?_
      intro w4 hb
      have HB4 := hid (HB3.out.trans (Below.mono hb HB3.out.size))
      clear HB3
      have Lts4 := hid (Lts3.out.step hb)
      clear Lts3
      clear hb
      go_wp2_with fail
      refine (nGridPut (Lts4.out) P1.out E1.out).mono ?_
      rintro e w5 ⟨hb, A5, c5, rfl, hl⟩
      have HB5 := hid (HB4.out.trans (hb.mono HB4.out.size))
      clear HB4
      have Lts5 := hid (Lts4.out.step hb)
      clear Lts4
      have Lh5 := hid hl
      clear hl
      clear hb
      go_wp2_with fail
      refine (nChangeDelta (Lh5.out) P2.out E2.out).mono ?_
      rintro e w6 ⟨hb, rfl⟩
      have HB6 := hid (HB5.out.trans (hb.mono HB5.out.size))
      clear HB5
      have Lts6 := hid (Lts5.out.step hb)
      clear Lts5
      have Lh6 := hid (Lh5.out.step hb)
      clear Lh5
      clear hb
      go_wp2_with fail
      go_ret
      exact ⟨rfl, HB6.out⟩
  · skip
    go_wp2_with fail
    go_ret
    exact ⟨rfl, HB3.out⟩

set_option maxRecDepth 100000 in
theorem lifted (os : Os) (started : os.Started) (H : Type) (enc : TypeId × Value → H) :
    ReturnsInHanded {} Try.checked os 4 .any (Rows.fnDeltaSpec.pre6 enc Try.prog Try.f4 Rows.fnDeltaRow.domain false) (Rows.fnDeltaSpec.post enc Try.prog Try.f4 false true false false) := by
  refine returnsInHanded_of_change (C := Try.checked) Try.own started (by kernel_rfl) Try.func4
    (ChangeSpec.witness6 (enc := enc) (C := Try.checked) false ⟨#[], #[.slice none 0 0], []⟩ 8 (by kernel_rfl) (by kernel_rfl) (by kernel_rfl) (by kernel_rfl)) ?_
  intro W base args ds gs before hval0 hW hcnd _
  have hval : ∀ (j : Nat) t v, Try.f4.params[j]? = some t → args[j]? = some v → Value.okWide Try.prog W .any base t v := hval0
  have hW' := hW
  obtain ⟨p, q, hA0, hV, rfl, hfz, hnd⟩ := hW
  have hA : DataW.TrodAll enc Try.prog W 0 (fun _ => true) true Try.f4.params.toList args.toList ds p := hA0
  rw [Try.params4] at hA hval
  obtain ⟨v0, vs0, d0, ds0, p0, q0, hargs, rfl, rfl, h0, r0⟩ := trodAll_cons hA
  obtain ⟨rfl, rfl, rfl⟩ := trodAll_nil r0
  obtain rfl : args = #[v0] := by cases args; simp_all
  obtain ⟨rfl, rfl⟩ := trodVars_none hV
  have k0 := h0
  have lt0 : ∀ x ∈ p0, x.block < W.heap.size := by obtain ⟨m, hm⟩ := k0; exact DataW.trod_lt m _ _ _ hm
  have c0 := cameB_of (hval 0 22 v0 rfl rfl) h0
  clear hA0 hval0
  refine (walk v0 W c0).mono fun e W' ⟨he, bel⟩ => ?_
  subst he
  exact ⟨_, rfl, _, _, _, [], _, [], hW', trodAll_mk1 (shut_bool Try.underlying4 _), (trodAll_cons_mk (Below.trod Try.laidOut (by kernel_rfl) (of_decide_eq_true (by kernel_rfl)) k0 bel lt0) trodAll_mk0), rfl, bel.frame _, fun h => by cases h⟩

theorem closed : joinedFacts Try.pinned.checked.prog 4 Try.f4 Rows.fnDeltaSpec Rows.fnDeltaRow = true := by
  unfold joinedFacts
  exact and8 (by as_aux_lemma => kernel_rfl) head_enter head_lifts head_make (by as_aux_lemma => kernel_rfl) (by as_aux_lemma => kernel_rfl) (by as_aux_lemma => kernel_rfl) (by as_aux_lemma => kernel_rfl)

theorem proved : Rows.FnDeltaSaid :=
  OpenClaim.holds_of_wide 4 Try.f4 rfl rfl rfl rfl rfl rfl rfl ⟨rfl, rfl, rfl, rfl, rfl⟩ rfl rfl rfl rfl rfl (by kernel_rfl) Try.func4 closed
    (of_decide_eq_true (by kernel_rfl)) (by unfold Func.isWrapper; first | (rw [if_pos (by decide +kernel)]; kernel_rfl) | (rw [if_neg (by decide +kernel)]; exact ⟨rfl, rfl⟩))
    (fun os started H enc _ => lifted os started H enc)
#print axioms proved

end Go.Proofs.Ytgapdlokljcpbaa.lawFnDelta
