/- For every code, the first mirror of the drawn beam is on its way, behind empty cells; the program's and the specification's answers are the same: the law FnFirst returns true, and its argument reads as it did. No condition. -/
import Derived.Test.YtpbppkidglmacaaPK
import Derived.Test.YtpbppkidglmacaaPKB
import Derived.Test.YtpbppkidglmacaaDrawPort
import Derived.Test.YtpbppkidglmacaaBeamP
import Derived.Test.YtpbppkidglmacaaSpecTurns
namespace Go.Proofs.Ytpbppkidglmacaa.lawFnFirst
open Go.ChangeShapes Go.WideShapes Go.ChangeAt Go.RowKit
open Go.ChangeMaps (open_string shut_string)

theorem row_letter {n m c : Nat} {ts : List ByteArray} {b : UInt8} (hg : IsGrid n m ts) (hb : (flat ts)[c]? = some b) : ∃ (r q : Nat) (s : ByteArray) (hqs : q < s.size), r < n ∧ q < m ∧ (c : Int) / (m : Int) = (r : Int) ∧ (c : Int) % (m : Int) = (q : Int) ∧ ts[r]? = some s ∧ s.size = m ∧ s[q]'hqs = b := by
  have hm := hg.2.2.2.1
  have hc : c < n * m := by rw [← hg.flen]; exact (List.getElem?_eq_some_iff.1 hb).1
  have hr : c / m < n := by rw [Nat.div_lt_iff_lt_mul hm]; exact hc
  have hq : c % m < m := Nat.mod_lt _ hm
  have hrq : c / m * m + c % m = c := by rw [Nat.mul_comm]; exact Nat.div_add_mod c m
  have e1 := List.getElem?_eq_getElem (show c / m < ts.length by rw [hg.1]; exact hr)
  have hsz := (hg.2.2.2.2.2 _ (List.mem_of_getElem? e1)).1
  have hqs : c % m < (ts[c / m]'(by rw [hg.1]; exact hr)).size := by rw [hsz]; exact hq
  have e2 := flat_at ts (c / m) (c % m) _ (fun i t _ ht => (hg.2.2.2.2.2 t (List.mem_of_getElem? ht)).1) e1 hqs
  rw [hrq, hb] at e2
  exact ⟨c / m, c % m, _, hqs, hr, hq, rfl, rfl, e1, hsz, byte_of e2.symm hqs⟩
theorem facts {n m q : Nat} {ts : List ByteArray} {x : Int} {out : Int} {ok : Bool} (h : PortIn ts x n m q) (hR : (out, ok) = firstR n m (lett m (pad (flat ts))) q) : (out = 0 ∧ ok = false) ∨ ∃ (M j c k : Nat) (l : List Int) (b : UInt8), ok = true ∧ out = (c : Int) ∧ wayR n m (lett m (pad (flat ts))) q = l ∧ l.length = M ∧ M ≤ 100 ∧ j < M ∧ l[j]? = some (c : Int) ∧ c ≤ 25 ∧ (flat ts)[c]? = some b ∧ b ≠ 46 ∧
    turnsR n m (lett m (pad (flat ts))) q = ((k : Int), true) ∧ 1 ≤ k ∧ ∀ i, i < j → ∃ a : Nat, l[i]? = some (a : Int) ∧ a ≤ 25 ∧ a ≠ c ∧ (flat ts)[a]? = some 46 := by
  obtain ⟨hg, hx, hq⟩ := h
  have hn := hg.2.1
  have hm := hg.2.2.2.1
  have h25 := hg.le25
  have h2 := blen_two (n := n) (t := lett m (pad (flat ts))) hm hq
  have hcell : ∀ i, i < blen n m (lett m (pad (flat ts))) q → cellN m (bway n m (lett m (pad (flat ts))) q i) < n * m ∧ (flat ts)[cellN m (bway n m (lett m (pad (flat ts))) q i)]? = some (lett m (pad (flat ts)) (bway n m (lett m (pad (flat ts))) q i).i (bway n m (lett m (pad (flat ts))) q i).k) := fun i hi => ⟨cellN_lt (blen_in hi), lett_flat hg (blen_in hi)⟩
  unfold firstR at hR
  cases hf : (List.range (blen n m (lett m (pad (flat ts))) q)).find? (mirrorAt (lett m (pad (flat ts))) (bway n m (lett m (pad (flat ts))) q)) with
  | none =>
    rw [hf] at hR
    obtain ⟨rfl, rfl⟩ := Prod.mk.inj hR
    exact .inl ⟨rfl, rfl⟩
  | some j =>
    rw [hf] at hR
    obtain ⟨rfl, rfl⟩ := Prod.mk.inj hR
    have hj := List.mem_range.1 (List.mem_of_find?_eq_some hf)
    have hmj := List.find?_some hf
    obtain ⟨c1, c2⟩ := hcell j hj
    have hno : ∀ i, i < j → mirrorAt (lett m (pad (flat ts))) (bway n m (lett m (pad (flat ts))) q) i = false := fun i hi => by
      obtain ⟨_, i', hi1, hi2, hi3⟩ := List.find?_eq_some_iff_getElem.1 hf
      rw [List.getElem_range] at hi2
      subst hi2
      have := hi3 i hi
      rw [List.getElem_range] at this
      simpa using this
    refine .inr ⟨blen n m (lett m (pad (flat ts))) q, j, _, _, _, _, rfl, rfl, rfl, by unfold wayR; rw [cellsI_length], by omega, hj, cellsI_at hj, by omega, c2, ?_, rfl, List.countP_pos_iff.2 ⟨j, List.mem_range.2 hj, hmj⟩, fun i hi => ?_⟩
    · unfold mirrorAt at hmj
      exact bne_iff_ne.1 hmj
    · obtain ⟨d1, d2⟩ := hcell i (by omega)
      have hmi := hno i hi
      unfold mirrorAt at hmi hmj
      rw [bne_eq_false_iff_eq] at hmi
      rw [hmi] at d2
      refine ⟨_, cellsI_at (by omega), by omega, fun e => ?_, d2⟩
      rw [e, c2] at d2
      have := Option.some.inj d2
      rw [this] at hmj
      cases hmj

set_option maxRecDepth 100000 in
set_option maxHeartbeats 1000000 in
theorem draw_any (A : Option Addr) (len cap : Nat) (w : World) (h : CodeAt w A len) (hl : len ≤ 1048576) (hc : len ≤ cap) (hc2 : cap ≤ 9223372036854775807) :
    Calls Try.prog 43 #[.slice A len cap] w fun e w' => Below w.heap.size w w' ∧ ∃ A c ts x, e = .returned (.tuple #[.slice A ts.length c, .int .i64 x]) ∧ LS w' A ts ∧ Drawn 4 4 ts ∧ -100 ≤ x ∧ x ≤ 100 := by
  have HC := hid (l91Port_any A len cap w h hl hc hc2)
  clear h
  go_enter Try.func43, Try.ntmps43
  go_wp2_with fail
  refine HC.out.mono ?_
  rintro e w1 ⟨hb, A1, c1, ts, x, rfl, hst, hd, hx⟩
  have HST := hid hst
  have HD := hid hd
  have HX := hid hx
  have HB := hid hb
  clear hst hd hx hb
  go_wp2_with fail
  refine bodyPost_ret (results_tmp2 rfl _ _ _) rfl ?_
  exact ⟨HB.out, A1, c1, ts, x, rfl, HST.out, HD.out, HX.out⟩

set_option maxRecDepth 100000 in
set_option maxHeartbeats 4000000 in
theorem walk (v : Value) (w : World) (hc : CameB w v) :
    Calls Try.prog 12 #[v] w fun e w' => e = .returned (.bool true) ∧ Below w.heap.size w w' := by
  obtain ⟨A, len, cap, rfl, hcode, hlc, hcap⟩ := hc
  have HCD := hid hcode
  clear hcode
  go_enter Try.func12, Try.ntmps12
  by_cases hbig : 1048576 < len
  · have hbi : (1048576 : Int) < (len : Int) := by omega
    go_wp2_with fail
    go_ret
    exact ⟨rfl, Below.refl _ _⟩
  have hbi : ¬ (1048576 : Int) < (len : Int) := by omega
  have HDR := hid (draw_any A len cap w HCD.out (by omega) hlc hcap)
  have HC1 := hid (HDR.out)
  go_wp2_with fail
  refine HC1.out.mono ?_
  rintro e w1 ⟨hb, A1, c1, ts, x, rfl, hl, hd, hx0, hx1⟩
  have HB1 := hid hb
  have Lts1 := hid hl
  clear hl
  clear hb HC1
  have HSM := hid (hd.small (by decide) (by decide))
  clear hd
  have HC2 := hid (implBeamFirst_any A1 c1 ts x w1 Lts1.out HSM.out.1 HSM.out.2)
  go_wp2_with fail
  refine HC2.out.mono ?_
  rintro e w2 ⟨hb, out, ok, rfl, hout⟩
  have HB2 := hid (HB1.out.trans (hb.mono HB1.out.size))
  clear HB1
  have Lts2 := hid (Lts1.out.step hb)
  clear Lts1
  clear hb HC2
  have HO := hid hout
  clear hout
  have HC3 := hid (specBeamFirst_any A1 c1 w2.heap.size ts x w2 Lts2.out (Nat.le_refl _) HSM.out.1 HSM.out.2)
  go_wp2_with fail
  refine HC3.out.mono ?_
  rintro e w3 ⟨hb, out2, ok2, rfl, hout2⟩
  have HB3 := hid (HB2.out.trans (hb.mono HB2.out.size))
  clear HB2
  have Lts3 := hid (Lts2.out.step hb)
  clear Lts2
  clear hb HC3
  obtain ⟨rfl, rfl⟩ := HO.out.uniq hout2
  clear hout2
  rcases HO.out with ⟨n, m, q, hp, hv⟩ | ⟨_, rfl, rfl⟩
  · rcases facts hp hv with ⟨rfl, rfl⟩ | ⟨M, j, c, k, l, b, rfl, rfl, e1, hlM, hM9, hjM, hlj, hc25, hfc, hb46, e2, hk1, hF⟩
    · skip
      go_wp2_with fail
      go_ret
      exact ⟨rfl, HB3.out⟩
    · clear hv
      obtain ⟨b0, o0, s0, rfl, hk0, hs0, hl0⟩ := Lts3.out.addr hp.1
      have hn : ((ts.length : Nat) : Int) = (n : Int) := by rw [hp.1.1]
      have hm1 := hp.1.2.2.2.1
      have hm5 := hp.1.2.2.2.2.1
      have hn5 := hp.1.2.2.1
      have HG := hid hp.1
      have hli : ((l.length : Nat) : Int) = (M : Int) := by omega
      have HLM := hid hlM
      clear hlM
      have HP := hid hp
      have E1 := hid e1
      have E2 := hid e2
      have HK0 := hid hk0
      have HF := hid hF
      have HLJ := hid hlj
      have HFC := hid hfc
      clear hp e1 e2 hk0 hF hlj hfc
      go_wp2_with fail
      refine (nBeamWay (Lts3.out) HP.out E1.out).mono ?_
      rintro e w4 ⟨hb, A6, c6, rfl, hls⟩
      have HB4 := hid (HB3.out.trans (hb.mono HB3.out.size))
      clear HB3
      have Lts4 := hid (Lts3.out.step hb)
      clear Lts3
      have Lway4 := hid hls
      clear hls
      clear hb
      go_wp2_with fail
      refine (nBeamTurns (Lts4.out) HP.out E2.out).mono ?_
      rintro e w5 ⟨hb, rfl⟩
      have HB5 := hid (HB4.out.trans (hb.mono HB4.out.size))
      clear HB4
      have Lts5 := hid (Lts4.out.step hb)
      clear Lts4
      have Lway5 := hid (Lway4.out.step hb)
      clear Lway4
      clear hb
      obtain ⟨gb, oo, rfl⟩ := Lway5.out.addr (by have := HLM.out; omega)
      have c0 := Lts5.out.cell0 HK0.out
      go_wp2_with fail
      go_loopw [14] (fun (iv : Value) (wr : World) => ∃ i : Nat, i ≤ j ∧ iv = .int .i64 i ∧ ∃ d, wr = w5.drewN d) (fun iv _ => j - (intOf iv).toNat)
      case atStart => exact ⟨0, by omega, rfl, 0, rfl⟩
      case round =>
        clear c0
        obtain ⟨i, hi, rfl, d, rfl⟩ := hrel
        have hiM : (i : Int) < (M : Int) := by omega
        have hil : i < l.length := by rw [HLM.out]; omega
        have hi0 : (0 : Int) ≤ (i : Int) := by omega
        have hmz : ((m : Int) == 0) = false := by simp; omega
        have hmz2 : ¬ m = 0 := by omega
        have hm0i : (1 : Int) ≤ (m : Int) := by omega
        by_cases hlt : i < j
        · obtain ⟨a, hla, ha25n, hac, hfa⟩ := HF.out i hlt
          have hca := Lway5.out.cellk hla
          have haci : ((a : Int) == (c : Int)) = false := by rw [beq_eq_false_iff_ne]; omega
          obtain ⟨r, cq, s, hqs, hr, hcq, hdiv, hmod, hsr, hsz, hbyte⟩ := row_letter HG.out hfa
          have hcs := Lts5.out.cellk hsr
          have hrl : r < ts.length := by rw [HG.out.1]; exact hr
          have hri : (r : Int) < (n : Int) := by omega
          have hri0 : (0 : Int) ≤ (r : Int) := by omega
          have hszi : ((s.size : Nat) : Int) = (m : Int) := by rw [hsz]
          have hci : (cq : Int) < (m : Int) := by omega
          have hci0 : (0 : Int) ≤ (cq : Int) := by omega
          have ha0 : (0 : Int) ≤ (a : Int) := by omega
          have hr5 : (r : Int) < 5 := by omega
          have hc5 : (cq : Int) < 5 := by omega
          have ha25 : (a : Int) ≤ 25 := by omega
          have htm : (a : Int).tmod (m : Int) = (cq : Int) := by rw [Int.tmod_eq_emod_of_nonneg ha0]; exact hmod
          clear hsz hsr
          clear hla hfa
          go_wp2_with fail
          go_quiet (fail)
          go_wp2_with fail
          go_roundw
          case rel => exact ⟨i + 1, by omega, by go_num, _, rfl⟩
          case measure => simp [intOf]; omega
        · obtain rfl : i = j := by omega
          have hca := Lway5.out.cellk HLJ.out
          have hk1i : (1 : Int) ≤ (k : Int) := by omega
          have hbi : (((b.toNat : Nat) : Int) != 46) = true := by rw [bne_iff_ne]; intro h; exact hb46 (UInt8.toNat_inj.1 (by have : (46 : UInt8).toNat = 46 := rfl; omega))
          obtain ⟨r, cq, s, hqs, hr, hcq, hdiv, hmod, hsr, hsz, hbyte⟩ := row_letter HG.out HFC.out
          have hcs := Lts5.out.cellk hsr
          have hrl : r < ts.length := by rw [HG.out.1]; exact hr
          have hri : (r : Int) < (n : Int) := by omega
          have hri0 : (0 : Int) ≤ (r : Int) := by omega
          have hszi : ((s.size : Nat) : Int) = (m : Int) := by rw [hsz]
          have hci : (cq : Int) < (m : Int) := by omega
          have hci0 : (0 : Int) ≤ (cq : Int) := by omega
          have ha0 : (0 : Int) ≤ (c : Int) := by omega
          have hr5 : (r : Int) < 5 := by omega
          have hc5 : (cq : Int) < 5 := by omega
          have ha25 : (c : Int) ≤ 25 := by omega
          have htm : (c : Int).tmod (m : Int) = (cq : Int) := by rw [Int.tmod_eq_emod_of_nonneg ha0]; exact hmod
          clear hsz hsr
          go_wp2_with fail
          go_quiet (fail)
          have HB9 := hid (below_drewN' (below_drewN' HB5.out d) nq)
          go_wp2_with fail
          go_ret
          exact ⟨rfl, HB9.out⟩
  · skip
    go_wp2_with fail
    go_ret
    exact ⟨rfl, HB3.out⟩

set_option maxRecDepth 100000 in
theorem lifted (os : Os) (started : os.Started) (H : Type) (enc : TypeId × Value → H) :
    ReturnsInHanded {} Try.checked os 12 .any (Rows.fnFirstSpec.pre6 enc Try.prog Try.f12 Rows.fnFirstRow.domain false) (Rows.fnFirstSpec.post enc Try.prog Try.f12 false true false false) := by
  refine returnsInHanded_of_change (C := Try.checked) Try.own started (by kernel_rfl) Try.func12
    (ChangeSpec.witness6 (enc := enc) (C := Try.checked) false ⟨#[], #[.slice none 0 0], []⟩ 8 (by kernel_rfl) (by kernel_rfl) (by kernel_rfl) (by kernel_rfl)) ?_
  intro W base args ds gs before hval0 hW hcnd _
  have hval : ∀ (j : Nat) t v, Try.f12.params[j]? = some t → args[j]? = some v → Value.okWide Try.prog W .any base t v := hval0
  have hW' := hW
  obtain ⟨p, q, hA0, hV, rfl, hfz, hnd⟩ := hW
  have hA : DataW.TrodAll enc Try.prog W 0 (fun _ => true) true Try.f12.params.toList args.toList ds p := hA0
  rw [Try.params12] at hA hval
  obtain ⟨v0, vs0, d0, ds0, p0, q0, hargs, rfl, rfl, h0, r0⟩ := trodAll_cons hA
  obtain ⟨rfl, rfl, rfl⟩ := trodAll_nil r0
  obtain rfl : args = #[v0] := by cases args; simp_all
  obtain ⟨rfl, rfl⟩ := trodVars_none hV
  have k0 := h0
  have lt0 : ∀ x ∈ p0, x.block < W.heap.size := by obtain ⟨m, hm⟩ := k0; exact DataW.trod_lt m _ _ _ hm
  have c0 := cameB_of (hval 0 22 v0 rfl rfl) h0
  clear hA0 hval0
  refine (walk v0 W c0).mono fun e W' ⟨he, bel⟩ => ?_
  subst he
  exact ⟨_, rfl, _, _, _, [], _, [], hW', trodAll_mk1 (shut_bool Try.underlying4 _), (trodAll_cons_mk (Below.trod Try.laidOut (by kernel_rfl) (of_decide_eq_true (by kernel_rfl)) k0 bel lt0) trodAll_mk0), rfl, bel.frame _, fun h => by cases h⟩

theorem closed : joinedFacts Try.pinned.checked.prog 12 Try.f12 Rows.fnFirstSpec Rows.fnFirstRow = true := by
  unfold joinedFacts
  exact and8 (by as_aux_lemma => kernel_rfl) head_enter head_lifts head_make (by as_aux_lemma => kernel_rfl) (by as_aux_lemma => kernel_rfl) (by as_aux_lemma => kernel_rfl) (by as_aux_lemma => kernel_rfl)

theorem proved : Rows.FnFirstSaid :=
  OpenClaim.holds_of_wide 12 Try.f12 rfl rfl rfl rfl rfl rfl rfl ⟨rfl, rfl, rfl, rfl, rfl⟩ rfl rfl rfl rfl rfl (by kernel_rfl) Try.func12 closed
    (of_decide_eq_true (by kernel_rfl)) (by unfold Func.isWrapper; first | (rw [if_pos (by decide +kernel)]; kernel_rfl) | (rw [if_neg (by decide +kernel)]; exact ⟨rfl, rfl⟩))
    (fun os started H enc _ => lifted os started H enc)
#print axioms proved

end Go.Proofs.Ytpbppkidglmacaa.lawFnFirst
