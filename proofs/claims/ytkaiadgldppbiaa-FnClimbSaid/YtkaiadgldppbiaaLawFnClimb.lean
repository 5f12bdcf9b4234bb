/- For every code, the drawn grid climbed has at least as many paths, no exchange makes them more, and climbing goes no further; the program's and the specification's answers are the same: the law FnClimb returns true, and its argument reads as it did. No condition. -/
import Derived.Test.YtkaiadgldppbiaaPKR
import Derived.Test.YtkaiadgldppbiaaBunM
import Derived.Test.YtkaiadgldppbiaaBunR
import Derived.Test.YtkaiadgldppbiaaClimb
import Derived.Test.YtkaiadgldppbiaaClimbI
import Derived.Test.YtkaiadgldppbiaaClimbS
import Derived.Test.YtkaiadgldppbiaaBestQ
import Derived.Test.YtkaiadgldppbiaaDeltaQ
namespace Go.Proofs.Ytkaiadgldppbiaa.lawFnClimb
open Go.ChangeShapes Go.WideShapes Go.ChangeAt Go.RowKit
open Go.ChangeMaps (open_string shut_string)

theorem nClimb {n m c : Nat} {A : Option Addr} {ss res : List ByteArray} {w : World} (h : LS w A ss) (hg : IsGrid n m ss) (hr : climbG n m (pad (flat ss)) = res) :
    Calls Try.prog 13 #[.slice A ss.length c] w fun e w' => Below w.heap.size w w' ∧ ∃ A c, e = .returned (.tuple #[.slice A res.length c, .bool true]) ∧ LS w' A res :=
  (implChangeClimb_any A c ss w h (gsmall hg).1 (gsmall hg).2).mono fun _ _ h => h.tend.yes (out_grid hg hr)
theorem climb_end {n m : Nat} : ∀ (k : Nat) (ss : List ByteArray), IsGrid n m ss → 110 < (k : Int) + pathsG n m (pad (flat ss)) → ∃ fl, textsOf n m (climbN n m k (pad (flat ss))) = fl ∧ IsGrid n m fl ∧ pad (flat fl) = climbN n m k (pad (flat ss)) ∧ pathsG n m (pad (flat ss)) ≤ pathsG n m (pad (flat fl)) ∧
    ∀ e ∈ mirI m (pad (flat fl)) (List.finRange (n * m)), pathsX n m (pad (flat fl)) e ≤ pathsG n m (pad (flat fl)) := by
  intro k
  induction k using Nat.strongRecOn with
  | _ k ih =>
    intro ss hg hk
    have hkey := best_key n m (pad (flat ss)) (mirI m (pad (flat ss)) (List.finRange (n * m))) (none, 0)
    rcases climb_or hg.2.1 hg.2.2.1 hg.2.2.2.2.1 k hk with ⟨h1, h2⟩ | ⟨x, b, y, h1, h3, h4, h2⟩ | ⟨x, b, y, h1, h3, h4, h5, k', h6, h2, h7⟩
    · refine ⟨ss, by rw [h2]; exact texts_flat hg, hg, by rw [h2], Int.le_refl _, fun e he => ?_⟩
      have h3 := hkey.2.1 e he
      have h4 : (mirI m (pad (flat ss)) (List.finRange (n * m))).foldl (fun s e => if s.2 < pathsX n m (pad (flat ss)) e then (some e, pathsX n m (pad (flat ss)) e) else s) (none, 0) = (none, 0) := h1
      rw [h4] at h3
      have h5 := pathsX_pos (n := n) (m := m) (ls := pad (flat ss)) (e := e) hg.2.1
      simp only at h3
      omega
    · refine ⟨ss, by rw [h2]; exact texts_flat hg, hg, by rw [h2], Int.le_refl _, fun e he => ?_⟩
      have h5 := hkey.2.1 e he
      have h6 : (mirI m (pad (flat ss)) (List.finRange (n * m))).foldl (fun s e => if s.2 < pathsX n m (pad (flat ss)) e then (some e, pathsX n m (pad (flat ss)) e) else s) (none, 0) = (some (x, b), y) := h1
      rw [h6] at h5
      exact Int.le_trans h5 h4
    · obtain ⟨_, _, g1, g2⟩ := exch_grid hg h5
      have h8 : (mirI m (pad (flat ss)) (List.finRange (n * m))).foldl (fun s e => if s.2 < pathsX n m (pad (flat ss)) e then (some e, pathsX n m (pad (flat ss)) e) else s) (none, 0) = (some (x, b), y) := h1
      have hy : y = pathsG n m ((pad (flat ss)).set (cellN m x) b) := by
        rcases hkey.2.2 with h9 | ⟨l1, e, l2, _, h9, _, _⟩
        · rw [h8] at h9; cases h9
        · rw [h8] at h9; cases h9; rfl
      obtain ⟨fl, f1, f2, f3, f4, f5⟩ := ih k' h6 _ g1 (by rw [g2]; exact h7)
      rw [g2] at f1 f3 f4
      exact ⟨fl, by rw [h2]; exact f1, f2, by rw [h2]; exact f3, by omega, f5⟩
theorem facts {n m : Nat} {ts : List ByteArray} (hg : IsGrid n m ts) : ∃ (fl : List ByteArray) (a b N : Nat), climbG n m (pad (flat ts)) = fl ∧ IsGrid n m fl ∧ climbG n m (pad (flat fl)) = fl ∧ pathsR n m (lett m (pad (flat ts))) = ((a : Int), true) ∧ pathsR n m (lett m (pad (flat fl))) = ((b : Int), true) ∧ a ≤ b ∧ b ≤ 1000 ∧ (n : Int) * (m : Int) = (N : Int) ∧ N ≤ 25 ∧
    ∀ c, c < N → (∃ d : Int, MirrorIn fl (c : Int) n m c ∧ deltaR n m (pad (flat fl)) c = (d, true) ∧ d ≤ 0) ∨ (∀ n m c', ¬ MirrorIn fl (c : Int) n m c') := by
  have hP : ∀ t, 0 ≤ (pathsR n m t).1 ∧ (pathsR n m t).1 ≤ 1000 := fun t => ⟨(pathsR_le hg.2.2.1 hg.2.2.2.2.1).1, Int.le_trans (pathsR_le (t := t) hg.2.2.1 hg.2.2.2.2.1).2 (by decide)⟩
  have hG : ∀ ls, 0 ≤ pathsG n m ls := fun ls => (hP _).1
  obtain ⟨fl, f1, f2, f3, f4, f5⟩ := climb_end 111 ts hg (by have := hG (pad (flat ts)); omega)
  obtain ⟨fl2, e1, e2, e3, e4, e5⟩ := climb_end 111 fl f2 (by have := hG (pad (flat fl)); omega)
  obtain ⟨a, ha⟩ : ∃ a : Nat, (pathsR n m (lett m (pad (flat ts)))).1 = (a : Int) := ⟨_, (Int.toNat_of_nonneg (hP _).1).symm⟩
  obtain ⟨b, hb⟩ : ∃ b : Nat, (pathsR n m (lett m (pad (flat fl)))).1 = (b : Int) := ⟨_, (Int.toNat_of_nonneg (hP _).1).symm⟩
  have hlp : ∀ c, lett m (pad (flat fl)) ((c / m : Nat) : Int) ((c % m : Nat) : Int) = (pad (flat fl)).getD c 0 := fun c => lett_place (m := m) (c := c) (ls := pad (flat fl))
  have hstop : climbN n m 111 (pad (flat fl)) = pad (flat fl) := by
    rcases climb_or f2.2.1 f2.2.2.1 f2.2.2.2.2.1 111 (show 110 < ((111 : Nat) : Int) + pathsG n m (pad (flat fl)) by have := hG (pad (flat fl)); omega) with ⟨_, h2⟩ | ⟨_, _, _, _, _, _, h2⟩ | ⟨x, b', y, h1, _, h4, h5, _⟩
    · exact h2
    · exact h2
    · exfalso
      have h8 : (mirI m (pad (flat fl)) (List.finRange (n * m))).foldl (fun s e => if s.2 < pathsX n m (pad (flat fl)) e then (some e, pathsX n m (pad (flat fl)) e) else s) (none, 0) = (some (x, b'), y) := h1
      rcases (best_key n m (pad (flat fl)) (mirI m (pad (flat fl)) (List.finRange (n * m))) (none, 0)).2.2 with h9 | ⟨l1, e, l2, _, h9, _, _⟩
      · rw [h8] at h9; cases h9
      · rw [h8] at h9; cases h9
        have := f5 _ h5
        omega
  refine ⟨fl, a, b, n * m, f1, f2, ?_, Prod.ext ha rfl, Prod.ext hb rfl, ?_, by have := (hP (lett m (pad (flat fl)))).2; omega, by rw [Int.natCast_mul], hg.le25, fun c hc => ?_⟩
  · unfold climbG
    rw [hstop]
    exact texts_flat f2
  · have h1 : (pathsR n m (lett m (pad (flat ts)))).1 ≤ (pathsR n m (lett m (pad (flat fl)))).1 := f4
    omega
  · by_cases hm : (pad (flat fl)).getD c 0 = 46
    · refine .inr fun n' m' c' h => ?_
      obtain ⟨⟨h1, h2, h3⟩, h4⟩ := h
      obtain ⟨rfl, rfl⟩ := f2.uniq h1
      obtain rfl : c = c' := by omega
      exact h4 (by rw [hlp]; exact hm)
    · have hmem : (placeN m c, oth ((pad (flat fl)).getD c 0)) ∈ mirI m (pad (flat fl)) (List.finRange (n * m)) := by
        unfold mirI
        exact List.mem_map.2 ⟨⟨c, hc⟩, List.mem_filter.2 ⟨List.mem_finRange _, by simpa using hm⟩, rfl⟩
      have h2 := f5 _ hmem
      refine .inl ⟨(deltaR n m (pad (flat fl)) c).1, ⟨⟨f2, rfl, hc⟩, by rw [hlp]; exact hm⟩, rfl, ?_⟩
      have h3 : (pathsR n m (lett m ((pad (flat fl)).set (cellN m (placeN m c)) (oth ((pad (flat fl)).getD c 0))))).1 ≤ (pathsR n m (lett m (pad (flat fl)))).1 := h2
      show (pathsR n m (lett m ((pad (flat fl)).set c (oth (lett m (pad (flat fl)) ((c / m : Nat) : Int) ((c % m : Nat) : Int)))))).1 - (pathsR n m (lett m (pad (flat fl)))).1 ≤ 0
      rw [cellN_place] at h3
      rw [hlp]
      omega

set_option maxRecDepth 100000 in
set_option maxHeartbeats 1000000 in
theorem draw_any (A : Option Addr) (len cap : Nat) (w : World) (h : CodeAt w A len) (hl : len ≤ 1048576) (hc : len ≤ cap) (hc2 : cap ≤ 9223372036854775807) :
    Calls Try.prog 12 #[.slice A len cap] w fun e w' => Below w.heap.size w w' ∧ ∃ A c ts, e = .returned (.slice A ts.length c) ∧ LS w' A ts ∧ Drawn 4 4 ts := by
  have HC := hid (l91One_any A len cap w h hl hc hc2)
  clear h
  go_enter Try.func12, Try.ntmps12
  go_wp2_with fail
  refine HC.out.mono ?_
  rintro e w1 ⟨⟨A1, c1, ts, rfl, hst, hd⟩, hb⟩
  have HST := hid hst
  have HD := hid hd
  have HB := hid hb
  clear hst hd hb
  go_wp2_with fail
  go_ret
  exact ⟨HB.out, A1, c1, ts, rfl, HST.out, HD.out⟩

set_option maxRecDepth 100000 in
set_option maxHeartbeats 4000000 in
theorem walk (v : Value) (w : World) (hc : CameB w v) :
    Calls Try.prog 5 #[v] w fun e w' => e = .returned (.bool true) ∧ Below w.heap.size w w' := by
  obtain ⟨A, len, cap, rfl, hcode, hlc, hcap⟩ := hc
  have HCD := hid hcode
  clear hcode
  go_enter Try.func5, Try.ntmps5
  by_cases hbig : 1048576 < len
  · have hbi : (1048576 : Int) < (len : Int) := by omega
    go_wp2_with fail
    go_ret
    exact ⟨rfl, Below.refl _ _⟩
  have hbi : ¬ (1048576 : Int) < (len : Int) := by omega
  have HDR := hid (draw_any A len cap w HCD.out (by omega) hlc hcap)
  have HC1 := hid (HDR.out)
  go_wp2_with fail
  refine HC1.out.mono ?_
  rintro e w1 ⟨hb, A1, c1, ts, rfl, hl, hd⟩
  have HB1 := hid hb
  have Lts1 := hid hl
  clear hl
  clear hb HC1
  have HD := hid hd
  clear hd
  have HSM := hid (HD.out.small (by decide) (by decide))
  have HC2 := hid ((implChangeClimb_any A1 c1 ts w1 Lts1.out HSM.out.1 HSM.out.2).mono fun _ _ h => h.tend)
  go_wp2_with fail
  refine HC2.out.mono ?_
  rintro e w2 ⟨hb, A2, c2, res, ok, rfl, hout, hl⟩
  have HB2 := hid (HB1.out.trans (hb.mono HB1.out.size))
  clear HB1
  have Lts2 := hid (Lts1.out.step hb)
  clear Lts1
  have Lout2 := hid hl
  clear hl
  clear hb HC2
  have HO := hid hout
  clear hout
  have HC3 := hid ((specChangeClimb_any A1 c1 w2.heap.size ts w2 Lts2.out (Nat.le_refl _) HSM.out.1 HSM.out.2).mono fun _ _ h => h.tend)
  go_wp2_with fail
  refine HC3.out.mono ?_
  rintro e w3 ⟨hb, A3, c3, res2, ok2, rfl, hout2, hl⟩
  have HB3 := hid (HB2.out.trans (hb.mono HB2.out.size))
  clear HB2
  have Lts3 := hid (Lts2.out.step hb)
  clear Lts2
  have Lout3 := hid (Lout2.out.step hb)
  clear Lout2
  have Lwant3 := hid hl
  clear hl
  clear hb HC3
  obtain ⟨rfl, rfl⟩ := HO.out.uniq hout2
  clear hout2
  rcases HO.out with ⟨n, m, hg, rfl, rfl⟩ | ⟨_, rfl, rfl⟩
  · obtain ⟨fl, a, b, N, e1, g1, e2, e3, e4, hab, hb9, hN, hN25, hF⟩ := facts hg
    rw [e1] at Lout3 Lwant3 ⊢
    have habi : (a : Int) ≤ (b : Int) := by omega
    clear e1
    obtain ⟨b0, o0, s0, rfl, hk0, hs0, hl0⟩ := Lts3.out.addr hg
    have hn : ((ts.length : Nat) : Int) = (n : Int) := by rw [(hg).1]
    have hn0 : 0 < n := (hg).2.1
    have hn5 := (hg).2.2.1
    have hm1 := (hg).2.2.2.1
    have hm5 := (hg).2.2.2.2.1
    have HK0 := hid hk0
    clear hk0
    have HG := hid hg
    have G1 := hid g1
    have E2 := hid e2
    have E3 := hid e3
    have E4 := hid e4
    have HF := hid hF
    clear hg g1 e2 e3 e4 hF
    go_wp2_with fail
    refine (nSameT (Lout3.out) (Lwant3.out) (gsmall G1.out).1).mono ?_
    rintro e w4 ⟨hb, rfl⟩
    have HB4 := hid (HB3.out.trans (hb.mono HB3.out.size))
    clear HB3
    have Lts4 := hid (Lts3.out.step hb)
    clear Lts3
    have Lout4 := hid (Lout3.out.step hb)
    clear Lout3
    have Lwant4 := hid (Lwant3.out.step hb)
    clear Lwant3
    clear hb
    clear Lwant4
    go_wp2_with fail
    refine (nRoundPaths (Lts4.out) HG.out E3.out).mono ?_
    rintro e w5 ⟨hb, rfl⟩
    have HB5 := hid (HB4.out.trans (hb.mono HB4.out.size))
    clear HB4
    have Lts5 := hid (Lts4.out.step hb)
    clear Lts4
    have Lout5 := hid (Lout4.out.step hb)
    clear Lout4
    clear hb
    go_wp2_with fail
    refine (nRoundPaths (Lout5.out) G1.out E4.out).mono ?_
    rintro e w6 ⟨hb, rfl⟩
    have HB6 := hid (HB5.out.trans (hb.mono HB5.out.size))
    clear HB5
    have Lts6 := hid (Lts5.out.step hb)
    clear Lts5
    have Lout6 := hid (Lout5.out.step hb)
    clear Lout5
    clear hb
    go_wp2_with fail
    refine (nClimb (Lout6.out) G1.out E2.out).mono ?_
    rintro e w7 ⟨hb, A5, c5, rfl, hl⟩
    have HB7 := hid (HB6.out.trans (hb.mono HB6.out.size))
    clear HB6
    have Lts7 := hid (Lts6.out.step hb)
    clear Lts6
    have Lout7 := hid (Lout6.out.step hb)
    clear Lout6
    have Lx7 := hid hl
    clear hl
    clear hb
    go_wp2_with fail
    go_loopw [14] (fun (iv : Value) (wr : World) => ∃ c : Nat, c ≤ N ∧ iv = .int .i64 c ∧ Below w.heap.size w wr ∧ LS wr (some ⟨b0, o0, none⟩) ts ∧ LS wr A2 fl ∧ LS wr A5 fl) (fun iv _ => N - (intOf iv).toNat)
    case atStart => exact ⟨0, by omega, rfl, HB7.out, Lts7.out, Lout7.out, Lx7.out⟩
    case round =>
      obtain ⟨c, hc, rfl, hbr, hlr, hor, hxr⟩ := hrel
      have HBR := hid hbr
      have HLR := hid hlr
      have HOR := hid hor
      have HXR := hid hxr
      clear hbr hlr hor hxr
      have c0 := HLR.out.cell0 HK0.out
      by_cases hlt : c < N
      · have hci : (c : Int) < (N : Int) := by omega
        rcases HF.out c hlt with ⟨d, f1, f2, hd0⟩ | f1
        · have F1 := hid f1
          have F2 := hid f2
          have hgt : ¬ 0 < d := by omega
          clear f1 f2 hd0
          go_wp2_with fail
          refine (nChangeDelta HOR.out F1.out F2.out).mono ?_
          rintro e2 w9 ⟨hb, rfl⟩
          have HB9 := hid (HBR.out.trans (hb.mono HBR.out.size))
          have HL9 := hid (HLR.out.step hb)
          have HO9 := hid (HOR.out.step hb)
          have HX9 := hid (HXR.out.step hb)
          clear hb c0
          go_wp2_with fail
          go_roundw
          case rel => exact ⟨c + 1, by omega, by go_num, HB9.out, HL9.out, HO9.out, HX9.out⟩
          case measure => simp [intOf]; omega
        · have F1 := hid f1
          clear f1
          go_wp2_with fail
          refine (nNoDelta HOR.out G1.out F1.out).mono ?_
          rintro e2 w9 ⟨hb, rfl⟩
          have HB9 := hid (HBR.out.trans (hb.mono HBR.out.size))
          have HL9 := hid (HLR.out.step hb)
          have HO9 := hid (HOR.out.step hb)
          have HX9 := hid (HXR.out.step hb)
          clear hb c0
          go_wp2_with fail
          go_roundw
          case rel => exact ⟨c + 1, by omega, by go_num, HB9.out, HL9.out, HO9.out, HX9.out⟩
          case measure => simp [intOf]; omega
      · obtain rfl : c = N := by omega
        go_wp2_with fail
        refine (nSameT (HXR.out) (HOR.out) (gsmall G1.out).1).mono ?_
        rintro e w8 ⟨hb, rfl⟩
        have HB8 := hid (HBR.out.trans (hb.mono HBR.out.size))
        clear HBR
        have Lts8 := hid (HLR.out.step hb)
        clear HLR
        have Lout8 := hid (HOR.out.step hb)
        clear HOR
        have Lx8 := hid (HXR.out.step hb)
        clear HXR
        clear hb
        go_wp2_with fail
        go_ret
        exact ⟨rfl, HB8.out⟩
  · skip
    go_wp2_with fail
    refine (nSameT (Lout3.out) (Lwant3.out) (by simp)).mono ?_
    rintro e w4 ⟨hb, rfl⟩
    have HB4 := hid (HB3.out.trans (hb.mono HB3.out.size))
    clear HB3
    have Lts4 := hid (Lts3.out.step hb)
    clear Lts3
    have Lout4 := hid (Lout3.out.step hb)
    clear Lout3
    have Lwant4 := hid (Lwant3.out.step hb)
    clear Lwant3
    clear hb
    go_wp2_with fail
    refine (nSameT (Lout4.out) (Lwant4.out) (by simp)).mono ?_
    rintro e w5 ⟨hb, rfl⟩
    have HB5 := hid (HB4.out.trans (hb.mono HB4.out.size))
    clear HB4
    have Lts5 := hid (Lts4.out.step hb)
    clear Lts4
    have Lout5 := hid (Lout4.out.step hb)
    clear Lout4
    have Lwant5 := hid (Lwant4.out.step hb)
    clear Lwant4
    clear hb
    go_wp2_with fail
    go_ret
    exact ⟨rfl, HB5.out⟩

set_option maxRecDepth 100000 in
theorem lifted (os : Os) (started : os.Started) (H : Type) (enc : TypeId × Value → H) :
    ReturnsInHanded {} Try.checked os 5 .any (Rows.fnClimbSpec.pre6 enc Try.prog Try.f5 Rows.fnClimbRow.domain false) (Rows.fnClimbSpec.post enc Try.prog Try.f5 false true false false) := by
  refine returnsInHanded_of_change (C := Try.checked) Try.own started (by kernel_rfl) Try.func5
    (ChangeSpec.witness6 (enc := enc) (C := Try.checked) false ⟨#[], #[.slice none 0 0], []⟩ 8 (by kernel_rfl) (by kernel_rfl) (by kernel_rfl) (by kernel_rfl)) ?_
  intro W base args ds gs before hval0 hW hcnd _
  have hval : ∀ (j : Nat) t v, Try.f5.params[j]? = some t → args[j]? = some v → Value.okWide Try.prog W .any base t v := hval0
  have hW' := hW
  obtain ⟨p, q, hA0, hV, rfl, hfz, hnd⟩ := hW
  have hA : DataW.TrodAll enc Try.prog W 0 (fun _ => true) true Try.f5.params.toList args.toList ds p := hA0
  rw [Try.params5] at hA hval
  obtain ⟨v0, vs0, d0, ds0, p0, q0, hargs, rfl, rfl, h0, r0⟩ := trodAll_cons hA
  obtain ⟨rfl, rfl, rfl⟩ := trodAll_nil r0
  obtain rfl : args = #[v0] := by cases args; simp_all
  obtain ⟨rfl, rfl⟩ := trodVars_none hV
  have k0 := h0
  have lt0 : ∀ x ∈ p0, x.block < W.heap.size := by obtain ⟨m, hm⟩ := k0; exact DataW.trod_lt m _ _ _ hm
  have c0 := cameB_of (hval 0 22 v0 rfl rfl) h0
  clear hA0 hval0
  refine (walk v0 W c0).mono fun e W' ⟨he, bel⟩ => ?_
  subst he
  exact ⟨_, rfl, _, _, _, [], _, [], hW', trodAll_mk1 (shut_bool Try.underlying4 _), (trodAll_cons_mk (Below.trod Try.laidOut (by kernel_rfl) (of_decide_eq_true (by kernel_rfl)) k0 bel lt0) trodAll_mk0), rfl, bel.frame _, fun h => by cases h⟩

theorem closed : joinedFacts Try.pinned.checked.prog 5 Try.f5 Rows.fnClimbSpec Rows.fnClimbRow = true := by
  unfold joinedFacts
  exact and8 (by as_aux_lemma => kernel_rfl) head_enter head_lifts head_make (by as_aux_lemma => kernel_rfl) (by as_aux_lemma => kernel_rfl) (by as_aux_lemma => kernel_rfl) (by as_aux_lemma => kernel_rfl)

theorem proved : Rows.FnClimbSaid :=
  OpenClaim.holds_of_wide 5 Try.f5 rfl rfl rfl rfl rfl rfl rfl ⟨rfl, rfl, rfl, rfl, rfl⟩ rfl rfl rfl rfl rfl (by kernel_rfl) Try.func5 closed
    (of_decide_eq_true (by kernel_rfl)) (by unfold Func.isWrapper; first | (rw [if_pos (by decide +kernel)]; kernel_rfl) | (rw [if_neg (by decide +kernel)]; exact ⟨rfl, rfl⟩))
    (fun os started H enc _ => lifted os started H enc)
#print axioms proved

end Go.Proofs.Ytkaiadgldppbiaa.lawFnClimb
