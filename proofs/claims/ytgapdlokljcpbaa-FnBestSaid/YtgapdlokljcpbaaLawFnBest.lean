/- For every code, no exchange of a mirror of the drawn grid makes more paths than told, none of a smaller cell as many; the program's and the specification's answers are the same: the law FnBest returns true, and its argument reads as it did. No condition. -/
import Derived.Test.YtgapdlokljcpbaaPKR
import Derived.Test.YtgapdlokljcpbaaBunM
import Derived.Test.YtgapdlokljcpbaaBunR
import Derived.Test.YtgapdlokljcpbaaBestI
import Derived.Test.YtgapdlokljcpbaaBestS
namespace Go.Proofs.Ytgapdlokljcpbaa.lawFnBest
open Go.ChangeShapes Go.WideShapes Go.ChangeAt Go.RowKit
open Go.ChangeMaps (open_string shut_string)

theorem nNoDelta {n m c : Nat} {A : Option Addr} {ss : List ByteArray} {w : World} {cell : Int} (h : LS w A ss) (hg : IsGrid n m ss) (hno : ∀ n m c, ¬ MirrorIn ss cell n m c) :
    Calls Try.prog 20 #[.slice A ss.length c, .int .i64 cell] w (IEnd 0 false w) :=
  (implChangeDelta_any A c ss cell w h (gsmall hg).1 (gsmall hg).2).mono fun _ _ ⟨hb, x', ok', he, ho⟩ => ⟨hb, by
    rcases ho with ⟨_, _, _, h1, _⟩ | ⟨_, rfl, rfl⟩
    · exact absurd h1 (hno _ _ _)
    · exact he⟩
theorem best_key (n m : Nat) (ls : List UInt8) : ∀ (l : List (Wy × UInt8)) (s : Option (Wy × UInt8) × Int), s.2 ≤ (l.foldl (fun s e => if s.2 < pathsX n m ls e then (some e, pathsX n m ls e) else s) s).2 ∧
    (∀ e ∈ l, pathsX n m ls e ≤ (l.foldl (fun s e => if s.2 < pathsX n m ls e then (some e, pathsX n m ls e) else s) s).2) ∧
    (l.foldl (fun s e => if s.2 < pathsX n m ls e then (some e, pathsX n m ls e) else s) s = s ∨ ∃ l1 e l2, l = l1 ++ e :: l2 ∧ l.foldl (fun s e => if s.2 < pathsX n m ls e then (some e, pathsX n m ls e) else s) s = (some e, pathsX n m ls e) ∧ s.2 < pathsX n m ls e ∧ ∀ e' ∈ l1, pathsX n m ls e' < pathsX n m ls e)
  | [], s => ⟨Int.le_refl _, fun e he => (by cases he), .inl rfl⟩
  | e :: l, s => by
    rw [List.foldl_cons]
    by_cases h : s.2 < pathsX n m ls e
    · rw [if_pos h]
      obtain ⟨h1, h2, h3⟩ := best_key n m ls l (some e, pathsX n m ls e)
      refine ⟨Int.le_trans (Int.le_of_lt h) h1, fun e' he' => ?_, .inr ?_⟩
      · rcases List.mem_cons.1 he' with rfl | he'
        · exact h1
        · exact h2 e' he'
      · rcases h3 with h3 | ⟨l1, e2, l2, rfl, h4, h5, h6⟩
        · exact ⟨[], e, l, rfl, h3, h, fun e' he' => by cases he'⟩
        · refine ⟨e :: l1, e2, l2, rfl, h4, Int.lt_trans h h5, fun e' he' => ?_⟩
          rcases List.mem_cons.1 he' with rfl | he'
          · exact h5
          · exact h6 e' he'
    · rw [if_neg h]
      obtain ⟨h1, h2, h3⟩ := best_key n m ls l s
      refine ⟨h1, fun e' he' => ?_, ?_⟩
      · rcases List.mem_cons.1 he' with rfl | he'
        · exact Int.le_trans (Int.not_lt.1 h) h1
        · exact h2 e' he'
      · rcases h3 with h3 | ⟨l1, e2, l2, rfl, h4, h5, h6⟩
        · exact .inl h3
        · refine .inr ⟨e :: l1, e2, l2, rfl, h4, h5, fun e' he' => ?_⟩
          rcases List.mem_cons.1 he' with rfl | he'
          · exact Int.lt_of_le_of_lt (Int.not_lt.1 h) h5
          · exact h6 e' he'
theorem mirI_sorted {N : Nat} (m : Nat) (ls : List UInt8) : (mirI m ls (List.finRange N)).Pairwise fun a b => cellN m a.1 < cellN m b.1 := by
  unfold mirI
  rw [List.pairwise_map]
  refine List.Pairwise.imp ?_ (List.Pairwise.filter _ (List.pairwise_lt_finRange N))
  intro a b hab
  rw [cellN_place, cellN_place]
  exact hab
theorem facts {n m : Nat} {ts : List ByteArray} {e : Wy × UInt8} {y x : Int} (hg : IsGrid n m ts) (hb : bestR n m (pad (flat ts)) = (some e, y)) (hx : x = ((cellN m e.1 : Nat) : Int)) : ∃ (o a N : Nat), x = (o : Int) ∧ pathsR n m (lett m (pad (flat ts))) = ((a : Int), true) ∧ a ≤ 1000 ∧ 0 ≤ y ∧ y ≤ 1000 ∧ (n : Int) * (m : Int) = (N : Int) ∧ N ≤ 25 ∧ o < N ∧
    ∀ c, c < N → (∃ d : Int, MirrorIn ts (c : Int) n m c ∧ deltaR n m (pad (flat ts)) c = (d, true) ∧ -1000 ≤ d ∧ d ≤ 1000 ∧ (a : Int) + d ≤ y ∧ (c < o → (a : Int) + d < y) ∧ (c = o → (a : Int) + d = y)) ∨ ((∀ n m c', ¬ MirrorIn ts (c : Int) n m c') ∧ c ≠ o) := by
  have hP : ∀ t, 0 ≤ (pathsR n m t).1 ∧ (pathsR n m t).1 ≤ 1000 := fun t => ⟨(pathsR_le hg.2.2.1 hg.2.2.2.2.1).1, Int.le_trans (pathsR_le (t := t) hg.2.2.1 hg.2.2.2.2.1).2 (by decide)⟩
  obtain ⟨a, ha⟩ : ∃ a : Nat, (pathsR n m (lett m (pad (flat ts)))).1 = (a : Int) := ⟨_, (Int.toNat_of_nonneg (hP _).1).symm⟩
  have hlp : ∀ c, lett m (pad (flat ts)) ((c / m : Nat) : Int) ((c % m : Nat) : Int) = (pad (flat ts)).getD c 0 := fun c => lett_place (m := m) (c := c) (ls := pad (flat ts))
  have hpx : ∀ c, pathsX n m (pad (flat ts)) (placeN m c, oth ((pad (flat ts)).getD c 0)) = (a : Int) + (deltaR n m (pad (flat ts)) c).1 := fun c => by
    show (pathsR n m (lett m ((pad (flat ts)).set (cellN m (placeN m c)) (oth ((pad (flat ts)).getD c 0))))).1 = (a : Int) + ((pathsR n m (lett m ((pad (flat ts)).set c (oth (lett m (pad (flat ts)) ((c / m : Nat) : Int) ((c % m : Nat) : Int)))))).1 - (pathsR n m (lett m (pad (flat ts)))).1)
    rw [cellN_place, hlp, ha]
    omega
  have hmem : ∀ c, c < n * m → (pad (flat ts)).getD c 0 ≠ 46 → (placeN m c, oth ((pad (flat ts)).getD c 0)) ∈ mirI m (pad (flat ts)) (List.finRange (n * m)) := fun c hc hne => by
    unfold mirI
    exact List.mem_map.2 ⟨⟨c, hc⟩, List.mem_filter.2 ⟨List.mem_finRange _, by simpa using hne⟩, rfl⟩
  obtain ⟨_, k2, k3⟩ := best_key n m (pad (flat ts)) (mirI m (pad (flat ts)) (List.finRange (n * m))) (none, 0)
  have hb' : (mirI m (pad (flat ts)) (List.finRange (n * m))).foldl (fun s e => if s.2 < pathsX n m (pad (flat ts)) e then (some e, pathsX n m (pad (flat ts)) e) else s) (none, 0) = (some e, y) := hb
  rw [hb'] at k2 k3
  rcases k3 with k3 | ⟨l1, e2, l2, hl, k4, k5, k6⟩
  · cases k3
  cases k4
  have hem : e ∈ mirI m (pad (flat ts)) (List.finRange (n * m)) := by rw [hl]; simp
  obtain ⟨⟨o, ho⟩, ho2, rfl⟩ := List.mem_map.1 hem
  have hne := (List.mem_filter.1 ho2).2
  have hne : (pad (flat ts)).getD o 0 ≠ 46 := by simpa using hne
  have hsort := mirI_sorted (N := n * m) m (pad (flat ts))
  rw [hl, List.pairwise_append] at hsort
  simp only [cellN_place] at hx
  refine ⟨o, a, n * m, hx, Prod.ext ha rfl, by have := (hP (lett m (pad (flat ts)))).2; omega, (hP _).1, (hP _).2, by rw [Int.natCast_mul], hg.le25, ho, fun c hc => ?_⟩
  by_cases hm : (pad (flat ts)).getD c 0 = 46
  · refine .inr ⟨fun n' m' c' h => ?_, fun e => hne (by rw [← e]; exact hm)⟩
    obtain ⟨⟨h1, h2, h3⟩, h4⟩ := h
    obtain ⟨rfl, rfl⟩ := hg.uniq h1
    obtain rfl : c = c' := by omega
    exact h4 (by rw [hlp]; exact hm)
  · have h1 := hmem c hc hm
    have h2 := k2 _ h1
    have h3 := hpx c
    refine .inl ⟨(deltaR n m (pad (flat ts)) c).1, ⟨⟨hg, rfl, hc⟩, by rw [hlp]; exact hm⟩, rfl, ?_, ?_, ?_, fun hlt => ?_, fun heq => ?_⟩
    · have h5 := hP (lett m ((pad (flat ts)).set c (oth ((pad (flat ts)).getD c 0))))
      show -1000 ≤ (pathsR n m (lett m ((pad (flat ts)).set c (oth _)))).1 - _
      rw [hlp]; have h6 := hP (lett m (pad (flat ts))); omega
    · have h5 := hP (lett m ((pad (flat ts)).set c (oth ((pad (flat ts)).getD c 0))))
      show (pathsR n m (lett m ((pad (flat ts)).set c (oth _)))).1 - _ ≤ 1000
      rw [hlp]; have h6 := hP (lett m (pad (flat ts))); omega
    · rw [← h3]; exact h2
    · rw [← h3]
      rw [hl] at h1
      rcases List.mem_append.1 h1 with h1 | h1
      · exact k6 _ h1
      · exfalso
        rcases List.mem_cons.1 h1 with h1 | h1
        · have h7 := congrArg (fun z => cellN m z.1) h1
          simp only [cellN_place] at h7
          omega
        · have h7 := (List.pairwise_cons.1 hsort.2.1).1 _ h1
          simp only [cellN_place] at h7
          omega
    · subst heq
      rw [← h3]

set_option maxRecDepth 100000 in
set_option maxHeartbeats 1000000 in
theorem draw_any (A : Option Addr) (len cap : Nat) (w : World) (h : CodeAt w A len) (hl : len ≤ 1048576) (hc : len ≤ cap) (hc2 : cap ≤ 9223372036854775807) :
    Calls Try.prog 45 #[.slice A len cap] w fun e w' => Below w.heap.size w w' ∧ ∃ A c ts, e = .returned (.slice A ts.length c) ∧ LS w' A ts ∧ Drawn 4 4 ts := by
  have HC := hid (l91One_any A len cap w h hl hc hc2)
  clear h
  go_enter Try.func45, Try.ntmps45
  go_wp2_with fail
  refine HC.out.mono ?_
  rintro e w1 ⟨⟨A1, c1, ts, rfl, hst, hd⟩, hb⟩
  have HST := hid hst
  have HD := hid hd
  have HB := hid hb
  clear hst hd hb
  go_wp2_with fail
  go_ret
  exact ⟨HB.out, A1, c1, ts, rfl, HST.out, HD.out⟩

set_option maxRecDepth 100000 in
set_option maxHeartbeats 4000000 in
theorem walk (v : Value) (w : World) (hc : CameB w v) :
    Calls Try.prog 11 #[v] w fun e w' => e = .returned (.bool true) ∧ Below w.heap.size w w' := by
  obtain ⟨A, len, cap, rfl, hcode, hlc, hcap⟩ := hc
  have HCD := hid hcode
  clear hcode
  go_enter Try.func11, Try.ntmps11
  by_cases hbig : 1048576 < len
  · have hbi : (1048576 : Int) < (len : Int) := by omega
    go_wp2_with fail
    go_ret
    exact ⟨rfl, Below.refl _ _⟩
  have hbi : ¬ (1048576 : Int) < (len : Int) := by omega
  have HDR := hid (draw_any A len cap w HCD.out (by omega) hlc hcap)
  have HC1 := hid (HDR.out)
  go_wp2_with fail
  refine HC1.out.mono ?_
  rintro e w1 ⟨hb, A1, c1, ts, rfl, hl, hd⟩
  have HB1 := hid hb
  have Lts1 := hid hl
  clear hl
  clear hb HC1
  have HSM := hid (hd.small (by decide) (by decide))
  clear hd
  have HC2 := hid (implChangeBest_any A1 c1 ts w1 Lts1.out HSM.out.1 HSM.out.2)
  go_wp2_with fail
  refine HC2.out.mono ?_
  rintro e w2 ⟨hb, out, got, ok, rfl, hout⟩
  have HB2 := hid (HB1.out.trans (hb.mono HB1.out.size))
  clear HB1
  have Lts2 := hid (Lts1.out.step hb)
  clear Lts1
  clear hb HC2
  have HO := hid hout
  clear hout
  have HC3 := hid (specChangeBest_any A1 c1 w2.heap.size ts w2 Lts2.out (Nat.le_refl _) HSM.out.1 HSM.out.2)
  go_wp2_with fail
  refine HC3.out.mono ?_
  rintro e w3 ⟨hb, out2, got2, ok2, rfl, hout2⟩
  have HB3 := hid (HB2.out.trans (hb.mono HB2.out.size))
  clear HB2
  have Lts3 := hid (Lts2.out.step hb)
  clear Lts2
  clear hb HC3
  obtain ⟨rfl, rfl, rfl⟩ := HO.out.uniq hout2
  clear hout2
  rcases HO.out with ⟨n, m, e0, hg, hb0, hx0, rfl⟩ | ⟨_, rfl, rfl, rfl⟩
  · obtain ⟨o, a, N, rfl, e1, ha9, hy0, hy9, hN, hN25, hoN, hF⟩ := facts hg hb0 hx0
    clear hb0 hx0
    obtain ⟨b0, o0, s0, rfl, hk0, hs0, hl0⟩ := Lts3.out.addr hg
    have hn : ((ts.length : Nat) : Int) = (n : Int) := by rw [(hg).1]
    have hn0 : 0 < n := (hg).2.1
    have hn5 := (hg).2.2.1
    have hm1 := (hg).2.2.2.1
    have hm5 := (hg).2.2.2.2.1
    have HK0 := hid hk0
    clear hk0
    have HG := hid hg
    have E1 := hid e1
    have HF := hid hF
    clear hg e1 hF
    go_wp2_with fail
    refine (nRoundPaths (Lts3.out) HG.out E1.out).mono ?_
    rintro e w4 ⟨hb, rfl⟩
    have HB4 := hid (HB3.out.trans (hb.mono HB3.out.size))
    clear HB3
    have Lts4 := hid (Lts3.out.step hb)
    clear Lts3
    clear hb
    go_wp2_with fail
    go_loopw [12] (fun (iv : Value) (wr : World) => ∃ c : Nat, c ≤ N ∧ iv = .int .i64 c ∧ Below w.heap.size w wr ∧ LS wr (some ⟨b0, o0, none⟩) ts) (fun iv _ => N - (intOf iv).toNat)
    case atStart => exact ⟨0, by omega, rfl, HB4.out, Lts4.out⟩
    case round =>
      obtain ⟨c, hc, rfl, hbr, hlr⟩ := hrel
      have HBR := hid hbr
      have HLR := hid hlr
      clear hbr hlr
      have c0 := HLR.out.cell0 HK0.out
      by_cases hlt : c < N
      · have hci : (c : Int) < (N : Int) := by omega
        rcases HF.out c hlt with ⟨d, f1, f2, hd0, hd1, hle, hl1, hl2⟩ | ⟨f1, hne⟩
        · have F1 := hid f1
          have F2 := hid f2
          have hgt : ¬ got2 < (a : Int) + d := by omega
          clear f1 f2
          go_wp2_with fail
          refine (nChangeDelta HLR.out F1.out F2.out).mono ?_
          rintro e2 w9 ⟨hb, rfl⟩
          have HB9 := hid (HBR.out.trans (hb.mono HBR.out.size))
          have HL9 := hid (HLR.out.step hb)
          clear hb c0
          rcases Nat.lt_trichotomy c o with hco | hco | hco
          · have hco1 : (c : Int) < (o : Int) := by omega
            have hco2 : ¬ (c : Int) = (o : Int) := by omega
            have hne : ((a : Int) + d == got2) = false := by have := hl1 hco; simp; omega
            clear hl1 hl2 hle
            go_wp2_with fail
            go_roundw
            case rel => exact ⟨c + 1, by omega, by go_num, HB9.out, HL9.out⟩
            case measure => simp [intOf]; omega
          · have hco1 : ¬ (c : Int) < (o : Int) := by omega
            have hco2 : decide ((c : Int) = (o : Int)) = true := by simp; omega
            have hco3 : ((c : Int) == (o : Int)) = true := by simp; omega
            have hne : decide ((a : Int) + d = got2) = true := by have := hl2 hco; simpa using this
            have hne2 : ((a : Int) + d == got2) = true := by have := hl2 hco; simpa using this
            have hne3 : ((a : Int) + d != got2) = false := by have := hl2 hco; simpa using this
            clear hl1 hl2 hle hco
            go_wp2_with fail
            go_roundw
            case rel => exact ⟨c + 1, by omega, by go_num, HB9.out, HL9.out⟩
            case measure => simp [intOf]; omega
          · have hco1 : ¬ (c : Int) < (o : Int) := by omega
            have hco2 : ¬ (c : Int) = (o : Int) := by omega
            clear hl1 hl2 hle
            go_wp2_with fail
            go_roundw
            case rel => exact ⟨c + 1, by omega, by go_num, HB9.out, HL9.out⟩
            case measure => simp [intOf]; omega
        · have F1 := hid f1
          have HG9 := hid HG.out
          have hne1 : ¬ (c : Int) = (o : Int) := by omega
          clear f1
          go_wp2_with fail
          refine (nNoDelta HLR.out HG.out F1.out).mono ?_
          rintro e2 w9 ⟨hb, rfl⟩
          have HB9 := hid (HBR.out.trans (hb.mono HBR.out.size))
          have HL9 := hid (HLR.out.step hb)
          clear hb c0
          go_wp2_with fail
          go_roundw
          case rel => exact ⟨c + 1, by omega, by go_num, HB9.out, HL9.out⟩
          case measure => simp [intOf]; omega
      · obtain rfl : c = N := by omega
        go_wp2_with fail
        go_ret
        exact ⟨rfl, HBR.out⟩
  · skip
    go_wp2_with fail
    go_ret
    exact ⟨rfl, HB3.out⟩

set_option maxRecDepth 100000 in
theorem lifted (os : Os) (started : os.Started) (H : Type) (enc : TypeId × Value → H) :
    ReturnsInHanded {} Try.checked os 11 .any (Rows.fnBestSpec.pre6 enc Try.prog Try.f11 Rows.fnBestRow.domain false) (Rows.fnBestSpec.post enc Try.prog Try.f11 false true false false) := by
  refine returnsInHanded_of_change (C := Try.checked) Try.own started (by kernel_rfl) Try.func11
    (ChangeSpec.witness6 (enc := enc) (C := Try.checked) false ⟨#[], #[.slice none 0 0], []⟩ 8 (by kernel_rfl) (by kernel_rfl) (by kernel_rfl) (by kernel_rfl)) ?_
  intro W base args ds gs before hval0 hW hcnd _
  have hval : ∀ (j : Nat) t v, Try.f11.params[j]? = some t → args[j]? = some v → Value.okWide Try.prog W .any base t v := hval0
  have hW' := hW
  obtain ⟨p, q, hA0, hV, rfl, hfz, hnd⟩ := hW
  have hA : DataW.TrodAll enc Try.prog W 0 (fun _ => true) true Try.f11.params.toList args.toList ds p := hA0
  rw [Try.params11] at hA hval
  obtain ⟨v0, vs0, d0, ds0, p0, q0, hargs, rfl, rfl, h0, r0⟩ := trodAll_cons hA
  obtain ⟨rfl, rfl, rfl⟩ := trodAll_nil r0
  obtain rfl : args = #[v0] := by cases args; simp_all
  obtain ⟨rfl, rfl⟩ := trodVars_none hV
  have k0 := h0
  have lt0 : ∀ x ∈ p0, x.block < W.heap.size := by obtain ⟨m, hm⟩ := k0; exact DataW.trod_lt m _ _ _ hm
  have c0 := cameB_of (hval 0 22 v0 rfl rfl) h0
  clear hA0 hval0
  refine (walk v0 W c0).mono fun e W' ⟨he, bel⟩ => ?_
  subst he
  exact ⟨_, rfl, _, _, _, [], _, [], hW', trodAll_mk1 (shut_bool Try.underlying4 _), (trodAll_cons_mk (Below.trod Try.laidOut (by kernel_rfl) (of_decide_eq_true (by kernel_rfl)) k0 bel lt0) trodAll_mk0), rfl, bel.frame _, fun h => by cases h⟩

theorem closed : joinedFacts Try.pinned.checked.prog 11 Try.f11 Rows.fnBestSpec Rows.fnBestRow = true := by
  unfold joinedFacts
  exact and8 (by as_aux_lemma => kernel_rfl) head_enter head_lifts head_make (by as_aux_lemma => kernel_rfl) (by as_aux_lemma => kernel_rfl) (by as_aux_lemma => kernel_rfl) (by as_aux_lemma => kernel_rfl)

theorem proved : Rows.FnBestSaid :=
  OpenClaim.holds_of_wide 11 Try.f11 rfl rfl rfl rfl rfl rfl rfl ⟨rfl, rfl, rfl, rfl, rfl⟩ rfl rfl rfl rfl rfl (by kernel_rfl) Try.func11 closed
    (of_decide_eq_true (by kernel_rfl)) (by unfold Func.isWrapper; first | (rw [if_pos (by decide +kernel)]; kernel_rfl) | (rw [if_neg (by decide +kernel)]; exact ⟨rfl, rfl⟩))
    (fun os started H enc _ => lifted os started H enc)
#print axioms proved

end Go.Proofs.Ytgapdlokljcpbaa.lawFnBest
