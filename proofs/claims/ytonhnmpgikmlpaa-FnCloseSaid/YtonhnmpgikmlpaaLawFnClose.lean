/- For every code, the drawn pairing closed makes as many rounds when it is seen from behind, no more than rows, and empty grids as many as rows; the program's and the specification's answers are the same: the law FnClose returns true, and its argument reads as it did. No condition. -/
import Derived.Test.YtonhnmpgikmlpaaPKB
import Derived.Test.YtonhnmpgikmlpaaPKP
import Derived.Test.YtonhnmpgikmlpaaPKD
import Derived.Test.YtonhnmpgikmlpaaBunV
import Derived.Test.YtonhnmpgikmlpaaSewQ
import Derived.Test.YtonhnmpgikmlpaaCloseS
import Derived.Test.YtonhnmpgikmlpaaBunP
namespace Go.Proofs.Ytonhnmpgikmlpaa.lawFnClose
open Go.ChangeShapes Go.WideShapes Go.ChangeAt Go.RowKit
open Go.ChangeMaps (open_string shut_string)

theorem nJoinFlip {n m c : Nat} {A : Option Addr} {l r : List Int} {w : World} (h : LI w A l) (hp : PairOf n m l) (hr : flipL l m = r) :
    Calls Try.prog 36 #[.int .i64 (n : Int), .int .i64 (m : Int), .slice A l.length c] w fun e w' => Below w.heap.size w w' ∧ ∃ A c, e = .returned (.tuple #[.slice A r.length c, .bool true]) ∧ LI w' A r :=
  (implJoinFlip_any n m A c l w h (by have := hp.2.2.1.2.1; omega)).mono fun _ _ h => (lend_own h).yes fun r' ok ho => by
    subst hr
    rcases ho with ⟨_, h1, h2⟩ | ⟨h1, _, _⟩
    · exact ⟨h1, h2⟩
    · exact absurd hp h1

theorem nJoinClose {n m c k : Nat} {A : Option Addr} {l : List Int} {w : World} (h : LI w A l) (hp : PairOf n m l) (hr : closeV n m l = (k : Int)) :
    Calls Try.prog 34 #[.int .i64 (n : Int), .int .i64 (m : Int), .slice A l.length c] w (IEnd (k : Int) true w) :=
  (implJoinClose_any n m A c l w h (by have := hp.2.2.1.2.1; omega)).mono fun _ _ ⟨hb, x', ok', he, ho⟩ => ⟨hb, by
    rcases ho with ⟨_, rfl, rfl⟩ | ⟨h1, _, _⟩
    · rw [he, ← hr]; rfl
    · exact absurd hp h1⟩
theorem nJoinUnit {n m : Nat} {w : World} {u : List Int} (h : (1 ≤ (n : Int) ∧ (n : Int) ≤ 5) ∧ 1 ≤ (m : Int) ∧ (m : Int) ≤ 5) (hu : unitL n m = u) :
    Calls Try.prog 37 #[.int .i64 (n : Int), .int .i64 (m : Int)] w fun e w' => Below w.heap.size w w' ∧ ∃ A c, e = .returned (.tuple #[.slice A u.length c, .bool true]) ∧ LI w' A u :=
  (implJoinUnit_any n m w).mono fun _ _ h' => (lend_own h').yes fun r' ok ho => by
    subst hu
    rcases ho with ⟨_, h1, h2⟩ | ⟨h1, _, _⟩
    · exact ⟨h1, h2⟩
    · exact absurd h h1
set_option maxRecDepth 100000 in
theorem unit_close : ∀ n, n < 6 → ∀ m, m < 6 → 1 ≤ n → 1 ≤ m → roundsTo (2 * (n + m)) (mateN (unitL n m)) (sewT n m (2 * (n + m))) (2 * (n + m)) = n := by decide +kernel
theorem facts {n m : Nat} {l : List Int} (h : PairOf (n : Int) (m : Int) l) : ∃ (k : Nat) (f u : List Int), closeV n m l = (k : Int) ∧ flipL l m = f ∧ PairOf (n : Int) (m : Int) f ∧ closeV n m f = (k : Int) ∧ ((1 ≤ (n : Int) ∧ (n : Int) ≤ 5) ∧ 1 ≤ (m : Int) ∧ (m : Int) ≤ 5) ∧ unitL n m = u ∧ PairOf (n : Int) (m : Int) u ∧ closeV n m u = (n : Int) ∧ k ≤ n ∧ n ≤ 5 := by
  obtain ⟨⟨h1, h2⟩, ⟨h3, h4⟩, hp, hl⟩ := h
  have hlen : l.length = 2 * (n + m) := by omega
  have hM := hp.mates_of
  have hfp := flipL_pair (m := m) hp (by omega) (by omega)
  have hFM := hfp.mates_of
  rw [flipL_length] at hFM
  have S := flip1_sym (n := n) (m := m) (a := l) (by omega) hlen
  have hsw : Sewn (2 * (n + m)) (mateN l) (sewT n m (2 * (n + m))) := oneS_sewn (fun i hi => ⟨by have := hM.lt i (by omega); omega, hM.ne i (by omega), hM.back i (by omega)⟩) (by omega)
  have hsw' : Sewn (2 * (n + m)) (mateN (flipL l m)) (sewT n m (2 * (n + m))) := oneS_sewn (fun i hi => ⟨by have := hFM.lt i (by omega); omega, hFM.ne i (by omega), hFM.back i (by omega)⟩) (by omega)
  have e1 : closeV n m l = ((roundsTo (2 * (n + m)) (mateN l) (sewT n m (2 * (n + m))) (2 * (n + m)) : Nat) : Int) := by unfold closeV; rw [hlen]
  have e2 : closeV n m (flipL l m) = ((roundsTo (2 * (n + m)) (mateN (flipL l m)) (sewT n m (2 * (n + m))) (2 * (n + m)) : Nat) : Int) := by unfold closeV; rw [flipL_length, hlen]
  have hu := unit_close n (by omega) m (by omega) (by omega) (by omega)
  have hup := unitL_pair (n := n) (m := m) (by omega) (by omega) (by omega) (by omega)
  have hul := unitL_length n m
  refine ⟨_, _, _, e1, rfl, ⟨⟨h1, h2⟩, ⟨h3, h4⟩, hfp, by rw [flipL_length]; exact hl⟩, ?_, ⟨⟨h1, h2⟩, h3, h4⟩, rfl, ⟨⟨h1, h2⟩, ⟨h3, h4⟩, hup, by rw [hul]; omega⟩, ?_, seam_one hsw (by omega), by omega⟩
  · rw [e2, S.rounds hsw hsw']
  · unfold closeV
    rw [hul, hu]

theorem dL2Pairs {w0 w : World} {g P c n m : Nat} {A : Option Addr} {ts : List ByteArray} (h : Dr w0 g P w) (hl : LD g w A ts) (hg : IsGrid n m ts) :
    Calls Try.prog 80 #[.slice A n c] w fun e w' => w.grownBy w' (some g) ∧ Dr w0 g P w' ∧ ∃ A' c' l, e = .returned (.slice A' l.length c') ∧ LI w' A' l ∧ l.length ≤ 20 := by
  have hn := hg.1
  have hc := l2Pairs_any A c w.heap.size n m ts w hl.1 (Nat.le_refl _) hg
  rw [hn] at hc
  refine hc.mono fun e w' ⟨v, he, hgr, hb⟩ => ?_
  have hgb := gby_below (some g) hb
  obtain ⟨A', c', rfl, hown⟩ := hgr.own
  have h1 := hg.2.2.1
  have h2 := hg.2.2.2.2.1
  exact ⟨hgb, h.grown (h.1.below hb) hgb, A', c', _, he, own_li hown, by rw [pairsR_length]; omega⟩

set_option maxRecDepth 100000 in
set_option maxHeartbeats 2000000 in
theorem draw_any (A : Option Addr) (len cap : Nat) (w : World) (h : CodeAt w A len) (hl : len ≤ 1048576) (hc : len ≤ cap) (hc2 : cap ≤ 9223372036854775807) :
    Calls Try.prog 33 #[.slice A len cap] w fun e w' => Below w.heap.size w w' ∧ ∃ (n m : Nat) (A : Option Addr) (c : Nat) (l : List Int), e = .returned (.tuple #[.int .i64 (n : Int), .int .i64 (m : Int), .slice A l.length c]) ∧ n ≤ 10 ∧ m ≤ 10 ∧ LI w' A l ∧ l.length ≤ 20 := by
  have HOP := hid (dOpen A len cap w h hl hc hc2)
  clear h
  go_enter Try.func33, Try.ntmps33
  go_wp2_with fail
  refine HOP.out.mono ?_
  rintro e w1 ⟨rfl, hd⟩
  have HD1 := hid hd
  clear hd HOP
  have HC1 := hid (dPick 4 HD1.out (by omega) (by omega) (by omega))
  go_wp2_with fail
  refine HC1.out.mono ?_
  rintro e w2 ⟨hg, hd, v1, hv1, rfl⟩
  have HD2 := hid hd
  clear hg hd HC1 HD1
  obtain ⟨n, en⟩ : ∃ n, 1 + v1 = n := ⟨_, rfl⟩
  have zin : (1 : Int) + (v1 : Int) = (n : Int) := by omega
  have ln : 1 ≤ n := by omega
  have un : n ≤ 4 := by omega
  clear en
  have HC2 := hid (dPick 4 HD2.out (by omega) (by omega) (by omega))
  go_wp2_with fail
  refine HC2.out.mono ?_
  rintro e w3 ⟨hg, hd, v2, hv2, rfl⟩
  have HD3 := hid hd
  clear hg hd HC2 HD2
  obtain ⟨m, em⟩ : ∃ m, 1 + v2 = m := ⟨_, rfl⟩
  have zim : (1 : Int) + (v2 : Int) = (m : Int) := by omega
  have lm : 1 ≤ m := by omega
  have um : m ≤ 4 := by omega
  clear em
  have HC3 := hid (dPick 2 HD3.out (by omega) (by omega) (by omega))
  go_wp2_with fail
  refine HC3.out.mono ?_
  rintro e w4 ⟨hg, hd, v3, hv3, rfl⟩
  have HD4 := hid hd
  clear hg hd HC3 HD3
  obtain ⟨N, hN⟩ : ∃ N, 2 * (n + m) = N := ⟨_, rfl⟩
  have hNi : 2 * ((n : Int) + (m : Int)) = (N : Int) := by omega
  have hN4 : 3 ≤ N := by omega
  have hN20 : N ≤ 20 := by omega
  clear hN
  rcases Nat.eq_zero_or_pos v3 with rfl | hv0
  · skip
    have HC4 := hid (dOf n m HD4.out (by omega) (by omega) (by omega) (by omega))
    go_wp2_with fail
    refine HC4.out.mono ?_
    rintro e w5 ⟨hg, hd, A1, c1, ts, hln, htx, hx, rfl⟩
    have Xts5 := hid hx
    clear hx
    have HD5 := hid hd
    clear hg hd HC4 HD4
    have HG := hid (htx.grid hln (by omega) (by omega) (by omega) (by omega))
    clear hln htx
    have HC5 := hid (dL2Pairs (c := c1) HD5.out Xts5.out HG.out)
    go_wp2_with fail
    refine HC5.out.mono ?_
    rintro e w6 ⟨hg, hd, A2, c2, l, rfl, hli, hl20⟩
    have Xts6 := hid (Xts5.out.step hg)
    clear Xts5
    have HD6 := hid hd
    clear hg hd HC5 HD5
    have HLI := hid hli
    clear hli
    go_wp2_with fail
    refine bodyPost_ret (results_tmp3 rfl _ _ _) rfl ?_
    exact ⟨HD6.out.below, n, m, A2, c2, l, rfl, by omega, by omega, HLI.out, hl20⟩
  · have hvi : ¬ (v3 : Int) = 0 := by omega
    have HC4 := hid (dPairs N HD4.out (by omega) hN4 hN20)
    go_wp2_with fail
    refine HC4.out.mono ?_
    rintro e w5 ⟨hg, hd, A3, c3, l, hl, hx, rfl⟩
    have Xl5 := hid hx
    clear hx
    have HD5 := hid hd
    clear hg hd HC4 HD4
    have HL := hid hl
    clear hl
    go_wp2_with fail
    refine bodyPost_ret (results_tmp3 rfl _ _ _) rfl ?_
    exact ⟨HD5.out.below, n, m, A3, c3, l, by rw [HL.out]; rfl, by omega, by omega, Xl5.out.1, by rw [HL.out]; exact hN20⟩

set_option maxRecDepth 100000 in
set_option maxHeartbeats 4000000 in
theorem walk (v : Value) (w : World) (hc : CameB w v) :
    Calls Try.prog 7 #[v] w fun e w' => e = .returned (.bool true) ∧ Below w.heap.size w w' := by
  obtain ⟨A, len, cap, rfl, hcode, hlc, hcap⟩ := hc
  have HCD := hid hcode
  clear hcode
  go_enter Try.func7, Try.ntmps7
  by_cases hbig : 1048576 < len
  · have hbi : (1048576 : Int) < (len : Int) := by omega
    go_wp2_with fail
    go_ret
    exact ⟨rfl, Below.refl _ _⟩
  have hbi : ¬ (1048576 : Int) < (len : Int) := by omega
  have HDR := hid (draw_any A len cap w HCD.out (by omega) hlc hcap)
  have HC1 := hid (HDR.out)
  go_wp2_with fail
  refine HC1.out.mono ?_
  rintro e w1 ⟨hb, n, m, A1, c1, l, rfl, hn9, hm9, hl, hl20⟩
  have HB1 := hid hb
  have Ll1 := hid hl
  clear hl
  clear hb HC1
  have HC2 := hid (implJoinClose_any n m A1 c1 l w1 Ll1.out (by omega))
  go_wp2_with fail
  refine HC2.out.mono ?_
  rintro e w2 ⟨hb, out, ok, rfl, hout⟩
  have HB2 := hid (HB1.out.trans (hb.mono HB1.out.size))
  clear HB1
  have Ll2 := hid (Ll1.out.step hb)
  clear Ll1
  clear hb HC2
  have HO := hid hout
  clear hout
  have HC3 := hid (specJoinClose_any n m A1 c1 w2.heap.size l w2 Ll2.out (Nat.le_refl _) (by omega))
  go_wp2_with fail
  refine HC3.out.mono ?_
  rintro e w3 ⟨hb, out2, ok2, rfl, hout2⟩
  have HB3 := hid (HB2.out.trans (hb.mono HB2.out.size))
  clear HB2
  have Ll3 := hid (Ll2.out.step hb)
  clear Ll2
  clear hb HC3
  obtain ⟨rfl, rfl⟩ := HO.out.uniq hout2
  clear hout2
  rcases HO.out with ⟨hp, rfl, rfl⟩ | ⟨_, rfl, rfl⟩
  · obtain ⟨k, f, u, e1, e2, p2, e3, p3, e4, p4, e5, hkn, hn5⟩ := facts hp
    have e1' : closeV (n : Int).toNat (m : Int).toNat l = (k : Int) := e1
    rw [e1']
    have hkni : (k : Int) ≤ (n : Int) := by omega
    clear e1 e1'
    have HP := hid hp
    have E2 := hid e2
    have P2 := hid p2
    have E3 := hid e3
    have P3 := hid p3
    have E4 := hid e4
    have P4 := hid p4
    have E5 := hid e5
    clear hp e2 p2 e3 p3 e4 p4 e5
    go_wp2_with fail
    refine (nJoinFlip (Ll3.out) HP.out E2.out).mono ?_
    rintro e w4 ⟨hb, A5, c5, rfl, hl⟩
    have HB4 := hid (HB3.out.trans (hb.mono HB3.out.size))
    clear HB3
    have Ll4 := hid (Ll3.out.step hb)
    clear Ll3
    have Lf4 := hid hl
    clear hl
    clear hb
    go_wp2_with fail
    refine (nJoinClose (Lf4.out) P2.out E3.out).mono ?_
    rintro e w5 ⟨hb, rfl⟩
    have HB5 := hid (HB4.out.trans (hb.mono HB4.out.size))
    clear HB4
    have Ll5 := hid (Ll4.out.step hb)
    clear Ll4
    have Lf5 := hid (Lf4.out.step hb)
    clear Lf4
    clear hb
    go_wp2_with fail
    refine (nJoinUnit P3.out E4.out).mono ?_
    rintro e w6 ⟨hb, A6, c6, rfl, hl⟩
    have HB6 := hid (HB5.out.trans (hb.mono HB5.out.size))
    clear HB5
    have Ll6 := hid (Ll5.out.step hb)
    clear Ll5
    have Lf6 := hid (Lf5.out.step hb)
    clear Lf5
    have Lu6 := hid hl
    clear hl
    clear hb
    go_wp2_with fail
    refine (nJoinClose (Lu6.out) P4.out E5.out).mono ?_
    rintro e w7 ⟨hb, rfl⟩
    have HB7 := hid (HB6.out.trans (hb.mono HB6.out.size))
    clear HB6
    have Ll7 := hid (Ll6.out.step hb)
    clear Ll6
    have Lf7 := hid (Lf6.out.step hb)
    clear Lf6
    have Lu7 := hid (Lu6.out.step hb)
    clear Lu6
    clear hb
    go_wp2_with fail
    go_ret
    exact ⟨rfl, HB7.out⟩
  · skip
    go_wp2_with fail
    go_ret
    exact ⟨rfl, HB3.out⟩

set_option maxRecDepth 100000 in
theorem lifted (os : Os) (started : os.Started) (H : Type) (enc : TypeId × Value → H) :
    ReturnsInHanded {} Try.checked os 7 .any (Rows.fnCloseSpec.pre6 enc Try.prog Try.f7 Rows.fnCloseRow.domain false) (Rows.fnCloseSpec.post enc Try.prog Try.f7 false true false false) := by
  refine returnsInHanded_of_change (C := Try.checked) Try.own started (by kernel_rfl) Try.func7
    (ChangeSpec.witness6 (enc := enc) (C := Try.checked) false ⟨#[], #[.slice none 0 0], []⟩ 8 (by kernel_rfl) (by kernel_rfl) (by kernel_rfl) (by kernel_rfl)) ?_
  intro W base args ds gs before hval0 hW hcnd _
  have hval : ∀ (j : Nat) t v, Try.f7.params[j]? = some t → args[j]? = some v → Value.okWide Try.prog W .any base t v := hval0
  have hW' := hW
  obtain ⟨p, q, hA0, hV, rfl, hfz, hnd⟩ := hW
  have hA : DataW.TrodAll enc Try.prog W 0 (fun _ => true) true Try.f7.params.toList args.toList ds p := hA0
  rw [Try.params7] at hA hval
  obtain ⟨v0, vs0, d0, ds0, p0, q0, hargs, rfl, rfl, h0, r0⟩ := trodAll_cons hA
  obtain ⟨rfl, rfl, rfl⟩ := trodAll_nil r0
  obtain rfl : args = #[v0] := by cases args; simp_all
  obtain ⟨rfl, rfl⟩ := trodVars_none hV
  have k0 := h0
  have lt0 : ∀ x ∈ p0, x.block < W.heap.size := by obtain ⟨m, hm⟩ := k0; exact DataW.trod_lt m _ _ _ hm
  have c0 := cameB_of (hval 0 22 v0 rfl rfl) h0
  clear hA0 hval0
  refine (walk v0 W c0).mono fun e W' ⟨he, bel⟩ => ?_
  subst he
  exact ⟨_, rfl, _, _, _, [], _, [], hW', trodAll_mk1 (shut_bool Try.underlying4 _), (trodAll_cons_mk (Below.trod Try.laidOut (by kernel_rfl) (of_decide_eq_true (by kernel_rfl)) k0 bel lt0) trodAll_mk0), rfl, bel.frame _, fun h => by cases h⟩

theorem closed : joinedFacts Try.pinned.checked.prog 7 Try.f7 Rows.fnCloseSpec Rows.fnCloseRow = true := by
  unfold joinedFacts
  exact and8 (by as_aux_lemma => kernel_rfl) head_enter head_lifts head_make (by as_aux_lemma => kernel_rfl) (by as_aux_lemma => kernel_rfl) (by as_aux_lemma => kernel_rfl) (by as_aux_lemma => kernel_rfl)

theorem proved : Rows.FnCloseSaid :=
  OpenClaim.holds_of_wide 7 Try.f7 rfl rfl rfl rfl rfl rfl rfl ⟨rfl, rfl, rfl, rfl, rfl⟩ rfl rfl rfl rfl rfl (by kernel_rfl) Try.func7 closed
    (of_decide_eq_true (by kernel_rfl)) (by unfold Func.isWrapper; first | (rw [if_pos (by decide +kernel)]; kernel_rfl) | (rw [if_neg (by decide +kernel)]; exact ⟨rfl, rfl⟩))
    (fun os started H enc _ => lifted os started H enc)
#print axioms proved

end Go.Proofs.Ytonhnmpgikmlpaa.lawFnClose
