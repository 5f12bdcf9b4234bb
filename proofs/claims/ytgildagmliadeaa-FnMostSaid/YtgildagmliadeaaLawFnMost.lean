/- For every code, the full grids of the drawn size have as many rounds at most as those of rows and columns exchanged, and the grid in turn has no more; the program's and the specification's answers are the same: the law FnMost returns true, and its argument reads as it did. No condition. -/
import Derived.Test.YtgildagmliadeaaPKR
import Derived.Test.YtgildagmliadeaaMostQ
import Derived.Test.YtgildagmliadeaaMostS
import Derived.Test.YtgildagmliadeaaPKD
import Derived.Test.YtgildagmliadeaaBunM
namespace Go.Proofs.Ytgildagmliadeaa.lawFnMost
open Go.ChangeShapes Go.WideShapes Go.ChangeAt Go.RowKit
open Go.ChangeMaps (open_string shut_string)

theorem nRoundFull {n m : Nat} {w : World} {fl : List ByteArray} (h : FullIn (n : Int) (m : Int) n m) (hv : ruleG n m fullF = fl) :
    Calls Try.prog 46 #[.int .i64 (n : Int), .int .i64 (m : Int)] w fun e w' => Below w.heap.size w w' ∧ ∃ A c, e = .returned (.tuple #[.slice A fl.length c, .bool true]) ∧ LS w' A fl :=
  (implRoundFull_any n m w).mono fun _ _ ⟨hb, A, res, ok, he, ho, hs⟩ => ⟨hb, A, res.length, by
    obtain ⟨rfl, rfl⟩ := ho.uniq (.inl ⟨n, m, h, rfl, rfl⟩ : FullOut (n : Int) (m : Int) true (ruleG n m fullF))
    rw [he, ← hv], by
    obtain ⟨_, rfl⟩ := ho.uniq (.inl ⟨n, m, h, rfl, rfl⟩ : FullOut (n : Int) (m : Int) true (ruleG n m fullF))
    rw [← hv]; exact hs.strs⟩

theorem nRoundMost {n m r : Nat} {w : World} (h : MostIn (n : Int) (m : Int) n m) (hv : mostTo n m (List.finRange (2 ^ (n * m))) = r) :
    Calls Try.prog 51 #[.int .i64 (n : Int), .int .i64 (m : Int)] w (IEnd (r : Int) true w) :=
  (implRoundMost_any n m w).mono fun _ _ ⟨hb, x, ok, he, ho⟩ => ⟨hb, by
    obtain ⟨rfl, rfl⟩ := ho.uniq (.inl ⟨n, m, h, rfl, rfl⟩ : MostOut (n : Int) (m : Int) _ true)
    rw [he, hv]⟩
theorem facts {n m : Nat} (h : MostIn (n : Int) (m : Int) n m) : ∃ (r b : Nat) (fl : List ByteArray), mostTo n m (List.finRange (2 ^ (n * m))) = r ∧ MostIn (m : Int) (n : Int) m n ∧ mostTo m n (List.finRange (2 ^ (m * n))) = r ∧ FullIn (n : Int) (m : Int) n m ∧ ruleG n m fullF = fl ∧ IsGrid n m fl ∧ manyR n m (lett m (pad (flat fl))) = ((b : Int), true) ∧ b ≤ r ∧ r ≤ 36 := by
  obtain ⟨_, _, h1, h2, h3, h4, h5⟩ := h
  have hg := fullF_grid h1 h2 h3 h4
  refine ⟨_, _, _, rfl, ⟨rfl, rfl, h3, h4, h1, h2, by rw [Nat.mul_comm]; exact h5⟩, most_turn (by omega), ⟨rfl, rfl, h1, h2, h3, h4⟩, rfl, hg, rfl, ?_, mostTo_le h5 _⟩
  refine most_full (by omega) _ fun i k k1 k2 k3 k4 => ?_
  rw [fullF_lett k1 k2 k3 k4 hg]
  exact fullF_mir

set_option maxRecDepth 100000 in
set_option maxHeartbeats 2000000 in
theorem l91Size_any (A : Option Addr) (len cap : Nat) (w : World) (h : CodeAt w A len) (hl : len ≤ 1048576) (hc : len ≤ cap) (hc2 : cap ≤ 9223372036854775807) :
    Calls Try.prog 107 #[.slice A len cap, .int .i64 3] w fun e w' => Below w.heap.size w w' ∧ ∃ (n m : Nat), e = .returned (.tuple #[.int .i64 (n : Int), .int .i64 (m : Int)]) ∧ n ≤ 10 ∧ m ≤ 5 := by
  have HOP := hid (dOpen A len cap w h hl hc hc2)
  clear h
  go_enter Try.func107, Try.ntmps107
  go_wp2_with fail
  refine HOP.out.mono ?_
  rintro e w1 ⟨rfl, hd⟩
  have HD1 := hid hd
  clear hd HOP
  have HC1 := hid (dPick 3 HD1.out (by omega) (by omega) (by omega))
  go_wp2_with fail
  refine HC1.out.mono ?_
  rintro e w2 ⟨hg, hd, v1, hv1, rfl⟩
  have HD2 := hid hd
  clear hg hd HC1 HD1
  have HC2 := hid (dPick 24 HD2.out (by omega) (by omega) (by omega))
  go_wp2_with fail
  refine HC2.out.mono ?_
  rintro e w3 ⟨hg, hd, v2, hv2, rfl⟩
  have HD3 := hid hd
  clear hg hd HC2 HD2
  obtain ⟨q, hq, hq23⟩ := q23 v2 (by omega)
  have HC3 := hid (dPick 24 HD3.out (by omega) (by omega) (by omega))
  go_wp2_with fail
  refine HC3.out.mono ?_
  rintro e w4 ⟨hg, hd, v3, hv3, rfl⟩
  have HD4 := hid hd
  clear hg hd HC3 HD3
  obtain ⟨r, hr, hr23⟩ := q23 v3 (by omega)
  obtain ⟨n, hn⟩ : ∃ n : Nat, 1 + v1 + q * 4 - r = n := ⟨_, rfl⟩
  have hni : (1 : Int) + (v1 : Int) + (q : Int) * 4 - (r : Int) = (n : Int) := by omega
  have hn9 : n ≤ 10 := by omega
  clear hn
  have HC4 := hid (dPick 3 HD4.out (by omega) (by omega) (by omega))
  go_wp2_with fail
  refine HC4.out.mono ?_
  rintro e w5 ⟨hg, hd, v4, hv4, rfl⟩
  have HD5 := hid hd
  clear hg hd HC4 HD4
  obtain ⟨m, em⟩ : ∃ m, 1 + v4 = m := ⟨_, rfl⟩
  have zim : (1 : Int) + (v4 : Int) = (m : Int) := by omega
  have lm : 1 ≤ m := by omega
  have um : m ≤ 5 := by omega
  clear em
  go_wp2_with fail
  refine bodyPost_ret (results_tmp2 rfl _ _ _) rfl ?_
  exact ⟨HD5.out.below, n, m, rfl, hn9, um⟩

set_option maxRecDepth 100000 in
set_option maxHeartbeats 2000000 in
theorem draw_any (A : Option Addr) (len cap : Nat) (w : World) (h : CodeAt w A len) (hl : len ≤ 1048576) (hc : len ≤ cap) (hc2 : cap ≤ 9223372036854775807) :
    Calls Try.prog 50 #[.slice A len cap] w fun e w' => Below w.heap.size w w' ∧ ∃ (n m : Nat), e = .returned (.tuple #[.int .i64 (n : Int), .int .i64 (m : Int)]) ∧ n ≤ 10 ∧ m ≤ 5 := by
  have HP := hid (l91Size_any A len cap w h hl hc hc2)
  clear h
  go_enter Try.func50, Try.ntmps50
  go_wp2_with fail
  refine HP.out.mono ?_
  rintro e w1 ⟨hb, n, m, rfl, hn, hm⟩
  have HB := hid hb
  clear hb
  go_wp2_with fail
  refine bodyPost_ret (results_tmp2 rfl _ _ _) rfl ?_
  exact ⟨HB.out, n, m, rfl, hn, hm⟩

set_option maxRecDepth 100000 in
set_option maxHeartbeats 4000000 in
theorem walk (v : Value) (w : World) (hc : CameB w v) :
    Calls Try.prog 12 #[v] w fun e w' => e = .returned (.bool true) ∧ Below w.heap.size w w' := by
  obtain ⟨A, len, cap, rfl, hcode, hlc, hcap⟩ := hc
  have HCD := hid hcode
  clear hcode
  go_enter Try.func12, Try.ntmps12
  by_cases hbig : 1048576 < len
  · have hbi : (1048576 : Int) < (len : Int) := by omega
    go_wp2_with fail
    go_ret
    exact ⟨rfl, Below.refl _ _⟩
  have hbi : ¬ (1048576 : Int) < (len : Int) := by omega
  have HDR := hid (draw_any A len cap w HCD.out (by omega) hlc hcap)
  have HC1 := hid (HDR.out)
  go_wp2_with fail
  refine HC1.out.mono ?_
  rintro e w1 ⟨hb, n, m, rfl, hn9, hm5⟩
  have HB1 := hid hb
  clear hb HC1
  have HC2 := hid (implRoundMost_any n m w1)
  go_wp2_with fail
  refine HC2.out.mono ?_
  rintro e w2 ⟨hb, out, ok, rfl, hout⟩
  have HB2 := hid (HB1.out.trans (hb.mono HB1.out.size))
  clear HB1
  clear hb HC2
  have HO := hid hout
  clear hout
  have HC3 := hid (specRoundMost_any n m w2)
  go_wp2_with fail
  refine HC3.out.mono ?_
  rintro e w3 ⟨hb, out2, ok2, rfl, hout2⟩
  have HB3 := hid (HB2.out.trans (hb.mono HB2.out.size))
  clear HB2
  clear hb HC3
  obtain ⟨rfl, rfl⟩ := HO.out.uniq hout2
  clear hout2
  rcases HO.out with ⟨n2, m2, hp, rfl, rfl⟩ | ⟨_, rfl, rfl⟩
  · obtain rfl : n = n2 := by have := hp.1; omega
    obtain rfl : m = m2 := by have := hp.2.1; omega
    obtain ⟨r, b, fl, e1, p2, e2, p3, e3, g1, e4, hbr, hr36⟩ := facts hp
    rw [e1]
    have hbri : (b : Int) ≤ (r : Int) := by omega
    clear e1 hp
    have P2 := hid p2
    have E2 := hid e2
    have P3 := hid p3
    have E3 := hid e3
    have G1 := hid g1
    have E4 := hid e4
    clear p2 e2 p3 e3 g1 e4
    go_wp2_with fail
    refine (nRoundMost P2.out E2.out).mono ?_
    rintro e w4 ⟨hb, rfl⟩
    have HB4 := hid (HB3.out.trans (hb.mono HB3.out.size))
    clear HB3
    clear hb
    go_wp2_with fail
    refine (nRoundFull P3.out E3.out).mono ?_
    rintro e w5 ⟨hb, A5, c5, rfl, hl⟩
    have HB5 := hid (HB4.out.trans (hb.mono HB4.out.size))
    clear HB4
    have Lg5 := hid hl
    clear hl
    clear hb
    go_wp2_with fail
    refine (nRoundMany (Lg5.out) G1.out E4.out).mono ?_
    rintro e w6 ⟨hb, rfl⟩
    have HB6 := hid (HB5.out.trans (hb.mono HB5.out.size))
    clear HB5
    have Lg6 := hid (Lg5.out.step hb)
    clear Lg5
    clear hb
    go_wp2_with fail
    go_ret
    exact ⟨rfl, HB6.out⟩
  · skip
    go_wp2_with fail
    go_ret
    exact ⟨rfl, HB3.out⟩

set_option maxRecDepth 100000 in
theorem lifted (os : Os) (started : os.Started) (H : Type) (enc : TypeId × Value → H) :
    ReturnsInHanded {} Try.checked os 12 .any (Rows.fnMostSpec.pre6 enc Try.prog Try.f12 Rows.fnMostRow.domain false) (Rows.fnMostSpec.post enc Try.prog Try.f12 false true false false) := by
  refine returnsInHanded_of_change (C := Try.checked) Try.own started (by kernel_rfl) Try.func12
    (ChangeSpec.witness6 (enc := enc) (C := Try.checked) false ⟨#[], #[.slice none 0 0], []⟩ 8 (by kernel_rfl) (by kernel_rfl) (by kernel_rfl) (by kernel_rfl)) ?_
  intro W base args ds gs before hval0 hW hcnd _
  have hval : ∀ (j : Nat) t v, Try.f12.params[j]? = some t → args[j]? = some v → Value.okWide Try.prog W .any base t v := hval0
  have hW' := hW
  obtain ⟨p, q, hA0, hV, rfl, hfz, hnd⟩ := hW
  have hA : DataW.TrodAll enc Try.prog W 0 (fun _ => true) true Try.f12.params.toList args.toList ds p := hA0
  rw [Try.params12] at hA hval
  obtain ⟨v0, vs0, d0, ds0, p0, q0, hargs, rfl, rfl, h0, r0⟩ := trodAll_cons hA
  obtain ⟨rfl, rfl, rfl⟩ := trodAll_nil r0
  obtain rfl : args = #[v0] := by cases args; simp_all
  obtain ⟨rfl, rfl⟩ := trodVars_none hV
  have k0 := h0
  have lt0 : ∀ x ∈ p0, x.block < W.heap.size := by obtain ⟨m, hm⟩ := k0; exact DataW.trod_lt m _ _ _ hm
  have c0 := cameB_of (hval 0 22 v0 rfl rfl) h0
  clear hA0 hval0
  refine (walk v0 W c0).mono fun e W' ⟨he, bel⟩ => ?_
  subst he
  exact ⟨_, rfl, _, _, _, [], _, [], hW', trodAll_mk1 (shut_bool Try.underlying4 _), (trodAll_cons_mk (Below.trod Try.laidOut (by kernel_rfl) (of_decide_eq_true (by kernel_rfl)) k0 bel lt0) trodAll_mk0), rfl, bel.frame _, fun h => by cases h⟩

theorem closed : joinedFacts Try.pinned.checked.prog 12 Try.f12 Rows.fnMostSpec Rows.fnMostRow = true := by
  unfold joinedFacts
  exact and8 (by as_aux_lemma => kernel_rfl) head_enter head_lifts head_make (by as_aux_lemma => kernel_rfl) (by as_aux_lemma => kernel_rfl) (by as_aux_lemma => kernel_rfl) (by as_aux_lemma => kernel_rfl)

theorem proved : Rows.FnMostSaid :=
  OpenClaim.holds_of_wide 12 Try.f12 rfl rfl rfl rfl rfl rfl rfl ⟨rfl, rfl, rfl, rfl, rfl⟩ rfl rfl rfl rfl rfl (by kernel_rfl) Try.func12 closed
    (of_decide_eq_true (by kernel_rfl)) (by unfold Func.isWrapper; first | (rw [if_pos (by decide +kernel)]; kernel_rfl) | (rw [if_neg (by decide +kernel)]; exact ⟨rfl, rfl⟩))
    (fun os started H enc _ => lifted os started H enc)
#print axioms proved

end Go.Proofs.Ytgildagmliadeaa.lawFnMost
