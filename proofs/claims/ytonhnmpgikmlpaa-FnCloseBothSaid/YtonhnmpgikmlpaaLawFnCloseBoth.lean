/- For every code, the drawn pairings joined in both orders and closed make as many rounds, those of the joining with them; the program's and the specification's answers are the same: the law FnCloseBoth returns true, and its argument reads as it did. No condition. -/
import Derived.Test.YtonhnmpgikmlpaaPKB
import Derived.Test.YtonhnmpgikmlpaaCloseQ
import Derived.Test.YtonhnmpgikmlpaaTwoS
import Derived.Test.YtonhnmpgikmlpaaBunN
import Derived.Test.YtonhnmpgikmlpaaBunV
namespace Go.Proofs.Ytonhnmpgikmlpaa.lawFnCloseBoth
open Go.ChangeShapes Go.WideShapes Go.ChangeAt Go.RowKit
open Go.ChangeMaps (open_string shut_string)

def JoinLi (w : World) (e : Ending) : Prop := ∃ (n m k : Nat) (A : Option Addr) (c : Nat) (la : List Int) (A2 : Option Addr) (c2 : Nat) (lb : List Int),
  e = .returned (.tuple #[.int .i64 (n : Int), .int .i64 (m : Int), .slice A la.length c, .int .i64 (k : Int), .slice A2 lb.length c2]) ∧ n ≤ 3 ∧ m ≤ 3 ∧ k ≤ 3 ∧ la.length ≤ 20 ∧ lb.length ≤ 20 ∧ LI w A la ∧ LI w A2 lb
theorem _root_.Go.Proofs.Ytonhnmpgikmlpaa.JoinDr.li {w : World} {e : Ending} (h : JoinDr w e) : JoinLi w e := h

theorem nJoinFlip {n m c : Nat} {A : Option Addr} {l r : List Int} {w : World} (h : LI w A l) (hp : PairOf n m l) (hr : flipL l m = r) :
    Calls Try.prog 36 #[.int .i64 (n : Int), .int .i64 (m : Int), .slice A l.length c] w fun e w' => Below w.heap.size w w' ∧ ∃ A c, e = .returned (.tuple #[.slice A r.length c, .bool true]) ∧ LI w' A r :=
  (implJoinFlip_any n m A c l w h (by have := hp.2.2.1.2.1; omega)).mono fun _ _ h => (lend_own h).yes fun r' ok ho => by
    subst hr
    rcases ho with ⟨_, h1, h2⟩ | ⟨h1, _, _⟩
    · exact ⟨h1, h2⟩
    · exact absurd hp h1

theorem nJoinPairs {n m k : Nat} {A A2 : Option Addr} {c c2 : Nat} {a b r : List Int} {w : World} (h : LI w A a) (h2 : LI w A2 b) (hp : TwoOf (n : Int) (m : Int) a (k : Int) b) (hr : joinedL n m a b = r) :
    Calls Try.prog 39 #[.int .i64 (n : Int), .int .i64 (m : Int), .slice A a.length c, .int .i64 (k : Int), .slice A2 b.length c2] w fun e w' => Below w.heap.size w w' ∧ ∃ A c, e = .returned (.tuple #[.slice A r.length c, .bool true]) ∧ LI w' A r :=
  (implJoinPairs_any n m A c a k A2 c2 b w h h2 (by have := hp.1.2.2.1.2.1; omega) (by have := hp.2.1.2.2.1.2.1; omega)).mono fun _ _ h => (lend_own h).yes fun r' ok ho => by
    subst hr
    rcases ho with ⟨_, h1, h2⟩ | ⟨h1, _, _⟩
    · exact ⟨h1, h2⟩
    · exact absurd hp h1

theorem nJoinRounds {n m k : Nat} {A A2 : Option Addr} {c c2 : Nat} {a b : List Int} {r : Nat} {w : World} (h : LI w A a) (h2 : LI w A2 b) (hp : TwoOf (n : Int) (m : Int) a (k : Int) b) (hr : joinedR n m a b = r) :
    Calls Try.prog 42 #[.int .i64 (n : Int), .int .i64 (m : Int), .slice A a.length c, .int .i64 (k : Int), .slice A2 b.length c2] w (IEnd (r : Int) true w) :=
  (implJoinRounds_any n m A c a k A2 c2 b w h h2 (by have := hp.1.2.2.1.2.1; omega) (by have := hp.2.1.2.2.1.2.1; omega)).mono fun _ _ ⟨hb, x', ok', he, ho⟩ => ⟨hb, by
    subst hr
    rcases ho with ⟨_, rfl, rfl⟩ | ⟨h1, _, _⟩
    · exact he
    · exact absurd hp h1⟩

theorem nJoinClose {n m c k : Nat} {A : Option Addr} {l : List Int} {w : World} (h : LI w A l) (hp : PairOf n m l) (hr : closeV n m l = (k : Int)) :
    Calls Try.prog 34 #[.int .i64 (n : Int), .int .i64 (m : Int), .slice A l.length c] w (IEnd (k : Int) true w) :=
  (implJoinClose_any n m A c l w h (by have := hp.2.2.1.2.1; omega)).mono fun _ _ ⟨hb, x', ok', he, ho⟩ => ⟨hb, by
    rcases ho with ⟨_, rfl, rfl⟩ | ⟨h1, _, _⟩
    · rw [he, ← hr]; rfl
    · exact absurd hp h1⟩

theorem close_of {n m : Nat} {l : List Int} (hp : IsPair l) (hl : l.length = 2 * (n + m)) : ∃ x : Nat, closeV n m l = (x : Int) ∧ x = roundsTo (2 * (n + m)) (mateN l) (sewT n m (2 * (n + m))) (2 * (n + m)) ∧ x ≤ n := by
  have hM := hp.mates_of
  have hsw : Sewn (2 * (n + m)) (mateN l) (sewT n m (2 * (n + m))) := oneS_sewn (fun i hi => ⟨by have := hM.lt i (by omega); omega, hM.ne i (by omega), hM.back i (by omega)⟩) (by omega)
  exact ⟨_, by unfold closeV; rw [hl], rfl, seam_one hsw (by omega)⟩
theorem facts {n m k : Nat} {a b : List Int} (h : TwoOf (n : Int) (m : Int) a (k : Int) b) : ∃ (r c : List Int) (mk x y u v : Nat), joinedL n m a b = r ∧ TwoOf (n : Int) (m : Int) a (k : Int) b ∧ TwoOf (n : Int) (k : Int) b (m : Int) a ∧ joinedL n k b a = c ∧ (m : Int) + (k : Int) = (mk : Int) ∧ PairOf (n : Int) (mk : Int) r ∧ closeV n mk r = (x : Int) ∧ PairOf (n : Int) (mk : Int) c ∧ closeV n mk c = (y : Int) ∧ joinedR n m a b = u ∧ joinedR n k b a = v ∧ r.length ≤ 20 ∧ (x : Int) + (u : Int) = (y : Int) + (v : Int) ∧ (x : Int) + (u : Int) ≤ 10 := by
  obtain ⟨la, lb, ha, hb, h1, h2, h3, h4, h5⟩ := two_lens h
  have h' : TwoOf (n : Int) (k : Int) b (m : Int) a := ⟨h.2.1, h.1, by omega⟩
  have hJ := joinedL_pair h
  have hK := joinedL_pair h'
  have e := close_both h h'
  rw [Nat.add_comm k m] at e hK
  obtain ⟨x, x1, x2, x3⟩ := close_of (n := n) (m := m + k) hJ.1 (by rw [hJ.2])
  obtain ⟨y, y1, y2, y3⟩ := close_of (n := n) (m := m + k) hK.1 (by rw [hK.2])
  rw [← x2, ← y2] at e
  have hu := joinedR_two h
  exact ⟨_, _, m + k, x, y, _, _, rfl, h, h', rfl, by omega, ⟨⟨by omega, by omega⟩, ⟨by omega, by omega⟩, hJ.1, by rw [hJ.2]; omega⟩, x1, ⟨⟨by omega, by omega⟩, ⟨by omega, by omega⟩, hK.1, by rw [hK.2]; omega⟩, y1, rfl, rfl, hJ.1.2.1, by omega, by omega⟩

set_option maxRecDepth 100000 in
set_option maxHeartbeats 1000000 in
theorem draw_any (A : Option Addr) (len cap : Nat) (w : World) (h : CodeAt w A len) (hl : len ≤ 1048576) (hc : len ≤ cap) (hc2 : cap ≤ 9223372036854775807) :
    Calls Try.prog 38 #[.slice A len cap] w fun e w' => JoinDr w' e ∧ Below w.heap.size w w' := by
  have H := hid (l92Join_any A len cap w h hl hc hc2)
  clear h
  go_enter Try.func38, Try.ntmps38
  go_wp2_with fail
  refine H.out.mono ?_
  rintro e w1 ⟨⟨n, m, k, A1, c1, la, A2, c2, lb, rfl, h1, h2, h3, h4, h5, h6, h7⟩, hb⟩
  have HJ := hid (show JoinDr w1 _ from ⟨n, m, k, A1, c1, la, A2, c2, lb, rfl, h1, h2, h3, h4, h5, h6, h7⟩)
  have HB := hid hb
  clear h1 h2 h3 h4 h5 h6 h7 hb
  go_wp2_with fail
  exact bodyPost_ret (results_tmp5 (t := 2) (u := 3) (v := 4) (x := 5) (y := 6) rfl _ _ _) rfl ⟨HJ.out, HB.out⟩

set_option maxRecDepth 100000 in
set_option maxHeartbeats 4000000 in
theorem walk (v : Value) (w : World) (hc : CameB w v) :
    Calls Try.prog 8 #[v] w fun e w' => e = .returned (.bool true) ∧ Below w.heap.size w w' := by
  obtain ⟨A, len, cap, rfl, hcode, hlc, hcap⟩ := hc
  have HCD := hid hcode
  clear hcode
  go_enter Try.func8, Try.ntmps8
  by_cases hbig : 1048576 < len
  · have hbi : (1048576 : Int) < (len : Int) := by omega
    go_wp2_with fail
    go_ret
    exact ⟨rfl, Below.refl _ _⟩
  have hbi : ¬ (1048576 : Int) < (len : Int) := by omega
  have HDR := hid (draw_any A len cap w HCD.out (by omega) hlc hcap)
  have HDR2 := hid (HDR.out.mono fun e w2 h => (⟨h.2, h.1.li⟩ : Below w.heap.size w w2 ∧ JoinLi w2 e))
  clear HDR
  have HDR := hid HDR2.out
  clear HDR2
  have HC1 := hid (HDR.out)
  go_wp2_with fail
  refine HC1.out.mono ?_
  rintro e w1 ⟨hb, n, m, k, A1, c1, a, A2, c2, b, rfl, hn3, hm3, hk3, hla, hlb, hia, hib⟩
  have HB1 := hid hb
  have La1 := hid hia
  clear hia
  have Lb1 := hid hib
  clear hib
  clear hb HC1
  have HLA := hid (show a.length ≤ 1048576 by omega)
  have HLB := hid (show b.length ≤ 1048576 by omega)
  clear hla hlb
  have HC2 := hid ((implJoinPairs_any (n : Int) (m : Int) A1 c1 a (k : Int) A2 c2 b w1 La1.out Lb1.out HLA.out HLB.out).mono fun _ _ h => lend_own h)
  go_wp2_with fail
  refine HC2.out.mono ?_
  rintro e w2 ⟨hb, A3, c3, out, ok, rfl, hout, hl⟩
  have HB2 := hid (HB1.out.trans (hb.mono HB1.out.size))
  clear HB1
  have La2 := hid (La1.out.step hb)
  clear La1
  have Lb2 := hid (Lb1.out.step hb)
  clear Lb1
  have Lout2 := hid hl
  clear hl
  clear hb HC2
  have HO := hid hout
  clear hout
  have HC3 := hid ((specJoinPairs_any (n : Int) (m : Int) A1 c1 a (k : Int) A2 c2 w2.heap.size b w2 La2.out Lb2.out (Nat.le_refl _) HLA.out HLB.out).mono fun _ _ h => lend_spec h)
  go_wp2_with fail
  refine HC3.out.mono ?_
  rintro e w3 ⟨hb, A4, c4, out2, ok2, rfl, hout2, hl⟩
  have HB3 := hid (HB2.out.trans (hb.mono HB2.out.size))
  clear HB2
  have La3 := hid (La2.out.step hb)
  clear La2
  have Lb3 := hid (Lb2.out.step hb)
  clear Lb2
  have Lout3 := hid (Lout2.out.step hb)
  clear Lout2
  have Lwant3 := hid hl
  clear hl
  clear hb HC3
  obtain ⟨rfl, rfl⟩ := HO.out.uniq hout2
  clear hout2
  rcases HO.out with ⟨hp, rfl, rfl⟩ | ⟨_, rfl, rfl⟩
  · obtain ⟨r, c, mk, x, y, u, v, e1, p0, p1, e2, hmk, p2, e3, p3, e4, e5, e6, hr20, hxy, hx10⟩ := facts hp
    have e1' : joinedL (n : Int).toNat (m : Int).toNat a b = r := e1
    rw [e1'] at Lout3 Lwant3 ⊢
    clear e1' e1 hp
    have P0 := hid p0
    have P1 := hid p1
    have P2 := hid p2
    have P3 := hid p3
    have E2 := hid e2
    have E3 := hid e3
    have E4 := hid e4
    have E5 := hid e5
    have E6 := hid e6
    clear p0 p1 p2 p3 e2 e3 e4 e5 e6
    go_wp2_with fail
    refine (nSameI (Lout3.out) (Lwant3.out) (by omega)).mono ?_
    rintro e w4 ⟨hb, rfl⟩
    have HB4 := hid (HB3.out.trans (hb.mono HB3.out.size))
    clear HB3
    have La4 := hid (La3.out.step hb)
    clear La3
    have Lb4 := hid (Lb3.out.step hb)
    clear Lb3
    have Lout4 := hid (Lout3.out.step hb)
    clear Lout3
    have Lwant4 := hid (Lwant3.out.step hb)
    clear Lwant3
    clear hb
    clear Lwant4
    go_wp2_with fail
    refine (nJoinPairs (Lb4.out) (La4.out) P1.out E2.out).mono ?_
    rintro e w5 ⟨hb, A5, c5, rfl, hl⟩
    have HB5 := hid (HB4.out.trans (hb.mono HB4.out.size))
    clear HB4
    have La5 := hid (La4.out.step hb)
    clear La4
    have Lb5 := hid (Lb4.out.step hb)
    clear Lb4
    have Lout5 := hid (Lout4.out.step hb)
    clear Lout4
    have Lc5 := hid hl
    clear hl
    clear hb
    go_wp2_with fail
    refine (nJoinClose (Lout5.out) P2.out E3.out).mono ?_
    rintro e w6 ⟨hb, rfl⟩
    have HB6 := hid (HB5.out.trans (hb.mono HB5.out.size))
    clear HB5
    have La6 := hid (La5.out.step hb)
    clear La5
    have Lb6 := hid (Lb5.out.step hb)
    clear Lb5
    have Lout6 := hid (Lout5.out.step hb)
    clear Lout5
    have Lc6 := hid (Lc5.out.step hb)
    clear Lc5
    clear hb
    go_wp2_with fail
    refine (nJoinClose (Lc6.out) P3.out E4.out).mono ?_
    rintro e w7 ⟨hb, rfl⟩
    have HB7 := hid (HB6.out.trans (hb.mono HB6.out.size))
    clear HB6
    have La7 := hid (La6.out.step hb)
    clear La6
    have Lb7 := hid (Lb6.out.step hb)
    clear Lb6
    have Lout7 := hid (Lout6.out.step hb)
    clear Lout6
    have Lc7 := hid (Lc6.out.step hb)
    clear Lc6
    clear hb
    go_wp2_with fail
    refine (nJoinRounds (La7.out) (Lb7.out) P0.out E5.out).mono ?_
    rintro e w8 ⟨hb, rfl⟩
    have HB8 := hid (HB7.out.trans (hb.mono HB7.out.size))
    clear HB7
    have La8 := hid (La7.out.step hb)
    clear La7
    have Lb8 := hid (Lb7.out.step hb)
    clear Lb7
    have Lout8 := hid (Lout7.out.step hb)
    clear Lout7
    have Lc8 := hid (Lc7.out.step hb)
    clear Lc7
    clear hb
    go_wp2_with fail
    refine (nJoinRounds (Lb8.out) (La8.out) P1.out E6.out).mono ?_
    rintro e w9 ⟨hb, rfl⟩
    have HB9 := hid (HB8.out.trans (hb.mono HB8.out.size))
    clear HB8
    have La9 := hid (La8.out.step hb)
    clear La8
    have Lb9 := hid (Lb8.out.step hb)
    clear Lb8
    have Lout9 := hid (Lout8.out.step hb)
    clear Lout8
    have Lc9 := hid (Lc8.out.step hb)
    clear Lc8
    clear hb
    go_wp2_with fail
    go_ret
    exact ⟨rfl, HB9.out⟩
  · skip
    go_wp2_with fail
    refine (nSameI (Lout3.out) (Lwant3.out) (by simp)).mono ?_
    rintro e w4 ⟨hb, rfl⟩
    have HB4 := hid (HB3.out.trans (hb.mono HB3.out.size))
    clear HB3
    have La4 := hid (La3.out.step hb)
    clear La3
    have Lb4 := hid (Lb3.out.step hb)
    clear Lb3
    have Lout4 := hid (Lout3.out.step hb)
    clear Lout3
    have Lwant4 := hid (Lwant3.out.step hb)
    clear Lwant3
    clear hb
    go_wp2_with fail
    refine (nSameI (Lout4.out) (Lwant4.out) (by simp)).mono ?_
    rintro e w5 ⟨hb, rfl⟩
    have HB5 := hid (HB4.out.trans (hb.mono HB4.out.size))
    clear HB4
    have La5 := hid (La4.out.step hb)
    clear La4
    have Lb5 := hid (Lb4.out.step hb)
    clear Lb4
    have Lout5 := hid (Lout4.out.step hb)
    clear Lout4
    have Lwant5 := hid (Lwant4.out.step hb)
    clear Lwant4
    clear hb
    go_wp2_with fail
    go_ret
    exact ⟨rfl, HB5.out⟩

set_option maxRecDepth 100000 in
theorem lifted (os : Os) (started : os.Started) (H : Type) (enc : TypeId × Value → H) :
    ReturnsInHanded {} Try.checked os 8 .any (Rows.fnCloseBothSpec.pre6 enc Try.prog Try.f8 Rows.fnCloseBothRow.domain false) (Rows.fnCloseBothSpec.post enc Try.prog Try.f8 false true false false) := by
  refine returnsInHanded_of_change (C := Try.checked) Try.own started (by kernel_rfl) Try.func8
    (ChangeSpec.witness6 (enc := enc) (C := Try.checked) false ⟨#[], #[.slice none 0 0], []⟩ 8 (by kernel_rfl) (by kernel_rfl) (by kernel_rfl) (by kernel_rfl)) ?_
  intro W base args ds gs before hval0 hW hcnd _
  have hval : ∀ (j : Nat) t v, Try.f8.params[j]? = some t → args[j]? = some v → Value.okWide Try.prog W .any base t v := hval0
  have hW' := hW
  obtain ⟨p, q, hA0, hV, rfl, hfz, hnd⟩ := hW
  have hA : DataW.TrodAll enc Try.prog W 0 (fun _ => true) true Try.f8.params.toList args.toList ds p := hA0
  rw [Try.params8] at hA hval
  obtain ⟨v0, vs0, d0, ds0, p0, q0, hargs, rfl, rfl, h0, r0⟩ := trodAll_cons hA
  obtain ⟨rfl, rfl, rfl⟩ := trodAll_nil r0
  obtain rfl : args = #[v0] := by cases args; simp_all
  obtain ⟨rfl, rfl⟩ := trodVars_none hV
  have k0 := h0
  have lt0 : ∀ x ∈ p0, x.block < W.heap.size := by obtain ⟨m, hm⟩ := k0; exact DataW.trod_lt m _ _ _ hm
  have c0 := cameB_of (hval 0 22 v0 rfl rfl) h0
  clear hA0 hval0
  refine (walk v0 W c0).mono fun e W' ⟨he, bel⟩ => ?_
  subst he
  exact ⟨_, rfl, _, _, _, [], _, [], hW', trodAll_mk1 (shut_bool Try.underlying4 _), (trodAll_cons_mk (Below.trod Try.laidOut (by kernel_rfl) (of_decide_eq_true (by kernel_rfl)) k0 bel lt0) trodAll_mk0), rfl, bel.frame _, fun h => by cases h⟩

theorem closed : joinedFacts Try.pinned.checked.prog 8 Try.f8 Rows.fnCloseBothSpec Rows.fnCloseBothRow = true := by
  unfold joinedFacts
  exact and8 (by as_aux_lemma => kernel_rfl) head_enter head_lifts head_make (by as_aux_lemma => kernel_rfl) (by as_aux_lemma => kernel_rfl) (by as_aux_lemma => kernel_rfl) (by as_aux_lemma => kernel_rfl)

theorem proved : Rows.FnCloseBothSaid :=
  OpenClaim.holds_of_wide 8 Try.f8 rfl rfl rfl rfl rfl rfl rfl ⟨rfl, rfl, rfl, rfl, rfl⟩ rfl rfl rfl rfl rfl (by kernel_rfl) Try.func8 closed
    (of_decide_eq_true (by kernel_rfl)) (by unfold Func.isWrapper; first | (rw [if_pos (by decide +kernel)]; kernel_rfl) | (rw [if_neg (by decide +kernel)]; exact ⟨rfl, rfl⟩))
    (fun os started H enc _ => lifted os started H enc)
#print axioms proved

end Go.Proofs.Ytonhnmpgikmlpaa.lawFnCloseBoth
