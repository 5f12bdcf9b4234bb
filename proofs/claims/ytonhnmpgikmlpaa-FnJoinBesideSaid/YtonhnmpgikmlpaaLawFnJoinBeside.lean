/- For every code, the two drawn grids beside each other have the joined pairs, and the rounds of both and those that come by joining; the program's and the specification's answers are the same: the law FnJoinBeside returns true, and its argument reads as it did. No condition. -/
import Derived.Test.YtonhnmpgikmlpaaPKL
import Derived.Test.YtonhnmpgikmlpaaPKG
import Derived.Test.YtonhnmpgikmlpaaPKD
import Derived.Test.YtonhnmpgikmlpaaSeamQ
import Derived.Test.YtonhnmpgikmlpaaJoinQ
import Derived.Test.YtonhnmpgikmlpaaJoinB
import Derived.Test.YtonhnmpgikmlpaaBunW
import Derived.Test.YtonhnmpgikmlpaaRoundQ
namespace Go.Proofs.Ytonhnmpgikmlpaa.lawFnJoinBeside
open Go.ChangeShapes Go.WideShapes Go.ChangeAt Go.RowKit
open Go.ChangeMaps (open_string shut_string)

theorem nJoinFlip {n m c : Nat} {A : Option Addr} {l r : List Int} {w : World} (h : LI w A l) (hp : PairOf n m l) (hr : flipL l m = r) :
    Calls Try.prog 36 #[.int .i64 (n : Int), .int .i64 (m : Int), .slice A l.length c] w fun e w' => Below w.heap.size w w' ∧ ∃ A c, e = .returned (.tuple #[.slice A r.length c, .bool true]) ∧ LI w' A r :=
  (implJoinFlip_any n m A c l w h (by have := hp.2.2.1.2.1; omega)).mono fun _ _ h => (lend_own h).yes fun r' ok ho => by
    subst hr
    rcases ho with ⟨_, h1, h2⟩ | ⟨h1, _, _⟩
    · exact ⟨h1, h2⟩
    · exact absurd hp h1

theorem nJoinPairs {n m k : Nat} {A A2 : Option Addr} {c c2 : Nat} {a b r : List Int} {w : World} (h : LI w A a) (h2 : LI w A2 b) (hp : TwoOf (n : Int) (m : Int) a (k : Int) b) (hr : joinedL n m a b = r) :
    Calls Try.prog 39 #[.int .i64 (n : Int), .int .i64 (m : Int), .slice A a.length c, .int .i64 (k : Int), .slice A2 b.length c2] w fun e w' => Below w.heap.size w w' ∧ ∃ A c, e = .returned (.tuple #[.slice A r.length c, .bool true]) ∧ LI w' A r :=
  (implJoinPairs_any n m A c a k A2 c2 b w h h2 (by have := hp.1.2.2.1.2.1; omega) (by have := hp.2.1.2.2.1.2.1; omega)).mono fun _ _ h => (lend_own h).yes fun r' ok ho => by
    subst hr
    rcases ho with ⟨_, h1, h2⟩ | ⟨h1, _, _⟩
    · exact ⟨h1, h2⟩
    · exact absurd hp h1

theorem nJoinRounds {n m k : Nat} {A A2 : Option Addr} {c c2 : Nat} {a b : List Int} {r : Nat} {w : World} (h : LI w A a) (h2 : LI w A2 b) (hp : TwoOf (n : Int) (m : Int) a (k : Int) b) (hr : joinedR n m a b = r) :
    Calls Try.prog 42 #[.int .i64 (n : Int), .int .i64 (m : Int), .slice A a.length c, .int .i64 (k : Int), .slice A2 b.length c2] w (IEnd (r : Int) true w) :=
  (implJoinRounds_any n m A c a k A2 c2 b w h h2 (by have := hp.1.2.2.1.2.1; omega) (by have := hp.2.1.2.2.1.2.1; omega)).mono fun _ _ ⟨hb, x', ok', he, ho⟩ => ⟨hb, by
    subst hr
    rcases ho with ⟨_, rfl, rfl⟩ | ⟨h1, _, _⟩
    · exact he
    · exact absurd hp h1⟩

theorem bend_self {n m p : Nat} {t : Int → Int → UInt8} (hn : 1 ≤ n) (hm : 1 ≤ m) (hp : p < 2 * (n + m)) : bend_ n m t p ≠ p := fun e => by
  have hpos := blen_pos (t := t) hn hm hp
  have hb := bway_back (t := t) hn hm hp 0 (by omega)
  rw [e] at hb
  exact bway_ne_rev 0 (blen n m t p - 1 - 0) (by omega) (by omega) hb
theorem pairs_mates {n m : Nat} {t : Int → Int → UInt8} (hn : 1 ≤ n) (hm : 1 ≤ m) : Mates (2 * (n + m)) (bend_ n m t) :=
  ⟨fun _ hq => (bend_facts hn hm hq).2.1, fun _ hq => bend_self hn hm hq, fun _ hq => (back_facts hn hm hq).2⟩
theorem pairs_pair {n m : Nat} {t : Int → Int → UInt8} (hn : 1 ≤ n) (hn5 : n ≤ 5) (hm : 1 ≤ m) (hm5 : m ≤ 5) : IsPair (pairsR n m t) := listS_pair (pairs_mates hn hm) (by omega) (by omega)
theorem pairs_mate {n m q : Nat} {t : Int → Int → UInt8} (hq : q < 2 * (n + m)) : mateN (pairsR n m t) q = bend_ n m t q := listS_mate hq
theorem pairs_of {n m : Nat} {t : Int → Int → UInt8} (hn : 1 ≤ n) (hn5 : n ≤ 5) (hm : 1 ≤ m) (hm5 : m ≤ 5) : PairOf (n : Int) (m : Int) (pairsR n m t) :=
  ⟨⟨by omega, by omega⟩, ⟨by omega, by omega⟩, pairs_pair hn hn5 hm hm5, by rw [pairsR_length]; omega⟩

theorem beside_grid5 {n m m' : Nat} {ss tt : List ByteArray} (h : IsGrid n m ss) (h' : IsGrid n m' tt) (h5 : m + m' ≤ 5) : IsGrid n (m + m') (ruleG n (m + m') (besideF m m' (flat ss) (flat tt))) := by
  refine rule_grid h.2.1 h.2.2.1 (by have := h.2.2.2.1; omega) h5 fun r hr q hq => ?_
  unfold besideF
  split
  · exact flat_let h hr (by omega)
  · exact flat_let h' hr (by omega)
theorem beside_letters {n m k : Nat} {ss tt : List ByteArray} (h1 : IsGrid n m ss) (h2 : IsGrid n k tt) (g : IsGrid n (m + k) (ruleG n (m + k) (besideF m k (flat ss) (flat tt)))) : Beside2 n m k (lett m (pad (flat ss))) (lett k (pad (flat tt))) (lett (m + k) (pad (flat (ruleG n (m + k) (besideF m k (flat ss) (flat tt)))))) := by
  have key : ∀ {m : Nat} {l : List UInt8} {r q : Nat}, r * m + q < l.length → lett m (pad l) (r : Int) (q : Int) = l.getD (r * m + q) 0 := fun {m l r q} h => by
    unfold lett pad
    rw [show ((r : Int) * (m : Int) + (q : Int)).toNat = r * m + q by rw [← Int.natCast_mul, ← Int.natCast_add, Int.toNat_natCast], List.getD_eq_getElem?_getD, List.getD_eq_getElem?_getD, List.getElem?_append_left h]
  constructor
  · intro i c a1 a2 a3 a4
    obtain ⟨r, rfl⟩ := Int.eq_ofNat_of_zero_le a1
    obtain ⟨q, rfl⟩ := Int.eq_ofNat_of_zero_le a3
    have hr : r < n := by omega
    have hq : q < m := by omega
    rw [key (by rw [g.flen]; exact parts_lt hr (by omega)), key (by rw [h1.flen]; exact parts_lt hr hq), rule_flat hr (by omega)]
    unfold besideF
    rw [if_pos hq]
  · intro i c a1 a2 a3 a4
    obtain ⟨r, rfl⟩ := Int.eq_ofNat_of_zero_le a1
    obtain ⟨q, rfl⟩ := Int.eq_ofNat_of_zero_le a3
    have hr : r < n := by omega
    have hq : q < k := by omega
    rw [show (q : Int) + (m : Int) = ((q + m : Nat) : Int) by omega, key (by rw [g.flen]; exact parts_lt hr (by omega)), key (by rw [h2.flen]; exact parts_lt hr hq), rule_flat hr (by omega)]
    unfold besideF
    rw [if_neg (by omega), Nat.add_sub_cancel]
theorem facts {n m n' k : Nat} {ts tt : List ByteArray} (h : BesideIn ts tt n m n' k) : ∃ (fl : List ByteArray) (a b c : List Int) (x y z e : Nat), n = n' ∧ besideG ts tt n m n' k = fl ∧ IsGrid n (m + k) fl ∧ pairsR n m (lett m (pad (flat ts))) = a ∧ pairsR n k (lett k (pad (flat tt))) = b ∧ pairsR n (m + k) (lett (m + k) (pad (flat fl))) = c ∧ TwoOf (n : Int) (m : Int) a (k : Int) b ∧ joinedL n m a b = c ∧
    manyR n m (lett m (pad (flat ts))) = ((x : Int), true) ∧ manyR n k (lett k (pad (flat tt))) = ((y : Int), true) ∧ manyR n (m + k) (lett (m + k) (pad (flat fl))) = ((z : Int), true) ∧ joinedR n m a b = e ∧ x + y + e = z ∧ z ≤ 25 ∧ c.length ≤ 20 := by
  obtain ⟨h1, h2, rfl, h5⟩ := h
  have g := beside_grid5 h1 h2 h5
  have hn := h1.2.1
  have hm := h1.2.2.2.1
  have hk := h2.2.2.2.1
  have hn5 := h1.2.2.1
  have B := beside_letters h1 h2 g
  have hT : TwoOf (n : Int) (m : Int) (pairsR n m (lett m (pad (flat ts)))) (k : Int) (pairsR n k (lett k (pad (flat tt)))) := ⟨pairs_of hn hn5 hm (by omega), pairs_of hn hn5 hk (by omega), by omega⟩
  have hz := leads_eight (n := n) (m := m + k) (t := lett (m + k) (pad (flat (ruleG n (m + k) (besideF m k (flat ts) (flat tt))))))
  have h25 := g.le25
  refine ⟨_, _, _, _, _, _, _, _, rfl, beside_same h1 h2 h5, g, rfl, rfl, rfl, hT, B.pairs hn hm hk, rfl, rfl, rfl, rfl, (B.many hn hm hk).symm, by omega, by rw [pairsR_length]; omega⟩

set_option maxRecDepth 100000 in
set_option maxHeartbeats 2000000 in
theorem draw_any (A : Option Addr) (len cap : Nat) (w : World) (h : CodeAt w A len) (hl : len ≤ 1048576) (hc : len ≤ cap) (hc2 : cap ≤ 9223372036854775807) :
    Calls Try.prog 50 #[.slice A len cap] w fun e w' => Below w.heap.size w w' ∧ ∃ A c ts A2 c2 tt, e = .returned (.tuple #[.slice A ts.length c, .slice A2 tt.length c2]) ∧ LS w' A ts ∧ LS w' A2 tt ∧ Drawn 10 10 ts ∧ tt.length ≤ 10 ∧ ∀ s ∈ tt, s.size ≤ 10 := by
  have HOP := hid (dOpen A len cap w h hl hc hc2)
  clear h
  go_enter Try.func50, Try.ntmps50
  go_wp2_with fail
  refine HOP.out.mono ?_
  rintro e w1 ⟨rfl, hd⟩
  have HD1 := hid hd
  clear hd HOP
  have HC1 := hid (dPick 4 HD1.out (by omega) (by omega) (by omega))
  go_wp2_with fail
  refine HC1.out.mono ?_
  rintro e w2 ⟨hg, hd, v, hv, rfl⟩
  have HD2 := hid hd
  clear hg hd HC1 HD1
  obtain ⟨n, en⟩ : ∃ n, 1 + v = n := ⟨_, rfl⟩
  have zin : (1 : Int) + (v : Int) = (n : Int) := by omega
  have ln : 1 ≤ n := by omega
  have un : n ≤ 4 := by omega
  clear en
  have HC2 := hid (dPick 3 HD2.out (by omega) (by omega) (by omega))
  go_wp2_with fail
  refine HC2.out.mono ?_
  rintro e w3 ⟨hg, hd, v2, hv2, rfl⟩
  have HD3 := hid hd
  clear hg hd HC2 HD2
  obtain ⟨m, em⟩ : ∃ m, 1 + v2 = m := ⟨_, rfl⟩
  have zim : (1 : Int) + (v2 : Int) = (m : Int) := by omega
  have lm : 1 ≤ m := by omega
  have um : m ≤ 3 := by omega
  clear em
  have HC3 := hid (dOf n m HD3.out (by omega) (by omega) (by omega) (by omega))
  go_wp2_with fail
  refine HC3.out.mono ?_
  rintro e w4 ⟨hg, hd, A1, c1, ts, hl, ht, hx, rfl⟩
  have Xts4 := hid hx
  clear hx
  have HD4 := hid hd
  clear hg hd HC3 HD3
  have HT := hid ht
  have HL := hid hl
  clear hl ht
  have HC4 := hid (dPick 24 HD4.out (by omega) (by omega) (by omega))
  go_wp2_with fail
  refine HC4.out.mono ?_
  rintro e w5 ⟨hg, hd, v3, hv3, rfl⟩
  have Xts5 := hid (Xts4.out.step hg)
  clear Xts4
  have HD5 := hid hd
  clear hg hd HC4 HD4
  obtain ⟨q, hq, hq23⟩ := q23 v3 hv3
  obtain ⟨n2, en2⟩ : ∃ n2, n + q = n2 := ⟨_, rfl⟩
  have in2 : (n : Int) + (q : Int) = (n2 : Int) := by omega
  have un2 : n2 ≤ 5 := by omega
  clear en2
  have HC5 := hid (dPick 3 HD5.out (by omega) (by omega) (by omega))
  go_wp2_with fail
  refine HC5.out.mono ?_
  rintro e w6 ⟨hg, hd, v4, hv4, rfl⟩
  have Xts6 := hid (Xts5.out.step hg)
  clear Xts5
  have HD6 := hid hd
  clear hg hd HC5 HD5
  obtain ⟨m2, em2⟩ : ∃ m2, 1 + v4 = m2 := ⟨_, rfl⟩
  have zim2 : (1 : Int) + (v4 : Int) = (m2 : Int) := by omega
  have lm2 : 1 ≤ m2 := by omega
  have um2 : m2 ≤ 3 := by omega
  clear em2
  have HC6 := hid (dOf n2 m2 HD6.out (by omega) (by omega) (by omega) (by omega))
  go_wp2_with fail
  refine HC6.out.mono ?_
  rintro e w7 ⟨hg, hd, A2, c2, tt, hl, ht, hx, rfl⟩
  have Xts7 := hid (Xts6.out.step hg)
  clear Xts6
  have Xtt7 := hid hx
  clear hx
  have HD7 := hid hd
  clear hg hd HC6 HD6
  have HT2 := hid ht
  have HL2 := hid hl
  clear hl ht
  go_wp2_with fail
  refine bodyPost_ret (results_tmp2 rfl _ _ _) rfl ?_
  refine ⟨HD7.out.below, A1, c1, ts, A2, c2, tt, by rw [HL.out, HL2.out]; rfl, Xts7.out.1, Xtt7.out.1, ⟨by rw [HL.out]; omega, by rw [HL.out]; omega, fun s hs => by have := (HT.out s hs).1; omega⟩, by rw [HL2.out]; omega, fun s hs => by have := (HT2.out s hs).1; omega⟩

set_option maxRecDepth 100000 in
set_option maxHeartbeats 20000000 in
theorem walk (v : Value) (w : World) (hc : CameB w v) :
    Calls Try.prog 11 #[v] w fun e w' => e = .returned (.bool true) ∧ Below w.heap.size w w' := by
  obtain ⟨A, len, cap, rfl, hcode, hlc, hcap⟩ := hc
  have HCD := hid hcode
  clear hcode
  go_enter Try.func11, Try.ntmps11
  by_cases hbig : 1048576 < len
  · have hbi : (1048576 : Int) < (len : Int) := by omega
    go_wp2_with fail
    go_ret
    exact ⟨rfl, Below.refl _ _⟩
  have hbi : ¬ (1048576 : Int) < (len : Int) := by omega
  have HDR := hid (draw_any A len cap w HCD.out (by omega) hlc hcap)
  have HC1 := hid (HDR.out)
  go_wp2_with fail
  refine HC1.out.mono ?_
  rintro e w1 ⟨hb, A1, c1, ts, A1t, c1t, tt, rfl, hl, hl2, hd, hn2, hs2⟩
  have HB1 := hid hb
  have Lts1 := hid hl
  clear hl
  have Ltt1 := hid hl2
  clear hl2
  clear hb HC1
  have HSM := hid (hd.small (by decide) (by decide))
  have HSMt := hid (show tt.length ≤ 1048576 ∧ ∀ s ∈ tt, s.size ≤ 1048576 from ⟨by omega, fun s hs => by have := hs2 s hs; omega⟩)
  clear hd hn2 hs2
  have HC2 := hid ((implGridBeside_any A1 A1t c1 c1t ts tt w1 Lts1.out Ltt1.out HSM.out.1 HSM.out.2 HSMt.out.1 HSMt.out.2).mono fun _ _ h => JoinEnd.tend h)
  go_wp2_with fail
  refine HC2.out.mono ?_
  rintro e w2 ⟨hb, A2, c2, res, ok, rfl, hout, hl⟩
  have HB2 := hid (HB1.out.trans (hb.mono HB1.out.size))
  clear HB1
  have Lts2 := hid (Lts1.out.step hb)
  clear Lts1
  have Ltt2 := hid (Ltt1.out.step hb)
  clear Ltt1
  have Lout2 := hid hl
  clear hl
  clear hb HC2
  have HO := hid hout
  clear hout
  have HC3 := hid ((specGridBeside_any A1 A1t c1 c1t w2.heap.size ts tt w2 Lts2.out Ltt2.out (Nat.le_refl _) HSM.out.1 HSM.out.2 HSMt.out.1 HSMt.out.2).mono fun _ _ h => tend_spec h)
  go_wp2_with fail
  refine HC3.out.mono ?_
  rintro e w3 ⟨hb, A3, c3, res2, ok2, rfl, hout2, hl⟩
  have HB3 := hid (HB2.out.trans (hb.mono HB2.out.size))
  clear HB2
  have Lts3 := hid (Lts2.out.step hb)
  clear Lts2
  have Ltt3 := hid (Ltt2.out.step hb)
  clear Ltt2
  have Lout3 := hid (Lout2.out.step hb)
  clear Lout2
  have Lwant3 := hid hl
  clear hl
  clear hb HC3
  obtain ⟨rfl, rfl⟩ := BesideOut.uniq HO.out hout2
  clear hout2
  rcases HO.out with ⟨n, m, n', k, hg, rfl, rfl⟩ | ⟨_, rfl, rfl⟩
  · obtain ⟨fl, a, b, c, x, y, z, e, rfl, e1, g1, e2, e3, e4, p1, e5, e6, e7, e8, e9, hz, hz25, hc20⟩ := facts hg
    rw [e1] at Lout3 Lwant3 ⊢
    obtain ⟨b0, o0, s0, rfl, hk0, hs0, hl0⟩ := Lts3.out.addr hg.1
    obtain ⟨b1, o1, s1, rfl, hk1, hs1, hl1⟩ := Ltt3.out.addr hg.2.1
    have hn : ((ts.length : Nat) : Int) = (n : Int) := by rw [hg.1.1]
    have hn5 := hg.1.2.2.1
    have hm5 := hg.2.2.2
    have HGa := hid hg.1
    have HGb := hid hg.2.1
    have hzi : (x : Int) + (y : Int) + (e : Int) = (z : Int) := by omega
    have HZI := hid hzi
    have hzz : (x : Int) + (y : Int) ≤ 25 := by omega
    have he25 : (e : Int) ≤ 25 := by omega
    clear e1 hg hz hzi
    have G1 := hid g1
    have E2 := hid e2
    have E3 := hid e3
    have E4 := hid e4
    have P1 := hid p1
    have E5 := hid e5
    have E6 := hid e6
    have E7 := hid e7
    have E8 := hid e8
    have E9 := hid e9
    have HK0 := hid hk0
    have HK1 := hid hk1
    clear g1 e2 e3 e4 p1 e5 e6 e7 e8 e9 hk0 hk1
    go_wp2_with fail
    refine (nSameT (Lout3.out) (Lwant3.out) (gsmall G1.out).1).mono ?_
    rintro e w4 ⟨hb, rfl⟩
    have HB4 := hid (HB3.out.trans (hb.mono HB3.out.size))
    clear HB3
    have Lts4 := hid (Lts3.out.step hb)
    clear Lts3
    have Ltt4 := hid (Ltt3.out.step hb)
    clear Ltt3
    have Lout4 := hid (Lout3.out.step hb)
    clear Lout3
    have Lwant4 := hid (Lwant3.out.step hb)
    clear Lwant3
    clear hb
    clear Lwant4
    have c0 := Lts4.out.cell0 HK0.out
    have c1 := Ltt4.out.cell0 HK1.out
    go_wp2_with fail
    refine (nBeamPairs (Lts4.out) HGa.out E2.out).mono ?_
    rintro e w5 ⟨hb, A5, c5, rfl, hl⟩
    have HB5 := hid (HB4.out.trans (hb.mono HB4.out.size))
    clear HB4
    have Lts5 := hid (Lts4.out.step hb)
    clear Lts4
    have Ltt5 := hid (Ltt4.out.step hb)
    clear Ltt4
    have Lout5 := hid (Lout4.out.step hb)
    clear Lout4
    have La5 := hid hl
    clear hl
    clear hb
    clear c0 c1
    go_wp2_with fail
    refine (nBeamPairs (Ltt5.out) HGb.out E3.out).mono ?_
    rintro e w6 ⟨hb, A6, c6, rfl, hl⟩
    have HB6 := hid (HB5.out.trans (hb.mono HB5.out.size))
    clear HB5
    have Lts6 := hid (Lts5.out.step hb)
    clear Lts5
    have Ltt6 := hid (Ltt5.out.step hb)
    clear Ltt5
    have Lout6 := hid (Lout5.out.step hb)
    clear Lout5
    have La6 := hid (La5.out.step hb)
    clear La5
    have Lb6 := hid hl
    clear hl
    clear hb
    go_wp2_with fail
    refine (nBeamPairs (Lout6.out) G1.out E4.out).mono ?_
    rintro e w7 ⟨hb, A7, c7, rfl, hl⟩
    have HB7 := hid (HB6.out.trans (hb.mono HB6.out.size))
    clear HB6
    have Lts7 := hid (Lts6.out.step hb)
    clear Lts6
    have Ltt7 := hid (Ltt6.out.step hb)
    clear Ltt6
    have Lout7 := hid (Lout6.out.step hb)
    clear Lout6
    have La7 := hid (La6.out.step hb)
    clear La6
    have Lb7 := hid (Lb6.out.step hb)
    clear Lb6
    have Lc7 := hid hl
    clear hl
    clear hb
    go_wp2_with fail
    refine (nJoinPairs (La7.out) (Lb7.out) P1.out E5.out).mono ?_
    rintro e w8 ⟨hb, A8, c8, rfl, hl⟩
    have HB8 := hid (HB7.out.trans (hb.mono HB7.out.size))
    clear HB7
    have Lts8 := hid (Lts7.out.step hb)
    clear Lts7
    have Ltt8 := hid (Ltt7.out.step hb)
    clear Ltt7
    have Lout8 := hid (Lout7.out.step hb)
    clear Lout7
    have La8 := hid (La7.out.step hb)
    clear La7
    have Lb8 := hid (Lb7.out.step hb)
    clear Lb7
    have Lc8 := hid (Lc7.out.step hb)
    clear Lc7
    have Ld8 := hid hl
    clear hl
    clear hb
    go_wp2_with fail
    refine (nRoundMany (Lts8.out) HGa.out E6.out).mono ?_
    rintro e w9 ⟨hb, rfl⟩
    have HB9 := hid (HB8.out.trans (hb.mono HB8.out.size))
    clear HB8
    have Lts9 := hid (Lts8.out.step hb)
    clear Lts8
    have Ltt9 := hid (Ltt8.out.step hb)
    clear Ltt8
    have Lout9 := hid (Lout8.out.step hb)
    clear Lout8
    have La9 := hid (La8.out.step hb)
    clear La8
    have Lb9 := hid (Lb8.out.step hb)
    clear Lb8
    have Lc9 := hid (Lc8.out.step hb)
    clear Lc8
    have Ld9 := hid (Ld8.out.step hb)
    clear Ld8
    clear hb
    go_wp2_with fail
    refine (nRoundMany (Ltt9.out) HGb.out E7.out).mono ?_
    rintro e w10 ⟨hb, rfl⟩
    have HB10 := hid (HB9.out.trans (hb.mono HB9.out.size))
    clear HB9
    have Lts10 := hid (Lts9.out.step hb)
    clear Lts9
    have Ltt10 := hid (Ltt9.out.step hb)
    clear Ltt9
    have Lout10 := hid (Lout9.out.step hb)
    clear Lout9
    have La10 := hid (La9.out.step hb)
    clear La9
    have Lb10 := hid (Lb9.out.step hb)
    clear Lb9
    have Lc10 := hid (Lc9.out.step hb)
    clear Lc9
    have Ld10 := hid (Ld9.out.step hb)
    clear Ld9
    clear hb
    go_wp2_with fail
    refine (nRoundMany (Lout10.out) G1.out E8.out).mono ?_
    rintro e w11 ⟨hb, rfl⟩
    have HB11 := hid (HB10.out.trans (hb.mono HB10.out.size))
    clear HB10
    have Lts11 := hid (Lts10.out.step hb)
    clear Lts10
    have Ltt11 := hid (Ltt10.out.step hb)
    clear Ltt10
    have Lout11 := hid (Lout10.out.step hb)
    clear Lout10
    have La11 := hid (La10.out.step hb)
    clear La10
    have Lb11 := hid (Lb10.out.step hb)
    clear Lb10
    have Lc11 := hid (Lc10.out.step hb)
    clear Lc10
    have Ld11 := hid (Ld10.out.step hb)
    clear Ld10
    clear hb
    go_wp2_with fail
    refine (nJoinRounds (La11.out) (Lb11.out) P1.out E9.out).mono ?_
    rintro e w12 ⟨hb, rfl⟩
    have HB12 := hid (HB11.out.trans (hb.mono HB11.out.size))
    clear HB11
    have Lts12 := hid (Lts11.out.step hb)
    clear Lts11
    have Ltt12 := hid (Ltt11.out.step hb)
    clear Ltt11
    have Lout12 := hid (Lout11.out.step hb)
    clear Lout11
    have La12 := hid (La11.out.step hb)
    clear La11
    have Lb12 := hid (Lb11.out.step hb)
    clear Lb11
    have Lc12 := hid (Lc11.out.step hb)
    clear Lc11
    have Ld12 := hid (Ld11.out.step hb)
    clear Ld11
    clear hb
    go_wp2_with fail
    refine (nSameI (Lc12.out) (Ld12.out) (by omega)).mono ?_
    rintro e w13 ⟨hb, rfl⟩
    have HB13 := hid (HB12.out.trans (hb.mono HB12.out.size))
    clear HB12
    have Lts13 := hid (Lts12.out.step hb)
    clear Lts12
    have Ltt13 := hid (Ltt12.out.step hb)
    clear Ltt12
    have Lout13 := hid (Lout12.out.step hb)
    clear Lout12
    have La13 := hid (La12.out.step hb)
    clear La12
    have Lb13 := hid (Lb12.out.step hb)
    clear Lb12
    have Lc13 := hid (Lc12.out.step hb)
    clear Lc12
    have Ld13 := hid (Ld12.out.step hb)
    clear Ld12
    clear hb
    have hzj := HZI.out
    go_wp2_with fail
    go_ret
    exact ⟨rfl, HB13.out⟩
  · skip
    go_wp2_with fail
    refine (nSameT (Lout3.out) (Lwant3.out) (by simp)).mono ?_
    rintro e w4 ⟨hb, rfl⟩
    have HB4 := hid (HB3.out.trans (hb.mono HB3.out.size))
    clear HB3
    have Lts4 := hid (Lts3.out.step hb)
    clear Lts3
    have Ltt4 := hid (Ltt3.out.step hb)
    clear Ltt3
    have Lout4 := hid (Lout3.out.step hb)
    clear Lout3
    have Lwant4 := hid (Lwant3.out.step hb)
    clear Lwant3
    clear hb
    go_wp2_with fail
    refine (nSameT (Lout4.out) (Lwant4.out) (by simp)).mono ?_
    rintro e w5 ⟨hb, rfl⟩
    have HB5 := hid (HB4.out.trans (hb.mono HB4.out.size))
    clear HB4
    have Lts5 := hid (Lts4.out.step hb)
    clear Lts4
    have Ltt5 := hid (Ltt4.out.step hb)
    clear Ltt4
    have Lout5 := hid (Lout4.out.step hb)
    clear Lout4
    have Lwant5 := hid (Lwant4.out.step hb)
    clear Lwant4
    clear hb
    go_wp2_with fail
    go_ret
    exact ⟨rfl, HB5.out⟩

set_option maxRecDepth 100000 in
theorem lifted (os : Os) (started : os.Started) (H : Type) (enc : TypeId × Value → H) :
    ReturnsInHanded {} Try.checked os 11 .any (Rows.fnJoinBesideSpec.pre6 enc Try.prog Try.f11 Rows.fnJoinBesideRow.domain false) (Rows.fnJoinBesideSpec.post enc Try.prog Try.f11 false true false false) := by
  refine returnsInHanded_of_change (C := Try.checked) Try.own started (by kernel_rfl) Try.func11
    (ChangeSpec.witness6 (enc := enc) (C := Try.checked) false ⟨#[], #[.slice none 0 0], []⟩ 8 (by kernel_rfl) (by kernel_rfl) (by kernel_rfl) (by kernel_rfl)) ?_
  intro W base args ds gs before hval0 hW hcnd _
  have hval : ∀ (j : Nat) t v, Try.f11.params[j]? = some t → args[j]? = some v → Value.okWide Try.prog W .any base t v := hval0
  have hW' := hW
  obtain ⟨p, q, hA0, hV, rfl, hfz, hnd⟩ := hW
  have hA : DataW.TrodAll enc Try.prog W 0 (fun _ => true) true Try.f11.params.toList args.toList ds p := hA0
  rw [Try.params11] at hA hval
  obtain ⟨v0, vs0, d0, ds0, p0, q0, hargs, rfl, rfl, h0, r0⟩ := trodAll_cons hA
  obtain ⟨rfl, rfl, rfl⟩ := trodAll_nil r0
  obtain rfl : args = #[v0] := by cases args; simp_all
  obtain ⟨rfl, rfl⟩ := trodVars_none hV
  have k0 := h0
  have lt0 : ∀ x ∈ p0, x.block < W.heap.size := by obtain ⟨m, hm⟩ := k0; exact DataW.trod_lt m _ _ _ hm
  have c0 := cameB_of (hval 0 22 v0 rfl rfl) h0
  clear hA0 hval0
  refine (walk v0 W c0).mono fun e W' ⟨he, bel⟩ => ?_
  subst he
  exact ⟨_, rfl, _, _, _, [], _, [], hW', trodAll_mk1 (shut_bool Try.underlying4 _), (trodAll_cons_mk (Below.trod Try.laidOut (by kernel_rfl) (of_decide_eq_true (by kernel_rfl)) k0 bel lt0) trodAll_mk0), rfl, bel.frame _, fun h => by cases h⟩

theorem closed : joinedFacts Try.pinned.checked.prog 11 Try.f11 Rows.fnJoinBesideSpec Rows.fnJoinBesideRow = true := by
  unfold joinedFacts
  exact and8 (by as_aux_lemma => kernel_rfl) head_enter head_lifts head_make (by as_aux_lemma => kernel_rfl) (by as_aux_lemma => kernel_rfl) (by as_aux_lemma => kernel_rfl) (by as_aux_lemma => kernel_rfl)

theorem proved : Rows.FnJoinBesideSaid :=
  OpenClaim.holds_of_wide 11 Try.f11 rfl rfl rfl rfl rfl rfl rfl ⟨rfl, rfl, rfl, rfl, rfl⟩ rfl rfl rfl rfl rfl (by kernel_rfl) Try.func11 closed
    (of_decide_eq_true (by kernel_rfl)) (by unfold Func.isWrapper; first | (rw [if_pos (by decide +kernel)]; kernel_rfl) | (rw [if_neg (by decide +kernel)]; exact ⟨rfl, rfl⟩))
    (fun os started H enc _ => lifted os started H enc)
#print axioms proved

end Go.Proofs.Ytonhnmpgikmlpaa.lawFnJoinBeside
