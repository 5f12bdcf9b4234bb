/- For every code, the rounds through all cells of the drawn grid add up to the lengths of its rounds; the program's and the specification's answers are the same: the law FnRoundAt returns true, and its argument reads as it did. No condition. -/
import Derived.Test.YtgildagmliadeaaPKR
import Derived.Test.YtgildagmliadeaaBunF
import Derived.Test.YtgildagmliadeaaBunM
import Derived.Test.YtgildagmliadeaaGridQ
import Derived.Test.YtgildagmliadeaaLenQ
import Derived.Test.YtgildagmliadeaaLensI
import Derived.Test.YtgildagmliadeaaSort
import Derived.Test.YtgildagmliadeaaBunQ
namespace Go.Proofs.Ytgildagmliadeaa.lawFnRoundAt
open Go.ChangeShapes Go.WideShapes Go.ChangeAt Go.RowKit
open Go.ChangeMaps (open_string shut_string)

theorem perm_sum {a b : List Int} (h : a.Perm b) : a.sum = b.sum := by
  induction h with
  | nil => rfl
  | cons x _ ih => rw [List.sum_cons, List.sum_cons, ih]
  | swap x y l => rw [List.sum_cons, List.sum_cons, List.sum_cons, List.sum_cons]; omega
  | trans _ _ h1 h2 => exact h1.trans h2
theorem cast_sum (f : Nat → Nat) : ∀ l : List Nat, (l.map fun x => ((f x : Nat) : Int)).sum = (((l.map f).sum : Nat) : Int)
  | [] => rfl
  | x :: l => by rw [List.map_cons, List.sum_cons, List.map_cons, List.sum_cons, cast_sum f l, Int.natCast_add]
theorem lensR_sum {n m : Nat} {t : Int → Int → UInt8} : (lensR n m t).sum = (lensN n m t : Int) := by
  unfold lensR
  rw [perm_sum (sortI_perm _)]
  unfold lensTo
  rw [leadsTo_all, cast_sum]
  rfl
theorem lensR_mem {n m : Nat} {t : Int → Int → UInt8} {x : Int} (h : x ∈ lensR n m t) : ∃ a : Nat, x = (a : Int) ∧ 4 ≤ a ∧ a % 2 = 0 ∧ a ≤ 4 * (n * m) := by
  unfold lensR at h
  rw [(sortI_perm _).mem_iff] at h
  unfold lensTo at h
  rw [leadsTo_all] at h
  obtain ⟨l, hl, rfl⟩ := List.mem_map.1 h
  have hon := (lead_iff.1 (leads_lt hl).2).1
  have h4 := rlen_four (wayN_d l) hon
  exact ⟨_, rfl, h4.1, h4.2, (rlen_facts (wayN_d l) hon).2.1⟩
theorem lensR_len {n m : Nat} {t : Int → Int → UInt8} : (lensR n m t).length ≤ 4 * (n * m) := by
  rw [lensR_length]
  exact lensTo_le _ _ _ _
theorem nRoundLengths {n m c : Nat} {A : Option Addr} {ss : List ByteArray} {w : World} {l : List Int} (h : LS w A ss) (hg : IsGrid n m ss) (hv : lensR n m (lett m (pad (flat ss))) = l) :
    Calls Try.prog 36 #[.slice A ss.length c] w fun e w' => Below w.heap.size w w' ∧ ∃ A c, e = .returned (.tuple #[.slice A l.length c, .bool true]) ∧ LI w' A l :=
  (implRoundLengths_any A c ss w h (gsmall hg).1 (gsmall hg).2).mono fun _ _ h => (lend_own h).yes fun r ok ho => by
    subst hv
    exact (ho.uniq (.inl ⟨n, m, hg, rfl, rfl⟩ : LensOut ss _ true)).imp Eq.symm Eq.symm

theorem nRoundAt {n m c cc : Nat} {A : Option Addr} {ss : List ByteArray} {w : World} {cell x : Int} {ok : Bool} (h : LS w A ss) (hc : CellIn ss cell n m cc) (hv : atR n m (lett m (pad (flat ss))) cc = (x, ok)) :
    Calls Try.prog 26 #[.slice A ss.length c, .int .i64 cell] w (IEnd x ok w) :=
  (implRoundAt_any A c ss cell w h (gsmall hc.1).1 (gsmall hc.1).2).mono fun _ _ ⟨hb, x', ok', he, ho⟩ => ⟨hb, by
    rcases ho with ⟨n', m', c', h1, h2⟩ | ⟨h1, _, _⟩
    · obtain ⟨rfl, rfl⟩ := hc.1.uniq h1.1
      obtain rfl : cc = c' := by have := hc.2.1.symm.trans h1.2.1; omega
      rw [hv] at h2
      cases h2
      exact he
    · exact absurd hc (h1 _ _ _)⟩
theorem countP_upto (p : Nat → Bool) (c : Nat) : (List.range (c + 1)).countP p = (List.range c).countP p + (if p c = true then 1 else 0) := by
  rw [List.range_succ, List.countP_append, List.countP_cons, List.countP_nil, Nat.zero_add]
theorem countP_lt (p : Nat → Bool) (c : Nat) : (List.range c).countP p ≤ c := by
  have := List.countP_le_length (p := p) (l := List.range c)
  rwa [List.length_range] at this

theorem facts {n m c : Nat} {ts : List ByteArray} {x : Int} (h : CellIn ts x n m c) : ∃ (k N S : Nat) (A : Nat → Nat) (l : List Int), atR n m (lett m (pad (flat ts))) c = ((k : Int), true) ∧ k ≤ 2 ∧ (n : Int) * (m : Int) = (N : Int) ∧ N ≤ 25 ∧ lensR n m (lett m (pad (flat ts))) = l ∧ l.length ≤ 1000 ∧ (∀ x ∈ l, -1000 ≤ x ∧ x ≤ 1000) ∧ l.sum = (S : Int) ∧
    sumN A N = S ∧ (∀ c', c' < N → CellIn ts (c' : Int) n m c' ∧ atR n m (lett m (pad (flat ts))) c' = ((A c' : Int), true) ∧ A c' ≤ 2) ∧ ∀ c', c' ≤ N → sumN A c' ≤ 2 * c' := by
  obtain ⟨hg, hx, hc⟩ := h
  have h25 := hg.le25
  have hl := lensR_len (n := n) (m := m) (t := lett m (pad (flat ts)))
  refine ⟨_, n * m, _, atN n m (lett m (pad (flat ts))), _, rfl, atN_le _, by rw [Int.natCast_mul], h25, rfl, by omega, fun x hx => ?_, lensR_sum, at_sum, fun c' hc' => ⟨⟨hg, rfl, hc'⟩, rfl, atN_le _⟩, fun c' _ => ?_⟩
  · obtain ⟨a, rfl, _, _, h4⟩ := lensR_mem hx
    omega
  · rw [← sumN_const]
    exact sumN_le _ fun q _ => atN_le q
set_option maxRecDepth 100000 in
set_option maxHeartbeats 2000000 in
theorem drawCells_any (A : Option Addr) (len cap : Nat) (w : World) (h : CodeAt w A len) (hl : len ≤ 1048576) (hc : len ≤ cap) (hc2 : cap ≤ 9223372036854775807) :
    Calls Try.prog 95 #[.slice A len cap] w fun e w' => (∃ A c ts x y, e = .returned (.tuple #[.slice A ts.length c, .int .i64 x, .int .i64 y]) ∧ Strs w' w'.heap.size A ts ∧ Drawn 4 4 ts) ∧ Below w.heap.size w w' := by
  have HOP := hid (l6Open_any A len cap w (by omega) hc hc2)
  have HRD := hid (fun len' (h1 : len' ≤ len) (h2 : len' ≤ 2000) => open_rd (cap := cap) h h1 h2)
  have HSO := hid (fun W (hr : Rd W w.heap.size 0) => l91Some_any w.heap.size 0 4 4 W hr (by omega) (by omega) (by omega) (by omega) (by omega))
  clear h
  go_enter Try.func95, Try.ntmps95
  go_wp2_with fail
  refine HOP.out.mono ?_
  rintro e w1 ⟨rfl, len', h1, h2, _, rfl⟩
  have HS := hid (HSO.out _ (HRD.out len' h1 h2))
  go_wp2_with fail
  refine HS.out.mono ?_
  rintro e w2 ⟨⟨gb, c1, ts, rfl, hgb, hrow, h3, h4, h5⟩, hrd, hgw⟩
  have HD := hid (show Drawn 4 4 ts from ⟨h3, h4, h5⟩)
  have HGB := hid (show gb ≠ w.heap.size by simp at hgb; omega)
  have HB2 := hid (((Below.refl _ w).alloc (Nat.le_refl _) (.cells #[.slice A len' cap, .int .i64 0] 153)).grown hgw (by simp) (fun k e => by cases e; exact Nat.le_refl _))
  have HN := hid (show ts.length ≤ 1048576 by omega)
  have HNS := hid (show ∀ s ∈ ts, s.size ≤ 1048576 from fun s hs => by have := (h5 s hs).2; omega)
  have HAT := hid (fun p W (hr : Rd W w.heap.size p) (hp : p ≤ 90000) (hs : Row9 W gb ts) => l91At_any w.heap.size p c1 W.heap.size (some ⟨gb, 0, none⟩) ts W hr (hs.strs hs.lt) HD.out hp)
  have HPK := hid (fun p q W (hr : Rd W w.heap.size p) (hp : p ≤ 99999) (hq : 1 ≤ q) (hq2 : q ≤ 1000) => pick_rd w.heap.size p q W hr hp hq hq2)
  have HRW := hid hrow
  have HR2 := hid hrd
  have HLE := hid (specRoundLeast_any (some ⟨gb, 0, none⟩) c1 w2.heap.size ts w2 (hrow.strs hrow.lt) (Nat.le_refl _) HN.out HNS.out)
  clear hgb hrow h3 h4 h5 hrd hgw
  go_wp2_with fail
  refine HLE.out.mono ?_
  rintro e w3 ⟨hb3, x, ok, rfl, _⟩
  have HB3 := hid (HB2.out.trans (hb3.mono HB2.out.size))
  have HR3 := hid (HRW.out.below hb3 HRW.out.lt)
  have HRD3 := hid (HR2.out.below hb3)
  clear hb3 HLE
  cases ok with
  | true =>
    have HP := hid (HPK.out _ 3 w3 HRD3.out (by omega) (by omega) (by omega))
    go_wp2_with fail
    refine HP.out.mono ?_
    rintro e w4 ⟨⟨q, hq, rfl⟩, hrd, hgw, hsz⟩
    have HRD4 := hid hrd
    have HR4 := hid (HR3.out.kept hgw HGB.out)
    have HB4 := hid (HB3.out.grown hgw HB3.out.size (fun k e => by cases e; exact Nat.le_refl _))
    clear hrd hgw hsz HP
    by_cases hq0 : 0 < q
    · have hqi : (0 : Int) < (q : Int) := by omega
      have HP4 := hid (HPK.out _ 4 w4 HRD4.out (by omega) (by omega) (by omega))
      go_wp2_with fail
      refine HP4.out.mono ?_
      rintro e w5 ⟨⟨q2, hq2, rfl⟩, hrd, hgw, hsz⟩
      have HR5 := hid (HR4.out.kept hgw HGB.out)
      have HB5 := hid (HB4.out.grown hgw HB4.out.size (fun k e => by cases e; exact Nat.le_refl _))
      clear hrd hgw hsz HP4
      go_wp2_with fail
      refine bodyPost_ret (results_tmp3 rfl _ _ _) rfl ?_
      exact ⟨⟨_, c1, ts, _, _, rfl, HR5.out.strs HR5.out.lt, HD.out⟩, HB5.out⟩
    · have hqi : ¬ ((0 : Int) < (q : Int)) := by omega
      have HA := hid (HAT.out _ w4 HRD4.out (by omega) HR4.out)
      go_wp2_with fail
      refine HA.out.mono ?_
      rintro e v5 ⟨⟨y, hy0, hy1, rfl⟩, hrd, hgw, hsz⟩
      have HRD5 := hid hrd
      have HR5 := hid (HR4.out.kept hgw HGB.out)
      have HB5 := hid (HB4.out.grown hgw HB4.out.size (fun k e => by cases e; exact Nat.le_refl _))
      clear hrd hgw hsz HA
      have HP5 := hid (HPK.out _ 4 v5 HRD5.out (by omega) (by omega) (by omega))
      go_wp2_with fail
      refine HP5.out.mono ?_
      rintro e v6 ⟨⟨q2, hq2, rfl⟩, hrd, hgw, hsz⟩
      have HRD6 := hid hrd
      have HR6 := hid (HR5.out.kept hgw HGB.out)
      have HB6 := hid (HB5.out.grown hgw HB5.out.size (fun k e => by cases e; exact Nat.le_refl _))
      clear hrd hgw hsz HP5
      have HP6 := hid (HPK.out _ 24 v6 HRD6.out (by omega) (by omega) (by omega))
      go_wp2_with fail
      refine HP6.out.mono ?_
      rintro e v7 ⟨⟨q3, hq3, rfl⟩, hrd, hgw, hsz⟩
      have HR7 := hid (HR6.out.kept hgw HGB.out)
      have HB7 := hid (HB6.out.grown hgw HB6.out.size (fun k e => by cases e; exact Nat.le_refl _))
      obtain ⟨q4, hq4, hd4⟩ : ∃ q4 : Nat, q4 ≤ 1 ∧ (q3 : Int) / 23 = (q4 : Int) := ⟨q3 / 23, by omega, by omega⟩
      clear hrd hgw hsz HP6
      go_wp2_with fail
      refine bodyPost_ret (results_tmp3 rfl _ _ _) rfl ?_
      exact ⟨⟨_, c1, ts, _, _, rfl, HR7.out.strs HR7.out.lt, HD.out⟩, HB7.out⟩
  | false =>
    have HA := hid (HAT.out _ w3 HRD3.out (by omega) HR3.out)
    go_wp2_with fail
    refine HA.out.mono ?_
    rintro e v5 ⟨⟨y, hy0, hy1, rfl⟩, hrd, hgw, hsz⟩
    have HRD5 := hid hrd
    have HR5 := hid (HR3.out.kept hgw HGB.out)
    have HB5 := hid (HB3.out.grown hgw HB3.out.size (fun k e => by cases e; exact Nat.le_refl _))
    clear hrd hgw hsz HA
    have HP5 := hid (HPK.out _ 4 v5 HRD5.out (by omega) (by omega) (by omega))
    go_wp2_with fail
    refine HP5.out.mono ?_
    rintro e v6 ⟨⟨q2, hq2, rfl⟩, hrd, hgw, hsz⟩
    have HRD6 := hid hrd
    have HR6 := hid (HR5.out.kept hgw HGB.out)
    have HB6 := hid (HB5.out.grown hgw HB5.out.size (fun k e => by cases e; exact Nat.le_refl _))
    clear hrd hgw hsz HP5
    have HP6 := hid (HPK.out _ 24 v6 HRD6.out (by omega) (by omega) (by omega))
    go_wp2_with fail
    refine HP6.out.mono ?_
    rintro e v7 ⟨⟨q3, hq3, rfl⟩, hrd, hgw, hsz⟩
    have HR7 := hid (HR6.out.kept hgw HGB.out)
    have HB7 := hid (HB6.out.grown hgw HB6.out.size (fun k e => by cases e; exact Nat.le_refl _))
    obtain ⟨q4, hq4, hd4⟩ : ∃ q4 : Nat, q4 ≤ 1 ∧ (q3 : Int) / 23 = (q4 : Int) := ⟨q3 / 23, by omega, by omega⟩
    clear hrd hgw hsz HP6
    go_wp2_with fail
    refine bodyPost_ret (results_tmp3 rfl _ _ _) rfl ?_
    exact ⟨⟨_, c1, ts, _, _, rfl, HR7.out.strs HR7.out.lt, HD.out⟩, HB7.out⟩
set_option maxRecDepth 100000 in
set_option maxHeartbeats 1000000 in
theorem draw_any (A : Option Addr) (len cap : Nat) (w : World) (h : CodeAt w A len) (hl : len ≤ 1048576) (hc : len ≤ cap) (hc2 : cap ≤ 9223372036854775807) :
    Calls Try.prog 34 #[.slice A len cap] w fun e w' => Below w.heap.size w w' ∧ ∃ A c ts x, e = .returned (.tuple #[.slice A ts.length c, .int .i64 x]) ∧ LS w' A ts ∧ Drawn 4 4 ts := by
  have HC := hid (drawCells_any A len cap w h hl hc hc2)
  clear h
  go_enter Try.func34, Try.ntmps34
  go_wp2_with fail
  refine HC.out.mono ?_
  rintro e w1 ⟨⟨A1, c1, ts, x, y, rfl, hst, hd⟩, hb⟩
  have HST := hid hst
  have HD := hid hd
  have HB := hid hb
  clear hst hd hb
  go_wp2_with fail
  refine bodyPost_ret (results_tmp2 rfl _ _ _) rfl ?_
  exact ⟨HB.out, A1, c1, ts, x, rfl, HST.out, HD.out⟩

set_option maxRecDepth 100000 in
set_option maxHeartbeats 4000000 in
theorem walk (v : Value) (w : World) (hc : CameB w v) :
    Calls Try.prog 8 #[v] w fun e w' => e = .returned (.bool true) ∧ Below w.heap.size w w' := by
  obtain ⟨A, len, cap, rfl, hcode, hlc, hcap⟩ := hc
  have HCD := hid hcode
  clear hcode
  go_enter Try.func8, Try.ntmps8
  by_cases hbig : 1048576 < len
  · have hbi : (1048576 : Int) < (len : Int) := by omega
    go_wp2_with fail
    go_ret
    exact ⟨rfl, Below.refl _ _⟩
  have hbi : ¬ (1048576 : Int) < (len : Int) := by omega
  have HDR := hid (draw_any A len cap w HCD.out (by omega) hlc hcap)
  have HC1 := hid (HDR.out)
  go_wp2_with fail
  refine HC1.out.mono ?_
  rintro e w1 ⟨hb, A1, c1, ts, x, rfl, hl, hd⟩
  have HB1 := hid hb
  have Lts1 := hid hl
  clear hl
  clear hb HC1
  have HSM := hid (hd.small (by decide) (by decide))
  clear hd
  have HC2 := hid (implRoundAt_any A1 c1 ts x w1 Lts1.out HSM.out.1 HSM.out.2)
  go_wp2_with fail
  refine HC2.out.mono ?_
  rintro e w2 ⟨hb, out, ok, rfl, hout⟩
  have HB2 := hid (HB1.out.trans (hb.mono HB1.out.size))
  clear HB1
  have Lts2 := hid (Lts1.out.step hb)
  clear Lts1
  clear hb HC2
  have HO := hid hout
  clear hout
  have HC3 := hid (specRoundAt_any A1 c1 w2.heap.size ts x w2 Lts2.out (Nat.le_refl _) HSM.out.1 HSM.out.2)
  go_wp2_with fail
  refine HC3.out.mono ?_
  rintro e w3 ⟨hb, out2, ok2, rfl, hout2⟩
  have HB3 := hid (HB2.out.trans (hb.mono HB2.out.size))
  clear HB2
  have Lts3 := hid (Lts2.out.step hb)
  clear Lts2
  clear hb HC3
  obtain ⟨rfl, rfl⟩ := HO.out.uniq hout2
  clear hout2
  rcases HO.out with ⟨n, m, c, hp, hv⟩ | ⟨_, rfl, rfl⟩
  · obtain ⟨k, N, S, A, l, hR, hk2, hN, hN25, e1, hl1, hl2, hl3, hS, hF, hle⟩ := facts hp
    rw [hR] at hv
    obtain ⟨rfl, rfl⟩ := Prod.mk.inj hv
    clear hv hR
    have hg := hp.1
    obtain ⟨b0, o0, s0, rfl, hk0, hs0, hl0⟩ := Lts3.out.addr hg
    have hn : ((ts.length : Nat) : Int) = (n : Int) := by rw [(hg).1]
    have hn0 : 0 < n := (hg).2.1
    have hn5 := (hg).2.2.1
    have hm1 := (hg).2.2.2.1
    have hm5 := (hg).2.2.2.2.1
    have HK0 := hid hk0
    clear hk0
    have HG := hid hg
    have E1 := hid e1
    have HF := hid hF
    have HS := hid hS
    have HL2 := hid hl2
    have HL3 := hid hl3
    have HLE := hid hle
    clear hg e1 hF hS hl2 hl3 hle
    clear hp
    go_wp2_with fail
    refine (nRoundLengths (Lts3.out) HG.out E1.out).mono ?_
    rintro e w4 ⟨hb, A5, c5, rfl, hl⟩
    have HB4 := hid (HB3.out.trans (hb.mono HB3.out.size))
    clear HB3
    have Lts4 := hid (Lts3.out.step hb)
    clear Lts3
    have Ll4 := hid hl
    clear hl
    clear hb
    go_wp2_with fail
    go_loopw [11, 12] (fun (sv iv : Value) (wr : World) => ∃ c : Nat, c ≤ N ∧ iv = .int .i64 c ∧ sv = .int .i64 ((sumN A c : Nat) : Int) ∧ Below w.heap.size w wr ∧ LS wr (some ⟨b0, o0, none⟩) ts ∧ LI wr A5 l) (fun _ iv _ => N - (intOf iv).toNat)
    case atStart => exact ⟨0, by omega, rfl, rfl, HB4.out, Lts4.out, Ll4.out⟩
    case round =>
      obtain ⟨c, hc, rfl, rfl, hbr, hlr, hx0⟩ := hrel
      have HBR := hid hbr
      have HLR := hid hlr
      have HX0 := hid hx0
      clear hbr hlr hx0
      have c0 := HLR.out.cell0 HK0.out
      by_cases hlt : c < N
      · obtain ⟨f1, f2, f3⟩ := HF.out c hlt
        have F1 := hid f1
        have F2 := hid f2
        have hci : (c : Int) < (N : Int) := by omega
        have hcl := HLE.out c hc
        have HSU := hid (show sumN A (c + 1) = sumN A c + A c from rfl)
        generalize sumN A c = M at *
        generalize A c = a at *
        clear f1 f2
        go_wp2_with fail
        refine (nRoundAt HLR.out F1.out F2.out).mono ?_
        rintro e9 w9 ⟨hb, rfl⟩
        have HB9 := hid (HBR.out.trans (hb.mono HBR.out.size))
        have HL9 := hid (HLR.out.step hb)
        have HY0 := hid (HX0.out.step hb)
        clear hb c0
        go_wp2_with fail
        go_roundw
        case rel => exact ⟨c + 1, by omega, by go_num, by rw [HSU.out]; go_num, HB9.out, HL9.out, HY0.out⟩
        case measure => simp [intOf]; omega
      · obtain rfl : c = N := by omega
        rw [HS.out]
        have hS9 : (S : Int) ≤ 100 := by have := HLE.out c (Nat.le_refl _); have := HS.out; omega
        have hk2i : (k : Int) ≤ 2 := by omega
        go_wp2_with fail
        refine (nTotal (HX0.out) hl1 HL2.out HL3.out).mono ?_
        rintro e w5 ⟨hb, rfl⟩
        have HB5 := hid (HBR.out.trans (hb.mono HBR.out.size))
        clear HBR
        have Lts5 := hid (HLR.out.step hb)
        clear HLR
        have Ll5 := hid (HX0.out.step hb)
        clear HX0
        clear hb
        go_wp2_with fail
        go_ret
        exact ⟨rfl, HB5.out⟩
  · skip
    go_wp2_with fail
    go_ret
    exact ⟨rfl, HB3.out⟩

set_option maxRecDepth 100000 in
theorem lifted (os : Os) (started : os.Started) (H : Type) (enc : TypeId × Value → H) :
    ReturnsInHanded {} Try.checked os 8 .any (Rows.fnRoundAtSpec.pre6 enc Try.prog Try.f8 Rows.fnRoundAtRow.domain false) (Rows.fnRoundAtSpec.post enc Try.prog Try.f8 false true false false) := by
  refine returnsInHanded_of_change (C := Try.checked) Try.own started (by kernel_rfl) Try.func8
    (ChangeSpec.witness6 (enc := enc) (C := Try.checked) false ⟨#[], #[.slice none 0 0], []⟩ 8 (by kernel_rfl) (by kernel_rfl) (by kernel_rfl) (by kernel_rfl)) ?_
  intro W base args ds gs before hval0 hW hcnd _
  have hval : ∀ (j : Nat) t v, Try.f8.params[j]? = some t → args[j]? = some v → Value.okWide Try.prog W .any base t v := hval0
  have hW' := hW
  obtain ⟨p, q, hA0, hV, rfl, hfz, hnd⟩ := hW
  have hA : DataW.TrodAll enc Try.prog W 0 (fun _ => true) true Try.f8.params.toList args.toList ds p := hA0
  rw [Try.params8] at hA hval
  obtain ⟨v0, vs0, d0, ds0, p0, q0, hargs, rfl, rfl, h0, r0⟩ := trodAll_cons hA
  obtain ⟨rfl, rfl, rfl⟩ := trodAll_nil r0
  obtain rfl : args = #[v0] := by cases args; simp_all
  obtain ⟨rfl, rfl⟩ := trodVars_none hV
  have k0 := h0
  have lt0 : ∀ x ∈ p0, x.block < W.heap.size := by obtain ⟨m, hm⟩ := k0; exact DataW.trod_lt m _ _ _ hm
  have c0 := cameB_of (hval 0 22 v0 rfl rfl) h0
  clear hA0 hval0
  refine (walk v0 W c0).mono fun e W' ⟨he, bel⟩ => ?_
  subst he
  exact ⟨_, rfl, _, _, _, [], _, [], hW', trodAll_mk1 (shut_bool Try.underlying4 _), (trodAll_cons_mk (Below.trod Try.laidOut (by kernel_rfl) (of_decide_eq_true (by kernel_rfl)) k0 bel lt0) trodAll_mk0), rfl, bel.frame _, fun h => by cases h⟩

theorem closed : joinedFacts Try.pinned.checked.prog 8 Try.f8 Rows.fnRoundAtSpec Rows.fnRoundAtRow = true := by
  unfold joinedFacts
  exact and8 (by as_aux_lemma => kernel_rfl) head_enter head_lifts head_make (by as_aux_lemma => kernel_rfl) (by as_aux_lemma => kernel_rfl) (by as_aux_lemma => kernel_rfl) (by as_aux_lemma => kernel_rfl)

theorem proved : Rows.FnRoundAtSaid :=
  OpenClaim.holds_of_wide 8 Try.f8 rfl rfl rfl rfl rfl rfl rfl ⟨rfl, rfl, rfl, rfl, rfl⟩ rfl rfl rfl rfl rfl (by kernel_rfl) Try.func8 closed
    (of_decide_eq_true (by kernel_rfl)) (by unfold Func.isWrapper; first | (rw [if_pos (by decide +kernel)]; kernel_rfl) | (rw [if_neg (by decide +kernel)]; exact ⟨rfl, rfl⟩))
    (fun os started H enc _ => lifted os started H enc)
#print axioms proved

end Go.Proofs.Ytgildagmliadeaa.lawFnRoundAt
