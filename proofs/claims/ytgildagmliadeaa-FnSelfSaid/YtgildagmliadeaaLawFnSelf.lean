/- For every code, a mirror that one path of the drawn grid goes through twice makes no path less when it is exchanged, and one path goes through it in the grid turned as well; the program's and the specification's answers are the same: the law FnSelf returns true, and its argument reads as it did. No condition. -/
import Derived.Test.YtgildagmliadeaaPKR
import Derived.Test.YtgildagmliadeaaPKG
import Derived.Test.YtgildagmliadeaaDrawCell
import Derived.Test.YtgildagmliadeaaBunB
import Derived.Test.YtgildagmliadeaaExch
import Derived.Test.YtgildagmliadeaaBunR
import Derived.Test.YtgildagmliadeaaGridQ
import Derived.Test.YtgildagmliadeaaDeltaQ
import Derived.Test.YtgildagmliadeaaCntQ
import Derived.Test.YtgildagmliadeaaSkips
namespace Go.Proofs.Ytgildagmliadeaa.lawFnSelf
open Go.ChangeShapes Go.WideShapes Go.ChangeAt Go.RowKit
open Go.ChangeMaps (open_string shut_string)

theorem lett_nat {m : Nat} {l : List UInt8} {r q : Nat} (h : r * m + q < l.length) : lett m (pad l) (r : Int) (q : Int) = l.getD (r * m + q) 0 := by
  unfold lett pad
  rw [show ((r : Int) * (m : Int) + (q : Int)).toNat = r * m + q by rw [← Int.natCast_mul, ← Int.natCast_add, Int.toNat_natCast], List.getD_eq_getElem?_getD, List.getD_eq_getElem?_getD, List.getElem?_append_left h]
theorem turn_letters {n m : Nat} {ts : List ByteArray} (h : IsGrid n m ts) : ∀ i k : Int, 0 ≤ i → i < n → 0 ≤ k → k < m → lett n (pad (flat (ruleG m n (turnF n m (flat ts))))) k ((n : Int) - 1 - i) = swapM (lett m (pad (flat ts)) i k) := by
  intro i k h1 h2 h3 h4
  obtain ⟨r, rfl⟩ := Int.eq_ofNat_of_zero_le h1
  obtain ⟨q, rfl⟩ := Int.eq_ofNat_of_zero_le h3
  have hr : r < n := by omega
  have hq : q < m := by omega
  have g1 := turn_grid h
  rw [show (n : Int) - 1 - (r : Int) = ((n - 1 - r : Nat) : Int) by omega, lett_nat (by rw [g1.flen]; exact parts_lt hq (by omega)), lett_nat (by rw [h.flen]; exact parts_lt hr hq), rule_flat hq (by omega)]
  show oth ((flat ts).getD ((n - 1 - (n - 1 - r)) * m + q) 0) = swapM _
  rw [show n - 1 - (n - 1 - r) = r by omega]
  rfl
theorem flip_letters {n m : Nat} {ts : List ByteArray} (h : IsGrid n m ts) (g1 : IsGrid n m (ruleG n m (flipF m (flat ts)))) : ∀ i k : Int, 0 ≤ i → i < n → 0 ≤ k → k < m → lett m (pad (flat (ruleG n m (flipF m (flat ts))))) i ((m : Int) - 1 - k) = swapM (lett m (pad (flat ts)) i k) := by
  intro i k h1 h2 h3 h4
  obtain ⟨r, rfl⟩ := Int.eq_ofNat_of_zero_le h1
  obtain ⟨q, rfl⟩ := Int.eq_ofNat_of_zero_le h3
  have hr : r < n := by omega
  have hq : q < m := by omega
  rw [show (m : Int) - 1 - (q : Int) = ((m - 1 - q : Nat) : Int) by omega, lett_nat (by rw [g1.flen]; exact parts_lt hr (by omega)), lett_nat (by rw [h.flen]; exact parts_lt hr hq), rule_flat hr (by omega)]
  show oth ((flat ts).getD (r * m + (m - 1 - (m - 1 - q))) 0) = swapM _
  rw [show m - 1 - (m - 1 - q) = q by omega]
  rfl

theorem lett_at {m c : Nat} {ls : List UInt8} {b : UInt8} (hl : c < ls.length) : lett m (ls.set c b) (placeN m c).i (placeN m c).k = b := by
  rw [lett_place, List.getD_eq_getElem?_getD, List.getElem?_set_self hl]
  rfl
theorem lett_off {n m c : Nat} {ls : List UInt8} {b b' : UInt8} (hc : c < n * m) : OffSame n m (lett m (ls.set c b)) (lett m (ls.set c b')) (placeN m c).i (placeN m c).k := fun x hx hat => by
  have hm : 0 < m := by
    rcases Nat.eq_zero_or_pos m with h0 | h0
    · subst h0; simp at hc
    · exact h0
  have h1 := cellN_iff (i := c / m) hx (Nat.mod_lt c hm)
  rw [show c / m * m + c % m = c by rw [Nat.mul_comm]; exact Nat.div_add_mod c m] at h1
  have hne : cellN m x ≠ c := fun e => hat (h1.1 e)
  unfold lett
  rw [cellN_int hx, Int.toNat_natCast, List.getD_eq_getElem?_getD, List.getD_eq_getElem?_getD, List.getElem?_set_ne (fun e => hne e.symm), List.getElem?_set_ne (fun e => hne e.symm)]
/-- Two letters of a cell: the numbers of paths differ by one at most. -/
theorem near {n m c : Nat} {ls : List UInt8} {b b' : UInt8} (hc : c < n * m) (hl : c < ls.length) (hb : isLet b = true) (hb' : isLet b' = true) : -1 ≤ (pathsR n m (lett m (ls.set c b))).1 - (pathsR n m (lett m (ls.set c b'))).1 ∧ (pathsR n m (lett m (ls.set c b))).1 - (pathsR n m (lett m (ls.set c b'))).1 ≤ 1 := by
  have h3 := three_leads (n := n) (m := m) (t0 := lett m (ls.set c 46)) (t1 := lett m (ls.set c 114)) (t2 := lett m (ls.set c 102)) (i := (placeN m c).i) (k := (placeN m c).k) (placeN_in hc) (lett_off hc) (lett_off hc) (lett_at hl) (lett_at hl) (lett_at hl)
  unfold law3 at h3
  rw [Bool.or_eq_true, beq_iff_eq, beq_iff_eq] at h3
  simp only [isLet, Bool.or_eq_true, beq_iff_eq] at hb hb'
  rcases hb with (rfl | rfl) | rfl <;> rcases hb' with (rfl | rfl) | rfl <;> simp only [pathsR] <;> omega
theorem set_same {ls : List UInt8} {c : Nat} {b : UInt8} (h : ls[c]? = some b) : ls.set c b = ls := by
  apply List.ext_getElem?
  intro i
  by_cases hi : c = i
  · subst hi; rw [List.getElem?_set_self (List.getElem?_eq_some_iff.1 h).1, h]
  · rw [List.getElem?_set_ne hi]
theorem pad_at {n m c : Nat} {ts : List ByteArray} (h : IsGrid n m ts) (hc : c < n * m) : ∃ b, (pad (flat ts))[c]? = some b ∧ isLet b = true ∧ lett m (pad (flat ts)) ((c / m : Nat) : Int) ((c % m : Nat) : Int) = b ∧ (flat ts)[c]? = some b := by
  obtain ⟨b, h1, h2⟩ := h.let_at hc
  have hcl : c < (flat ts).length := by rw [h.flen]; exact hc
  have e : (pad (flat ts))[c]? = some b := by unfold pad; rw [List.getElem?_append_left hcl]; exact h1
  refine ⟨b, e, h2, ?_, h1⟩
  have hl := lett_place (m := m) (c := c) (ls := pad (flat ts))
  have h3 : lett m (pad (flat ts)) ((c / m : Nat) : Int) ((c % m : Nat) : Int) = (pad (flat ts)).getD c 0 := hl
  rw [h3, List.getD_eq_getElem?_getD, e]
  rfl

theorem nChangeSelf {n m c cc : Nat} {A : Option Addr} {ss : List ByteArray} {w : World} {cell : Int} {b : Bool} (h : LS w A ss) (hc : CellIn ss cell n m cc) (hv : selfB n m (lett m (pad (flat ss))) (placeN m cc).i (placeN m cc).k = b) :
    Calls Try.prog 28 #[.slice A ss.length c, .int .i64 cell] w fun e w' => e = .returned (.bool b) ∧ Below w.heap.size w w' :=
  (implChangeSelf_any A c ss cell w h (gsmall hc.1).1 (gsmall hc.1).2).mono fun _ _ ⟨hb, ok', he, ho⟩ => ⟨by
    rw [he, ho.uniq (.inl ⟨n, m, cc, hc, hv.symm⟩ : SelfOut ss cell b)], hb⟩
theorem facts {n m c : Nat} {ts : List ByteArray} {x : Int} (h : CellIn ts x n m c) (hs : selfB n m (lett m (pad (flat ts))) (placeN m c).i (placeN m c).k = true) : ∃ (t : List ByteArray) (c2 r q : Nat), turnG n m (pad (flat ts)) = t ∧ IsGrid m n t ∧ x = (c : Int) ∧ c ≤ 25 ∧ (c : Int) / (m : Int) = (r : Int) ∧ (c : Int) % (m : Int) = (q : Int) ∧ r < n ∧ q < m ∧
    (q : Int) * (n : Int) + (n : Int) - 1 - (r : Int) = (c2 : Int) ∧ (∃ e : Nat, (q : Int) * (n : Int) = (e : Int) ∧ e ≤ 25) ∧ c2 ≤ 25 ∧ CellIn t (c2 : Int) m n c2 ∧ selfB m n (lett n (pad (flat t))) (placeN n c2).i (placeN n c2).k = true ∧
    ((∃ d : Int, MirrorIn ts (c : Int) n m c ∧ deltaR n m (pad (flat ts)) c = (d, true) ∧ 0 ≤ d) ∨ (∀ n m c', ¬ MirrorIn ts (c : Int) n m c')) := by
  obtain ⟨hg, hx, hc⟩ := h
  subst hx
  have h25 := hg.le25
  have g1 := turn_grid hg
  have ht := turn_letters hg
  obtain ⟨h1, h2, h3⟩ := cell_parts hc
  obtain ⟨a1, a2⟩ := turnC_parts hc
  have hlt := turnC_lt hc
  have hst := self_turn ht (placeN_in hc)
  have e1 : (placeN n (turnC n m c)).i = (placeN m c).k := congrArg (fun x : Nat => (x : Int)) a1
  have e2 : (placeN n (turnC n m c)).k = (n : Int) - 1 - (placeN m c).i := by
    show ((turnC n m c % n : Nat) : Int) = (n : Int) - 1 - ((c / m : Nat) : Int)
    rw [a2]
    generalize c / m = r at *
    omega
  have hq25 : c % m * n ≤ 25 := by
    have : c % m * n ≤ m * n := Nat.mul_le_mul (by omega) (Nat.le_refl _)
    rw [Nat.mul_comm m n] at this
    omega
  have hC2 : turnC n m c ≤ 25 := by rw [Nat.mul_comm m n] at hlt; omega
  have hc2 : ((c % m : Nat) : Int) * (n : Int) + (n : Int) - 1 - ((c / m : Nat) : Int) = ((turnC n m c : Nat) : Int) := by
    unfold turnC
    rw [← Int.natCast_mul]
    generalize c % m * n = e
    generalize c / m = r at *
    omega
  refine ⟨_, turnC n m c, c / m, c % m, turn_same hg, g1, rfl, by omega, rfl, rfl, h1, h2, hc2, ⟨c % m * n, by rw [Int.natCast_mul], hq25⟩, hC2, ⟨g1, rfl, hlt⟩, ?_, ?_⟩
  · rw [e1, e2]
    exact hst.trans hs
  · obtain ⟨b, h0, hb, hlb, hfb⟩ := pad_at hg hc
    by_cases h46 : b = 46
    · refine .inr fun n' m' c' hm => ?_
      obtain ⟨⟨k1, k2, k3⟩, k4⟩ := hm
      obtain ⟨rfl, rfl⟩ := hg.uniq k1
      obtain rfl : c = c' := by omega
      exact k4 (by rw [hlb, h46])
    · have hbo : (b = 114 ∧ oth b = 102) ∨ (b = 102 ∧ oth b = 114) := by
        simp only [isLet, Bool.or_eq_true, beq_iff_eq] at hb
        rcases hb with (rfl | rfl) | rfl
        · exact absurd rfl h46
        · exact .inl ⟨rfl, rfl⟩
        · exact .inr ⟨rfl, rfl⟩
      have hl : c < (pad (flat ts)).length := by rw [hg.plen]; omega
      have hse : (pad (flat ts)).set c b = pad (flat ts) := set_same h0
      have hoff : OffSame n m (lett m (pad (flat ts))) (lett m ((pad (flat ts)).set c (oth b))) (placeN m c).i (placeN m c).k := by
        have := lett_off (n := n) (m := m) (c := c) (ls := pad (flat ts)) (b := b) (b' := oth b) hc
        rwa [hse] at this
      have hll := self_leads (placeN_in hc) hoff (by
        have e3 : lett m (pad (flat ts)) ((c / m : Nat) : Int) ((c % m : Nat) : Int) = b := hlb
        have e4 : lett m ((pad (flat ts)).set c (oth b)) ((c / m : Nat) : Int) ((c % m : Nat) : Int) = oth b := lett_at (m := m) hl
        show (lett m (pad (flat ts)) ((c / m : Nat) : Int) ((c % m : Nat) : Int) = 114 ∧ _) ∨ _
        rw [e3]
        exact hbo.imp (fun h => ⟨h.1, e4.trans h.2⟩) fun h => ⟨h.1, e4.trans h.2⟩) hs
      refine .inl ⟨(deltaR n m (pad (flat ts)) c).1, ⟨⟨hg, rfl, hc⟩, by rw [hlb]; exact h46⟩, rfl, ?_⟩
      show 0 ≤ (pathsR n m (lett m ((pad (flat ts)).set c (oth (lett m (pad (flat ts)) ((c / m : Nat) : Int) ((c % m : Nat) : Int)))))).1 - (pathsR n m (lett m (pad (flat ts)))).1
      rw [hlb]
      simp only [pathsR]
      omega

set_option maxRecDepth 100000 in
set_option maxHeartbeats 1000000 in
theorem draw_any (A : Option Addr) (len cap : Nat) (w : World) (h : CodeAt w A len) (hl : len ≤ 1048576) (hc : len ≤ cap) (hc2 : cap ≤ 9223372036854775807) :
    Calls Try.prog 27 #[.slice A len cap] w fun e w' => Below w.heap.size w w' ∧ ∃ A c ts x, e = .returned (.tuple #[.slice A ts.length c, .int .i64 x]) ∧ LS w' A ts ∧ Drawn 4 4 ts ∧ -100 ≤ x ∧ x ≤ 100 := by
  have HC := hid (l91Cell_any A len cap w h hl hc hc2)
  clear h
  go_enter Try.func27, Try.ntmps27
  go_wp2_with fail
  refine HC.out.mono ?_
  rintro e w1 ⟨⟨A1, c1, ts, x, rfl, hst, hd, hx⟩, hb⟩
  have HST := hid hst
  have HD := hid hd
  have HX := hid hx
  have HB := hid hb
  clear hst hd hx hb
  go_wp2_with fail
  refine bodyPost_ret (results_tmp2 rfl _ _ _) rfl ?_
  exact ⟨HB.out, A1, c1, ts, x, rfl, HST.out, HD.out, HX.out⟩

set_option maxRecDepth 100000 in
set_option maxHeartbeats 4000000 in
theorem walk (v : Value) (w : World) (hc : CameB w v) :
    Calls Try.prog 6 #[v] w fun e w' => e = .returned (.bool true) ∧ Below w.heap.size w w' := by
  obtain ⟨A, len, cap, rfl, hcode, hlc, hcap⟩ := hc
  have HCD := hid hcode
  clear hcode
  go_enter Try.func6, Try.ntmps6
  by_cases hbig : 1048576 < len
  · have hbi : (1048576 : Int) < (len : Int) := by omega
    go_wp2_with fail
    go_ret
    exact ⟨rfl, Below.refl _ _⟩
  have hbi : ¬ (1048576 : Int) < (len : Int) := by omega
  have HDR := hid (draw_any A len cap w HCD.out (by omega) hlc hcap)
  have HC1 := hid (HDR.out)
  go_wp2_with fail
  refine HC1.out.mono ?_
  rintro e w1 ⟨hb, A1, c1, ts, x, rfl, hl, hd, hx0, hx1⟩
  have HB1 := hid hb
  have Lts1 := hid hl
  clear hl
  clear hb HC1
  have HSM := hid (hd.small (by decide) (by decide))
  clear hd
  have HC2 := hid (implChangeSelf_any A1 c1 ts x w1 Lts1.out HSM.out.1 HSM.out.2)
  go_wp2_with fail
  refine HC2.out.mono ?_
  rintro e w2 ⟨hb, ok, rfl, hout⟩
  have HB2 := hid (HB1.out.trans (hb.mono HB1.out.size))
  clear HB1
  have Lts2 := hid (Lts1.out.step hb)
  clear Lts1
  clear hb HC2
  have HO := hid hout
  clear hout
  have HC3 := hid (specChangeSelf_any A1 c1 w2.heap.size ts x w2 Lts2.out (Nat.le_refl _) HSM.out.1 HSM.out.2)
  go_wp2_with fail
  refine HC3.out.mono ?_
  rintro e w3 ⟨hb, ok2, rfl, hout2⟩
  have HB3 := hid (HB2.out.trans (hb.mono HB2.out.size))
  clear HB2
  have Lts3 := hid (Lts2.out.step hb)
  clear Lts2
  clear hb HC3
  obtain rfl := HO.out.uniq hout2
  clear hout2
  cases ok2 with
  | false =>
    go_wp2_with fail
    go_ret
    exact ⟨rfl, HB3.out⟩
  | true =>
    obtain ⟨n, m, c, hp, hs⟩ : ∃ n m c, CellIn ts x n m c ∧ true = selfB n m (lett m (pad (flat ts))) (placeN m c).i (placeN m c).k := by
      rcases HO.out with h | ⟨_, h⟩
      · exact h
      · cases h
    obtain ⟨t, c2, r, q, e1, g1, rfl, hc25, hdiv, hmod, hr, hq, hc2, ⟨e, he, he25⟩, hc225, p2, e2, hcase⟩ := facts hp hs.symm
    have hg := hp.1
    obtain ⟨b0, o0, s0, rfl, hk0, hs0, hl0⟩ := Lts3.out.addr hg
    have hn : ((ts.length : Nat) : Int) = (n : Int) := by rw [(hg).1]
    have hn0 : 0 < n := (hg).2.1
    have hn5 := (hg).2.2.1
    have hm1 := (hg).2.2.2.1
    have hm5 := (hg).2.2.2.2.1
    have HK0 := hid hk0
    clear hk0
    have htm : (c : Int).tmod (m : Int) = (q : Int) := by rw [Int.tmod_eq_emod_of_nonneg (by omega)]; exact hmod
    have htd : (c : Int).tdiv (m : Int) = (r : Int) := by rw [Int.tdiv_eq_ediv_of_nonneg (by omega)]; exact hdiv
    have hmz : ((m : Int) == 0) = false := by simp; omega
    have hmz2 : ¬ m = 0 := by omega
    have hc2e : (e : Int) + (n : Int) - 1 - (r : Int) = (c2 : Int) := by omega
    have hr0 : (0 : Int) ≤ (r : Int) := by omega
    have hr5 : (r : Int) < 5 := by omega
    have hq5 : (q : Int) < 5 := by omega
    have hn5i : (n : Int) ≤ 5 := by omega
    have he25i : (e : Int) ≤ 25 := by omega
    have HC2 := hid hc2e
    clear hc2 hc2e hp hs
    have HG := hid hg
    have E1 := hid e1
    have G1 := hid g1
    have P2 := hid p2
    have E2 := hid e2
    clear hg e1 g1 p2 e2
    have c0 := Lts3.out.cell0 HK0.out
    go_wp2_with fail
    refine (nGridTurn (Lts3.out) HG.out E1.out).mono ?_
    rintro e w4 ⟨hb, A5, c5, rfl, hl⟩
    have HB4 := hid (HB3.out.trans (hb.mono HB3.out.size))
    clear HB3
    have Lts4 := hid (Lts3.out.step hb)
    clear Lts3
    have Lt4 := hid hl
    clear hl
    clear hb
    rcases hcase with ⟨d, p1, e3, hd0⟩ | hno
    · have P1 := hid p1
      have E3 := hid e3
      clear p1 e3
      go_wp2_with fail
      refine (nChangeDelta (Lts4.out) P1.out E3.out).mono ?_
      rintro e w5 ⟨hb, rfl⟩
      have HB5 := hid (HB4.out.trans (hb.mono HB4.out.size))
      clear HB4
      have Lts5 := hid (Lts4.out.step hb)
      clear Lts4
      have Lt5 := hid (Lt4.out.step hb)
      clear Lt4
      clear hb
      go_wp2_with fail
      refine wp_region_quiet (C := Cls w5) (by kernel_rfl) (by kernel_rfl) (Below.refl _ w5).drew ?_
      quiet_step ((intro _; rfl))
      quiet_step ((intro _; rfl))
      quiet_step ((intro _; rfl))
      refine wpQuiet_valueW rfl (.bool false) (fun w' hw => by go_simp) ?_
      quiet_step ((intro _; rfl))
      quiet_step ((intro _; rfl))
      refine wpQuiet_valueW rfl (.bool true) (fun w' hw => by go_simp) ?_
      refine wpQuiet_valueW rfl (.bool true) (fun w' hw => by go_simp) ?_
      refine wpQuiet_valueW rfl (.bool true) (fun w' hw => by go_simp) ?_
      quiet_step ((intro _; rfl))
      quiet_step ((intro _; rfl))
      quiet_step ((intro _; rfl))
      quiet_step ((intro _; rfl))
      refine wpQuiet_valueW rfl (.int .i64 (q : Int)) (fun w' hw => by first | (go_simp; done) | (go_simp; exact IntWalk.i64_in _ (by omega))) ?_
      quiet_step ((intro _; rfl))
      refine wpQuiet_valueW rfl (.int .i64 (e : Int)) (fun w' hw => by first | (go_simp; done) | (go_simp; exact IntWalk.i64_in _ (by omega))) ?_
      quiet_step ((intro _; rfl))
      refine wpQuiet_valueW rfl (.int .i64 ((e : Int) + (n : Int))) (fun w' hw => by first | (go_simp; done) | (go_simp; exact IntWalk.i64_in _ (by omega))) ?_
      refine wpQuiet_valueW rfl (.int .i64 ((e : Int) + (n : Int) - 1)) (fun w' hw => by first | (go_simp; done) | (go_simp; exact IntWalk.i64_in _ (by omega))) ?_
      quiet_step ((intro _; rfl))
      quiet_step ((intro _; rfl))
      refine wpQuiet_valueW rfl (.int .i64 (r : Int)) (fun w' hw => by first | (go_simp; done) | (go_simp; exact IntWalk.i64_in _ (by omega))) ?_
      refine wpQuiet_valueW rfl (.int .i64 (c2 : Int)) (fun w' hw => by go_simp; rw [IntWalk.i64_in _ (by omega)]; exact HC2.out) ?_
      refine wpQuiet_callW rfl 28 #[.slice A5 t.length c5, .int .i64 (c2 : Int)] (.bool true) (fun w _ => by go_simp) (fun w' hw => (nChangeSelf ((Lt5.out).step hw) P2.out E2.out).mono fun e w'' ⟨he, hb'⟩ => ⟨he, hw.trans (hb'.mono hw.size)⟩) ?_
      refine wpQuiet_valueW rfl (.bool true) (fun w' hw => by go_simp) ?_
      refine wpQuiet_valueW rfl (.bool true) (fun w' hw => by go_simp) ?_
      refine wpQuiet_nil ?_
      intro w6 hb
      have HB6 := hid (HB5.out.trans (Below.mono hb HB5.out.size))
      clear HB5
      have Lts6 := hid (Lts5.out.step hb)
      clear Lts5
      have Lt6 := hid (Lt5.out.step hb)
      clear Lt5
      clear hb
      go_wp2_with fail
      go_ret
      exact ⟨rfl, HB6.out⟩
    · have HNO := hid hno
      clear hno
      go_wp2_with fail
      refine (nNoDelta (Lts4.out) HG.out HNO.out).mono ?_
      rintro e w5 ⟨hb, rfl⟩
      have HB5 := hid (HB4.out.trans (hb.mono HB4.out.size))
      clear HB4
      have Lts5 := hid (Lts4.out.step hb)
      clear Lts4
      have Lt5 := hid (Lt4.out.step hb)
      clear Lt4
      clear hb
      go_wp2_with fail
      refine wp_region_quiet (C := Cls w5) (by kernel_rfl) (by kernel_rfl) (Below.refl _ w5).drew ?_
      quiet_step ((intro _; rfl))
      quiet_step ((intro _; rfl))
      quiet_step ((intro _; rfl))
      refine wpQuiet_valueW rfl (.bool true) (fun w' hw => by go_simp) ?_
      quiet_step ((intro _; rfl))
      refine wpQuiet_skipsD 2 (by kernel_rfl) ?_
      refine wpQuiet_valueW rfl (.bool true) (fun w' hw => by go_simp) ?_
      refine wpQuiet_valueW rfl (.bool true) (fun w' hw => by go_simp) ?_
      quiet_step ((intro _; rfl))
      quiet_step ((intro _; rfl))
      quiet_step ((intro _; rfl))
      quiet_step ((intro _; rfl))
      refine wpQuiet_valueW rfl (.int .i64 (q : Int)) (fun w' hw => by first | (go_simp; done) | (go_simp; exact IntWalk.i64_in _ (by omega))) ?_
      quiet_step ((intro _; rfl))
      refine wpQuiet_valueW rfl (.int .i64 (e : Int)) (fun w' hw => by first | (go_simp; done) | (go_simp; exact IntWalk.i64_in _ (by omega))) ?_
      quiet_step ((intro _; rfl))
      refine wpQuiet_valueW rfl (.int .i64 ((e : Int) + (n : Int))) (fun w' hw => by first | (go_simp; done) | (go_simp; exact IntWalk.i64_in _ (by omega))) ?_
      refine wpQuiet_valueW rfl (.int .i64 ((e : Int) + (n : Int) - 1)) (fun w' hw => by first | (go_simp; done) | (go_simp; exact IntWalk.i64_in _ (by omega))) ?_
      quiet_step ((intro _; rfl))
      quiet_step ((intro _; rfl))
      refine wpQuiet_valueW rfl (.int .i64 (r : Int)) (fun w' hw => by first | (go_simp; done) | (go_simp; exact IntWalk.i64_in _ (by omega))) ?_
      refine wpQuiet_valueW rfl (.int .i64 (c2 : Int)) (fun w' hw => by go_simp; rw [IntWalk.i64_in _ (by omega)]; exact HC2.out) ?_
      refine wpQuiet_callW rfl 28 #[.slice A5 t.length c5, .int .i64 (c2 : Int)] (.bool true) (fun w _ => by go_simp) (fun w' hw => (nChangeSelf ((Lt5.out).step hw) P2.out E2.out).mono fun e w'' ⟨he, hb'⟩ => ⟨he, hw.trans (hb'.mono hw.size)⟩) ?_
      refine wpQuiet_valueW rfl (.bool true) (fun w' hw => by go_simp) ?_
      refine wpQuiet_valueW rfl (.bool true) (fun w' hw => by go_simp) ?_
      refine wpQuiet_nil ?_
      intro w6 hb
      have HB6 := hid (HB5.out.trans (Below.mono hb HB5.out.size))
      clear HB5
      have Lts6 := hid (Lts5.out.step hb)
      clear Lts5
      have Lt6 := hid (Lt5.out.step hb)
      clear Lt5
      clear hb
      go_wp2_with fail
      go_ret
      exact ⟨rfl, HB6.out⟩

set_option maxRecDepth 100000 in
theorem lifted (os : Os) (started : os.Started) (H : Type) (enc : TypeId × Value → H) :
    ReturnsInHanded {} Try.checked os 6 .any (Rows.fnSelfSpec.pre6 enc Try.prog Try.f6 Rows.fnSelfRow.domain false) (Rows.fnSelfSpec.post enc Try.prog Try.f6 false true false false) := by
  refine returnsInHanded_of_change (C := Try.checked) Try.own started (by kernel_rfl) Try.func6
    (ChangeSpec.witness6 (enc := enc) (C := Try.checked) false ⟨#[], #[.slice none 0 0], []⟩ 8 (by kernel_rfl) (by kernel_rfl) (by kernel_rfl) (by kernel_rfl)) ?_
  intro W base args ds gs before hval0 hW hcnd _
  have hval : ∀ (j : Nat) t v, Try.f6.params[j]? = some t → args[j]? = some v → Value.okWide Try.prog W .any base t v := hval0
  have hW' := hW
  obtain ⟨p, q, hA0, hV, rfl, hfz, hnd⟩ := hW
  have hA : DataW.TrodAll enc Try.prog W 0 (fun _ => true) true Try.f6.params.toList args.toList ds p := hA0
  rw [Try.params6] at hA hval
  obtain ⟨v0, vs0, d0, ds0, p0, q0, hargs, rfl, rfl, h0, r0⟩ := trodAll_cons hA
  obtain ⟨rfl, rfl, rfl⟩ := trodAll_nil r0
  obtain rfl : args = #[v0] := by cases args; simp_all
  obtain ⟨rfl, rfl⟩ := trodVars_none hV
  have k0 := h0
  have lt0 : ∀ x ∈ p0, x.block < W.heap.size := by obtain ⟨m, hm⟩ := k0; exact DataW.trod_lt m _ _ _ hm
  have c0 := cameB_of (hval 0 22 v0 rfl rfl) h0
  clear hA0 hval0
  refine (walk v0 W c0).mono fun e W' ⟨he, bel⟩ => ?_
  subst he
  exact ⟨_, rfl, _, _, _, [], _, [], hW', trodAll_mk1 (shut_bool Try.underlying4 _), (trodAll_cons_mk (Below.trod Try.laidOut (by kernel_rfl) (of_decide_eq_true (by kernel_rfl)) k0 bel lt0) trodAll_mk0), rfl, bel.frame _, fun h => by cases h⟩

theorem closed : joinedFacts Try.pinned.checked.prog 6 Try.f6 Rows.fnSelfSpec Rows.fnSelfRow = true := by
  unfold joinedFacts
  exact and8 (by as_aux_lemma => kernel_rfl) head_enter head_lifts head_make (by as_aux_lemma => kernel_rfl) (by as_aux_lemma => kernel_rfl) (by as_aux_lemma => kernel_rfl) (by as_aux_lemma => kernel_rfl)

theorem proved : Rows.FnSelfSaid :=
  OpenClaim.holds_of_wide 6 Try.f6 rfl rfl rfl rfl rfl rfl rfl ⟨rfl, rfl, rfl, rfl, rfl⟩ rfl rfl rfl rfl rfl (by kernel_rfl) Try.func6 closed
    (of_decide_eq_true (by kernel_rfl)) (by unfold Func.isWrapper; first | (rw [if_pos (by decide +kernel)]; kernel_rfl) | (rw [if_neg (by decide +kernel)]; exact ⟨rfl, rfl⟩))
    (fun os started H enc _ => lifted os started H enc)
#print axioms proved

end Go.Proofs.Ytgildagmliadeaa.lawFnSelf
