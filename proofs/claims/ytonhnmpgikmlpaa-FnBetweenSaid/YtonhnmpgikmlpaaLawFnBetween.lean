/- For every code, the two drawn beams cross an odd number of times just if the ports of one lie apart, and as often both ways; the program's and the specification's answers are the same: the law FnBetween returns true, and its argument reads as it did. No condition. -/
import Derived.Test.YtonhnmpgikmlpaaPKB
import Derived.Test.YtonhnmpgikmlpaaDrawTwo
import Derived.Test.YtonhnmpgikmlpaaBetweenS
import Derived.Test.YtonhnmpgikmlpaaBunU
import Derived.Test.YtonhnmpgikmlpaaPotP
import Derived.Test.YtonhnmpgikmlpaaBunA
namespace Go.Proofs.Ytonhnmpgikmlpaa.lawFnBetween
open Go.ChangeShapes Go.WideShapes Go.ChangeAt Go.RowKit
open Go.ChangeMaps (open_string shut_string)

theorem grid_let {n m : Nat} {ts : List ByteArray} (hg : IsGrid n m ts) : ∀ i k : Int, 0 ≤ i → i < n → 0 ≤ k → k < m → lett m (pad (flat ts)) i k = 46 ∨ lett m (pad (flat ts)) i k = 114 ∨ lett m (pad (flat ts)) i k = 102 := fun i k h1 h2 h3 h4 => by
  obtain ⟨r, rfl⟩ := Int.eq_ofNat_of_zero_le h1
  obtain ⟨q, rfl⟩ := Int.eq_ofNat_of_zero_le h3
  have hlt : r * m + q < (flat ts).length := by rw [hg.flen]; exact parts_lt (by omega) (by omega)
  have hl := hg.lets _ (List.getElem_mem hlt)
  unfold lett pad
  rw [show ((r : Int) * (m : Int) + (q : Int)).toNat = r * m + q by rw [← Int.natCast_mul, ← Int.natCast_add, Int.toNat_natCast], List.getD_eq_getElem?_getD, List.getElem?_append_left hlt, List.getElem?_eq_getElem hlt, Option.getD_some]
  simp only [isLet, Bool.or_eq_true, beq_iff_eq] at hl
  rcases hl with (h | h) | h
  · exact .inl h
  · exact .inr (.inl h)
  · exact .inr (.inr h)

theorem nCrossBetween {n m a b k c : Nat} {A : Option Addr} {ss : List ByteArray} {w : World} {p q : Int} (h : LS w A ss) (hp : MeetIn ss p q n m a b) (hv : bothN n m (lett m (pad (flat ss))) a b = k) :
    Calls Try.prog 16 #[.slice A ss.length c, .int .i64 p, .int .i64 q] w (IEnd (k : Int) true w) :=
  (implCrossBetween_any A c ss p q w h (gsmall hp.1.1).1 (gsmall hp.1.1).2).mono fun _ _ ⟨hb, x', ok', he, ho⟩ => ⟨hb, by
    obtain ⟨rfl, rfl⟩ := ho.uniq (.inl ⟨n, m, a, b, hp, by rw [hv], rfl⟩ : BothOut ss p q (k : Int) true)
    exact he⟩
theorem facts {n m a b : Nat} {ts : List ByteArray} {x y : Int} (h : MeetIn ts x y n m a b) : ∃ k c d : Nat, bothN n m (lett m (pad (flat ts))) a b = k ∧ x = (a : Int) ∧ y = (b : Int) ∧ bend_ n m (lett m (pad (flat ts))) a = c ∧ bend_ n m (lett m (pad (flat ts))) b = d ∧ PortIn ts (a : Int) n m a ∧ PortIn ts (b : Int) n m b ∧ MeetIn ts (b : Int) (a : Int) n m b a ∧ bothN n m (lett m (pad (flat ts))) b a = k ∧ k ≤ 25 ∧
    a ≤ 20 ∧ b ≤ 20 ∧ c ≤ 20 ∧ d ≤ 20 ∧ a ≠ c ∧ b ≠ a ∧ b ≠ c ∧ d ≠ a ∧ d ≠ c ∧ (k % 2 = 1 ↔ ((min a c < b ∧ b < max a c) ↔ ¬ (min a c < d ∧ d < max a c))) := by
  obtain ⟨⟨hg, hx, ha⟩, ⟨_, hy, hb⟩, h1, h2⟩ := h
  have hn := hg.2.1
  have hm := hg.2.2.2.1
  have hn5 := hg.2.2.1
  have hm5 := hg.2.2.2.2.1
  have fa := bend_facts (t := lett m (pad (flat ts))) hn hm ha
  have fb := bend_facts (t := lett m (pad (flat ts))) hn hm hb
  have ba := (back_facts (t := lett m (pad (flat ts))) hn hm ha).2
  have bb := (back_facts (t := lett m (pad (flat ts))) hn hm hb).2
  have hne := bend_ne' (t := lett m (pad (flat ts))) hn hm ha
  have ho := both_odd (grid_let hg) hn hm ha hb h1 h2
  have d1 : bend_ n m (lett m (pad (flat ts))) b ≠ a := fun e => h2 (by rw [← e, bb])
  have d2 : bend_ n m (lett m (pad (flat ts))) b ≠ bend_ n m (lett m (pad (flat ts))) a := fun e => h1 (by
    have := congrArg (bend_ n m (lett m (pad (flat ts)))) e
    rw [ba, bb] at this
    exact this.symm)
  have hk : bothN n m (lett m (pad (flat ts))) a b ≤ 25 := by
    have h3 := List.countP_le_length (p := fun c => goesC n m (lett m (pad (flat ts))) a c && goesC n m (lett m (pad (flat ts))) b c && emptyC m (lett m (pad (flat ts))) c) (l := List.range (n * m))
    rw [List.length_range] at h3
    have := hg.le25
    unfold bothN
    omega
  refine ⟨_, _, _, rfl, hx, hy, rfl, rfl, ⟨hg, rfl, ha⟩, ⟨hg, rfl, hb⟩, ⟨⟨hg, rfl, hb⟩, ⟨hg, rfl, ha⟩, fun e => h1 e.symm, d1⟩, ?_, hk, by omega, by omega, by omega, by omega, fun e => hne e.symm, fun e => h1 e.symm, fun e => h2 e.symm, d1, d2, ?_⟩
  · unfold bothN
    refine List.countP_congr fun c _ => ?_
    rw [Bool.and_comm (goesC n m (lett m (pad (flat ts))) b c)]
  · generalize bothN n m (lett m (pad (flat ts))) a b = k at *
    generalize bend_ n m (lett m (pad (flat ts))) a = c at *
    generalize bend_ n m (lett m (pad (flat ts))) b = d at *
    by_cases g1 : b < a <;> by_cases g2 : d < a <;> by_cases g3 : b < c <;> by_cases g4 : d < c <;> simp [g1, g2, g3, g4] at ho <;> omega

set_option maxRecDepth 100000 in
set_option maxHeartbeats 1000000 in
theorem draw_any (A : Option Addr) (len cap : Nat) (w : World) (h : CodeAt w A len) (hl : len ≤ 1048576) (hc : len ≤ cap) (hc2 : cap ≤ 9223372036854775807) :
    Calls Try.prog 15 #[.slice A len cap] w fun e w' => Below w.heap.size w w' ∧ ∃ A c ts x y, e = .returned (.tuple #[.slice A ts.length c, .int .i64 x, .int .i64 y]) ∧ LS w' A ts ∧ Drawn 4 4 ts ∧ -100 ≤ x ∧ x ≤ 100 ∧ -100 ≤ y ∧ y ≤ 100 := DrawCrossBetween_any A len cap w h hl hc hc2

set_option maxRecDepth 100000 in
set_option maxHeartbeats 16000000 in
theorem walk (v : Value) (w : World) (hc : CameB w v) :
    Calls Try.prog 3 #[v] w fun e w' => e = .returned (.bool true) ∧ Below w.heap.size w w' := by
  obtain ⟨A, len, cap, rfl, hcode, hlc, hcap⟩ := hc
  have HCD := hid hcode
  clear hcode
  go_enter Try.func3, Try.ntmps3
  by_cases hbig : 1048576 < len
  · have hbi : (1048576 : Int) < (len : Int) := by omega
    go_wp2_with fail
    go_ret
    exact ⟨rfl, Below.refl _ _⟩
  have hbi : ¬ (1048576 : Int) < (len : Int) := by omega
  have HDR := hid (draw_any A len cap w HCD.out (by omega) hlc hcap)
  have HC1 := hid (HDR.out)
  go_wp2_with fail
  refine HC1.out.mono ?_
  rintro e w1 ⟨hb, A1, c1, ts, x, y, rfl, hl, hd, hx0, hx1, hy0, hy1⟩
  have HB1 := hid hb
  have Lts1 := hid hl
  clear hl
  clear hb HC1
  have HSM := hid (hd.small (by decide) (by decide))
  clear hd
  have HC2 := hid (implCrossBetween_any A1 c1 ts x y w1 Lts1.out HSM.out.1 HSM.out.2)
  go_wp2_with fail
  refine HC2.out.mono ?_
  rintro e w2 ⟨hb, out, ok, rfl, hout⟩
  have HB2 := hid (HB1.out.trans (hb.mono HB1.out.size))
  clear HB1
  have Lts2 := hid (Lts1.out.step hb)
  clear Lts1
  clear hb HC2
  have HO := hid hout
  clear hout
  have HC3 := hid (specCrossBetween_any A1 c1 w2.heap.size ts x y w2 Lts2.out (Nat.le_refl _) HSM.out.1 HSM.out.2)
  go_wp2_with fail
  refine HC3.out.mono ?_
  rintro e w3 ⟨hb, out2, ok2, rfl, hout2⟩
  have HB3 := hid (HB2.out.trans (hb.mono HB2.out.size))
  clear HB2
  have Lts3 := hid (Lts2.out.step hb)
  clear Lts2
  clear hb HC3
  obtain ⟨rfl, rfl⟩ := HO.out.uniq hout2
  clear hout2
  rcases HO.out with ⟨n, m, a, b, hp, rfl, rfl⟩ | ⟨_, rfl, rfl⟩
  · obtain ⟨k, c, d, e1, rfl, rfl, e2, e3, p1, p2, p3, e4, hk25, ha20, hb20, hc20, hd20, hac, hba, hbc, hda, hdc, hpar⟩ := facts hp
    rw [e1]
    clear e1 hp
    have E2 := hid e2
    have E3 := hid e3
    have P1 := hid p1
    have P2 := hid p2
    have P3 := hid p3
    have E4 := hid e4
    clear e2 e3 p1 p2 p3 e4
    go_wp2_with fail
    refine (nBeamEnd (Lts3.out) P1.out E2.out).mono ?_
    rintro e w4 ⟨hb, rfl⟩
    have HB4 := hid (HB3.out.trans (hb.mono HB3.out.size))
    clear HB3
    have Lts4 := hid (Lts3.out.step hb)
    clear Lts3
    clear hb
    go_wp2_with fail
    refine (nBeamEnd (Lts4.out) P2.out E3.out).mono ?_
    rintro e w5 ⟨hb, rfl⟩
    have HB5 := hid (HB4.out.trans (hb.mono HB4.out.size))
    clear HB4
    have Lts5 := hid (Lts4.out.step hb)
    clear Lts4
    clear hb
    go_wp2_with fail
    refine (nCrossBetween (Lts5.out) P3.out E4.out).mono ?_
    rintro e w6 ⟨hb, rfl⟩
    have HB6 := hid (HB5.out.trans (hb.mono HB5.out.size))
    clear HB5
    have Lts6 := hid (Lts5.out.step hb)
    clear Lts5
    clear hb
    rcases Nat.lt_or_gt_of_ne hac with hlt | hlt
    · have hloi : (a : Int) < (c : Int) := by omega
      have hloj : (a : Int) ≤ (c : Int) := by omega
      have hlok : ¬ (c : Int) ≤ (a : Int) := by omega
      have hmm : min a c = a ∧ max a c = c := by omega
      rw [hmm.1, hmm.2] at hpar
      clear hmm
      rcases (show b < a ∨ (a < b ∧ b < c) ∨ c < b by omega) with h1 | ⟨h1, h1b⟩ | h1
      · skip
        have i1 : ¬ (a : Int) < (b : Int) := by omega
        rcases (show d < a ∨ (a < d ∧ d < c) ∨ c < d by omega) with g1 | ⟨g1, g1b⟩ | g1
        · skip
          have j1 : ¬ (a : Int) < (d : Int) := by omega
          have hk2 : (k : Int).tmod 2 = 0 := by rw [Int.tmod_eq_emod_of_nonneg (by omega)]; omega
          go_wp2_with fail
          go_ret
          first | exact ⟨rfl, HB6.out⟩ | (refine ⟨?_, HB6.out⟩; simp; omega)
        · skip
          have j1 : (a : Int) < (d : Int) := by omega
          have j2 : (d : Int) < (c : Int) := by omega
          have hk2 : (k : Int).tmod 2 = 1 := by rw [Int.tmod_eq_emod_of_nonneg (by omega)]; omega
          go_wp2_with fail
          go_ret
          first | exact ⟨rfl, HB6.out⟩ | (refine ⟨?_, HB6.out⟩; simp; omega)
        · skip
          have j1 : (a : Int) < (d : Int) := by omega
          have j2 : ¬ (d : Int) < (c : Int) := by omega
          have hk2 : (k : Int).tmod 2 = 0 := by rw [Int.tmod_eq_emod_of_nonneg (by omega)]; omega
          go_wp2_with fail
          go_ret
          first | exact ⟨rfl, HB6.out⟩ | (refine ⟨?_, HB6.out⟩; simp; omega)
      · skip
        have i1 : (a : Int) < (b : Int) := by omega
        have i2 : (b : Int) < (c : Int) := by omega
        rcases (show d < a ∨ (a < d ∧ d < c) ∨ c < d by omega) with g1 | ⟨g1, g1b⟩ | g1
        · skip
          have j1 : ¬ (a : Int) < (d : Int) := by omega
          have hk2 : (k : Int).tmod 2 = 1 := by rw [Int.tmod_eq_emod_of_nonneg (by omega)]; omega
          go_wp2_with fail
          go_ret
          first | exact ⟨rfl, HB6.out⟩ | (refine ⟨?_, HB6.out⟩; simp; omega)
        · skip
          have j1 : (a : Int) < (d : Int) := by omega
          have j2 : (d : Int) < (c : Int) := by omega
          have hk2 : (k : Int).tmod 2 = 0 := by rw [Int.tmod_eq_emod_of_nonneg (by omega)]; omega
          go_wp2_with fail
          go_ret
          first | exact ⟨rfl, HB6.out⟩ | (refine ⟨?_, HB6.out⟩; simp; omega)
        · skip
          have j1 : (a : Int) < (d : Int) := by omega
          have j2 : ¬ (d : Int) < (c : Int) := by omega
          have hk2 : (k : Int).tmod 2 = 1 := by rw [Int.tmod_eq_emod_of_nonneg (by omega)]; omega
          go_wp2_with fail
          go_ret
          first | exact ⟨rfl, HB6.out⟩ | (refine ⟨?_, HB6.out⟩; simp; omega)
      · skip
        have i1 : (a : Int) < (b : Int) := by omega
        have i2 : ¬ (b : Int) < (c : Int) := by omega
        rcases (show d < a ∨ (a < d ∧ d < c) ∨ c < d by omega) with g1 | ⟨g1, g1b⟩ | g1
        · skip
          have j1 : ¬ (a : Int) < (d : Int) := by omega
          have hk2 : (k : Int).tmod 2 = 0 := by rw [Int.tmod_eq_emod_of_nonneg (by omega)]; omega
          go_wp2_with fail
          go_ret
          first | exact ⟨rfl, HB6.out⟩ | (refine ⟨?_, HB6.out⟩; simp; omega)
        · skip
          have j1 : (a : Int) < (d : Int) := by omega
          have j2 : (d : Int) < (c : Int) := by omega
          have hk2 : (k : Int).tmod 2 = 1 := by rw [Int.tmod_eq_emod_of_nonneg (by omega)]; omega
          go_wp2_with fail
          go_ret
          first | exact ⟨rfl, HB6.out⟩ | (refine ⟨?_, HB6.out⟩; simp; omega)
        · skip
          have j1 : (a : Int) < (d : Int) := by omega
          have j2 : ¬ (d : Int) < (c : Int) := by omega
          have hk2 : (k : Int).tmod 2 = 0 := by rw [Int.tmod_eq_emod_of_nonneg (by omega)]; omega
          go_wp2_with fail
          go_ret
          first | exact ⟨rfl, HB6.out⟩ | (refine ⟨?_, HB6.out⟩; simp; omega)
    · have hloi : (c : Int) < (a : Int) := by omega
      have hloj : (c : Int) ≤ (a : Int) := by omega
      have hlok : ¬ (a : Int) ≤ (c : Int) := by omega
      have hmm : min a c = c ∧ max a c = a := by omega
      rw [hmm.1, hmm.2] at hpar
      clear hmm
      rcases (show b < c ∨ (c < b ∧ b < a) ∨ a < b by omega) with h1 | ⟨h1, h1b⟩ | h1
      · skip
        have i1 : ¬ (c : Int) < (b : Int) := by omega
        rcases (show d < c ∨ (c < d ∧ d < a) ∨ a < d by omega) with g1 | ⟨g1, g1b⟩ | g1
        · skip
          have j1 : ¬ (c : Int) < (d : Int) := by omega
          have hk2 : (k : Int).tmod 2 = 0 := by rw [Int.tmod_eq_emod_of_nonneg (by omega)]; omega
          go_wp2_with fail
          go_ret
          first | exact ⟨rfl, HB6.out⟩ | (refine ⟨?_, HB6.out⟩; simp; omega)
        · skip
          have j1 : (c : Int) < (d : Int) := by omega
          have j2 : (d : Int) < (a : Int) := by omega
          have hk2 : (k : Int).tmod 2 = 1 := by rw [Int.tmod_eq_emod_of_nonneg (by omega)]; omega
          go_wp2_with fail
          go_ret
          first | exact ⟨rfl, HB6.out⟩ | (refine ⟨?_, HB6.out⟩; simp; omega)
        · skip
          have j1 : (c : Int) < (d : Int) := by omega
          have j2 : ¬ (d : Int) < (a : Int) := by omega
          have hk2 : (k : Int).tmod 2 = 0 := by rw [Int.tmod_eq_emod_of_nonneg (by omega)]; omega
          go_wp2_with fail
          go_ret
          first | exact ⟨rfl, HB6.out⟩ | (refine ⟨?_, HB6.out⟩; simp; omega)
      · skip
        have i1 : (c : Int) < (b : Int) := by omega
        have i2 : (b : Int) < (a : Int) := by omega
        rcases (show d < c ∨ (c < d ∧ d < a) ∨ a < d by omega) with g1 | ⟨g1, g1b⟩ | g1
        · skip
          have j1 : ¬ (c : Int) < (d : Int) := by omega
          have hk2 : (k : Int).tmod 2 = 1 := by rw [Int.tmod_eq_emod_of_nonneg (by omega)]; omega
          go_wp2_with fail
          go_ret
          first | exact ⟨rfl, HB6.out⟩ | (refine ⟨?_, HB6.out⟩; simp; omega)
        · skip
          have j1 : (c : Int) < (d : Int) := by omega
          have j2 : (d : Int) < (a : Int) := by omega
          have hk2 : (k : Int).tmod 2 = 0 := by rw [Int.tmod_eq_emod_of_nonneg (by omega)]; omega
          go_wp2_with fail
          go_ret
          first | exact ⟨rfl, HB6.out⟩ | (refine ⟨?_, HB6.out⟩; simp; omega)
        · skip
          have j1 : (c : Int) < (d : Int) := by omega
          have j2 : ¬ (d : Int) < (a : Int) := by omega
          have hk2 : (k : Int).tmod 2 = 1 := by rw [Int.tmod_eq_emod_of_nonneg (by omega)]; omega
          go_wp2_with fail
          go_ret
          first | exact ⟨rfl, HB6.out⟩ | (refine ⟨?_, HB6.out⟩; simp; omega)
      · skip
        have i1 : (c : Int) < (b : Int) := by omega
        have i2 : ¬ (b : Int) < (a : Int) := by omega
        rcases (show d < c ∨ (c < d ∧ d < a) ∨ a < d by omega) with g1 | ⟨g1, g1b⟩ | g1
        · skip
          have j1 : ¬ (c : Int) < (d : Int) := by omega
          have hk2 : (k : Int).tmod 2 = 0 := by rw [Int.tmod_eq_emod_of_nonneg (by omega)]; omega
          go_wp2_with fail
          go_ret
          first | exact ⟨rfl, HB6.out⟩ | (refine ⟨?_, HB6.out⟩; simp; omega)
        · skip
          have j1 : (c : Int) < (d : Int) := by omega
          have j2 : (d : Int) < (a : Int) := by omega
          have hk2 : (k : Int).tmod 2 = 1 := by rw [Int.tmod_eq_emod_of_nonneg (by omega)]; omega
          go_wp2_with fail
          go_ret
          first | exact ⟨rfl, HB6.out⟩ | (refine ⟨?_, HB6.out⟩; simp; omega)
        · skip
          have j1 : (c : Int) < (d : Int) := by omega
          have j2 : ¬ (d : Int) < (a : Int) := by omega
          have hk2 : (k : Int).tmod 2 = 0 := by rw [Int.tmod_eq_emod_of_nonneg (by omega)]; omega
          go_wp2_with fail
          go_ret
          first | exact ⟨rfl, HB6.out⟩ | (refine ⟨?_, HB6.out⟩; simp; omega)
  · skip
    go_wp2_with fail
    go_ret
    exact ⟨rfl, HB3.out⟩

set_option maxRecDepth 100000 in
theorem lifted (os : Os) (started : os.Started) (H : Type) (enc : TypeId × Value → H) :
    ReturnsInHanded {} Try.checked os 3 .any (Rows.fnBetweenSpec.pre6 enc Try.prog Try.f3 Rows.fnBetweenRow.domain false) (Rows.fnBetweenSpec.post enc Try.prog Try.f3 false true false false) := by
  refine returnsInHanded_of_change (C := Try.checked) Try.own started (by kernel_rfl) Try.func3
    (ChangeSpec.witness6 (enc := enc) (C := Try.checked) false ⟨#[], #[.slice none 0 0], []⟩ 8 (by kernel_rfl) (by kernel_rfl) (by kernel_rfl) (by kernel_rfl)) ?_
  intro W base args ds gs before hval0 hW hcnd _
  have hval : ∀ (j : Nat) t v, Try.f3.params[j]? = some t → args[j]? = some v → Value.okWide Try.prog W .any base t v := hval0
  have hW' := hW
  obtain ⟨p, q, hA0, hV, rfl, hfz, hnd⟩ := hW
  have hA : DataW.TrodAll enc Try.prog W 0 (fun _ => true) true Try.f3.params.toList args.toList ds p := hA0
  rw [Try.params3] at hA hval
  obtain ⟨v0, vs0, d0, ds0, p0, q0, hargs, rfl, rfl, h0, r0⟩ := trodAll_cons hA
  obtain ⟨rfl, rfl, rfl⟩ := trodAll_nil r0
  obtain rfl : args = #[v0] := by cases args; simp_all
  obtain ⟨rfl, rfl⟩ := trodVars_none hV
  have k0 := h0
  have lt0 : ∀ x ∈ p0, x.block < W.heap.size := by obtain ⟨m, hm⟩ := k0; exact DataW.trod_lt m _ _ _ hm
  have c0 := cameB_of (hval 0 22 v0 rfl rfl) h0
  clear hA0 hval0
  refine (walk v0 W c0).mono fun e W' ⟨he, bel⟩ => ?_
  subst he
  exact ⟨_, rfl, _, _, _, [], _, [], hW', trodAll_mk1 (shut_bool Try.underlying4 _), (trodAll_cons_mk (Below.trod Try.laidOut (by kernel_rfl) (of_decide_eq_true (by kernel_rfl)) k0 bel lt0) trodAll_mk0), rfl, bel.frame _, fun h => by cases h⟩

theorem closed : joinedFacts Try.pinned.checked.prog 3 Try.f3 Rows.fnBetweenSpec Rows.fnBetweenRow = true := by
  unfold joinedFacts
  exact and8 (by as_aux_lemma => kernel_rfl) head_enter head_lifts head_make (by as_aux_lemma => kernel_rfl) (by as_aux_lemma => kernel_rfl) (by as_aux_lemma => kernel_rfl) (by as_aux_lemma => kernel_rfl)

theorem proved : Rows.FnBetweenSaid :=
  OpenClaim.holds_of_wide 3 Try.f3 rfl rfl rfl rfl rfl rfl rfl ⟨rfl, rfl, rfl, rfl, rfl⟩ rfl rfl rfl rfl rfl (by kernel_rfl) Try.func3 closed
    (of_decide_eq_true (by kernel_rfl)) (by unfold Func.isWrapper; first | (rw [if_pos (by decide +kernel)]; kernel_rfl) | (rw [if_neg (by decide +kernel)]; exact ⟨rfl, rfl⟩))
    (fun os started H enc _ => lifted os started H enc)
#print axioms proved

end Go.Proofs.Ytonhnmpgikmlpaa.lawFnBetween
