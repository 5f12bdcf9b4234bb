/- For every code, the drawn grid's three letters of the drawn cell make paths as many, or one more once, and the program's and the specification's answers are the same: the law FnThree returns true, and its argument reads as it did. No condition. -/
import Derived.Test.YtmdgbcepjnfbnaaBunA
import Derived.Test.YtmdgbcepjnfbnaaHead
import Derived.Test.YtmdgbcepjnfbnaaPathsI
import Derived.Test.YtmdgbcepjnfbnaaPathsS
import Derived.Test.YtmdgbcepjnfbnaaDrawCell
import Derived.Test.YtmdgbcepjnfbnaaCode
import Derived.Test.YtmdgbcepjnfbnaaIntsK
import Derived.Test.YtmdgbcepjnfbnaaExch
namespace Go.Proofs.Ytmdgbcepjnfbnaa.lawFnThree
open Go.ChangeShapes Go.WideShapes Go.ChangeAt Go.RowKit
open Go.ChangeMaps (open_string shut_string)

theorem lett_at {m c : Nat} {ls : List UInt8} {b : UInt8} (hl : c < ls.length) : lett m (ls.set c b) (placeN m c).i (placeN m c).k = b := by
  rw [lett_place, List.getD_eq_getElem?_getD, List.getElem?_set_self hl]
  rfl
theorem lett_off {n m c : Nat} {ls : List UInt8} {b b' : UInt8} (hc : c < n * m) : OffSame n m (lett m (ls.set c b)) (lett m (ls.set c b')) (placeN m c).i (placeN m c).k := fun x hx hat => by
  have hm : 0 < m := by
    rcases Nat.eq_zero_or_pos m with h0 | h0
    · subst h0; simp at hc
    · exact h0
  have h1 := cellN_iff (i := c / m) hx (Nat.mod_lt c hm)
  rw [show c / m * m + c % m = c by rw [Nat.mul_comm]; exact Nat.div_add_mod c m] at h1
  have hne : cellN m x ≠ c := fun e => hat (h1.1 e)
  unfold lett
  rw [cellN_int hx, Int.toNat_natCast, List.getD_eq_getElem?_getD, List.getD_eq_getElem?_getD, List.getElem?_set_ne (fun e => hne e.symm), List.getElem?_set_ne (fun e => hne e.symm)]
/-- The three numbers of paths: all the same, or one of them 1 more. -/
theorem paths_three {n m c : Nat} {ls : List UInt8} (hc : c < n * m) (hl : c < ls.length) : ∃ a b d low : Int, pathsL n m ls c = [a, b, d] ∧ low = min a (min b d) ∧ (a + b + d = 3 * low ∨ a + b + d = 3 * low + 1) := by
  have h3 := three_leads (n := n) (m := m) (t0 := lett m (ls.set c 46)) (t1 := lett m (ls.set c 114)) (t2 := lett m (ls.set c 102)) (i := (placeN m c).i) (k := (placeN m c).k) (placeN_in hc) (lett_off hc) (lett_off hc) (lett_at hl) (lett_at hl) (lett_at hl)
  refine ⟨_, _, _, _, rfl, rfl, ?_⟩
  unfold law3 at h3
  rw [Bool.or_eq_true, beq_iff_eq, beq_iff_eq] at h3
  simp only [pathsR]
  omega
theorem paths_bound {n m c : Nat} {ls : List UInt8} (hn : n ≤ 5) (hm : m ≤ 5) : ∀ x ∈ pathsL n m ls c, -1000 ≤ x ∧ x ≤ 1000 := fun x hx => by
  unfold pathsL at hx
  obtain ⟨b, _, rfl⟩ := List.mem_map.1 hx
  have := pathsR_le (n := n) (m := m) (t := lett m (ls.set c b)) hn hm
  omega

set_option maxRecDepth 100000 in
set_option maxHeartbeats 1000000 in
theorem draw_any (A : Option Addr) (len cap : Nat) (w : World) (h : CodeAt w A len) (hl : len ≤ 1048576) (hc : len ≤ cap) (hc2 : cap ≤ 9223372036854775807) :
    Calls Try.prog 26 #[.slice A len cap] w fun e w' => (∃ A c ts x, e = .returned (.tuple #[.slice A ts.length c, .int .i64 x]) ∧ Strs w' w'.heap.size A ts ∧ Drawn 4 4 ts ∧ -100 ≤ x ∧ x ≤ 100) ∧ Below w.heap.size w w' := by
  have HC := hid (l91Cell_any A len cap w h hl hc hc2)
  clear h
  go_enter Try.func26, Try.ntmps26
  go_wp2_with fail
  refine HC.out.mono ?_
  rintro e w1 ⟨⟨A1, c1, ts, x, rfl, hst, hd, hx⟩, hb⟩
  have HST := hid hst
  have HD := hid hd
  have HX := hid hx
  have HB := hid hb
  clear hst hd hx hb
  go_wp2_with fail
  refine bodyPost_ret (results_tmp2 rfl _ _ _) rfl ?_
  exact ⟨⟨A1, c1, ts, x, rfl, HST.out, HD.out, HX.out⟩, HB.out⟩

/-- What the operations of the least of three hand back. -/
def threeRel (gb oo c2 : Nat) (a b d low : Int) (i : Nat) (v : Value) (_ : World) : Prop :=
  match i with
  | 0 => v = .slice (some ⟨gb, oo, none⟩) 3 c2
  | 1 => v = .pointer (some ⟨gb, oo, none⟩)
  | 2 => v = .int .i64 a
  | 3 => v = .slice (some ⟨gb, oo, none⟩) 3 c2
  | 4 => v = .pointer (some ⟨gb, oo + 1, none⟩)
  | 5 => v = .int .i64 b
  | 6 => v = .slice (some ⟨gb, oo, none⟩) 3 c2
  | 7 => v = .pointer (some ⟨gb, oo + 2, none⟩)
  | 8 => v = .int .i64 d
  | 9 => v = .int .i64 (min b d)
  | 10 => v = .int .i64 low
  | 11 => v = .int .i64 low
  | _ => True

set_option maxRecDepth 100000 in
set_option maxHeartbeats 2000000 in
theorem walk (v : Value) (w : World) (hc : CameB w v) :
    Calls Try.prog 5 #[v] w fun e w' => e = .returned (.bool true) ∧ Below w.heap.size w w' := by
  obtain ⟨A, len, cap, rfl, hcode, hlc, hcap⟩ := hc
  have HCD := hid hcode
  clear hcode
  go_enter Try.func5, Try.ntmps5
  by_cases hbig : 1048576 < len
  · have hbi : (1048576 : Int) < (len : Int) := by omega
    go_wp2_with fail
    go_ret
    exact ⟨rfl, Below.refl _ _⟩
  have hbi : ¬ (1048576 : Int) < (len : Int) := by omega
  have HDR := hid (draw_any A len cap w HCD.out (by omega) hlc hcap)
  go_wp2_with fail
  refine HDR.out.mono ?_
  rintro e w1 ⟨⟨A1, c1, ts, x, rfl, hst, hd, hx0, hx1⟩, hb1⟩
  have HB1 := hid hb1
  have HST := hid hst
  have HN := hid (show ts.length ≤ 1048576 by have := hd.2.1; omega)
  have HNS := hid (show ∀ s ∈ ts, s.size ≤ 1048576 from fun s hs => by have := (hd.2.2 s hs).2; omega)
  have HI := hid (implChangePaths_any A1 c1 ts x w1 hst HN.out HNS.out)
  clear hst hb1 HDR
  go_wp2_with fail
  refine HI.out.mono ?_
  rintro e w2 ⟨hb2, A2, c2, l, ok, rfl, hout, hown⟩
  have HO := hid hout
  have HW2 := hid hown
  have HB2 := hid (HB1.out.trans (hb2.mono HB1.out.size))
  have HSP := hid (specChangePaths_any A1 c1 w2.heap.size ts x w2 ((HST.out.below hb2 (Nat.le_refl _)).more hb2.size) (Nat.le_refl _) HN.out HNS.out)
  clear hb2 hout hown HI
  go_wp2_with fail
  refine HSP.out.mono ?_
  rintro e w3 ⟨hb3, A3, c3, l', ok', rfl, hout, hint⟩
  obtain ⟨rfl, rfl⟩ := HO.out.uniq hout
  have HW3 := hid (HW2.out.below hb3)
  have HI3 := hid hint
  have HB3 := hid (HB2.out.trans (hb3.mono HB2.out.size))
  have HLN := hid (hout.len)
  clear hb3 hout hint HSP
  have HSI := hid (sameInts_same A2 A3 c2 c3 w3.heap.size l' w3 HW3.out.ints HI3.out HLN.out)
  rcases HO.out with ⟨n, m, cc, hci, rfl, rfl⟩ | ⟨_, rfl, rfl⟩
  · have hg := hci.1
    have hcc := hci.2.2
    obtain ⟨a, b, d, low, h3, hlow, hsum⟩ := paths_three (n := n) (m := m) (c := cc) (ls := pad (flat ts)) hcc (by rw [hg.plen]; have := hg.le25; omega)
    have hpb := paths_bound (n := n) (m := m) (c := cc) (ls := pad (flat ts)) hg.2.2.1 hg.2.2.2.2.1
    rw [h3] at hpb HSI HW3 ⊢
    have ha := hpb a (by simp)
    have hb := hpb b (by simp)
    have hd' := hpb d (by simp)
    have HPB := hid hpb
    have HSUM := hid hsum
    have HLOW := hid hlow
    clear hci hg hcc h3 hpb hsum hlow
    go_wp2_with fail
    refine HSI.out.mono ?_
    rintro e w4 ⟨rfl, d4, rfl⟩
    obtain ⟨gb, oo, rfl, hgl, hcells⟩ := (HW3.out.ints.drewN d4) (by simp)
    have q0 := hcells 0 a rfl
    have q1 := hcells 1 b rfl
    have q2 := hcells 2 d rfl
    have HBD := hid (below_drewN' HB3.out d4)
    have HIN := hid (show ∀ d', Ints (w3.drewN d') w3.heap.size (some ⟨gb, oo, none⟩) [a, b, d] from fun d' => HW3.out.ints.drewN d')
    rw [Nat.add_zero] at q0
    clear hcells HSI
    go_wp2_with fail
    obtain ⟨W0, hW0⟩ : ∃ W0, w3.drewN d4 = W0 := ⟨_, rfl⟩
    rw [hW0] at q0 q1 q2 HBD ⊢
    have HIN0 := hid (hW0 ▸ HIN.out d4 : Ints W0 w3.heap.size (some ⟨gb, oo, none⟩) [a, b, d])
    have HSZ := hid (hW0 ▸ (Nat.le_refl _ : w3.heap.size ≤ (w3.drewN d4).heap.size) : w3.heap.size ≤ W0.heap.size)
    have HGB := hid hgl
    clear hW0 hgl
    refine wp_region_rel (by kernel_rfl) (by kernel_rfl) 12 rfl (fun us => { tmps := #[.slice A len cap, undef, .bool false, .slice A1 ts.length c1, .int .i64 x, .slice (some ⟨gb, oo, none⟩) 3 c2, .bool true, .slice A3 3 c3, .bool true, us 11, undef, .slice A len cap, .int .i64 (len : Int), .bool false, .tuple #[.slice A1 ts.length c1, .int .i64 x], .slice A len cap, .tuple #[.slice A1 ts.length c1, .int .i64 x], .slice A1 ts.length c1, .int .i64 x, .tuple #[.slice (some ⟨gb, oo, none⟩) 3 c2, .bool true], .slice A1 ts.length c1, .int .i64 x, .tuple #[.slice (some ⟨gb, oo, none⟩) 3 c2, .bool true], .slice (some ⟨gb, oo, none⟩) 3 c2, .bool true, .tuple #[.slice A3 3 c3, .bool true], .slice A1 ts.length c1, .int .i64 x, .tuple #[.slice A3 3 c3, .bool true], .slice A3 3 c3, .bool true, .bool true, .bool true, .bool false, .bool false, .slice (some ⟨gb, oo, none⟩) 3 c2, .slice A3 3 c3, .bool true, .bool false, .bool false, .bool false, .bool true, .bool false, .bool false, undef, undef, undef, undef, undef, undef, undef, undef, us 0, us 1, us 2, us 3, us 4, us 5, us 6, us 7, us 8, us 9, us 10, undef, undef, undef, undef, undef, undef, undef, undef, undef, undef, undef, undef, undef, undef, undef, undef, undef, undef], defers := [] }) (fun _ => undef) rfl (threeRel gb oo c2 a b d low) (fun i v W W' h hb => h) (fun i us v hi => ?_) (fun i us W hi hb hd => ?_) (fun us W hb hr => ?_)
    · match i, hi with
      | 0, _ => rfl
      | 1, _ => rfl
      | 2, _ => rfl
      | 3, _ => rfl
      | 4, _ => rfl
      | 5, _ => rfl
      | 6, _ => rfl
      | 7, _ => rfl
      | 8, _ => rfl
      | 9, _ => rfl
      | 10, _ => rfl
      | 11, _ => rfl
    · have hgW : gb < W0.heap.size := Nat.lt_of_lt_of_le HGB.out HSZ.out
      have r0 := (hb.cell (p := ⟨gb, oo, none⟩) hgW).trans q0
      have r1 := (hb.cell (p := ⟨gb, oo + 1, none⟩) hgW).trans q1
      have r2 := (hb.cell (p := ⟨gb, oo + 2, none⟩) hgW).trans q2
      match i, hi with
      | 0, _ => exact wpOp_val rfl rfl (by go_simp) rfl
      | 1, _ =>
        have h0 : us 0 = _ := hd _ rfl { on := 0, ground := .data } (by simp) rfl
        rw [h0]
        exact wpOp_val rfl rfl (by go_simp) rfl
      | 2, _ =>
        have h0 : us 1 = _ := hd _ rfl { on := 1, ground := .data } (by simp) rfl
        rw [h0]
        exact wpOp_val rfl rfl (by go_simp) rfl
      | 3, _ => exact wpOp_val rfl rfl (by go_simp) rfl
      | 4, _ =>
        have h0 : us 3 = _ := hd _ rfl { on := 3, ground := .data } (by simp) rfl
        rw [h0]
        exact wpOp_val rfl rfl (by go_simp) rfl
      | 5, _ =>
        have h0 : us 4 = _ := hd _ rfl { on := 4, ground := .data } (by simp) rfl
        rw [h0]
        exact wpOp_val rfl rfl (by go_simp) rfl
      | 6, _ => exact wpOp_val rfl rfl (by go_simp) rfl
      | 7, _ =>
        have h0 : us 6 = _ := hd _ rfl { on := 6, ground := .data } (by simp) rfl
        rw [h0]
        exact wpOp_val rfl rfl (by go_simp) rfl
      | 8, _ =>
        have h0 : us 7 = _ := hd _ rfl { on := 7, ground := .data } (by simp) rfl
        rw [h0]
        exact wpOp_val rfl rfl (by go_simp) rfl
      | 9, _ =>
        have h0 : us 5 = _ := hd _ rfl { on := 5, ground := .data } (by simp) rfl
        have h1 : us 8 = _ := hd _ rfl { on := 8, ground := .data } (by simp) rfl
        rw [h0, h1]
        exact wpOp_val (u := .int .i64 (min b d)) rfl rfl (by go_simp; split <;> omega) rfl
      | 10, _ =>
        have h0 : us 2 = _ := hd _ rfl { on := 2, ground := .data } (by simp) rfl
        have h1 : us 9 = _ := hd _ rfl { on := 9, ground := .data } (by simp) rfl
        rw [h0, h1]
        exact wpOp_val (u := .int .i64 low) rfl rfl (by go_simp; rw [HLOW.out]; split <;> omega) rfl
      | 11, _ =>
        have h0 : us 10 = _ := hd _ rfl { on := 10, ground := .data } (by simp) rfl
        rw [h0]
        exact wpOp_val rfl rfl (by go_simp) rfl
    · have h11 : us 11 = _ := hr 11 (by omega)
      rw [h11]
      have HBW := hid hb
      have HTO := hid (total_any (some ⟨gb, oo, none⟩) c2 w3.heap.size [a, b, d] W (HIN0.out.below hb HSZ.out) (by simp) HPB.out)
      obtain ⟨sm, hsm⟩ : ∃ sm, [a, b, d].sum = sm := ⟨_, rfl⟩
      rw [hsm] at HTO
      have hsum : sm = 3 * low ∨ sm = 3 * low + 1 := by
        have h1 := HSUM.out
        have h2 : a + (b + (d + 0)) = sm := hsm
        omega
      have hlow0 : -1000 ≤ low := by have := HLOW.out; omega
      have hlow1 : low ≤ 1000 := by have := HLOW.out; omega
      generalize us 0 = x0
      generalize us 1 = x1
      generalize us 2 = x2
      generalize us 3 = x3
      generalize us 4 = x4
      generalize us 5 = x5
      generalize us 6 = x6
      generalize us 7 = x7
      generalize us 8 = x8
      generalize us 9 = x9
      generalize us 10 = x10
      have HBE := hid (HBD.out.trans (hb.mono HBD.out.size))
      clear hr hb hsm q0 q1 q2
      go_wp2_with fail
      refine HTO.out.mono ?_
      rintro e w5 ⟨rfl, d5, rfl⟩
      have HBF := hid (below_drewN' HBE.out d5)
      rcases hsum with rfl | rfl
      · go_wp2_with fail
        go_ret
        exact ⟨rfl, HBF.out⟩
      · go_wp2_with fail
        go_ret
        exact ⟨rfl, HBF.out⟩
  · go_wp2_with fail
    refine HSI.out.mono ?_
    rintro e w4 ⟨rfl, d4, rfl⟩
    have HSI2 := hid (sameInts_same A2 A3 c2 c3 w3.heap.size [] (w3.drewN d4) (HW3.out.ints.drewN d4) (HI3.out.drewN d4) HLN.out)
    go_wp2_with fail
    refine HSI2.out.mono ?_
    rintro e w5 ⟨rfl, d5, rfl⟩
    have HB5 := hid (below_drewN' HB3.out (d4 + d5))
    go_wp2_with fail
    go_ret
    exact ⟨rfl, HB5.out⟩

set_option maxRecDepth 100000 in
theorem lifted (os : Os) (started : os.Started) (H : Type) (enc : TypeId × Value → H) :
    ReturnsInHanded {} Try.checked os 5 .any (Rows.fnThreeSpec.pre6 enc Try.prog Try.f5 Rows.fnThreeRow.domain false) (Rows.fnThreeSpec.post enc Try.prog Try.f5 false true false false) := by
  refine returnsInHanded_of_change (C := Try.checked) Try.own started (by kernel_rfl) Try.func5
    (ChangeSpec.witness6 (enc := enc) (C := Try.checked) false ⟨#[], #[.slice none 0 0], []⟩ 8 (by kernel_rfl) (by kernel_rfl) (by kernel_rfl) (by kernel_rfl)) ?_
  intro W base args ds gs before hval0 hW hcnd _
  have hval : ∀ (j : Nat) t v, Try.f5.params[j]? = some t → args[j]? = some v → Value.okWide Try.prog W .any base t v := hval0
  have hW' := hW
  obtain ⟨p, q, hA0, hV, rfl, hfz, hnd⟩ := hW
  have hA : DataW.TrodAll enc Try.prog W 0 (fun _ => true) true Try.f5.params.toList args.toList ds p := hA0
  rw [Try.params5] at hA hval
  obtain ⟨v0, vs0, d0, ds0, p0, q0, hargs, rfl, rfl, h0, r0⟩ := trodAll_cons hA
  obtain ⟨rfl, rfl, rfl⟩ := trodAll_nil r0
  obtain rfl : args = #[v0] := by cases args; simp_all
  obtain ⟨rfl, rfl⟩ := trodVars_none hV
  have k0 := h0
  have lt0 : ∀ x ∈ p0, x.block < W.heap.size := by obtain ⟨m, hm⟩ := k0; exact DataW.trod_lt m _ _ _ hm
  have c0 := cameB_of (hval 0 22 v0 rfl rfl) h0
  clear hA0 hval0
  refine (walk v0 W c0).mono fun e W' ⟨he, bel⟩ => ?_
  subst he
  exact ⟨_, rfl, _, _, _, [], _, [], hW', trodAll_mk1 (shut_bool Try.underlying4 _), (trodAll_cons_mk (Below.trod Try.laidOut (by kernel_rfl) (of_decide_eq_true (by kernel_rfl)) k0 bel lt0) trodAll_mk0), rfl, bel.frame _, fun h => by cases h⟩

theorem closed : joinedFacts Try.pinned.checked.prog 5 Try.f5 Rows.fnThreeSpec Rows.fnThreeRow = true := by
  unfold joinedFacts
  exact and8 (by as_aux_lemma => kernel_rfl) head_enter head_lifts head_make (by as_aux_lemma => kernel_rfl) (by as_aux_lemma => kernel_rfl) (by as_aux_lemma => kernel_rfl) (by as_aux_lemma => kernel_rfl)

theorem proved : Rows.FnThreeSaid :=
  OpenClaim.holds_of_wide 5 Try.f5 rfl rfl rfl rfl rfl rfl rfl ⟨rfl, rfl, rfl, rfl, rfl⟩ rfl rfl rfl rfl rfl (by kernel_rfl) Try.func5 closed
    (of_decide_eq_true (by kernel_rfl)) (by unfold Func.isWrapper; first | (rw [if_pos (by decide +kernel)]; kernel_rfl) | (rw [if_neg (by decide +kernel)]; exact ⟨rfl, rfl⟩))
    (fun os started H enc _ => lifted os started H enc)
#print axioms proved

end Go.Proofs.Ytmdgbcepjnfbnaa.lawFnThree
