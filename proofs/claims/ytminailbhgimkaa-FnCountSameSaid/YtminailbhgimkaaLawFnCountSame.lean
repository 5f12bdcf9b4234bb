/- For every code, the first number of the counts of full grids by rounds is at least two, and the grid of one letter alone has no rounds; the program's and the specification's answers are the same: the law FnCountSame returns true, and its argument reads as it did. No condition. -/
import Derived.Test.YtminailbhgimkaaPKL
import Derived.Test.YtminailbhgimkaaPKD
import Derived.Test.YtminailbhgimkaaCountS
import Derived.Test.YtminailbhgimkaaCountP
import Derived.Test.YtminailbhgimkaaDrawCounts
import Derived.Test.YtminailbhgimkaaBunC
import Derived.Test.YtminailbhgimkaaBunM
namespace Go.Proofs.Ytminailbhgimkaa.lawFnCountSame
open Go.ChangeShapes Go.WideShapes Go.ChangeAt Go.RowKit
open Go.ChangeMaps (open_string shut_string)

theorem nPow {k S : Nat} {w : World} (hk : k ≤ 9) (hS : 2 ^ k = S) : Calls Try.prog 20 #[.int .i64 2, .int .i64 (k : Int)] w fun e w' => Below w.heap.size w w' ∧ e = .returned (.int .i64 (S : Int)) :=
  (power_any k w hk).mono fun _ _ ⟨he, hw⟩ => ⟨by rw [hw]; exact Below.refl _ _, by rw [he, hS]⟩
theorem mem_bound {l : List Int} {B : Int} (h : ∀ k, 0 ≤ l.getD k 0 ∧ l.getD k 0 ≤ B) : ∀ x ∈ l, 0 ≤ x ∧ x ≤ B := by
  intro x hx
  obtain ⟨i, hi, rfl⟩ := List.getElem_of_mem hx
  have := h i
  rw [List.getD_eq_getElem?_getD, List.getElem?_eq_getElem hi] at this
  exact this

def txT (p : Nat) : ByteArray := ⟨(List.replicate p 114).toArray⟩
theorem txT_succ (p : Nat) : txT p ++ ⟨#[114]⟩ = txT (p + 1) := by
  refine ByteArray.ext ?_
  show (txT p ++ (⟨#[114]⟩ : ByteArray)).data = _
  rw [ByteArray.data_append]
  refine Array.ext' ?_
  simp [txT, List.replicate_succ']
theorem txT_size (p : Nat) : (txT p).size = p := by
  show (List.replicate p (114 : UInt8)).toArray.size = p
  simp
theorem same_rule {n m : Nat} : ruleG n m (mirF m 0) = List.replicate n (txT m) := by
  have h1 : ∀ r q, mirF m 0 r q = 114 := fun r q => by
    unfold mirF mirV
    simp
  unfold ruleG ruleL txT
  rw [show (mirF m 0) = fun _ _ => 114 from funext fun r => funext fun q => h1 r q]
  simp [List.map_const']
theorem facts {n m : Nat} (h : MostIn (n : Int) (m : Int) n m) : ∃ (l : List Int) (y : Int), countsR n m = l ∧ l.length ≤ 40 ∧ l[0]? = some y ∧ 2 ≤ y ∧ IsGrid n m (List.replicate n (txT m)) ∧ manyR n m (lett m (pad (flat (List.replicate n (txT m))))) = (0, true) ∧ 1 ≤ n ∧ n ≤ 5 ∧ 1 ≤ m ∧ m ≤ 5 := by
  obtain ⟨_, _, h1, h2, h3, h4, h5⟩ := h
  obtain ⟨g1, g2⟩ := mir_grid (x := 0) h1 h2 h3 h4
  rw [same_rule] at g1 g2
  have hlen := countsR_len h5
  have h6 := one_two h1 h2 h3 h4
  have h7 := cntL_getD (cntF n m) 0 (List.range (2 ^ (n * m)))
  have h8 : 2 ≤ (countsR n m).getD 0 0 := by
    unfold countsR
    rw [h7]
    omega
  have h9 : 0 < (countsR n m).length := by
    rcases Nat.eq_zero_or_pos (countsR n m).length with h | h
    · rw [List.getD_eq_getElem?_getD, List.getElem?_eq_none (by omega)] at h8
      exact absurd h8 (by decide)
    · exact h
  refine ⟨_, _, rfl, by omega, (show (countsR n m)[0]? = some ((countsR n m).getD 0 0) by rw [List.getD_eq_getElem?_getD, List.getElem?_eq_getElem h9]; rfl), h8, g1, ?_, h1, h2, h3, h4⟩
  rw [g2]
  unfold manyR
  rw [one_letter (b := 114) h2 h4 (.inl rfl) fun x hx => ?_]
  · rfl
  · obtain ⟨k1, k2, k3, k4⟩ := hx
    rw [full_lett (by omega) k1 k2 k3 k4]
    unfold mirV
    simp

set_option maxRecDepth 100000 in
set_option maxHeartbeats 2000000 in
theorem draw_any (A : Option Addr) (len cap : Nat) (w : World) (h : CodeAt w A len) (hl : len ≤ 1048576) (hc : len ≤ cap) (hc2 : cap ≤ 9223372036854775807) :
    Calls Try.prog 14 #[.slice A len cap] w fun e w' => Below w.heap.size w w' ∧ ∃ (n m : Nat), e = .returned (.tuple #[.int .i64 (n : Int), .int .i64 (m : Int)]) ∧ n ≤ 4 ∧ m ≤ 12 := by
  have HP := hid (l92Counts_any A len cap w h hl hc hc2)
  clear h
  go_enter Try.func14, Try.ntmps14
  go_wp2_with fail
  refine HP.out.mono ?_
  rintro e w1 ⟨hb, n, m, rfl, hn, hm⟩
  have HB := hid hb
  clear hb
  go_wp2_with fail
  refine bodyPost_ret (results_tmp2 rfl _ _ _) rfl ?_
  exact ⟨HB.out, n, m, rfl, hn, hm⟩

set_option maxRecDepth 100000 in
set_option maxHeartbeats 4000000 in
theorem walk (v : Value) (w : World) (hc : CameB w v) :
    Calls Try.prog 6 #[v] w fun e w' => e = .returned (.bool true) ∧ Below w.heap.size w w' := by
  obtain ⟨A, len, cap, rfl, hcode, hlc, hcap⟩ := hc
  have HCD := hid hcode
  clear hcode
  go_enter Try.func6, Try.ntmps6
  by_cases hbig : 1048576 < len
  · have hbi : (1048576 : Int) < (len : Int) := by omega
    go_wp2_with fail
    go_ret
    exact ⟨rfl, Below.refl _ _⟩
  have hbi : ¬ (1048576 : Int) < (len : Int) := by omega
  have HDR := hid (draw_any A len cap w HCD.out (by omega) hlc hcap)
  have HC1 := hid (HDR.out)
  go_wp2_with fail
  refine HC1.out.mono ?_
  rintro e w1 ⟨hb, n, m, rfl, hn4, hm12⟩
  have HB1 := hid hb
  clear hb HC1
  have HC2 := hid ((implCountRounds_any n m w1).mono fun _ _ h => lend_own h)
  go_wp2_with fail
  refine HC2.out.mono ?_
  rintro e w2 ⟨hb, A2, c2, out, ok, rfl, hout, hl⟩
  have HB2 := hid (HB1.out.trans (hb.mono HB1.out.size))
  clear HB1
  have Lout2 := hid hl
  clear hl
  clear hb HC2
  have HO := hid hout
  clear hout
  have HC3 := hid ((specCountRounds_any n m w2).mono fun _ _ h => lend_spec h)
  go_wp2_with fail
  refine HC3.out.mono ?_
  rintro e w3 ⟨hb, A3, c3, out2, ok2, rfl, hout2, hl⟩
  have HB3 := hid (HB2.out.trans (hb.mono HB2.out.size))
  clear HB2
  have Lout3 := hid (Lout2.out.step hb)
  clear Lout2
  have Lwant3 := hid hl
  clear hl
  clear hb HC3
  obtain ⟨rfl, rfl⟩ := HO.out.uniq hout2
  clear hout2
  rcases HO.out with ⟨n2, m2, hp, rfl, rfl⟩ | ⟨_, rfl, rfl⟩
  · obtain rfl : n = n2 := by have := hp.1; omega
    obtain rfl : m = m2 := by have := hp.2.1; omega
    obtain ⟨l, y, e1, hlen, hy, hy2, g1, e2, hn1, hn5, hm1, hm5⟩ := facts hp
    rw [e1] at Lout3 Lwant3 ⊢
    have HLEN := hid hlen
    clear e1 hp hlen
    have HY := hid hy
    have G1 := hid g1
    have E2 := hid e2
    clear hy g1 e2
    go_wp2_with fail
    refine (nSameI (Lout3.out) (Lwant3.out) (by have := HLEN.out; omega)).mono ?_
    rintro e w4 ⟨hb, rfl⟩
    have HB4 := hid (HB3.out.trans (hb.mono HB3.out.size))
    clear HB3
    have Lout4 := hid (Lout3.out.step hb)
    clear Lout3
    have Lwant4 := hid (Lwant3.out.step hb)
    clear Lwant3
    clear hb
    clear Lwant4
    go_wp2_with fail
    have HN := hid (growS_new w4 w4.heap.size (Nat.le_refl _))
    have HBN := hid ((Below.refl w4.heap.size w4).alloc (Nat.le_refl _) (.cells #[] 9))
    generalize w4.alloc (.cells #[] 9) = wa at HN HBN ⊢
    go_loopw [9, 10, 11, 12] (fun (v iv _ _ : Value) (wr : World) => ∃ i : Nat, i ≤ n ∧ iv = .int .i64 i ∧ GrowS wr w4.heap.size v (List.replicate i (txT m)) ∧ Below w4.heap.size w4 wr) (fun _ i _ _ _ => n - (intOf i).toNat)
    case atStart => exact ⟨0, by omega, rfl, HN.out, HBN.out⟩
    case round =>
      obtain ⟨i, hi, rfl, hgs, hbel⟩ := hrel
      have HS := hid hgs
      have HB := hid hbel
      clear hgs hbel
      by_cases hlt : i < n
      · skip
        have hii : (i : Int) < (n : Int) := by omega
        obtain ⟨ov, rfl⟩ : ∃ ov : Value, ov = u9 := ⟨_, rfl⟩
        obtain ⟨wo, rfl⟩ : ∃ wo : World, wo = wr := ⟨_, rfl⟩
        go_wp2_with fail
        go_loopw [11, 12] (fun (v kv : Value) (wi : World) => ∃ p : Nat, p ≤ m ∧ kv = .int .i64 p ∧ v = .string (txT p) ∧ wi = wo) (fun _ i _ => m - (intOf i).toNat)
        case atStart => exact ⟨0, by omega, rfl, rfl, rfl⟩
        case round =>
          obtain ⟨p, hp, rfl, rfl, rfl⟩ := hrel
          by_cases hpm : p < m
          · have hpi : (p : Int) < (m : Int) := by omega
            have HTS := hid (txT_succ p)
            have htz : (txT p).size = p := txT_size p
            go_wp2_with fail
            go_roundw
            case rel => exact ⟨p + 1, by omega, by go_num, by rw [← HTS.out], by first | rfl | trivial⟩
            case measure => simp [intOf]; omega
          · obtain rfl : p = m := by omega
            have HRS := hid (show List.replicate (i + 1) (txT p) = List.replicate i (txT p) ++ [txT p] from List.replicate_succ')
            go_wp2_with (at_builtin; refine wpList_appendS rfl _ _ rfl w4.heap.size ov (List.replicate i (txT p)) rfl (World.ownsRow.alloc HS.out _) wr.heap.size 1 rfl (txT p) (cell_new wr (txT p)) ?c3 (Nat.le_trans HB.out.size (by simp)) ?_)
            case c3 => rw [List.length_replicate]; omega
            intro v' w' hgr hgw
            have HGR := hid hgr
            have HGW := hid hgw
            clear hgr hgw
            go_wp2
            go_roundw
            case rel => exact ⟨i + 1, by omega, by go_num, by rw [HRS.out]; exact HGR.out, (HB.out.alloc HB.out.size _).grown HGW.out (Nat.le_trans HB.out.size (by simp)) (fun k e => (ownBlock_lt HS.out k e).1)⟩
            case measure => simp [intOf]; omega
      · obtain rfl : i = n := by omega
        obtain ⟨Ag, cg, rfl, hst⟩ := HS.out.strs
        have HST := hid (show LS wr Ag (List.replicate i (txT m)) from hst)
        have HLO := hid (Lout4.out.step HB.out)
        have HBX := hid (HB4.out.trans (HB.out.mono HB4.out.size))
        rw [List.length_replicate]
        clear hst
        have hci := nRoundMany (c := cg) HST.out G1.out E2.out
        rw [List.length_replicate] at hci
        have HCI := hid hci
        clear hci
        clear HST
        have HC5 := hid (HCI.out)
        go_wp2_with fail
        refine HC5.out.mono ?_
        rintro e w5 ⟨hb, rfl⟩
        have HB5 := hid (HBX.out.trans (hb.mono HBX.out.size))
        clear HBX
        have Lout5 := hid (HLO.out.step hb)
        clear HLO
        clear hb HC5
        obtain ⟨bo, oo, rfl⟩ := (Lout5.out).addr (by have := (List.getElem?_eq_some_iff.1 HY.out).1; omega)
        have hc := Lout5.out.cellk HY.out
        rw [Nat.add_zero] at hc
        have hl0 : 0 < l.length := (List.getElem?_eq_some_iff.1 HY.out).1
        have hl0i : (0 : Int) < ((l.length : Nat) : Int) := by omega
        go_wp2_with fail
        go_ret
        exact ⟨rfl, HB5.out⟩
  · skip
    go_wp2_with fail
    refine (nSameI (Lout3.out) (Lwant3.out) (by simp)).mono ?_
    rintro e w4 ⟨hb, rfl⟩
    have HB4 := hid (HB3.out.trans (hb.mono HB3.out.size))
    clear HB3
    have Lout4 := hid (Lout3.out.step hb)
    clear Lout3
    have Lwant4 := hid (Lwant3.out.step hb)
    clear Lwant3
    clear hb
    go_wp2_with fail
    refine (nSameI (Lout4.out) (Lwant4.out) (by simp)).mono ?_
    rintro e w5 ⟨hb, rfl⟩
    have HB5 := hid (HB4.out.trans (hb.mono HB4.out.size))
    clear HB4
    have Lout5 := hid (Lout4.out.step hb)
    clear Lout4
    have Lwant5 := hid (Lwant4.out.step hb)
    clear Lwant4
    clear hb
    go_wp2_with fail
    go_ret
    exact ⟨rfl, HB5.out⟩

set_option maxRecDepth 100000 in
theorem lifted (os : Os) (started : os.Started) (H : Type) (enc : TypeId × Value → H) :
    ReturnsInHanded {} Try.checked os 6 .any (Rows.fnCountSameSpec.pre6 enc Try.prog Try.f6 Rows.fnCountSameRow.domain false) (Rows.fnCountSameSpec.post enc Try.prog Try.f6 false true false false) := by
  refine returnsInHanded_of_change (C := Try.checked) Try.own started (by kernel_rfl) Try.func6
    (ChangeSpec.witness6 (enc := enc) (C := Try.checked) false ⟨#[], #[.slice none 0 0], []⟩ 8 (by kernel_rfl) (by kernel_rfl) (by kernel_rfl) (by kernel_rfl)) ?_
  intro W base args ds gs before hval0 hW hcnd _
  have hval : ∀ (j : Nat) t v, Try.f6.params[j]? = some t → args[j]? = some v → Value.okWide Try.prog W .any base t v := hval0
  have hW' := hW
  obtain ⟨p, q, hA0, hV, rfl, hfz, hnd⟩ := hW
  have hA : DataW.TrodAll enc Try.prog W 0 (fun _ => true) true Try.f6.params.toList args.toList ds p := hA0
  rw [Try.params6] at hA hval
  obtain ⟨v0, vs0, d0, ds0, p0, q0, hargs, rfl, rfl, h0, r0⟩ := trodAll_cons hA
  obtain ⟨rfl, rfl, rfl⟩ := trodAll_nil r0
  obtain rfl : args = #[v0] := by cases args; simp_all
  obtain ⟨rfl, rfl⟩ := trodVars_none hV
  have k0 := h0
  have lt0 : ∀ x ∈ p0, x.block < W.heap.size := by obtain ⟨m, hm⟩ := k0; exact DataW.trod_lt m _ _ _ hm
  have c0 := cameB_of (hval 0 22 v0 rfl rfl) h0
  clear hA0 hval0
  refine (walk v0 W c0).mono fun e W' ⟨he, bel⟩ => ?_
  subst he
  exact ⟨_, rfl, _, _, _, [], _, [], hW', trodAll_mk1 (shut_bool Try.underlying4 _), (trodAll_cons_mk (Below.trod Try.laidOut (by kernel_rfl) (of_decide_eq_true (by kernel_rfl)) k0 bel lt0) trodAll_mk0), rfl, bel.frame _, fun h => by cases h⟩

theorem closed : joinedFacts Try.pinned.checked.prog 6 Try.f6 Rows.fnCountSameSpec Rows.fnCountSameRow = true := by
  unfold joinedFacts
  exact and8 (by as_aux_lemma => kernel_rfl) head_enter head_lifts head_make (by as_aux_lemma => kernel_rfl) (by as_aux_lemma => kernel_rfl) (by as_aux_lemma => kernel_rfl) (by as_aux_lemma => kernel_rfl)

theorem proved : Rows.FnCountSameSaid :=
  OpenClaim.holds_of_wide 6 Try.f6 rfl rfl rfl rfl rfl rfl rfl ⟨rfl, rfl, rfl, rfl, rfl⟩ rfl rfl rfl rfl rfl (by kernel_rfl) Try.func6 closed
    (of_decide_eq_true (by kernel_rfl)) (by unfold Func.isWrapper; first | (rw [if_pos (by decide +kernel)]; kernel_rfl) | (rw [if_neg (by decide +kernel)]; exact ⟨rfl, rfl⟩))
    (fun os started H enc _ => lifted os started H enc)
#print axioms proved

end Go.Proofs.Ytminailbhgimkaa.lawFnCountSame
