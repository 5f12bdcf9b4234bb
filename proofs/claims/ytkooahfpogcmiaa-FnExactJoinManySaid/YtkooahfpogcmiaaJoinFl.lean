/- Joined pairings flipped, by their contracts: flipped, JoinFlip, JoinTurn of the program. -/
import Derived.Test.YtkooahfpogcmiaaJoinFb
namespace Go.Proofs.Ytkooahfpogcmiaa
open Go.RowKit Go.Shelf

/-- What the operations hand back that make a joined pairing. -/
def madeRel (b : Nat) (n m r : Nat) (i : Nat) (v : Value) (W : World) : Prop :=
  match i with
  | 0 => v = .agg (pairC idL)
  | 1 => v = .pointer (some ⟨b, 20, none⟩)
  | 2 => v = .int .i64 (n : Int)
  | 3 => v = .pointer (some ⟨b, 21, none⟩)
  | 4 => v = .int .i64 (m : Int)
  | 5 => v = .pointer (some ⟨b, 22, none⟩)
  | 6 => v = .int .i64 (r : Int)
  | 7 => v = .agg (pairC (joinL idL n m r))
  | 8 => ∃ g, v = .pointer (some ⟨g, 0, none⟩) ∧ W.heap[g]? = some (.cells zeroJ 51 (0, 0)) ∧ b + 1 < g
  | _ => True
/-- What the operations hand back that turn both numbers. -/
def behindRel (g P m k q : Nat) (cs : Array Value) (i : Nat) (v : Value) (_ : World) : Prop :=
  match i with
  | 0 => v = .pointer (some ⟨g, 0, none⟩)
  | 1 => v = .agg cs
  | 2 => v = .int .i64 (k : Int)
  | 3 => v = .int .i64 ((flipN P m k : Nat) : Int)
  | 4 => v = .agg cs
  | 5 => v = .int .i64 (q : Int)
  | 6 => v = .int .i64 ((flipN P m q : Nat) : Int)
  | _ => True

set_option maxRecDepth 100000 in
set_option maxHeartbeats 4000000 in
theorem jflipped_any (l : List Int) (n m r : Nat) (w : World) (hp : IsPair l) (hm1 : 1 ≤ m) (hm : m ≤ 5) (hlm : m ≤ l.length) :
    Calls Try.prog 49 #[.agg (pairC (joinL (padTo l) n m r))] w fun e w' => e = .returned (.agg (pairC (joinL (padTo (flipL l m)) n m r))) ∧ Below w.heap.size w w' := by
  have h20 := hp.2.1
  have h4 := hp.1
  have hpl := padTo_length h20
  have HFB := hid (fun k W (hk : k < l.length) => fromBehind_any (padTo l) n m r l.length k W hpl hp.ports h20 hm1 hm hk)
  have HUN := hid (fun w' => unpaired_any w')
  have HLI := hid (fun W => plist_any l W h20 hp.ports)
  have HSP := hid (size_pairL hpl)
  have HSJ := hid (size_joinL hpl n m r)
  have HC0 := hid (joinL_rows hpl n m r)
  have HC1 := hid (joinL_columns hpl n m r)
  have HC2 := hid (joinL_rounds hpl n m r)
  have HPRE := hid (fun (j : Nat) (v : Value) (h : (pairC (padTo l))[j]? = some v) => joinL_pre (n := n) (m := m) (r := r) h)
  have HM := hid hp.mates_of
  have HNF := hid (flipN_names hlm hm1)
  have HX := hid (show ∀ q, q < l.length → l[q]? = some ((mateN l q : Nat) : Int) from fun q hq => (hp.mates hq).2.2.1)
  have HTL := hid (show padTo (flipL l m) = padTo (listS l.length (renS (flipN l.length m) (flipN l.length m) (mateN l))) from rfl)
  have HFL := hid (show (padTo (flipL l m)).length = 20 from padTo_length (by rw [flipL_length]; exact h20))
  obtain ⟨P, hP⟩ : ∃ P, l.length = P := ⟨_, rfl⟩
  have HPP := hid hP
  rw [hP] at h20 h4 hlm HFB HM HNF HX HTL
  generalize padTo (flipL l m) = TL at *
  generalize mateN l = s at *
  generalize pairC (joinL (padTo l) n m r) = cs at *
  generalize pairC (padTo l) = pc at *
  clear hp hP hpl
  have H0 := hid (heap_new1 w (.cells cs 51) (.cells zeroJ 51))
  have H1 := hid (heap_new0 (w.alloc (.cells cs 51)) (.cells zeroJ 51))
  have HB := hid (((Below.refl w.heap.size w).alloc (Nat.le_refl _) (.cells cs 51)).alloc (by simp) (.cells zeroJ 51))
  rw [World.size_alloc] at H1
  go_enter Try.func49, Try.ntmps49
  go_wp2_with fail
  generalize World.alloc (World.alloc w _) _ = Y at H0 H1 HB ⊢
  have hbw : w.heap.size + 1 < Y.heap.size := lt_of_block H1.out
  have HBW := hid hbw
  clear hbw
  refine wp_region_rel_tail (by kernel_rfl) 9 (by kernel_rfl) (fun us => { tmps := #[.agg cs, .pointer (some ⟨w.heap.size, 0, none⟩), .pointer (some ⟨w.heap.size + 1, 0, none⟩), us 8, undef, undef, us 0, us 1, us 2, us 3, us 4, us 5, us 6, us 7,
    undef, undef, undef, undef, undef, undef, undef, undef, undef, undef, undef, undef, undef, undef, undef, undef, undef, undef, undef], defers := [] }) (fun _ => undef) rfl (madeRel w.heap.size n m r) (fun i v W W' h hb => ?_) (fun i us v hi => ?_) (fun i us W hi hb hd => ?_) (fun us W hb hr => ?_)
  · unfold madeRel at h ⊢
    split at h <;> try exact h
    obtain ⟨g, h1, h2, h3⟩ := h
    exact ⟨g, h1, (hb.block _ (lt_of_block h2)).trans h2, h3⟩
  · match i, hi with
    | 0, _ => rfl
    | 1, _ => rfl
    | 2, _ => rfl
    | 3, _ => rfl
    | 4, _ => rfl
    | 5, _ => rfl
    | 6, _ => rfl
    | 7, _ => rfl
    | 8, _ => rfl
  · have L0 := hid ((hb.block _ (lt_of_block H0.out)).trans H0.out)
    match i, hi with
    | 0, _ => exact wpOp_call rfl rfl (by go_simp) ((HUN.out W).mono fun e w'' ⟨he, hb'⟩ => ⟨_, he, rfl, hb'⟩)
    | 1, _ => exact wpOp_val rfl rfl (by go_simp) rfl
    | 2, _ =>
      have h0 : us 1 = _ := hd _ rfl { on := 1, ground := .data } (by simp) rfl
      rw [h0]
      have hc : W.cell? ⟨w.heap.size, 20, none⟩ = some (.int .i64 (n : Int)) := by rw [cell_of_row _ _ _ _ _ _ L0.out]; exact HC0.out
      exact wpOp_val rfl rfl (by go_simp) rfl
    | 3, _ => exact wpOp_val rfl rfl (by go_simp) rfl
    | 4, _ =>
      have h0 : us 3 = _ := hd _ rfl { on := 3, ground := .data } (by simp) rfl
      rw [h0]
      have hc : W.cell? ⟨w.heap.size, 21, none⟩ = some (.int .i64 (m : Int)) := by rw [cell_of_row _ _ _ _ _ _ L0.out]; exact HC1.out
      exact wpOp_val rfl rfl (by go_simp) rfl
    | 5, _ => exact wpOp_val rfl rfl (by go_simp) rfl
    | 6, _ =>
      have h0 : us 5 = _ := hd _ rfl { on := 5, ground := .data } (by simp) rfl
      rw [h0]
      have hc : W.cell? ⟨w.heap.size, 22, none⟩ = some (.int .i64 (r : Int)) := by rw [cell_of_row _ _ _ _ _ _ L0.out]; exact HC2.out
      exact wpOp_val rfl rfl (by go_simp) rfl
    | 7, _ =>
      have h0 : us 0 = _ := hd _ rfl { on := 0, ground := .data } (by simp) rfl
      have h2 : us 2 = _ := hd _ rfl { on := 2, ground := .data } (by simp) rfl
      have h4 : us 4 = _ := hd _ rfl { on := 4, ground := .data } (by simp) rfl
      have h6 : us 6 = _ := hd _ rfl { on := 6, ground := .data } (by simp) rfl
      rw [h0, h2, h4, h6]
      exact wpOp_val rfl rfl (exec_build4 _ _ _ _ rfl idL n m r rfl rfl rfl rfl rfl) rfl
    | 8, _ => exact wpOp_make (u := .pointer (some ⟨W.heap.size, 0, none⟩)) (w' := W.alloc (.cells zeroJ 51)) rfl rfl (by go_simp) ⟨_, rfl, heap_new0 W _, Nat.lt_of_lt_of_le HBW.out hb.size⟩ ((Below.refl _ W).alloc (Nat.le_refl _) _)
  · obtain ⟨g, h8, hg, hlg⟩ : ∃ g, us 8 = .pointer (some ⟨g, 0, none⟩) ∧ W.heap[g]? = some (.cells zeroJ 51 (0, 0)) ∧ w.heap.size + 1 < g := hr 8 (by omega)
    have h0 : us 0 = _ := hr 0 (by omega)
    have h1 : us 1 = _ := hr 1 (by omega)
    have h2 : us 2 = _ := hr 2 (by omega)
    have h3 : us 3 = _ := hr 3 (by omega)
    have h4 : us 4 = _ := hr 4 (by omega)
    have h5 : us 5 = _ := hr 5 (by omega)
    have h6 : us 6 = _ := hr 6 (by omega)
    have h7 : us 7 = _ := hr 7 (by omega)
    rw [h0, h1, h2, h3, h4, h5, h6, h7, h8]
    clear h0 h1 h2 h3 h4 h5 h6 h7 h8 hr
    have HLG := hid hlg
    have HSI := hid (size_joinL (l := idL) rfl n m r)
    have HZI := hid (zero_joinL (l := idL) rfl n m r)
    have L0 := hid ((hb.block _ (lt_of_block H0.out)).trans H0.out)
    have L1 := hid ((hb.block _ (lt_of_block H1.out)).trans H1.out)
    have LG := hid hg
    have LB := hid (HB.out.trans (hb.mono HB.out.size))
    have K2 := hid (setRow_heap _ _ _ (pairC (joinL idL n m r)) _ _ hg)
    have K0 := hid (show (W.setRow g (pairC (joinL idL n m r))).heap[w.heap.size]? = some (.cells cs 51 (0, 0)) by rw [setRow_other _ _ _ _ (by omega)]; exact L0.out)
    have K1 := hid (show (W.setRow g (pairC (joinL idL n m r))).heap[w.heap.size + 1]? = some (.cells zeroJ 51 (0, 0)) by rw [setRow_other _ _ _ _ (by omega)]; exact L1.out)
    have KB := hid (below_setRow' LB.out (show w.heap.size ≤ g by omega) (pairC (joinL idL n m r)))
    clear hb hg hlg
    generalize hZ : W.setRow g (pairC (joinL idL n m r)) = Z at K0 K1 K2 KB
    have HZZ := hid hZ
    clear hZ
    refine wpList_store_row rfl 51 _ _ rfl g (pairC (joinL idL n m r)) rfl rfl 51 zeroJ LG.out HSI.out HZI.out (pairC_one _) ?_
    rw [HZZ.out]
    go_wp2_with (first
      | refine wpList_exec rfl (exec_load_head 49 _ rfl w.heap.size rfl 51 cs (0, 0) pc _ K0.out HPRE.out Try.underlying49 rfl HSP.out) ?_)
    refine (HLI.out _).mono ?_
    rintro e w2 ⟨v, rfl, hg2, hb2⟩
    obtain ⟨A, c, rfl, hown⟩ := (hg2.lower (Nat.le_refl _)).own
    have M0 := hid ((hb2.block _ (lt_of_block K0.out)).trans K0.out)
    have M1 := hid ((hb2.block _ (lt_of_block K1.out)).trans K1.out)
    have M2 := hid ((hb2.block _ (lt_of_block K2.out)).trans K2.out)
    have MB := hid (KB.out.trans (hb2.mono KB.out.size))
    have MG := hid (lt_of_block K2.out)
    have MO := hid hown
    rw [HPP.out]
    clear hg2 hb2 hown
    go_wp2_with fail
    go_loopw [18] (fun (iv : Value) (wr : World) => ∃ k : Nat, k ≤ P ∧ iv = .int .i64 k ∧ ∃ L : List Int, Hid (PairsUp L P (fun q => q < k) (flipN P m) s) ∧ wr.heap[g]? = some (.cells (pairC (joinL L n m r)) 51 (0, 0)) ∧ wr.heap[w.heap.size + 1]? = some (.cells zeroJ 51 (0, 0)) ∧ wr.heap[w.heap.size]? = some (.cells cs 51 (0, 0)) ∧ Own3 wr Z.heap.size A l ∧ Below w.heap.size w wr) (fun i _ => P - (intOf i).toNat)
    case atStart => exact ⟨0, by omega, rfl, idL, hid (pairs_none (fun q hq => absurd hq (by omega))), M2.out, M1.out, M0.out, MO.out, MB.out⟩
    case round =>
      obtain ⟨k, hk, rfl, L, hL, hg, h1, h0, ho, hb⟩ := hrel
      have HL := hL
      have B0 := hid h0
      have B1 := hid h1
      have B2 := hid hg
      have BO := hid ho
      have BB := hid hb
      clear hL h0 h1 hg ho hb
      by_cases hlt : k < P
      · have hints := BO.out.ints
        obtain ⟨b, off, x, rfl, hbw, hks, hc⟩ := hints.at_ (k := k) (by rw [HPP.out]; exact hlt)
        rw [HX.out k hlt] at hks
        obtain rfl := Option.some.inj hks
        have hsk := HM.out.lt k hlt
        obtain ⟨q, hq⟩ : ∃ q, s k = q := ⟨_, rfl⟩
        have HQ := hid hq
        rw [hq] at hc hsk
        clear hints hbw hks hq
        go_wp2_with fail
        have hql : q < P := hsk
        refine wp_region_rel_tail (by kernel_rfl) 7 (by kernel_rfl) (fun us => { tmps := #[.agg cs, .pointer (some ⟨w.heap.size, 0, none⟩), .pointer (some ⟨w.heap.size + 1, 0, none⟩), .pointer (some ⟨g, 0, none⟩), .int .i64 (k : Int), .int .i64 (q : Int), .agg (pairC idL), .pointer (some ⟨w.heap.size, 20, none⟩), .int .i64 (n : Int), .pointer (some ⟨w.heap.size, 21, none⟩), .int .i64 (m : Int), .pointer (some ⟨w.heap.size, 22, none⟩), .int .i64 (r : Int), .agg (pairC (joinL idL n m r)), .pointer (some ⟨w.heap.size, 0, none⟩), .agg pc,
          .slice (some ⟨b, off, none⟩) P c, .int .i64 (P : Int), .int .i64 (k : Int), .bool true, .int .i64 (k : Int), .pointer (some ⟨b, off + k, none⟩), .int .i64 (q : Int), us 0, us 1, us 2, us 3, us 4, us 5, us 6, u30, u31, undef], defers := [] }) (fun i => if i = 0 then u23 else if i = 1 then u24 else if i = 2 then u25 else if i = 3 then u26 else if i = 4 then u27 else if i = 5 then u28 else u29) rfl (behindRel g P m k q cs) (fun i v W W' h hb => h) (fun i us v hi => ?_) (fun i us W hi hb hd => ?_) (fun us W hb hr => ?_)
        · match i, hi with
          | 0, _ => rfl
          | 1, _ => rfl
          | 2, _ => rfl
          | 3, _ => rfl
          | 4, _ => rfl
          | 5, _ => rfl
          | 6, _ => rfl
        · have L0 := hid ((hb.block _ (lt_of_block B0.out)).trans B0.out)
          match i, hi with
          | 0, _ => exact wpOp_val rfl rfl (by go_simp) rfl
          | 1, _ => exact wpOp_val rfl rfl (exec_load_row 51 _ rfl w.heap.size rfl 51 cs (0, 0) _ L0.out Try.underlying51 rfl HSJ.out) rfl
          | 2, _ => exact wpOp_val rfl rfl (by go_simp) rfl
          | 3, _ =>
            have h0 : us 1 = _ := hd _ rfl { on := 1, ground := .data } (by simp) rfl
            have h1 : us 2 = _ := hd _ rfl { on := 2, ground := .data } (by simp) rfl
            rw [h0, h1]
            exact wpOp_call rfl rfl (by go_simp) ((HFB.out k W hlt).mono fun e w'' ⟨he, hb'⟩ => ⟨_, he, rfl, hb'⟩)
          | 4, _ => exact wpOp_val rfl rfl (exec_load_row 51 _ rfl w.heap.size rfl 51 cs (0, 0) _ L0.out Try.underlying51 rfl HSJ.out) rfl
          | 5, _ => exact wpOp_val rfl rfl (by go_simp) rfl
          | 6, _ =>
            have h0 : us 4 = _ := hd _ rfl { on := 4, ground := .data } (by simp) rfl
            have h1 : us 5 = _ := hd _ rfl { on := 5, ground := .data } (by simp) rfl
            rw [h0, h1]
            exact wpOp_call rfl rfl (by go_simp) ((HFB.out q W hql).mono fun e w'' ⟨he, hb'⟩ => ⟨_, he, rfl, hb'⟩)
        · have h0 : us 0 = _ := hr 0 (by omega)
          have h1 : us 1 = _ := hr 1 (by omega)
          have h2 : us 2 = _ := hr 2 (by omega)
          have h3 : us 3 = _ := hr 3 (by omega)
          have h4 : us 4 = _ := hr 4 (by omega)
          have h5 : us 5 = _ := hr 5 (by omega)
          have h6 : us 6 = _ := hr 6 (by omega)
          rw [h0, h1, h2, h3, h4, h5, h6]
          have L0 := hid ((hb.block _ (lt_of_block B0.out)).trans B0.out)
          have L1 := hid ((hb.block _ (lt_of_block B1.out)).trans B1.out)
          have L2 := hid ((hb.block _ (lt_of_block B2.out)).trans B2.out)
          have LO := hid (BO.out.below hb)
          have LB := hid (BB.out.trans (hb.mono BB.out.size))
          clear h0 h1 h2 h3 h4 h5 h6 hr hb
          have hfk := HNF.out.flt k hlt
          have hfq := HNF.out.flt q hql
          have hne : flipN P m k ≠ flipN P m q := fun e => HM.out.ne k hlt (by
            have e2 := congrArg (flipN P m) e
            rw [HNF.out.gf k hlt, HNF.out.gf q hql] at e2
            rw [HQ.out]
            exact e2.symm)
          obtain ⟨fk, hfke⟩ : ∃ fk, flipN P m k = fk := ⟨_, rfl⟩
          obtain ⟨fq, hfqe⟩ : ∃ fq, flipN P m q = fq := ⟨_, rfl⟩
          rw [hfke, hfqe] at hne ⊢
          rw [hfke] at hfk
          rw [hfqe] at hfq
          have HF := hid (And.intro hfke hfqe)
          have HPA := hid (pair_any g fk fq _ _ W L2.out (by rw [pairC_size, joinL_length HL.out.1]; omega) (by omega) (by omega) hne)
          have HF20 := hid (show fk < 20 ∧ fq < 20 by omega)
          clear hfke hfqe hfk hfq hne
          go_wp2_with fail
          refine HPA.out.mono ?_
          rintro e w3 ⟨rfl, hpr, hbut⟩
          have HG3 := hid (hpr.trans (by rw [paired_joinL HL.out.1 HF20.out.1 HF20.out.2]))
          have C1 := hid ((hbut.block _ (lt_of_block L1.out) (by have := HLG.out; omega)).trans L1.out)
          have C0 := hid ((hbut.block _ (lt_of_block L0.out) (by have := HLG.out; omega)).trans L0.out)
          have CO := hid (LO.out.but hbut (by have := MG.out; have := lt_of_block K2.out; omega))
          have CB := hid (LB.out.trans (hbut.below (show w.heap.size ≤ g by have := HLG.out; omega) LB.out.size))
          clear hpr hbut
          go_wp2_with fail
          go_roundw
          case rel =>
            refine ⟨k + 1, by omega, by go_num, _, hid (pairs_step (g := flipN P m) (s := s) h20 HNF.out HM.out HL.out hlt (V' := fun q => q < k + 1) (fun q hq => by omega)), ?_, C1.out, C0.out, CO.out, CB.out⟩
            rw [HQ.out, HF.out.1, HF.out.2]
            exact HG3.out
          case measure => simp [intOf]; omega
      · obtain rfl : k = P := by omega
        have HTL2 := hid (HTL.out.trans (pairs_done h20 HNF.out HM.out HL.out (fun q hq => .inl hq)).symm)
        rw [← HTL2.out] at B2
        have HSZ := hid (size_joinL HFL.out n m r)
        have HZZ2 := hid (zero_joinL HFL.out n m r)
        go_wp2_with (first
          | refine wpList_load_row rfl 51 _ rfl g rfl 51 (pairC (joinL TL n m r)) (0, 0) _ B2.out Try.underlying51 rfl HSZ.out ?_
          | refine wpList_store_row rfl 51 _ _ rfl (w.heap.size + 1) (pairC (joinL TL n m r)) rfl rfl 51 zeroJ B1.out HSZ.out HZZ2.out (pairC_one _) ?_)
        refine bodyPost_ret (results_cell_row Try.results49 _ _ (w.heap.size + 1) 51 _ (0, 0) _ (by rfl) (setRow_heap _ _ _ _ _ _ B1.out) Try.underlying51 rfl HSZ.out) rfl ⟨rfl, ?_⟩
        exact below_setRow' BB.out (by omega) _
end Go.Proofs.Ytkooahfpogcmiaa
