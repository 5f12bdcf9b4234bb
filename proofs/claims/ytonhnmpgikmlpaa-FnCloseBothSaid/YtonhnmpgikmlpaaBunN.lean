/- Settled texts in one file. Each begins with what it holds. -/
import Derived.Test.YtonhnmpgikmlpaaBunM
import Derived.Test.YtonhnmpgikmlpaaLin
import Derived.Test.YtonhnmpgikmlpaaApp
import Derived.Test.YtonhnmpgikmlpaaCameI
import Derived.Test.YtonhnmpgikmlpaaBunV
import Derived.Test.YtonhnmpgikmlpaaBunP
import Derived.Test.YtonhnmpgikmlpaaJoinN
import Derived.Test.YtonhnmpgikmlpaaBunS
/- l91Pairs: a list of numbers that is drawn, by its contract. -/
namespace Go.Proofs.Ytonhnmpgikmlpaa
open Go.RowKit Go.Shelf

/-- What the operations hand back that leave two numbers out. -/
def lefV (W0 : World) (g len cap k : Nat) (l : List Int) (j : Nat) (v : Value) : Prop :=
  match j with
  | 1 => v = .slice (some ⟨g, 0, none⟩) len cap
  | 2 => v = .int .i64 (k : Int)
  | 3 => ∃ ad c', v = .slice (some ad) ((l.take k).drop 1).length c' ∧ CellsAt W0 ad (intsV ((l.take k).drop 1))
  | 5 => v = .slice (some ⟨g, 0, none⟩) len cap
  | 6 => v = .int .i64 (k : Int)
  | 7 => v = .int .i64 ((k + 1 : Nat) : Int)
  | 8 => ∃ ad c', v = .slice (some ad) (l.drop (k + 1)).length c' ∧ CellsAt W0 ad (intsV (l.drop (k + 1)))
  | _ => True
/-- What stands where two numbers are left out, by what has been listed. -/
structure LefI (W0 : World) (g len cap k : Nat) (l : List Int) (s : Nat → Bool) (us : Nat → Value) (W : World) : Prop where
  below : Below W0.heap.size W0 W
  val : ∀ j, j < 9 → s j = true → lefV W0 g len cap k l j (us j)
  e0 : s 0 = true → s 4 = false → ∃ b, us 0 = .slice (some ⟨b, 0, none⟩) 0 0 ∧ W0.heap.size ≤ b ∧ W.heap[b]? = some (.cells #[] 3 (0, 0))
  e4 : s 4 = true → GrowI W W0.heap.size (us 4) ((l.take k).drop 1)
section
variable {W0 W W' : World} {g len cap k : Nat} {l : List Int} {s : Nat → Bool} {us : Nat → Value}
theorem LefI.set (h : LefI W0 g len cap k l s us W) (j : Nat) (v : Value) (hj : j ≠ 0 ∧ j ≠ 4) (hv : lefV W0 g len cap k l j v) :
    LefI W0 g len cap k l (fun q => if q = j then true else s q) (fun q => if q = j then v else us q) W := by
  obtain ⟨j0, j4⟩ := hj
  refine ⟨h.below, fun q hq hs => ?_, ?_, ?_⟩
  · by_cases e : q = j
    · subst e
      simp only [if_true]
      exact hv
    · simp only [if_neg e] at hs ⊢
      exact h.val q hq hs
  · simp only [if_neg (Ne.symm j0), if_neg (Ne.symm j4)]; exact h.e0
  · simp only [if_neg (Ne.symm j4)]; exact h.e4
theorem LefI.set0 (h : LefI W0 g len cap k l s us W) :
    LefI W0 g len cap k l (fun q => if q = 0 then true else s q) (fun q => if q = 0 then .slice (some ⟨W.heap.size, 0, none⟩) 0 0 else us q) (W.alloc (.cells #[] 3)) := by
  refine ⟨h.below.alloc h.below.size _, fun q hq hs => ?_, fun _ _ => ⟨_, rfl, h.below.size, heap_new0 W _⟩, fun h1 => GrowI.belowC (h.e4 h1) ((Below.refl _ W).alloc (Nat.le_refl _) _)⟩
  by_cases e : q = 0
  · subst e; trivial
  · simp only [if_neg e] at hs ⊢
    exact h.val q hq hs
theorem LefI.set4 (h : LefI W0 g len cap k l s us W) {v' : Value} {b : Nat} (hbb : W0.heap.size ≤ b) (hgr : GrowI W' W0.heap.size v' ((l.take k).drop 1)) (hgw : W.grownBy W' (some b)) :
    LefI W0 g len cap k l (fun q => if q = 4 then true else s q) (fun q => if q = 4 then v' else us q) W' := by
  refine ⟨h.below.grown hgw h.below.size (fun q e => (by cases e; exact hbb)), fun q hq hs => ?_, fun _ h2 => (by cases h2), fun _ => hgr⟩
  by_cases e : q = 4
  · subst e; trivial
  · simp only [if_neg e] at hs ⊢
    exact h.val q hq hs
end
/-- Numbers below p, all different. -/
def LowI (p : Nat) (l : List Int) : Prop := (∀ x ∈ l, ∃ y : Nat, y < p ∧ x = (y : Int)) ∧ l.Nodup
theorem LowI.at_ {p : Nat} {l : List Int} (h : LowI p l) {k : Nat} {x : Int} (hk : l[k]? = some x) : ∃ y : Nat, y < p ∧ x = (y : Int) := h.1 x (List.mem_of_getElem? hk)
theorem left_sub (l : List Int) (k : Nat) : List.Sublist ((l.take k).drop 1 ++ l.drop (k + 1)) l := by
  have h := List.Sublist.append (List.drop_sublist 1 (l.take k)) (List.drop_sublist 1 (l.drop k))
  rw [List.take_append_drop, List.drop_drop] at h
  exact h
theorem LowI.left {p k : Nat} {l : List Int} (h : LowI p l) : LowI p ((l.take k).drop 1 ++ l.drop (k + 1)) :=
  ⟨fun x hx => h.1 x ((left_sub l k).subset hx), (left_sub l k).nodup h.2⟩
theorem LowI.two {p k : Nat} {l : List Int} (h : LowI p l) (h1 : 1 ≤ k) (hk : k < l.length) : ∃ a b : Nat, a < p ∧ b < p ∧ a ≠ b ∧ l[0]? = some (a : Int) ∧ l[k]? = some (b : Int) := by
  have e0 : l[0]? = some (l[0]'(by omega)) := List.getElem?_eq_getElem (by omega)
  have ek : l[k]? = some (l[k]'hk) := List.getElem?_eq_getElem hk
  obtain ⟨a, ha, hae⟩ := h.at_ e0
  obtain ⟨b, hb, hbe⟩ := h.at_ ek
  refine ⟨a, b, ha, hb, fun e => ?_, by rw [e0, hae], by rw [ek, hbe]⟩
  exact (List.pairwise_iff_getElem.1 h.2) 0 k (by omega) hk (by omega) (by rw [hae, hbe, e])
theorem left_length {l : List Int} {k : Nat} (h1 : 1 ≤ k) (hk : k < l.length) : ((l.take k).drop 1 ++ l.drop (k + 1)).length + 2 = l.length ∧ ((l.take k).drop 1).length = k - 1 ∧ (l.drop (k + 1)).length = l.length - (k + 1) := by
  rw [List.length_append, List.length_drop, List.length_drop, List.length_take, Nat.min_eq_left (by omega)]
  omega
/-- The numbers below i. -/
def upI (i : Nat) : List Int := (List.range i).map fun j : Nat => (j : Int)
theorem upI_length (i : Nat) : (upI i).length = i := by simp [upI]
theorem upI_succ (i : Nat) : upI (i + 1) = upI i ++ [(i : Int)] := by simp [upI, List.range_succ]
theorem upI_low (p : Nat) : LowI p (upI p) := by
  refine ⟨fun x hx => ?_, ?_⟩
  · unfold upI at hx
    obtain ⟨y, hy, rfl⟩ := List.mem_map.1 hx
    exact ⟨y, List.mem_range.1 hy, rfl⟩
  · unfold upI
    rw [List.Nodup, List.pairwise_map]
    exact List.Pairwise.imp (fun h e => h (Int.ofNat.inj e)) List.nodup_range
/-- So many integers. -/
def IntC (p : Nat) (C : Array Value) : Prop := C.size = p ∧ ∀ k, k < p → ∃ x : Int, C[k]? = some (.int .i64 x)
theorem IntC.made (p : Nat) : IntC p (madeCells #[Value.int .i64 0] p) := ⟨size_madeCells _ _, fun k hk => ⟨0, by rw [made_pairC]; exact pairC_at (by rw [List.getElem?_replicate, if_pos hk])⟩⟩
theorem IntC.set {p : Nat} {C : Array Value} (h : IntC p C) (i : Nat) (x : Int) : IntC p (C.setIfInBounds i (.int .i64 x)) := by
  refine ⟨by simp [h.1], fun k hk => ?_⟩
  by_cases e : i = k
  · subst e
    exact ⟨x, by rw [Array.getElem?_setIfInBounds_self_of_lt (by rw [h.1]; exact hk)]⟩
  · rw [Array.getElem?_setIfInBounds_ne e]
    exact h.2 k hk
theorem IntC.row {p b : Nat} {C : Array Value} {w : World} (h : IntC p C) (hb : w.heap[b]? = some (.cells C 3 (0, 0))) : ∃ l : List Int, l.length = p ∧ Row8 w b l := by
  refine ⟨(List.range p).map fun k => intOf (C.getD k undef), by simp, C, hb, fun k x hk => ?_⟩
  rw [List.getElem?_map] at hk
  by_cases hkp : k < p
  · obtain ⟨y, hy⟩ := h.2 k hkp
    rw [List.getElem?_range hkp] at hk
    have e : intOf (C.getD k undef) = x := by simpa using hk
    rw [Array.getD_eq_getD_getElem?, hy] at e
    have e2 : y = x := e
    rw [hy, e2]
  · rw [List.getElem?_eq_none (by simp; omega)] at hk
    cases hk
theorem GrowI.open_ {w : World} {base : Nat} {v : Value} {l : List Int} (h : GrowI w base v l) (h0 : 0 < l.length) : ∃ g c, v = .slice (some ⟨g, 0, none⟩) l.length c ∧ l.length ≤ c ∧ c ≤ maxLen ∧ base ≤ g ∧ g < w.heap.size ∧ CellsAt w ⟨g, 0, none⟩ (intsV l) := by
  rcases h.2 with ⟨_, h1⟩ | ⟨g, cap, cur, rfl, hb, hg, h1, h2, _, _⟩
  · omega
  · exact ⟨g, cap, rfl, h1, h2, hb, lt_of_block hg, .inr (lt_of_block hg), World.ownsRow.cells h (g := g) rfl⟩
theorem CellsAt.at_ {w : World} {g k : Nat} {l : List Int} {x : Int} (h : CellsAt w ⟨g, 0, none⟩ (intsV l)) (hk : l[k]? = some x) : w.cell? ⟨g, k, none⟩ = some (.int .i64 x) := by
  have h1 := h.2 k (.int .i64 x) (by unfold intsV; rw [List.getElem?_map, hk]; rfl)
  have e2 : (Addr.add ⟨g, 0, none⟩ k : Addr) = ⟨g, k, none⟩ := by unfold Addr.add; split <;> simp_all
  rw [e2] at h1
  exact h1
theorem cell_blk {w w' : World} {g k : Nat} (h : w'.heap[g]? = w.heap[g]?) : w'.cell? ⟨g, k, none⟩ = w.cell? ⟨g, k, none⟩ := by
  unfold World.cell?
  simp only [h]
theorem CellsAt.blk {w w' : World} {g : Nat} {vs : List Value} (h : CellsAt w ⟨g, 0, none⟩ vs) (hb : w'.heap[g]? = w.heap[g]?) (hg : g < w'.heap.size) : CellsAt w' ⟨g, 0, none⟩ vs := ⟨.inr hg, fun j u hj => by
  have e2 : (Addr.add ⟨g, 0, none⟩ j : Addr) = ⟨g, j, none⟩ := by unfold Addr.add; split <;> simp_all
  have h3 := h.2 j u hj
  rw [e2] at h3 ⊢
  rw [← h3]
  exact cell_blk hb⟩
theorem CellsAt.take {w : World} {ad : Addr} {l : List Int} (h : CellsAt w ad (intsV l)) (k : Nat) : CellsAt w ad (intsV (l.take k)) := by
  refine ⟨h.1.imp (fun h1 => ?_) id, fun j u hj => h.2 j u ?_⟩
  · unfold intsV at h1 ⊢
    rw [List.map_take, h1, List.take_nil]
  · unfold intsV at hj ⊢
    rw [List.map_take, List.getElem?_take] at hj
    split at hj
    · exact hj
    · cases hj
theorem CellsAt.grown {W0 W : World} {ad : Addr} {vs : List Value} (h : CellsAt W0 ad vs) (hb : Below W0.heap.size W0 W) (j : Nat) (u : Value) (hj : vs[j]? = some u) : W.cell? (ad.add j) = some u := by
  rcases h.1 with h1 | h1
  · rw [h1] at hj; simp at hj
  · exact (hb.cell (p := Addr.add ad j) (by unfold Addr.add; split <;> exact h1)).trans (h.2 j u hj)
def lenV : Value → Nat
  | .slice _ n _ => n
  | _ => 0

set_option maxRecDepth 100000 in
set_option maxHeartbeats 8000000 in
theorem l91Pairs_any (g P p : Nat) (w : World) (h : Rd w g P) (hP : P ≤ 90000) (hp4 : 3 ≤ p) (hp : p ≤ 20) :
    Calls Try.prog 91 #[.pointer (some ⟨g, 0, none⟩), .int .i64 p] w fun e w' => (∃ b c l, e = .returned (.slice (some ⟨b, 0, none⟩) p c) ∧ l.length = p ∧ w.heap.size ≤ b ∧ Row8 w' b l) ∧ Rd w' g (P + 30) ∧ w.grownBy w' (some g) := by
  have HGO := hid h.lt
  have hp4i : (3 : Int) ≤ (p : Int) := by omega
  have hpi : (p : Int) ≤ 20 := by omega
  have HPK := hid (fun P' q W (hr : Rd W g P') (hp : P' ≤ 99999) (hq : 1 ≤ q) (hq2 : q ≤ 1000) => pick_rd g P' q W hr hp hq hq2)
  have hmk := run_make_row' (P := Try.prog) 32 3 (.int .i64 0) 8 Try.underlying32 Try.info_intRow rfl .i64 .i64 p (by omega) (by omega)
  have M1 := hid (show ((w.alloc (.cells (madeCells #[Value.int .i64 0] p) 3)).alloc (.cells #[] 3)).heap[w.heap.size]? = some (.cells (madeCells #[Value.int .i64 0] p) 3 (0, 0)) from heap_new1 w _ _)
  have MB := hid (((Below.refl w.heap.size w).alloc (Nat.le_refl _) (.cells (madeCells #[Value.int .i64 0] p) 3)).alloc (by simp) (.cells #[] 3))
  have MG := hid (growI_new (w.alloc (.cells (madeCells #[Value.int .i64 0] p) 3)) (w.heap.size + 1) (by simp))
  have MR := hid (h.below MB.out)
  have MC := hid (IntC.made p)
  rw [World.size_alloc] at MG
  clear h
  go_enter Try.func91, Try.ntmps91
  go_wp2_with fail
  generalize World.alloc (World.alloc w _) _ = Y at M1 MB MG MR ⊢
  generalize madeCells #[Value.int .i64 0] p = C0 at *
  go_loopw [6, 7] (fun (v iv : Value) (wr : World) => ∃ i : Nat, i ≤ p ∧ iv = .int .i64 i ∧ GrowI wr (w.heap.size + 1) v (upI i) ∧ Rd wr g P ∧ Below w.heap.size w wr ∧ wr.heap[w.heap.size]? = some (.cells C0 3 (0, 0))) (fun _ iv _ => p - (intOf iv).toNat)
  case atStart => exact ⟨0, by omega, rfl, MG.out, MR.out, MB.out, M1.out⟩
  case round =>
    obtain ⟨i, hi, rfl, hgr, hrd, hbel, hm⟩ := hrel
    have HG := hid hgr
    have HRD := hid hrd
    have HB := hid hbel
    have HM := hid hm
    have HSZ := hid (lt_of_block hm)
    clear hgr hrd hbel hm
    by_cases hlt : i < p
    · have hii : (i : Int) < (p : Int) := by omega
      go_wp2_with (at_builtin; refine wpList_appendI rfl _ _ rfl (w.heap.size + 1) u6 (upI i) rfl (World.ownsRow.alloc HG.out _) _ 1 rfl (i : Int) (cell_newI _ _) ?c3 (by have := HSZ.out; simp; omega) ?_)
      case c3 => rw [upI_length]; omega
      intro v' w' hgr hgw hob
      have HG2 := hid (show GrowI w' (w.heap.size + 1) v' (upI (i + 1)) by rw [upI_succ]; exact hgr)
      have HW := hid hgw
      have HLO := hid (fun q e => (World.ownsRow.lt HG.out q e).1)
      have HB1 := hid (HB.out.alloc HB.out.size (.cells #[.int .i64 (i : Int)] 3))
      have HB2 := hid (HB1.out.grown HW.out HB1.out.size (fun q e => by have := HLO.out q e; omega))
      have HRD2 := hid ((HRD.out.below ((Below.refl _ _).alloc (Nat.le_refl _) (.cells #[.int .i64 (i : Int)] 3))).kept HW.out (fun q e => by have := HLO.out q e; have := HGO.out; omega))
      have HM2 := hid (show w'.heap[w.heap.size]? = some (.cells C0 3 (0, 0)) from (HW.out.block _ (by have := HSZ.out; simp; omega) (fun e => by have := HLO.out _ e.symm; omega)).trans (by rw [Below.heap_alloc _ _ _ HSZ.out]; exact HM.out))
      clear hgr hgw hob
      go_wp2_with fail
      go_roundw
      case rel => exact ⟨i + 1, by omega, by go_num, HG2.out, HRD2.out, HB2.out, HM2.out⟩
      case measure => simp [intOf]; omega
    · obtain rfl : i = p := by omega
      go_wp2_with fail
      go_loopw [6] (fun (v : Value) (wr : World) => ∃ (l : List Int) (C : Array Value), GrowI wr (w.heap.size + 1) v l ∧ Hid (LowI i l) ∧ l.length ≤ i ∧ Rd wr g (P + (i - l.length)) ∧ w.grownBy wr (some g) ∧ wr.heap[w.heap.size]? = some (.cells C 3 (0, 0)) ∧ Hid (IntC i C)) (fun v _ => lenV v)
      case atStart => exact ⟨upI i, C0, HG.out, hid (upI_low i), by rw [upI_length]; exact Nat.le_refl _, by rw [upI_length, Nat.sub_self]; exact HRD.out, gby_below (some g) HB.out, HM.out, MC⟩
      case round =>
        clear HG HRD HB HM HSZ M1 MB MG MR
        obtain ⟨l, C, hgr, hlow, hle, hrd, hgw, hm, hic⟩ := hrel
        have HLOW := hlow
        have HIC := hic
        have HG := hid hgr
        have HRD := hid hrd
        have HW := hid hgw
        have HM := hid hm
        have HSZ := hid (lt_of_block hm)
        clear hlow hic hrd hgw hm
        obtain ⟨L, hL⟩ : ∃ L, l.length = L := ⟨_, rfl⟩
        have HL := hid hL
        by_cases h1 : 1 < L
        · obtain ⟨gl, cap, rfl, hcap, hmax, hgl, hglt, hcells⟩ := hgr.open_ (by omega)
          have HGL := hid (show w.heap.size + 1 ≤ gl ∧ gl < wr.heap.size from ⟨hgl, hglt⟩)
          have HCE := hid hcells
          have HMX := hid hmax
          rw [hL] at hle hcap HG ⊢
          have hcapi : (L : Int) ≤ (cap : Int) := by omega
          clear hgr hcells hgl hglt hmax hL
          have h1i : (1 : Int) < (L : Int) := by omega
          have hL20 : (L : Int) ≤ 20 := by omega
          have HP1 := hid (show Calls Try.prog 63 #[.pointer (some ⟨g, 0, none⟩), .int .i64 ((L : Int) - 1)] wr fun e w' => (∃ v : Nat, v < L - 1 ∧ e = .returned (.int .i64 v)) ∧ Rd w' g (P + (i - L) + 1) ∧ wr.grownBy w' (some g) ∧ w'.heap.size = wr.heap.size from by
            have h2 := HPK.out (P + (i - l.length)) (L - 1) wr HRD.out (by omega) (by omega) (by omega)
            rw [HL.out, show ((L - 1 : Nat) : Int) = (L : Int) - 1 by omega] at h2
            exact h2)
          go_wp2_with fail
          refine HP1.out.mono ?_
          rintro e w1 ⟨⟨v1, hv1, rfl⟩, hrd, hgw, hsz⟩
          obtain ⟨k, hk⟩ : ∃ k, 1 + v1 = k := ⟨_, rfl⟩
          have hki : 1 + (v1 : Int) = (k : Int) := by omega
          have hk1 : 1 ≤ k := by omega
          have hkL : k < L := by omega
          have hkLi : (k : Int) < (L : Int) := by omega
          have hk1i : (1 : Int) ≤ (k : Int) := by omega
          have HRD1 := hid hrd
          have HSZ1 := hid hsz
          have HM1 := hid ((hgw.block _ HSZ.out (fun e => by have h2 : w.heap.size = g := Option.some.inj e; have := HGO.out; omega)).trans HM.out)
          have HG1 := hid (show GrowI w1 (w.heap.size + 1) (.slice (some ⟨gl, 0, none⟩) L cap) l from World.ownsRow.kept HG.out hgw (.inr (fun e => by have h2 : gl = g := Option.some.inj e; have := HGO.out; have := HGL.out.1; omega)))
          have HCE1 := hid (show CellsAt w1 ⟨gl, 0, none⟩ (intsV l) from ⟨.inr (show gl < w1.heap.size by rw [hsz]; exact HGL.out.2), fun j u hj => by
            have e2 : (Addr.add ⟨gl, 0, none⟩ j : Addr) = ⟨gl, j, none⟩ := by unfold Addr.add; split <;> simp_all
            have h3 := HCE.out.2 j u hj
            rw [e2] at h3 ⊢
            rw [← h3]
            exact cell_blk (hgw.block gl HGL.out.2 (fun e => by have h2 : gl = g := Option.some.inj e; have := HGO.out; have := HGL.out.1; omega))⟩)
          have HW1 := hid (gby_trans HW.out hgw)
          clear hrd hgw hsz HP1 hv1
          obtain ⟨a, b, hap, hbp, hab, hla, hlb⟩ := HLOW.out.two hk1 (by rw [HL.out]; exact hkL)
          have hca : w1.cell? ⟨gl, 0, none⟩ = some (.int .i64 (a : Int)) := HCE1.out.at_ hla
          have hcb : w1.cell? ⟨gl, k, none⟩ = some (.int .i64 (b : Int)) := HCE1.out.at_ hlb
          obtain ⟨ua, hua⟩ := HIC.out.2 a hap
          obtain ⟨ub, hub⟩ := HIC.out.2 b hbp
          have hoa : w1.cell? ⟨w.heap.size, a, none⟩ = some (.int .i64 ua) := by rw [cell_of_row _ _ _ _ _ _ HM1.out]; exact hua
          have hob : w1.cell? ⟨w.heap.size, b, none⟩ = some (.int .i64 ub) := by rw [cell_of_row _ _ _ _ _ _ HM1.out]; exact hub
          have hfa : w1.frozen? ⟨w.heap.size, a, none⟩ = false := frozen_of_row _ _ _ _ _ HM1.out
          have hfb : w1.frozen? ⟨w.heap.size, b, none⟩ = false := frozen_of_row _ _ _ _ _ HM1.out
          have hapi : (a : Int) < (i : Int) := by omega
          have hbpi : (b : Int) < (i : Int) := by omega
          have hba : ¬ b = a := fun e => hab e.symm
          have hab' : ¬ a = b := hab
          obtain ⟨W0, hW0⟩ : ∃ W0, (w1.setCell ⟨w.heap.size, a, none⟩ (.int .i64 (b : Int))).setCell ⟨w.heap.size, b, none⟩ (.int .i64 (a : Int)) = W0 := ⟨_, rfl⟩
          have HW0 := hid hW0
          have HM2 := hid (show W0.heap[w.heap.size]? = some (.cells ((C.setIfInBounds a (.int .i64 (b : Int))).setIfInBounds b (.int .i64 (a : Int))) 3 (0, 0)) by rw [← hW0]; exact heap_setCell_same _ _ _ _ _ _ (heap_setCell_same _ _ _ _ _ _ HM1.out))
          have HIC2 := hid ((HIC.out.set a (b : Int)).set b (a : Int))
          have HOT := hid (show ∀ q, q ≠ w.heap.size → W0.heap[q]? = w1.heap[q]? from fun q hq => by rw [← hW0, Below.heap_setCell _ _ _ _ (show q ≠ w.heap.size from hq), Below.heap_setCell _ _ _ _ (show q ≠ w.heap.size from hq)])
          have HSW := hid (show W0.heap.size = w1.heap.size by rw [← hW0]; simp [World.setCell])
          have HGB := hid (show w1.grownBy W0 (some w.heap.size) by rw [← hW0]; exact gby_trans (grownBy_cell w1 ⟨w.heap.size, a, none⟩ _) (grownBy_cell _ ⟨w.heap.size, b, none⟩ _))
          clear hua hub hla hlb hk hW0
          have HW2 := hid (gby_new HW1.out HGB.out (fun q e => by cases e; exact Nat.le_refl _))
          have HRD2 := hid (HRD1.out.kept HGB.out (fun q e => by cases e; exact HGO.out))
          have HCE2 := hid (HCE1.out.blk (HOT.out gl (by have := HGL.out.1; omega)) (by rw [HSW.out, HSZ1.out]; exact HGL.out.2))
          have HSL := hid (show w.heap.size + 1 ≤ W0.heap.size by have := HSW.out; have := HSZ1.out; have := HGL.out; omega)
          have HLL := hid (left_length (l := l) hk1 (by rw [HL.out]; exact hkL))
          have HLW := hid (HLOW.out.left (k := k))
          go_wp2_with fail
          rw [HW0.out]
          clear hca hcb hoa hob hfa hfb
          have hkci : (k : Int) ≤ (cap : Int) := by omega
          have hk1c : (k : Int) + 1 ≤ (cap : Int) := by omega
          have hk1L : (k : Int) + 1 ≤ (L : Int) := by omega
          have hcap1 : ¬ cap = 1 := by omega
          have h0k : (0 : Int) ≤ (k : Int) + 1 := by omega
          have hwk : IntKind.i64.wrap ((k : Int) + 1) = (k : Int) + 1 := IntWalk.i64_in _ (by omega)
          refine wp_region_lin_tail (by kernel_rfl) 9 (by kernel_rfl) (fun us => { tmps := #[.pointer (some ⟨g, 0, none⟩), .int .i64 (i : Int), undef, undef, .slice none 0 0, .slice (some ⟨w.heap.size, 0, none⟩) i i, .slice (some ⟨gl, 0, none⟩) L cap, .int .i64 (i : Int), .int .i64 (k : Int), .int .i64 (a : Int), .int .i64 (b : Int), .int .i64 (i : Int), .slice (some ⟨w.heap.size, 0, none⟩) i i, .slice (some ⟨w.heap.size + 1, 0, none⟩) 0 0, .int .i64 (i : Int), .int .i64 (i : Int), .bool false, u17, u18, u19, u20, u21, u22, .slice (some ⟨gl, 0, none⟩) L cap, .int .i64 (L : Int), .bool true, .pointer (some ⟨g, 0, none⟩), .slice (some ⟨gl, 0, none⟩) L cap, .int .i64 (L : Int), .int .i64 ((L : Int) - 1), .int .i64 (v1 : Int), .int .i64 (k : Int), .slice (some ⟨gl, 0, none⟩) L cap, .pointer (some ⟨gl, 0, none⟩), .int .i64 (a : Int), .slice (some ⟨gl, 0, none⟩) L cap, .int .i64 (k : Int), .pointer (some ⟨gl, k, none⟩), .int .i64 (b : Int), .slice (some ⟨w.heap.size, 0, none⟩) i i, .int .i64 (a : Int), .int .i64 (b : Int), .pointer (some ⟨w.heap.size, a, none⟩), .slice (some ⟨w.heap.size, 0, none⟩) i i, .int .i64 (b : Int), .int .i64 (a : Int), .pointer (some ⟨w.heap.size, b, none⟩), us 0, us 1, us 2, us 3, us 4, us 5, us 6, us 7, us 8, u56, undef, undef, undef, undef, undef, undef, undef, undef, undef], defers := [] }) (fun j => ([u47, u48, u49, u50, u51, u52, u53, u54, u55] : List Value).getD j undef) rfl (LefI W0 gl L cap k l) (fun s hs => ?_) (fun j us v hj => ?_) (fun j s us W hj hsj hd hI => ?_) (fun s us W hs hI => ?_)
          · exact ⟨(Below.refl _ W0).drew, fun j hj h => (by rw [hs j hj] at h; cases h), fun h => (by rw [hs 0 (by omega)] at h; cases h), fun h => (by rw [hs 4 (by omega)] at h; cases h)⟩
          · match j, hj with
            | 0, _ => rfl
            | 1, _ => rfl
            | 2, _ => rfl
            | 3, _ => rfl
            | 4, _ => rfl
            | 5, _ => rfl
            | 6, _ => rfl
            | 7, _ => rfl
            | 8, _ => rfl
          · have HV := hid hI.val
            match j, hj with
            | 0, _ => exact wpOp_run (u := .slice (some ⟨W.heap.size, 0, none⟩) 0 0) (w' := W.alloc (.cells #[] 3)) rfl rfl (by go_simp) ⟨_, rfl, hI.set0⟩
            | 1, _ => exact wpOp_run rfl rfl (by go_simp) ⟨_, rfl, hI.set 1 _ (by decide) rfl⟩
            | 2, _ => exact wpOp_run rfl rfl (by go_simp) ⟨_, rfl, hI.set 2 _ (by decide) rfl⟩
            | 3, _ =>
              have h1 : us 1 = _ := HV.out 1 (by omega) (hd _ rfl { on := 1, ground := .data } (by simp) rfl)
              have h2 : us 2 = _ := HV.out 2 (by omega) (hd _ rfl { on := 2, ground := .data } (by simp) rfl)
              rw [h1, h2]
              exact wpOp_run (u := .slice (some ⟨gl, 1, none⟩) (k - 1) (cap - 1)) (w' := W) rfl rfl (by go_simp) ⟨_, rfl, hI.set 3 _ (by decide) ⟨⟨gl, 1, none⟩, cap - 1, by rw [HLL.out.2.1], (HCE2.out.take k).drop 1⟩⟩
            | 4, _ =>
              have hs3 := hd _ rfl { on := 3, ground := .data } (by simp) rfl
              obtain ⟨ad, c', h3, hc3⟩ := HV.out 3 (by omega) hs3
              obtain ⟨bb, h4, h5, h6⟩ := hI.e0 (hd _ rfl { on := 0, ground := .data } (by simp) rfl) hsj
              refine wpOp_appendG (base := W0.heap.size) (l := []) (l2 := (l.take k).drop 1) (ad := ad) (c := c') rfl rfl _ _ rfl (us 0) rfl ?_ (by rw [h3]; rfl) (fun q y hq => hc3.grown hI.below q y hq) (by rw [HLL.out.2.1]; simp <;> omega) hI.below.size (fun v' w' hg hw _ => ⟨v', rfl, hI.set4 h5 hg (by rw [h4] at hw; exact hw)⟩)
              rw [h4]
              exact ⟨rfl, .inr ⟨bb, 0, #[], rfl, h5, h6, Nat.le_refl _, by unfold maxLen; omega, rfl, rfl⟩⟩
            | 5, _ => exact wpOp_run rfl rfl (by go_simp) ⟨_, rfl, hI.set 5 _ (by decide) rfl⟩
            | 6, _ => exact wpOp_run rfl rfl (by go_simp) ⟨_, rfl, hI.set 6 _ (by decide) rfl⟩
            | 7, _ =>
              have h1 : us 6 = _ := HV.out 6 (by omega) (hd _ rfl { on := 6, ground := .data } (by simp) rfl)
              rw [h1]
              exact wpOp_run (u := .int .i64 ((k + 1 : Nat) : Int)) (w' := W) rfl rfl (by go_simp) ⟨_, rfl, hI.set 7 _ (by decide) rfl⟩
            | 8, _ =>
              have h1 : us 5 = _ := HV.out 5 (by omega) (hd _ rfl { on := 5, ground := .data } (by simp) rfl)
              have h2 : us 7 = _ := HV.out 7 (by omega) (hd _ rfl { on := 7, ground := .data } (by simp) rfl)
              rw [h1, h2]
              have hcd := HCE2.out.drop (k + 1)
              refine wpOp_run (u := .slice (if cap = k + 1 then some ⟨gl, 0, none⟩ else some ⟨gl, k + 1, none⟩) (L - (k + 1)) (cap - (k + 1))) (w' := W) rfl rfl (by go_simp) ⟨_, rfl, hI.set 8 _ (by decide) ?_⟩
              by_cases hc : cap = k + 1
              · have hle0 : (l.drop (k + 1)).length = 0 := by rw [HLL.out.2.2, HL.out]; omega
                have hnil : l.drop (k + 1) = [] := List.eq_nil_of_length_eq_zero hle0
                rw [if_pos hc]
                exact ⟨_, _, by rw [hle0, show L - (k + 1) = 0 by omega], by rw [hnil]; exact ⟨.inl rfl, fun j u hj => by simp [intsV] at hj⟩⟩
              · rw [if_neg hc]
                exact ⟨_, _, by rw [HLL.out.2.2, HL.out], hcd⟩
          · have h4 := hI.e4 (hs 4 (by omega))
            obtain ⟨ad, c', h8, hc8⟩ := hI.val 8 (by omega) (hs 8 (by omega))
            have HI2 := hid hI.below
            rw [h8]
            obtain ⟨i0, hi0, hz0, hz1, hz2⟩ := info_parts Try.info_int
            have h4' := h4
            unfold GrowI at h4'
            have HCW := hid (fun j u hj => hc8.grown HI2.out j u hj)
            have HLO := hid (fun q e => (World.ownsRow.lt h4' q e).1)
            clear hI h4 hc8 hs h8
            generalize us 0 = q0 at *
            generalize us 1 = q1 at *
            generalize us 2 = q2 at *
            generalize us 3 = q3 at *
            generalize us 4 = q4 at *
            generalize us 5 = q5 at *
            generalize us 6 = q6 at *
            generalize us 7 = q7 at *
            have HN1 := hid (show ((l.take k).drop 1).length + (l.drop (k + 1)).length ≤ 20 by have := HLL.out; have := HL.out; omega)
            refine wpList_append_own _ rfl _ _ 32 rfl W0.heap.size 3 i0 (.int .i64 0) 1 8 Try.underlying32 hi0 hz0 hz1 hz2 rfl (by decide) q4 _ (intsV ((l.take k).drop 1)) rfl h4' ad _ c' (intsV (l.drop (k + 1))) rfl (by rw [intsV, List.length_map, Nat.mul_one]) HCW.out (intsV_one _) (by unfold maxLen; have := HN1.out; omega) (by have := HN1.out; omega) HI2.out.size ?_
            intro v2 w2 hown hgw hnn
            have HG2 := hid (show GrowI w2 (w.heap.size + 1) v2 ((l.take k).drop 1 ++ l.drop (k + 1)) from GrowI.lower (base := W0.heap.size) (by
              unfold GrowI
              rw [List.length_append]
              unfold intsV at hown ⊢
              rw [← List.map_append] at hown
              exact hown) HSL.out)
            have HB2 := hid (HI2.out.grown hgw HI2.out.size HLO.out)
            have HRD3 := hid (HRD2.out.below HB2.out)
            have HW3 := hid (gby_trans HW2.out (gby_below (some g) HB2.out))
            have HM3 := hid ((HB2.out.block _ (lt_of_block HM2.out)).trans HM2.out)
            have HLN := hid (show ((l.take k).drop 1 ++ l.drop (k + 1)).length + 2 = L from HLL.out.1.trans HL.out)
            clear hown hgw hnn h4'
            generalize (l.take k).drop 1 ++ l.drop (k + 1) = l2 at HG2 HLN HLW
            obtain ⟨A2, c2, rfl, _⟩ := HG2.out.own
            go_wp2_with fail
            go_roundw
            case rel => exact ⟨l2, _, HG2.out, HLW, by have := HLN.out; omega, by have := HLN.out; have := HL.out; exact HRD3.out.more (by omega), HW3.out, HM3.out, HIC2⟩
            case measure => have := HLN.out; simp [lenV]; omega
        · obtain ⟨A, c, rfl, _⟩ := hgr.own
          rw [hL] at hle ⊢
          have h1i : ¬ (1 : Int) < (L : Int) := by omega
          clear hgr hL
          have HP1 := hid (show Calls Try.prog 63 #[.pointer (some ⟨g, 0, none⟩), .int .i64 30] wr fun e w' => (∃ v : Nat, v < 30 ∧ e = .returned (.int .i64 v)) ∧ Rd w' g (P + (i - l.length) + 1) ∧ wr.grownBy w' (some g) ∧ w'.heap.size = wr.heap.size from HPK.out (P + (i - l.length)) 30 wr HRD.out (by omega) (by omega) (by omega))
          go_wp2_with fail
          refine HP1.out.mono ?_
          rintro e w1 ⟨⟨v1, hv1, rfl⟩, hrd, hgw, hsz⟩
          have HRD1 := hid hrd
          have HSZ1 := hid hsz
          have HM1 := hid ((hgw.block _ HSZ.out (fun e => by have h2 : w.heap.size = g := Option.some.inj e; have := HGO.out; omega)).trans HM.out)
          have HW1 := hid (gby_trans HW.out hgw)
          clear hrd hgw hsz HP1
          by_cases hv0 : v1 = 0
          · subst hv0
            have HP2 := hid (HPK.out (P + (i - l.length) + 1) i w1 HRD1.out (by omega) (by omega) (by omega))
            go_wp2_with fail
            refine HP2.out.mono ?_
            rintro e w2 ⟨⟨v2, hv2, rfl⟩, hrd, hgw, hsz⟩
            have HRD2 := hid hrd
            have HM2 := hid ((hgw.block _ (lt_of_block HM1.out) (fun e => by have h2 : w.heap.size = g := Option.some.inj e; have := HGO.out; omega)).trans HM1.out)
            have HW2 := hid (gby_trans HW1.out hgw)
            clear hrd hgw hsz HP2
            obtain ⟨ua, hua⟩ := HIC.out.2 0 (by omega)
            have hoa : w2.cell? ⟨w.heap.size, 0, none⟩ = some (.int .i64 ua) := by rw [cell_of_row _ _ _ _ _ _ HM2.out]; exact hua
            have hfa : w2.frozen? ⟨w.heap.size, 0, none⟩ = false := frozen_of_row _ _ _ _ _ HM2.out
            have hi0 : (0 : Int) < (i : Int) := by omega
            clear hua
            go_wp2_with fail
            have HM3 := hid (show (w2.setCell ⟨w.heap.size, 0, none⟩ (.int .i64 (v2 : Int))).heap[w.heap.size]? = some (.cells (C.setIfInBounds 0 (.int .i64 (v2 : Int))) 3 (0, 0)) from heap_setCell_same _ _ _ _ _ _ HM2.out)
            obtain ⟨lo, hlo, hro⟩ := (HIC.out.set 0 (v2 : Int)).row HM3.out
            have HRO := hid hro
            have HLO := hid hlo
            have HRD3 := hid (HRD2.out.kept (grownBy_cell w2 ⟨w.heap.size, 0, none⟩ (.int .i64 (v2 : Int))) (fun q e => by cases e; exact HGO.out))
            have HW3 := hid (gby_new HW2.out (grownBy_cell w2 ⟨w.heap.size, 0, none⟩ (.int .i64 (v2 : Int))) (fun q e => by cases e; exact Nat.le_refl _))
            clear hlo hro hoa hfa
            go_ret
            exact ⟨⟨_, _, lo, rfl, HLO.out, Nat.le_refl _, HRO.out⟩, HRD3.out.more (by omega), HW3.out⟩
          · have hv0i : ((v1 : Int) == 0) = false := by simp; omega
            obtain ⟨lo, hlo, hro⟩ := HIC.out.row HM1.out
            have HRO := hid hro
            have HLO := hid hlo
            clear hlo hro
            go_wp2_with fail
            go_ret
            exact ⟨⟨_, _, lo, rfl, HLO.out, Nat.le_refl _, HRO.out⟩, HRD1.out.more (by omega), HW1.out⟩
end Go.Proofs.Ytonhnmpgikmlpaa

/- l92Join, DrawJoinPairs: two lists that are drawn for joining, by their contracts. -/
namespace Go.Proofs.Ytonhnmpgikmlpaa
open Go.RowKit Go.Shelf

/-- A drawn list of numbers, in a block behind the reader's. -/
def DrL (w : World) (g : Nat) (v : Value) : Prop := ∃ b c l, v = .slice (some ⟨b, 0, none⟩) l.length c ∧ Row8 w b l ∧ g < b ∧ l.length ≤ 20
theorem DrL.grow {w w' : World} {g : Nat} {v : Value} (h : DrL w g v) (hg : w.grownBy w' (some g)) : DrL w' g v := by
  obtain ⟨b, c, l, h1, ⟨cs, h2, h3⟩, h4, h5⟩ := h
  exact ⟨b, c, l, h1, ⟨cs, (hg.block b (lt_of_block h2) (fun e => by have := Option.some.inj e; omega)).trans h2, h3⟩, h4, h5⟩
theorem DrL.below {w w' : World} {g : Nat} {v : Value} (h : DrL w g v) (hb : Below w.heap.size w w') : DrL w' g v := by
  obtain ⟨b, c, l, h1, h2, h4, h5⟩ := h
  exact ⟨b, c, l, h1, h2.below hb h2.lt, h4, h5⟩
theorem DrL.of_grow {w : World} {base g : Nat} {v : Value} {l : List Int} (h : GrowI w base v l) (h0 : 0 < l.length) (hg : g < base) (hl : l.length ≤ 20) : DrL w g v := by
  obtain ⟨A, c, rfl, hown⟩ := h.own
  rcases hown with ⟨_, rfl⟩ | ⟨b, rfl, hb, hr⟩
  · exact absurd h0 (by simp)
  · exact ⟨b, c, l, rfl, hr, by omega, hl⟩
/-- What a drawing for joining hands back. -/
def JoinDr (w : World) (e : Ending) : Prop := ∃ (n m k : Nat) (A : Option Addr) (c : Nat) (la : List Int) (A2 : Option Addr) (c2 : Nat) (lb : List Int),
  e = .returned (.tuple #[.int .i64 (n : Int), .int .i64 (m : Int), .slice A la.length c, .int .i64 (k : Int), .slice A2 lb.length c2]) ∧ n ≤ 3 ∧ m ≤ 3 ∧ k ≤ 3 ∧ la.length ≤ 20 ∧ lb.length ≤ 20 ∧ Ints w w.heap.size A la ∧ Ints w w.heap.size A2 lb
theorem JoinDr.of {w : World} {g n m k : Nat} {va vb : Value} (ha : DrL w g va) (hb : DrL w g vb) (hn : n ≤ 3) (hm : m ≤ 3) (hk : k ≤ 3) :
    JoinDr w (.returned (.tuple #[.int .i64 (n : Int), .int .i64 (m : Int), va, .int .i64 (k : Int), vb])) := by
  obtain ⟨b, c, l, rfl, h2, _, h5⟩ := ha
  obtain ⟨b', c', l', rfl, h2', _, h5'⟩ := hb
  exact ⟨n, m, k, _, c, l, _, c', l', rfl, hn, hm, hk, h5, h5', h2.ints h2.lt, h2'.ints h2'.lt⟩

theorem results_tmp5 {fn : Func} {t u v x y : Tmp} (h : fn.results = #[.tmp t, .tmp u, .tmp v, .tmp x, .tmp y]) (tmps : Array Value) (P : Program) (w : World) :
    (results fn tmps).run P w = .ok (.tuple #[tmps.getD t undef, tmps.getD u undef, tmps.getD v undef, tmps.getD x undef, tmps.getD y undef]) w := by
  simp [results, h]

set_option maxRecDepth 100000 in
set_option maxHeartbeats 4000000 in
theorem l92Join_any (A : Option Addr) (len cap : Nat) (w : World) (h : CodeAt w A len) (hl : len ≤ 1048576) (hc : len ≤ cap) (hc2 : cap ≤ 9223372036854775807) :
    Calls Try.prog 99 #[.slice A len cap] w fun e w' => JoinDr w' e ∧ Below w.heap.size w w' := by
  have HOP := hid (l6Open_any A len cap w (by omega) hc hc2)
  have HRD := hid (fun len' (h1 : len' ≤ len) (h2 : len' ≤ 2000) => open_rd (cap := cap) h h1 h2)
  have HPK := hid (fun P q W (hr : Rd W w.heap.size P) (hp : P ≤ 99999) (hq : 1 ≤ q) (hq2 : q ≤ 1000) => pick_rd w.heap.size P q W hr hp hq hq2)
  have HPP := hid (fun P p W (hr : Rd W w.heap.size P) (hP : P ≤ 90000) (h4 : 4 ≤ p) (h20 : p ≤ 20) => l91Pairs_any w.heap.size P p W hr hP (Nat.le_of_succ_le h4) h20)
  have HOF := hid (fun P n m W (hr : Rd W w.heap.size P) (hP : P ≤ 90000) (hn : n ≤ 10) (hm1 : 1 ≤ m) (hm : m ≤ 10) => l91Of_any w.heap.size P n m W hr hP hn hm1 hm)
  have HQ := hid (fun (v : Nat) (hv : v < 24) => show ∃ q : Nat, q ≤ 1 ∧ (v : Int) / 23 = (q : Int) from ⟨v / 23, by omega, by omega⟩)
  clear h
  go_enter Try.func99, Try.ntmps99
  go_wp2_with fail
  refine HOP.out.mono ?_
  rintro e w1 ⟨rfl, len', h1, h2, _, rfl⟩
  have HS := hid (HPK.out 0 3 _ (HRD.out len' h1 h2) (by omega) (by omega) (by omega))
  have HB := hid ((Below.refl _ w).alloc (Nat.le_refl _) (.cells #[.slice A len' cap, .int .i64 0] 124))
  have HGZ := hid (show w.heap.size < (w.alloc (.cells #[.slice A len' cap, .int .i64 0] 124)).heap.size by simp)
  go_wp2_with fail
  refine HS.out.mono ?_
  rintro e w2 ⟨⟨v1, hv1, rfl⟩, hrd, hgw, hsz⟩
  have HB2 := hid (HB.out.grown hgw HB.out.size (fun k e => by cases e; exact Nat.le_refl _))
  have HZ2 := hid (Nat.lt_of_lt_of_le HGZ.out hgw.size)
  have HS2 := hid (HPK.out _ 3 _ hrd (by omega) (by omega) (by omega))
  obtain ⟨n, hn⟩ : ∃ n, 1 + v1 = n := ⟨_, rfl⟩
  have hni : 1 + (v1 : Int) = (n : Int) := by omega
  clear hrd hgw hsz HS HB HGZ
  go_wp2_with fail
  refine HS2.out.mono ?_
  rintro e w3 ⟨⟨v2, hv2, rfl⟩, hrd, hgw, hsz⟩
  have HB3 := hid (HB2.out.grown hgw HB2.out.size (fun k e => by cases e; exact Nat.le_refl _))
  have HZ3 := hid (Nat.lt_of_lt_of_le HZ2.out hgw.size)
  have HS3 := hid (HPK.out _ 2 _ hrd (by omega) (by omega) (by omega))
  obtain ⟨m, hm⟩ : ∃ m, 1 + v2 = m := ⟨_, rfl⟩
  have hmi : 1 + (v2 : Int) = (m : Int) := by omega
  clear hrd hgw hsz HS2 HB2 HZ2
  go_wp2_with fail
  refine HS3.out.mono ?_
  rintro e w4 ⟨⟨v3, hv3, rfl⟩, hrd, hgw, hsz⟩
  have HB4 := hid (HB3.out.grown hgw HB3.out.size (fun k e => by cases e; exact Nat.le_refl _))
  have HZ4 := hid (Nat.lt_of_lt_of_le HZ3.out hgw.size)
  have HS4 := hid (HPK.out _ 24 _ hrd (by omega) (by omega) (by omega))
  clear hrd hgw hsz HS3 HB3 HZ3
  go_wp2_with fail
  refine HS4.out.mono ?_
  rintro e w5 ⟨⟨v4, hv4, rfl⟩, hrd, hgw, hsz⟩
  have HB5 := hid (HB4.out.grown hgw HB4.out.size (fun k e => by cases e; exact Nat.le_refl _))
  have HZ5 := hid (Nat.lt_of_lt_of_le HZ4.out hgw.size)
  obtain ⟨q4, hq4, hd4⟩ := HQ.out v4 hv4
  obtain ⟨k, hk⟩ : ∃ k, 1 + v3 + q4 = k := ⟨_, rfl⟩
  have hki : 1 + (v3 : Int) + (q4 : Int) = (k : Int) := by omega
  obtain ⟨p, hp⟩ : ∃ p, 2 * (n + m) = p := ⟨_, rfl⟩
  have hpi : 2 * ((n : Int) + (m : Int)) = (p : Int) := by omega
  obtain ⟨p2, hp2⟩ : ∃ p, 2 * (n + k) = p := ⟨_, rfl⟩
  have hp2i : 2 * ((n : Int) + (k : Int)) = (p2 : Int) := by omega
  have hn3 : n ≤ 3 := by omega
  have hm3 : m ≤ 3 := by omega
  have hk3 : k ≤ 3 := by omega
  have hn1 : 1 ≤ n := by omega
  have hm1 : 1 ≤ m := by omega
  have hk1 : 1 ≤ k := by omega
  have hn3i : (n : Int) ≤ 3 := by omega
  have hm3i : (m : Int) ≤ 3 := by omega
  have hk3i : (k : Int) ≤ 3 := by omega
  have HS5 := hid (HPP.out _ p _ hrd (by omega) (by omega) (by omega))
  clear hrd hgw hsz HS4 HB4 HZ4 hn hm hk
  go_wp2_with fail
  refine HS5.out.mono ?_
  rintro e w6 ⟨⟨b6, c6, l6, rfl, hl6, hb6, hr6⟩, hrd, hgw⟩
  have HB6 := hid (HB5.out.grown hgw HB5.out.size (fun k e => by cases e; exact Nat.le_refl _))
  have HZ6 := hid (Nat.lt_of_lt_of_le HZ5.out hgw.size)
  have HA6 := hid (show DrL w6 w.heap.size (.slice (some ⟨b6, 0, none⟩) p c6) from ⟨b6, c6, l6, by rw [hl6], hr6, by have := HZ5.out; omega, by omega⟩)
  obtain ⟨va, hva⟩ : ∃ va, Value.slice (some ⟨b6, 0, none⟩) p c6 = va := ⟨_, rfl⟩
  rw [hva] at HA6 ⊢
  have HS6 := hid (HPP.out _ p2 _ hrd (by omega) (by omega) (by omega))
  clear hrd hgw HS5 HB5 HZ5 hva hr6 hb6 hl6
  go_wp2_with fail
  refine HS6.out.mono ?_
  rintro e w7 ⟨⟨b7, c7, l7, rfl, hl7, hb7, hr7⟩, hrd, hgw⟩
  have HB7 := hid (HB6.out.grown hgw HB6.out.size (fun k e => by cases e; exact Nat.le_refl _))
  have HZ7 := hid (Nat.lt_of_lt_of_le HZ6.out hgw.size)
  have HA7 := hid (HA6.out.grow hgw)
  have HC7 := hid (show DrL w7 w.heap.size (.slice (some ⟨b7, 0, none⟩) p2 c7) from ⟨b7, c7, l7, by rw [hl7], hr7, by have := HZ6.out; omega, by omega⟩)
  obtain ⟨vb, hvb⟩ : ∃ vb, Value.slice (some ⟨b7, 0, none⟩) p2 c7 = vb := ⟨_, rfl⟩
  rw [hvb] at HC7 ⊢
  have HS7 := hid (HPK.out _ 2 _ hrd (by omega) (by omega) (by omega))
  clear hrd hgw HS6 HB6 HZ6 HA6 hvb hr7 hb7 hl7
  go_wp2_with fail
  refine HS7.out.mono ?_
  rintro e w8 ⟨⟨v8, hv8, rfl⟩, hrd, hgw, hsz⟩
  have HB8 := hid (HB7.out.grown hgw HB7.out.size (fun k e => by cases e; exact Nat.le_refl _))
  have HZ8 := hid (Nat.lt_of_lt_of_le HZ7.out hgw.size)
  have HA8 := hid (HA7.out.grow hgw)
  have HC8 := hid (HC7.out.grow hgw)
  have HR8 := hid hrd
  clear hrd hgw hsz HS7 HB7 HZ7 HA7 HC7
  by_cases hv0 : v8 = 0
  · subst hv0
    have HS8 := hid (HOF.out _ n m _ HR8.out (by omega) (by omega) hm1 (by omega))
    go_wp2_with fail
    refine HS8.out.mono ?_
    rintro e w9 ⟨⟨v9, ts, rfl, hgr, hln, htx⟩, hrd, hgw⟩
    have HB9 := hid (HB8.out.grown hgw HB8.out.size (fun k e => by cases e; exact Nat.le_refl _))
    have HZ9 := hid (Nat.lt_of_lt_of_le HZ8.out hgw.size)
    have HG9 := hid (htx.grid hln hn1 (by omega) hm1 (by omega))
    have HR9 := hid hrd
    obtain ⟨A9, c9, rfl, hst⟩ := hgr.strs
    have HS9 := hid (l2Pairs_any A9 c9 w9.heap.size n m ts w9 hst (Nat.le_refl _) HG9.out)
    clear hgr hln htx hrd hgw hst HS8 HB8 HZ8 HA8
    go_wp2_with fail
    refine HS9.out.mono ?_
    rintro e w10 ⟨v10, rfl, hgr, hb⟩
    have HB10 := hid (HB9.out.trans (hb.mono HB9.out.size))
    have HZ10 := hid (Nat.lt_of_lt_of_le HZ9.out hb.size)
    have HA10 := hid (show DrL w10 w.heap.size v10 from DrL.of_grow hgr (by rw [pairsR_length]; omega) HZ9.out (by rw [pairsR_length]; omega))
    have HR10 := hid (HR9.out.below hb)
    have HS10 := hid (HOF.out _ n k _ HR10.out (by omega) (by omega) hk1 (by omega))
    clear hgr hb HS9 HB9 HR9 HZ9
    go_wp2_with fail
    refine HS10.out.mono ?_
    rintro e w11 ⟨⟨v11, ts2, rfl, hgr, hln, htx⟩, hrd, hgw⟩
    have HB11 := hid (HB10.out.grown hgw HB10.out.size (fun k e => by cases e; exact Nat.le_refl _))
    have HZ11 := hid (Nat.lt_of_lt_of_le HZ10.out hgw.size)
    have HA11 := hid (HA10.out.grow hgw)
    have HG11 := hid (htx.grid hln hn1 (by omega) hk1 (by omega))
    obtain ⟨A11, c11, rfl, hst⟩ := hgr.strs
    have HS11 := hid (l2Pairs_any A11 c11 w11.heap.size n k ts2 w11 hst (Nat.le_refl _) HG11.out)
    clear hgr hln htx hrd hgw hst HS10 HB10 HZ10 HA10
    go_wp2_with fail
    refine HS11.out.mono ?_
    rintro e w12 ⟨v12, rfl, hgr, hb⟩
    have HB12 := hid (HB11.out.trans (hb.mono HB11.out.size))
    have HA12 := hid (HA11.out.below hb)
    have HC12 := hid (show DrL w12 w.heap.size v12 from DrL.of_grow hgr (by rw [pairsR_length]; omega) HZ11.out (by rw [pairsR_length]; omega))
    clear hgr hb HS11
    have HJ := hid (JoinDr.of (n := n) (m := m) (k := k) HA12.out HC12.out hn3 hm3 hk3)
    go_wp2_with fail
    exact bodyPost_ret (results_tmp5 (t := 2) (u := 3) (v := 4) (x := 5) (y := 6) rfl _ _ _) rfl ⟨HJ.out, HB12.out⟩
  · have hv0i : ((v8 : Int) == 0) = false := by simp; omega
    have HJ := hid (JoinDr.of (n := n) (m := m) (k := k) HA8.out HC8.out hn3 hm3 hk3)
    go_wp2_with fail
    exact bodyPost_ret (results_tmp5 (t := 2) (u := 3) (v := 4) (x := 5) (y := 6) rfl _ _ _) rfl ⟨HJ.out, HB8.out⟩

set_option maxRecDepth 100000 in
set_option maxHeartbeats 1000000 in
theorem drawJoinPairs_any (A : Option Addr) (len cap : Nat) (w : World) (h : CodeAt w A len) (hl : len ≤ 1048576) (hc : len ≤ cap) (hc2 : cap ≤ 9223372036854775807) :
    Calls Try.prog 38 #[.slice A len cap] w fun e w' => JoinDr w' e ∧ Below w.heap.size w w' := by
  have H := hid (l92Join_any A len cap w h hl hc hc2)
  clear h
  go_enter Try.func38, Try.ntmps38
  go_wp2_with fail
  refine H.out.mono ?_
  rintro e w1 ⟨⟨n, m, k, A1, c1, la, A2, c2, lb, rfl, h1, h2, h3, h4, h5, h6, h7⟩, hb⟩
  have HJ := hid (show JoinDr w1 _ from ⟨n, m, k, A1, c1, la, A2, c2, lb, rfl, h1, h2, h3, h4, h5, h6, h7⟩)
  have HB := hid hb
  clear h1 h2 h3 h4 h5 h6 h7 hb
  go_wp2_with fail
  exact bodyPost_ret (results_tmp5 (t := 2) (u := 3) (v := 4) (x := 5) (y := 6) rfl _ _ _) rfl ⟨HJ.out, HB.out⟩
end Go.Proofs.Ytonhnmpgikmlpaa

/- Joined pairings of which neither has pairs that cross have none, in plain words. No function of the program is named. -/
namespace Go.Proofs.Ytonhnmpgikmlpaa

/-- Ports x, y do not part z from u on a circle. -/
def sepB (f : Nat → Nat) (x y z : Nat) : Bool := decide (f x < f z) ^^ decide (f y < f z)
/-- No two pairs of partners cross. -/
def Plane (N : Nat) (s : Nat → Nat) : Prop := ∀ x y, x < N → y < N → ¬ (x < y ∧ y < s x ∧ s x < s y)
/-- A pair that is another one is parted by none. -/
theorem Plane.sep {N : Nat} {s : Nat → Nat} (h : Plane N s) (hlt : ∀ q, q < N → s q < N) (hb : ∀ q, q < N → s (s q) = q) {x z : Nat} (hx : x < N) (hz : z < N) (h1 : z ≠ x) (h2 : z ≠ s x) :
    sepB (fun i => i) x (s x) z = sepB (fun i => i) x (s x) (s z) := by
  have hsx := hlt x hx
  have hsz := hlt z hz
  have n1 : s z ≠ x := fun e => h2 (by rw [← e, hb z hz])
  have n2 : s z ≠ s x := fun e => h1 (by have := congrArg s e; rwa [hb z hz, hb x hx] at this)
  have a1 := h x z hx hz
  have a2 := h z x hz hx
  have a3 := h x (s z) hx hsz
  have a4 := h (s z) x hsz hx
  have a5 := h (s x) z hsx hz
  have a6 := h z (s x) hz hsx
  have a7 := h (s x) (s z) hsx hsz
  have a8 := h (s z) (s x) hsz hsx
  rw [hb x hx] at a5 a6 a7 a8
  rw [hb z hz] at a3 a4 a7 a8
  try rw [hb x hx] at a6
  unfold sepB
  generalize s x = y at *
  generalize s z = u at *
  by_cases c1 : x < z <;> by_cases c2 : y < z <;> by_cases c3 : x < u <;> by_cases c4 : y < u <;> simp [c1, c2, c3, c4] <;> omega
/-- The same on a circle that begins elsewhere. -/
theorem sepB_turn {f g : Nat → Nat} {W : Nat → Bool} {x y z u : Nat}
    (hz : ∀ i, i = x ∨ i = y → ∀ j, j = z ∨ j = u → decide (g i < g j) = (decide (f i < f j) ^^ (W i ^^ W j)))
    (h : sepB f x y z = sepB f x y u) : sepB g x y z = sepB g x y u := by
  unfold sepB at *
  rw [hz x (.inl rfl) z (.inl rfl), hz y (.inr rfl) z (.inl rfl), hz x (.inl rfl) u (.inr rfl), hz y (.inr rfl) u (.inr rfl)]
  revert h
  generalize decide (f x < f z) = b1
  generalize decide (f y < f z) = b2
  generalize decide (f x < f u) = b3
  generalize decide (f y < f u) = b4
  cases b1 <;> cases b2 <;> cases b3 <;> cases b4 <;> cases W x <;> cases W y <;> cases W z <;> cases W u <;> decide

section
variable {N : Nat} {s t : Nat → Nat}
/-- How the ends of the first k pairs of a path part a port. -/
def partA (f : Nat → Nat) (s t : Nat → Nat) (p z : Nat) : Nat → Bool
  | 0 => false
  | k + 1 => partA f s t p z k ^^ sepB f (goN s t k p) (s (goN s t k p)) z
/-- The same, told by what is sewn to what. -/
def partB (f : Nat → Nat) (s t : Nat → Nat) (p z : Nat) : Nat → Bool
  | 0 => decide (f p < f z)
  | k + 1 => partB f s t p z k ^^ sepB f (s (goN s t k p)) (goN s t (k + 1) p) z
theorem partA_B (f : Nat → Nat) (p z : Nat) : ∀ k, partA f s t p z (k + 1) = (partB f s t p z k ^^ decide (f (s (goN s t k p)) < f z))
  | 0 => by
    show (false ^^ sepB f p (s p) z) = _
    rw [Bool.false_xor]
    rfl
  | k + 1 => by
    show (partA f s t p z (k + 1) ^^ sepB f (goN s t (k + 1) p) (s (goN s t (k + 1) p)) z) = _
    rw [partA_B f p z k]
    unfold sepB
    show _ = (partB f s t p z k ^^ sepB f (s (goN s t k p)) (goN s t (k + 1) p) z ^^ decide (f (s (goN s t (k + 1) p)) < f z))
    unfold sepB
    generalize partB f s t p z k = b1
    generalize decide (f (s (goN s t k p)) < f z) = b2
    generalize decide (f (goN s t (k + 1) p) < f z) = b3
    generalize decide (f (s (goN s t (k + 1) p)) < f z) = b4
    cases b1 <;> cases b2 <;> cases b3 <;> cases b4 <;> rfl
theorem partA_same {f : Nat → Nat} {p z u : Nat} : ∀ k, (∀ j, j < k → sepB f (goN s t j p) (s (goN s t j p)) z = sepB f (goN s t j p) (s (goN s t j p)) u) → partA f s t p z k = partA f s t p u k
  | 0, _ => rfl
  | k + 1, h => by
    unfold partA
    rw [partA_same k (fun j hj => h j (by omega)), h k (by omega)]
theorem partB_same {f : Nat → Nat} {p z u : Nat} (h0 : decide (f p < f z) = decide (f p < f u)) : ∀ k, (∀ j, j < k → sepB f (s (goN s t j p)) (goN s t (j + 1) p) z = sepB f (s (goN s t j p)) (goN s t (j + 1) p) u) → partB f s t p z k = partB f s t p u k
  | 0, _ => h0
  | k + 1, h => by
    unfold partB
    rw [partB_same h0 k (fun j hj => h j (by omega)), h k (by omega)]
theorem partB_out {f : Nat → Nat} {p z : Nat} : ∀ k, (∀ j, j < k → sepB f (s (goN s t j p)) (goN s t (j + 1) p) z = false) → partB f s t p z k = decide (f p < f z)
  | 0, _ => rfl
  | k + 1, h => by
    unfold partB
    rw [partB_out k (fun j hj => h j (by omega)), h k (by omega), Bool.xor_false]
/-- There and back a path is as long. -/
theorem plen_end (h : Sewn N s t) {p : Nat} (hp : p < N) (hl : t p = p) : plen N s t (pend N s t p) = plen N s t p := by
  have he := loose_end h hp hl
  obtain ⟨h1, _, _, _⟩ := plen_facts h hp
  have e0 := end_back h hp (plen N s t p - 1) (by omega)
  rw [show plen N s t p - 1 - (plen N s t p - 1) = 0 by omega] at e0
  have e0' : s (goN s t (plen N s t p - 1) (pend N s t p)) = p := by rw [e0]; exact h.ss _ hp
  have hL := plen_of h (pend_lt h hp) (k := plen N s t p - 1) (.inl (by rw [e0']; exact hl)) (fun j hj => back_nostop h hp he j (by omega))
  omega
/-- Paths from two loose ports do not meet the same way. -/
theorem loose_apart (h : Sewn N s t) {p q : Nat} (hp : p < N) (hq : q < N) (hpl : t p = p) (hql : t q = q) (hne : p ≠ q) {i j : Nat} (hi : i < plen N s t p) (hj : j < plen N s t q) : goN s t i p ≠ goN s t j q := by
  intro e
  rcases Nat.le_total i j with hij | hij
  · have e2 : goN s t (j - i + i) q = goN s t i p := by rw [show j - i + i = j by omega]; exact e.symm
    rw [goN_add] at e2
    have e3 := goN_inj h (goN_lt h hq _) hp i e2
    rcases Nat.eq_zero_or_pos (j - i) with h0 | h0
    · rw [h0] at e3; exact hne e3.symm
    · have h5 := (path_sewn h hq (j := j - i - 1) (by omega)).2
      rw [show j - i - 1 + 1 = j - i by omega, e3] at h5
      exact h5 hpl
  · have e2 : goN s t (i - j + j) p = goN s t j q := by rw [show i - j + j = i by omega]; exact e
    rw [goN_add] at e2
    have e3 := goN_inj h (goN_lt h hp _) hq j e2
    rcases Nat.eq_zero_or_pos (i - j) with h0 | h0
    · rw [h0] at e3; exact hne e3
    · have h5 := (path_sewn h hp (j := i - j - 1) (by omega)).2
      rw [show i - j - 1 + 1 = i - j by omega, e3] at h5
      exact h5 hql
/-- Nor the other way. -/
theorem loose_apart' (h : Sewn N s t) {p q : Nat} (hp : p < N) (hq : q < N) (hpl : t p = p) (hql : t q = q) (hne : p ≠ pend N s t q) {i j : Nat} (hi : i < plen N s t p) (hj : j < plen N s t q) : goN s t i p ≠ s (goN s t j q) := by
  have e := end_back h hq (plen N s t q - 1 - j) (by omega)
  rw [show plen N s t q - 1 - (plen N s t q - 1 - j) = j by omega] at e
  rw [← e]
  exact loose_apart h hp (pend_lt h hq) hpl (loose_end h hq hql) hne hi (by rw [plen_end h hq hql]; omega)

/-- Both ends of a path lie on one side of another. -/
theorem ends_sep (h : Sewn N s t) (f : Nat → Nat)
    (hpair : ∀ x z, x < N → z < N → z ≠ x → z ≠ s x → sepB f x (s x) z = sepB f x (s x) (s z))
    (hsew : ∀ y z, y < N → z < N → t y ≠ y → t z ≠ z → z ≠ y → z ≠ t y → sepB f y (t y) z = sepB f y (t y) (t z))
    (hin : ∀ y z, y < N → z < N → t y ≠ y → t z = z → decide (f y < f z) = decide (f (t y) < f z))
    (hout : ∀ y z, y < N → z < N → t y = y → t z ≠ z → decide (f y < f z) = decide (f y < f (t z)))
    {p q : Nat} (hp : p < N) (hq : q < N) (hpl : t p = p) (hql : t q = q) (h1 : p ≠ q) (h2 : p ≠ pend N s t q) :
    sepB f q (pend N s t q) p = sepB f q (pend N s t q) (pend N s t p) := by
  obtain ⟨l1, _, _, l4⟩ := plen_facts h hq
  obtain ⟨k1, _, _, k4⟩ := plen_facts h hp
  have hqe := loose_end h hq hql
  have hpe := loose_end h hp hpl
  -- (1) partners
  have step1 : ∀ i, i < plen N s t p → partA f s t q (goN s t i p) (plen N s t q) = partA f s t q (s (goN s t i p)) (plen N s t q) := fun i hi =>
    partA_same _ fun j hj => hpair _ _ (goN_lt h hq j) (goN_lt h hp i) (loose_apart h hp hq hpl hql h1 hi hj) (loose_apart' h hp hq hpl hql h2 hi hj)
  -- (2) what is sewn
  obtain ⟨K, hK⟩ : ∃ K, plen N s t q = K + 1 := ⟨plen N s t q - 1, by omega⟩
  have hend : pend N s t q = s (goN s t K q) := by unfold pend; rw [hK]; rfl
  have step2 : ∀ i, i + 1 < plen N s t p → partA f s t q (s (goN s t i p)) (plen N s t q) = partA f s t q (goN s t (i + 1) p) (plen N s t q) := fun i hi => by
    have hz := k4 i hi
    have hzl : s (goN s t i p) < N := h.slt _ (goN_lt h hp i)
    have e : goN s t (i + 1) p = t (s (goN s t i p)) := rfl
    rw [hK, partA_B, partA_B, e, ← hend]
    rw [partB_same (hout q _ hq hzl hql hz.1) K fun j hj => ?_, hout _ _ (pend_lt h hq) hzl hqe hz.1]
    have hy := l4 j (by omega)
    refine hsew _ _ (h.slt _ (goN_lt h hq j)) hzl hy.1 hz.1 (fun e2 => ?_) (fun e2 => ?_)
    · have e3 := congrArg s e2
      rw [h.ss _ (goN_lt h hp i), h.ss _ (goN_lt h hq j)] at e3
      exact loose_apart h hp hq hpl hql h1 (by omega) (by omega) e3
    · have e3 := congrArg s e2
      rw [h.ss _ (goN_lt h hp i)] at e3
      exact loose_apart' h hp hq hpl hql h2 (j := j + 1) (by omega) (by omega) e3
  -- (3) along the path
  have step3 : ∀ i, i < plen N s t p → partA f s t q p (plen N s t q) = partA f s t q (s (goN s t i p)) (plen N s t q) := fun i => by
    induction i with
    | zero => exact fun hi => step1 0 hi
    | succ i ih => exact fun hi => by rw [ih (by omega), step2 i hi, step1 (i + 1) hi]
  have hall := step3 (plen N s t p - 1) (by omega)
  rw [show s (goN s t (plen N s t p - 1) p) = pend N s t p from rfl] at hall
  -- (4) seen from loose ports
  have step4 : ∀ z, z < N → t z = z → partA f s t q z (plen N s t q) = sepB f q (pend N s t q) z := fun z hz hzl => by
    rw [hK, partA_B, ← hend, partB_out]
    · rfl
    · intro j hj
      have hy := l4 j (by omega)
      unfold sepB
      rw [hin _ _ (h.slt _ (goN_lt h hq j)) hz hy.1 hzl]
      exact Bool.xor_self _
  rw [step4 p hp hpl, step4 _ (pend_lt h hp) hpe] at hall
  exact hall
end

/-- The place of a port on a circle: the ports of the second pairing stand where the first one's right ends stop, its left ends first. -/
def posN (n m p q i : Nat) : Nat := if i < m + n then i else if i < p then i + q else if i < p + q - n then m + n + n + (i - p) else m + n + (i - (p + q - n))
section
variable {n m p q : Nat}
theorem pos_aa {i j : Nat} (_hp : m + n ≤ p) (hi : i < p) (hj : j < p) : decide (posN n m p q i < posN n m p q j) = decide (i < j) := by
  unfold posN
  rw [decide_eq_decide]
  rw [if_pos hi, if_pos hj]
  split <;> split <;> omega
theorem pos_ab {i j : Nat} (hp : m + n ≤ p) (hq : n ≤ q) (hi : i < p) (hj : p ≤ j) (hj2 : j < p + q) : decide (posN n m p q i < posN n m p q j) = decide (i < m + n) := by
  unfold posN
  rw [decide_eq_decide]
  rw [if_pos hi, if_neg (show ¬ j < m + n by omega), if_neg (show ¬ j < p by omega)]
  split <;> split <;> omega
theorem pos_ba {i j : Nat} (hp : m + n ≤ p) (hq : n ≤ q) (hi : p ≤ i) (hi2 : i < p + q) (hj : j < p) : decide (posN n m p q i < posN n m p q j) = decide (m + n ≤ j) := by
  unfold posN
  rw [decide_eq_decide]
  rw [if_pos hj, if_neg (show ¬ i < m + n by omega), if_neg (show ¬ i < p by omega)]
  split <;> split <;> omega
theorem pos_bb {i j : Nat} (hp : m + n ≤ p) (_hq : n ≤ q) (hi : p ≤ i) (hi2 : i < p + q) (hj : p ≤ j) (hj2 : j < p + q) :
    decide (posN n m p q i < posN n m p q j) = (decide (i - p < j - p) ^^ (decide (p + q - n ≤ i) ^^ decide (p + q - n ≤ j))) := by
  have e : (decide (posN n m p q i < posN n m p q j) = true) ↔ ((p + q - n ≤ i ∧ ¬ p + q - n ≤ j) ∨ (i < j ∧ (p + q - n ≤ i ↔ p + q - n ≤ j))) := by
    unfold posN
    rw [decide_eq_true_iff, if_neg (show ¬ i < m + n by omega), if_neg (show ¬ i < p by omega), if_neg (show ¬ j < m + n by omega), if_neg (show ¬ j < p by omega)]
    split <;> split <;> omega
  rw [Bool.eq_iff_iff, e]
  by_cases c1 : p + q - n ≤ i <;> by_cases c2 : p + q - n ≤ j <;> by_cases c3 : i - p < j - p <;> simp [c1, c2, c3] <;> omega
theorem pos_inj {i j : Nat} (hp : m + n ≤ p) (hq : n ≤ q) (hi : i < p + q) (hj : j < p + q) (e : posN n m p q i = posN n m p q j) : i = j := by
  unfold posN at e
  split at e <;> split at e <;> (try split at e) <;> (try split at e) <;> (try split at e) <;> (try split at e) <;> omega
theorem pos_sewn {i : Nat} (hp : m + n ≤ p) (hq : n ≤ q) (hi : i < p + q) (h : sewT n m (p + q) i ≠ i) :
    m ≤ posN n m p q i ∧ posN n m p q i < m + n + n ∧ posN n m p q i + posN n m p q (sewT n m (p + q) i) = 2 * m + 2 * n - 1 := by
  by_cases h1 : m ≤ i ∧ i < m + n
  · have e : sewT n m (p + q) i = p + q - 1 - (i - m) := by unfold sewT; rw [if_pos h1]
    rw [e]
    unfold posN
    rw [if_pos h1.2, if_neg (by omega), if_neg (by omega), if_neg (by omega)]
    omega
  · by_cases h2 : p + q - n ≤ i
    · have e : sewT n m (p + q) i = m + (p + q - 1 - i) := by unfold sewT; rw [if_neg h1, if_pos ⟨h2, hi⟩]
      rw [e]
      unfold posN
      rw [if_neg (by omega), if_neg (by omega), if_neg (by omega), if_pos (show m + (p + q - 1 - i) < m + n by omega)]
      omega
    · exfalso
      apply h
      unfold sewT
      rw [if_neg h1, if_neg (by omega)]
theorem pos_loose {i : Nat} (hp : m + n ≤ p) (hq : n ≤ q) (hi : i < p + q) (h : sewT n m (p + q) i = i) : posN n m p q i < m ∨ m + n + n ≤ posN n m p q i := by
  have h1 := (sewT_loose (by omega) hi).1 h
  unfold posN
  split
  · omega
  · split
    · omega
    · split <;> omega
theorem pos_around {i j : Nat} (hp : m + n ≤ p) (hq : n ≤ q) (hi : i < p - n + (q - n)) (hj : j < p - n + (q - n)) (h : i < j) :
    posN n m p q (aroundN n m p (q - n) i) < posN n m p q (aroundN n m p (q - n) j) := by
  have e : ∀ k, k < p - n + (q - n) → posN n m p q (aroundN n m p (q - n) k) = if k < m then k else k + 2 * n := fun k hk => by
    unfold aroundN
    by_cases h1 : k < m
    · rw [if_pos h1, if_pos h1]
      unfold posN
      rw [if_pos (by omega)]
    · rw [if_neg h1, if_neg h1]
      by_cases h2 : k < m + (q - n)
      · rw [if_pos h2]
        unfold posN
        rw [if_neg (by omega), if_neg (by omega), if_pos (by omega)]
        omega
      · rw [if_neg h2]
        unfold posN
        rw [if_neg (by omega), if_pos (by omega)]
        omega
  rw [e i hi, e j hj]
  split <;> split <;> omega

/-- The ends of two paths through two plane pairings that are sewn do not cross. -/
theorem sewn_plane {a b : Nat → Nat} (ha : ∀ i, i < p → a i < p ∧ a i ≠ i ∧ a (a i) = i) (hb : ∀ i, i < q → b i < q ∧ b i ≠ i ∧ b (b i) = i) (hp : m + n ≤ p) (hq : n ≤ q)
    (pa : Plane p a) (pb : Plane q b) {x y : Nat} (hx : x < p + q) (hy : y < p + q) (hxl : sewT n m (p + q) x = x) (hyl : sewT n m (p + q) y = y) (h1 : x ≠ y) (h2 : x ≠ pend (p + q) (twoS p a b) (sewT n m (p + q)) y) :
    sepB (posN n m p q) y (pend (p + q) (twoS p a b) (sewT n m (p + q)) y) x = sepB (posN n m p q) y (pend (p + q) (twoS p a b) (sewT n m (p + q)) y) (pend (p + q) (twoS p a b) (sewT n m (p + q)) x) := by
  refine ends_sep (twoS_sewn ha hb (by omega)) (posN n m p q) (fun u z hu hz e1 e2 => ?_) (fun u z hu hz hus hzs e1 e2 => ?_) (fun u z hu hz hus hzl => ?_) (fun u z hu hz hul hzs => ?_) hx hy hxl hyl h1 h2
  · -- partners
    by_cases cu : u < p
    · have eu : twoS p a b u = a u := by unfold twoS; rw [if_pos cu]
      have hau := (ha u cu).1
      rw [eu] at e2 ⊢
      by_cases cz : z < p
      · have ez : twoS p a b z = a z := by unfold twoS; rw [if_pos cz]
        have haz := (ha z cz).1
        rw [ez]
        have h3 := pa.sep (fun i hi => (ha i hi).1) (fun i hi => (ha i hi).2.2) cu cz e1 e2
        unfold sepB at h3 ⊢
        rw [pos_aa hp cu cz, pos_aa hp hau cz, pos_aa hp cu haz, pos_aa hp hau haz]
        exact h3
      · have ez : twoS p a b z = p + b (z - p) := by unfold twoS; rw [if_neg cz]
        have hbz := (hb (z - p) (by omega)).1
        rw [ez]
        unfold sepB
        rw [pos_ab hp hq cu (by omega) hz, pos_ab hp hq hau (by omega) hz, pos_ab hp hq cu (by omega) (by omega), pos_ab hp hq hau (by omega) (by omega)]
    · have eu : twoS p a b u = p + b (u - p) := by unfold twoS; rw [if_neg cu]
      have hbu := (hb (u - p) (by omega)).1
      rw [eu] at e2 ⊢
      by_cases cz : z < p
      · have ez : twoS p a b z = a z := by unfold twoS; rw [if_pos cz]
        have haz := (ha z cz).1
        rw [ez]
        unfold sepB
        rw [pos_ba hp hq (by omega) hu cz, pos_ba hp hq (by omega) (by omega) cz, pos_ba hp hq (by omega) hu haz, pos_ba hp hq (by omega) (by omega) haz, Bool.xor_self, Bool.xor_self]
      · have ez : twoS p a b z = p + b (z - p) := by unfold twoS; rw [if_neg cz]
        have hbz := (hb (z - p) (by omega)).1
        rw [ez]
        have h3 := pb.sep (fun i hi => (hb i hi).1) (fun i hi => (hb i hi).2.2) (x := u - p) (z := z - p) (by omega) (by omega) (by omega) (by omega)
        have h4 : sepB (fun i => i - p) u (p + b (u - p)) z = sepB (fun i => i - p) u (p + b (u - p)) (p + b (z - p)) := by
          unfold sepB at h3 ⊢
          show (decide (u - p < z - p) ^^ decide (p + b (u - p) - p < z - p)) = (decide (u - p < p + b (z - p) - p) ^^ decide (p + b (u - p) - p < p + b (z - p) - p))
          rw [Nat.add_sub_cancel_left, Nat.add_sub_cancel_left]
          exact h3
        refine sepB_turn (W := fun i => decide (p + q - n ≤ i)) (fun i hi j hj => ?_) h4
        have hi' : p ≤ i ∧ i < p + q := by rcases hi with rfl | rfl <;> omega
        have hj' : p ≤ j ∧ j < p + q := by rcases hj with rfl | rfl <;> omega
        exact pos_bb hp hq hi'.1 hi'.2 hj'.1 hj'.2
  · -- sewn
    obtain ⟨u1, u2, u3⟩ := pos_sewn hp hq hu hus
    obtain ⟨z1, z2, z3⟩ := pos_sewn hp hq hz hzs
    have hul := sewT_lt (n := n) (m := m) (N := p + q) (by omega) hu
    have d1 : posN n m p q z ≠ posN n m p q u := fun e => e1 (pos_inj hp hq hz hu e)
    have d2 : posN n m p q z ≠ posN n m p q (sewT n m (p + q) u) := fun e => e2 (pos_inj hp hq hz hul e)
    unfold sepB
    generalize posN n m p q z = Z at *
    generalize posN n m p q u = U at *
    generalize posN n m p q (sewT n m (p + q) u) = U' at *
    generalize posN n m p q (sewT n m (p + q) z) = Z' at *
    by_cases c1 : U < Z <;> by_cases c2 : U' < Z <;> by_cases c3 : U < Z' <;> by_cases c4 : U' < Z' <;> simp [c1, c2, c3, c4] <;> omega
  · obtain ⟨u1, u2, u3⟩ := pos_sewn hp hq hu hus
    have z1 := pos_loose hp hq hz hzl
    rw [decide_eq_decide]
    omega
  · obtain ⟨z1, z2, z3⟩ := pos_sewn hp hq hz hzs
    have u1 := pos_loose hp hq hu hul
    rw [decide_eq_decide]
    omega
end

theorem rowC_zero {f : Nat → Int} {p M : Nat} : rowC f p M = 0 ↔ ∀ q, q < M → crossB f p q = false := by
  unfold rowC
  rw [List.countP_eq_zero]
  constructor
  · intro h q hq
    have := h q (List.mem_range.2 hq)
    simpa using this
  · intro h q hq
    rw [h q (List.mem_range.1 hq)]
    decide
theorem chordsC_zero {f : Nat → Int} {M : Nat} : ∀ N, chordsC f M N = 0 ↔ ∀ p, p < N → rowC f p M = 0
  | 0 => ⟨fun _ p hp => absurd hp (by omega), fun _ => rfl⟩
  | N + 1 => by
    have ih := chordsC_zero (f := f) (M := M) N
    unfold chordsC at ih ⊢
    rw [sumN]
    constructor
    · intro h p hp
      rcases Nat.lt_or_ge p N with h1 | h1
      · exact ih.1 (by omega) p h1
      · obtain rfl : p = N := by omega
        omega
    · intro h
      have h1 := ih.2 fun p hp => h p (by omega)
      have h2 := h N (by omega)
      omega
/-- No pairs of a pairing cross. -/
theorem chords_plane {l : List Int} (h : IsPair l) : chordsC (intAt l) l.length l.length = 0 ↔ Plane l.length (mateN l) := by
  have hat : ∀ p, p < l.length → intAt l p = ((mateN l p : Nat) : Int) := fun p hp => intAt_eq (h.mates hp).2.2.1
  rw [chordsC_zero]
  constructor
  · intro h1 x y hx hy hc
    have h2 := rowC_zero.1 (h1 x hx) y hy
    unfold crossB at h2
    rw [decide_eq_false_iff_not, hat x hx, hat y hy] at h2
    exact h2 ⟨hc.1, by omega, by omega⟩
  · intro h1 x hx
    refine rowC_zero.2 fun y hy => ?_
    unfold crossB
    rw [decide_eq_false_iff_not, hat x hx, hat y hy]
    intro hc
    exact h1 x y hx hy ⟨hc.1, by omega, by omega⟩
theorem joinS_plane {n m : Nat} {a b : List Int} (ha : IsPair a) (hb : IsPair b) (hp : m + n ≤ a.length) (hq : n ≤ b.length) (pa : Plane a.length (mateN a)) (pb : Plane b.length (mateN b)) :
    Plane (joinP n a b) (joinS n m a b) := by
  have hs := twoA_sewn (n := n) (m := m) ha hb (by omega)
  have hm := joinS_mates ha hb hp hq
  rintro i j hi hj ⟨c1, c2, c3⟩
  obtain ⟨x1, x2⟩ := around_ok hp hq hi
  obtain ⟨y1, y2⟩ := around_ok hp hq hj
  -- the ends, by their numbers round both
  have hend : ∀ i, i < joinP n a b → aroundN n m a.length (b.length - n) (joinS n m a b i) = pend (a.length + b.length) (twoA a b) (sewA n m a b) (aroundN n m a.length (b.length - n) i) := fun i hi => by
    obtain ⟨h1, h2⟩ := around_ok hp hq hi
    have h3 := loose_end hs h1 h2
    have h4 := (sewT_loose (by omega) (pend_lt hs h1)).1 h3
    unfold joinS
    exact around_name (by omega)
  have mono : ∀ i j, i < joinP n a b → j < joinP n a b → i < j → posN n m a.length b.length (aroundN n m a.length (b.length - n) i) < posN n m a.length b.length (aroundN n m a.length (b.length - n) j) := fun i j hi hj h => pos_around hp hq hi hj h
  have m1 := mono _ _ hi hj c1
  have m2 := mono _ _ hj (hm.lt i hi) c2
  have m3 := mono _ _ (hm.lt i hi) (hm.lt j hj) c3
  have key := sewn_plane (n := n) (m := m) (a := mateN a) (b := mateN b) (fun _ hi => ⟨(ha.mates hi).1, (ha.mates hi).2.1, (ha.mates hi).2.2.2⟩) (fun _ hi => ⟨(hb.mates hi).1, (hb.mates hi).2.1, (hb.mates hi).2.2.2⟩) hp hq pa pb
    (x := aroundN n m a.length (b.length - n) j) (y := aroundN n m a.length (b.length - n) i) y1 x1 y2 x2 (fun e => by rw [e] at m1; omega) (fun e => by
      rw [hend i hi, ← e] at m2; omega)
  rw [hend i hi] at m2 m3
  rw [hend j hj] at m3
  have key2 : sepB (posN n m a.length b.length) (aroundN n m a.length (b.length - n) i) (pend (a.length + b.length) (twoA a b) (sewA n m a b) (aroundN n m a.length (b.length - n) i)) (aroundN n m a.length (b.length - n) j) =
      sepB (posN n m a.length b.length) (aroundN n m a.length (b.length - n) i) (pend (a.length + b.length) (twoA a b) (sewA n m a b) (aroundN n m a.length (b.length - n) i)) (pend (a.length + b.length) (twoA a b) (sewA n m a b) (aroundN n m a.length (b.length - n) j)) := key
  clear key
  unfold sepB at key2
  generalize posN n m a.length b.length (aroundN n m a.length (b.length - n) i) = X at *
  generalize posN n m a.length b.length (aroundN n m a.length (b.length - n) j) = Y at *
  generalize posN n m a.length b.length (pend (a.length + b.length) (twoA a b) (sewA n m a b) (aroundN n m a.length (b.length - n) i)) = X' at *
  generalize posN n m a.length b.length (pend (a.length + b.length) (twoA a b) (sewA n m a b) (aroundN n m a.length (b.length - n) j)) = Y' at *
  rw [decide_eq_true m1, decide_eq_false (show ¬ X' < Y by omega), decide_eq_true (show X < Y' by omega), decide_eq_true m3] at key2
  exact absurd key2 (by decide)
/-- Joined pairings without crossings have none. -/
theorem joined_plane {n m : Nat} {a b : List Int} (ha : IsPair a) (hb : IsPair b) (hp : m + n ≤ a.length) (hq : n ≤ b.length) (hj : IsPair (joinedL n m a b))
    (ca : chordsC (intAt a) a.length a.length = 0) (cb : chordsC (intAt b) b.length b.length = 0) : chordsC (intAt (joinedL n m a b)) (joinedL n m a b).length (joinedL n m a b).length = 0 := by
  have pj := joinS_plane ha hb hp hq ((chords_plane ha).1 ca) ((chords_plane hb).1 cb)
  rw [chords_plane hj, show (joinedL n m a b).length = joinP n a b from listS_length _ _]
  have hm := joinS_mates ha hb hp hq
  rintro x y hx hy hc
  rw [show mateN (joinedL n m a b) x = joinS n m a b x from listS_mate hx, show mateN (joinedL n m a b) y = joinS n m a b y from listS_mate hy] at hc
  exact pj x y hx hy hc
end Go.Proofs.Ytonhnmpgikmlpaa
