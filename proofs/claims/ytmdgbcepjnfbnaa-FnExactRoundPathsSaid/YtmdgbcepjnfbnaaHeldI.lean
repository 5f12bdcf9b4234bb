/- Lists of integers that are handed back: eqIntS on equal lists, marks, what holds its marks. -/
import Derived.Test.YtmdgbcepjnfbnaaInts
import Derived.Test.YtmdgbcepjnfbnaaLawKit
namespace Go.Proofs.Ytmdgbcepjnfbnaa
open Go.RowKit

set_option maxHeartbeats 400000 in
theorem eqIntS_same (A A' : Option Addr) (c c' B : Nat) (l : List Int) (w : World) (h : Ints w B A l) (h' : Ints w B A' l) (hn : l.length ≤ 1048576) :
    Calls Try.prog 36 #[.slice A l.length c, .slice A' l.length c'] w (TrueDrew w) := by
  have hne : ((l.length : Int) != (l.length : Int)) = false := by simp
  go_enter Try.func36, Try.ntmps36
  go_wp2
  go_loopw [5] (DrewRel l.length w) (fun i _ => l.length - (intOf i).toNat)
  case atStart => exact ⟨0, Nat.zero_le _, rfl, 0, rfl⟩
  case round =>
    obtain ⟨k, hk, rfl, d, rfl⟩ := hrel
    by_cases hlt : k < l.length
    · obtain ⟨b, off, s, rfl, hb, hks, hc⟩ := h.at_ hlt
      obtain ⟨b', off', s', rfl, hb', hks', hc'⟩ := h'.at_ hlt
      obtain rfl : s = s' := by rw [hks] at hks'; exact Option.some.inj hks'
      clear hks hks' h h'
      have hi : (k : Int) < (l.length : Int) := by omega
      have hi0 : (0 : Int) ≤ (k : Int) := by omega
      go_wp2_with fail
      go_quiet (fail)
      go_wp2
      go_roundw
      case rel => exact ⟨k + 1, by omega, by go_num, _, rfl⟩
      case measure => simp [intOf]; omega
    · obtain rfl : k = l.length := by omega
      go_wp2
      go_ret
      exact ⟨rfl, _, rfl⟩

/-- Block g of w holds cells of integers, unfrozen, and its first l.length cells are l. -/
def Row8 (w : World) (g : Nat) (l : List Int) : Prop :=
  ∃ cs : Array Value, w.heap[g]? = some (.cells cs 3 (0, 0)) ∧ ∀ (k : Nat) (x : Int), l[k]? = some x → cs[k]? = some (Value.int .i64 x)
theorem Row8.lt {w : World} {g : Nat} {l : List Int} (h : Row8 w g l) : g < w.heap.size := by
  obtain ⟨cs, h, _⟩ := h
  exact lt_of_block h
theorem Row8.ints {w : World} {g : Nat} {l : List Int} (h : Row8 w g l) {B : Nat} (hB : g < B) : Ints w B (some ⟨g, 0, none⟩) l := fun _ => by
  obtain ⟨cs, h, hc⟩ := h
  refine ⟨g, 0, rfl, hB, fun k s hk => ?_⟩
  rw [Nat.zero_add, cell_of_row w g k cs 3 (0, 0) h]
  exact hc k s hk
theorem Row8.below {w w' : World} {g : Nat} {l : List Int} (h : Row8 w g l) {B : Nat} (hb : Below B w w') (hg : g < B) : Row8 w' g l := by
  obtain ⟨cs, h, hc⟩ := h
  exact ⟨cs, (hb.block g hg).trans h, hc⟩
theorem Row8.but {w w' : World} {b g : Nat} {l : List Int} (h : Row8 w b l) (hb : But g w w') (hn : b ≠ g) : Row8 w' b l := by
  have hl := h.lt
  obtain ⟨cs, h, hc⟩ := h
  exact ⟨cs, (hb.block b hl hn).trans h, hc⟩
/-- The list is of the call's own: nothing, or the head of a block from lo on. -/
def Own3 (w : World) (lo : Nat) (A : Option Addr) (l : List Int) : Prop := (A = none ∧ l = []) ∨ ∃ g, A = some ⟨g, 0, none⟩ ∧ lo ≤ g ∧ Row8 w g l
theorem Own3.ints {w : World} {lo : Nat} {A : Option Addr} {l : List Int} (h : Own3 w lo A l) : Ints w w.heap.size A l := by
  rcases h with ⟨rfl, rfl⟩ | ⟨g, rfl, _, hr⟩
  · exact fun h => absurd h (by simp)
  · exact hr.ints hr.lt
theorem Own3.below {w w' : World} {lo : Nat} {A : Option Addr} {l : List Int} (h : Own3 w lo A l) (hb : Below w.heap.size w w') : Own3 w' lo A l := by
  rcases h with h | ⟨g, rfl, hg, hr⟩
  · exact .inl h
  · exact .inr ⟨g, rfl, hg, hr.below hb hr.lt⟩
theorem Own3.but {w w' : World} {lo g : Nat} {A : Option Addr} {l : List Int} (h : Own3 w lo A l) (hb : But g w w') (hg : g < lo) : Own3 w' lo A l := by
  rcases h with h | ⟨b, rfl, hlo, hr⟩
  · exact .inl h
  · exact .inr ⟨b, rfl, hlo, hr.but hb (by omega)⟩
/-- A slice that has grown is of the call's own; its capacity is any. -/
theorem GrowI.own {w : World} {base : Nat} {v : Value} {l : List Int} (h : GrowI w base v l) : ∃ A c, v = .slice A l.length c ∧ Own3 w base A l := by
  rcases h.2 with ⟨rfl, h0⟩ | ⟨g, cap, cur, rfl, hb, hg, hn, _, _, ht⟩
  · rw [h0]; exact ⟨none, 0, rfl, .inl ⟨rfl, List.eq_nil_of_length_eq_zero h0⟩⟩
  · refine ⟨_, _, rfl, .inr ⟨g, rfl, hb, cur, hg, fun k s hk => ?_⟩⟩
    have hl := (List.getElem?_eq_some_iff.1 hk).1
    have e : (intsV l)[k]? = some (.int .i64 s) := by simp [intsV, hk]
    rw [← ht, List.getElem?_take_of_lt (by omega)] at e
    rw [← Array.getElem?_toList, e]

/-- The marks from a number on. -/
def marksI (k n : Nat) : List Int := (List.range n).map fun i => ((k + i : Nat) : Int)
theorem marksI_length (k n : Nat) : (marksI k n).length = n := by simp [marksI]
theorem marksI_at {k n i : Nat} (h : i < n) : (marksI k n)[i]? = some ((k + i : Nat) : Int) := by simp [marksI, h]

def MkIRel (g k0 n sz : Nat) (w : World) (kv iv : Value) (wr : World) : Prop :=
  ∃ i : Nat, i ≤ n ∧ kv = .int .i64 ((k0 + i : Nat) : Int) ∧ iv = .int .i64 i ∧ But g w wr ∧ ∃ cs : Array Value, wr.heap[g]? = some (.cells cs 3 (0, 0)) ∧ cs.size = sz ∧ ∀ j, j < i → cs[j]? = some (.int .i64 ((k0 + j : Nat) : Int))

set_option maxRecDepth 100000 in
set_option maxHeartbeats 1000000 in
theorem markIntS_row (g c n k0 : Nat) (l : List Int) (w : World) (hn : l.length = n) (h : Row8 w g l) (h2 : k0 + n ≤ 4194304) :
    Calls Try.prog 38 #[.slice (some ⟨g, 0, none⟩) n c, .int .i64 k0] w fun e w' => e = .returned (.int .i64 ((k0 + n : Nat) : Int)) ∧ But g w w' ∧ Row8 w' g (marksI k0 n) := by
  obtain ⟨cs0, hg0, hcs⟩ := h
  have hsz : n ≤ cs0.size := by
    cases n with
    | zero => omega
    | succ n =>
      have e := hcs n _ (List.getElem?_eq_getElem (by omega))
      have := (Array.getElem?_eq_some_iff.1 e).1
      omega
  have HG0 := hid hg0
  clear hcs hg0 hn
  go_enter Try.func38, Try.ntmps38
  go_wp2
  go_loopw [1, 5] (MkIRel g k0 n cs0.size w) (fun _ i _ => n - (intOf i).toNat)
  case atStart => exact ⟨0, Nat.zero_le _, rfl, rfl, But.refl _ _, cs0, HG0.out, rfl, fun j hj => absurd hj (by omega)⟩
  case round =>
    obtain ⟨i, hi, rfl, rfl, hbut, cs, hg, hs, hm⟩ := hrel
    have HBut := hid hbut
    have HG := hid hg
    have HM := hid hm
    have HS := hid hs
    clear hbut hg hm hs
    by_cases hlt : i < n
    · obtain ⟨kk, hkk⟩ : ∃ kk, k0 + i = kk := ⟨_, rfl⟩
      have hki : ((k0 + i : Nat) : Int) = (kk : Int) := by rw [hkk]
      rw [hki]
      have hk1 : (kk : Int) + 1 ≤ 4194305 := by omega
      have hk0 : 0 ≤ (kk : Int) := by omega
      have HKK := hid hkk
      clear hkk hki
      obtain ⟨u, hu⟩ : ∃ u, cs[i]? = some u := ⟨_, Array.getElem?_eq_getElem (by rw [HS.out]; omega)⟩
      have hcell : wr.cell? ⟨g, i, none⟩ = some u := by rw [cell_of_row _ _ _ _ _ _ HG.out]; exact hu
      have hfr : wr.frozen? ⟨g, i, none⟩ = false := frozen_of_row _ _ _ _ _ HG.out
      clear hu
      go_wp2_with fail
      go_roundw
      case rel => exact ⟨i + 1, by omega, by rw [← Nat.add_assoc, HKK.out]; go_num, by go_num, HBut.out.trans (But.setCell _ _ _), _, heap_setCell_same _ _ _ _ _ _ HG.out, by simp [HS.out], fun j hj => by
        by_cases hji : j = i
        · subst hji
          rw [HKK.out, Array.getElem?_setIfInBounds_self_of_lt (by rw [HS.out]; omega)]
        · rw [Array.getElem?_setIfInBounds_ne (fun e => hji e.symm)]; exact HM.out j (by omega)⟩
      case measure => simp [intOf]; omega
    · obtain rfl : i = n := by omega
      go_wp2_with fail
      go_ret
      exact ⟨rfl, HBut.out, cs, HG.out, fun j s hj => by
        have hl := (List.getElem?_eq_some_iff.1 hj).1
        rw [marksI_length] at hl
        rw [marksI_at hl] at hj
        cases hj
        exact HM.out j hl⟩

set_option maxHeartbeats 400000 in
theorem markIntS_nil (k0 : Nat) (c : Nat) (w : World) :
    Calls Try.prog 38 #[.slice none 0 c, .int .i64 k0] w fun e w' => e = .returned (.int .i64 k0) ∧ w = w' := by
  go_enter Try.func38, Try.ntmps38
  go_wp2
  refine wp_loop_rounds 1 ?_
  rw [rounds_succ]
  go_wp2
  go_ret
  exact ⟨rfl, rfl⟩

def HdIRel (k0 n : Nat) (w : World) (kv iv : Value) (wr : World) : Prop :=
  ∃ i : Nat, i ≤ n ∧ kv = .int .i64 ((k0 + i : Nat) : Int) ∧ iv = .int .i64 i ∧ w = wr

set_option maxRecDepth 100000 in
set_option maxHeartbeats 1000000 in
/-- heldIntS on what holds its marks. -/
theorem heldIntS_own (A : Option Addr) (c k0 n B : Nat) (w : World) (h : Ints w B A (marksI k0 n)) (h2 : k0 + n ≤ 4194304) :
    Calls Try.prog 39 #[.slice A n c, .int .i64 k0] w fun e w' => e = .returned (.int .i64 ((k0 + n : Nat) : Int)) ∧ w = w' := by
  go_enter Try.func39, Try.ntmps39
  go_wp2
  go_loopw [1, 5] (HdIRel k0 n w) (fun _ i _ => n - (intOf i).toNat)
  case atStart => exact ⟨0, Nat.zero_le _, rfl, rfl, rfl⟩
  case round =>
    obtain ⟨i, hi, rfl, rfl, rfl⟩ := hrel
    by_cases hlt : i < n
    · obtain ⟨b, off, x, rfl, hb, hx, hc⟩ := h.at_ (k := i) (by rw [marksI_length]; exact hlt)
      rw [marksI_at hlt] at hx
      obtain rfl := Option.some.inj hx
      obtain ⟨kk, hkk⟩ : ∃ kk, k0 + i = kk := ⟨_, rfl⟩
      have hki : ((k0 + i : Nat) : Int) = (kk : Int) := by rw [hkk]
      rw [hki] at hc ⊢
      have hk1 : (kk : Int) + 1 ≤ 4194305 := by omega
      have hk0 : 0 ≤ (kk : Int) := by omega
      have hne : ((kk : Int) != (kk : Int)) = false := by simp
      have HKK := hid hkk
      clear hkk hki hx h
      go_wp2_with fail
      go_roundw
      case rel => exact ⟨i + 1, by omega, by rw [← Nat.add_assoc, HKK.out]; go_num, by go_num, rfl⟩
      case measure => simp [intOf]; omega
    · obtain rfl : i = n := by omega
      go_wp2_with fail
      go_ret
      exact ⟨rfl, rfl⟩

theorem markOwnI (A : Option Addr) (c lo kn : Nat) (l : List Int) (w : World) (h : Own3 w lo A l) (hlo : lo ≤ w.heap.size) (hl : l.length ≤ 1048576) (hk : 1 + l.length = kn) :
    Calls Try.prog 38 #[.slice A l.length c, .int .i64 1] w fun e w' => e = .returned (.int .i64 kn) ∧ Below lo w w' ∧ Own3 w' lo A (marksI 1 l.length) := by
  subst hk
  rcases h with ⟨rfl, rfl⟩ | ⟨g, rfl, hg, hr⟩
  · refine (markIntS_nil 1 c w).mono ?_
    rintro e w' ⟨rfl, rfl⟩
    exact ⟨rfl, Below.refl _ _, .inl ⟨rfl, rfl⟩⟩
  · refine (markIntS_row g c l.length 1 l w rfl hr (by omega)).mono ?_
    rintro e w' ⟨rfl, hb, hr'⟩
    exact ⟨rfl, hb.below hg hlo, .inr ⟨g, rfl, hg, hr'⟩⟩
theorem heldOwnI (A : Option Addr) (c lo kn n : Nat) (w : World) (h : Own3 w lo A (marksI 1 n)) (hl : n ≤ 1048576) (hk : 1 + n = kn) :
    Calls Try.prog 39 #[.slice A n c, .int .i64 1] w fun e w' => e = .returned (.int .i64 kn) ∧ w = w' := by
  subst hk
  exact heldIntS_own A c 1 n _ w h.ints (by omega)
theorem Ints.but {w w' : World} {B g : Nat} {A : Option Addr} {l : List Int} (h : Ints w B A l) (hb : But g w w') (hB : B ≤ g) (hw : B ≤ w.heap.size) : Ints w' B A l := h.below (hb.below hB hw) (Nat.le_refl _)

end Go.Proofs.Ytmdgbcepjnfbnaa
