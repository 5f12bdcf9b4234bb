/- Settled texts in one file. Each begins with what it holds. -/
import Derived.Test.YtminailbhgimkaaBunD
import Derived.Test.YtminailbhgimkaaBunA
import Derived.Test.YtminailbhgimkaaHead
import Derived.Test.YtminailbhgimkaaBunE
import Derived.StillTailTactics
import Derived.Deep.QuietTactic
/- What the laws on functions that hand back a list want: the ends opened, marks on an own list. -/
namespace Go.Proofs.Ytminailbhgimkaa
open Go.RowKit

/-- The outcome and the list: the same for the program and the specification. -/
def Outcome (G : Nat → Nat → List UInt8 → List ByteArray) (ss : List ByteArray) (ok : Bool) (res : List ByteArray) : Prop :=
  (∃ n m, IsGrid n m ss ∧ ok = true ∧ res = G n m (pad (flat ss))) ∨ (NoGrid ss ∧ ok = false ∧ res = [])
theorem IsGrid.uniq {n m n' m' : Nat} {ss : List ByteArray} (h : IsGrid n m ss) (h' : IsGrid n' m' ss) : n = n' ∧ m = m' := by
  have a := h.nm
  have b := h'.nm
  have e : n = n' := a.1.trans b.1.symm
  have hl : 0 < ss.length := by have := h.1; have := h.2.1; omega
  exact ⟨e, (a.2 _ (List.getElem?_eq_getElem hl)).trans (b.2 _ (List.getElem?_eq_getElem hl)).symm⟩
theorem Outcome.uniq {G : Nat → Nat → List UInt8 → List ByteArray} {ss : List ByteArray} {ok ok' : Bool} {res res' : List ByteArray} (h : Outcome G ss ok res) (h' : Outcome G ss ok' res') : ok' = ok ∧ res' = res := by
  rcases h with ⟨n, m, hg, rfl, rfl⟩ | ⟨hn, rfl, rfl⟩ <;> rcases h' with ⟨n', m', hg', rfl, rfl⟩ | ⟨hn', rfl, rfl⟩
  · obtain ⟨rfl, rfl⟩ := hg.uniq hg'
    exact ⟨rfl, rfl⟩
  · exact absurd hg (hn' _ _)
  · exact absurd hg' (hn _ _)
  · exact ⟨rfl, rfl⟩
theorem SpecEnd.open_ {G : Nat → Nat → List UInt8 → List ByteArray} {ss : List ByteArray} {w w' : World} {e : Ending} (h : SpecEnd G ss w e w') :
    ∃ A c res ok, e = .returned (.tuple #[.slice A res.length c, .bool ok]) ∧ Outcome G ss ok res ∧ Strs w' w'.heap.size A res ∧ Below w.heap.size w w' := by
  obtain ⟨hb, ⟨n, m, A, c, hg, hs, rfl⟩ | ⟨hn, A, c, rfl⟩⟩ := h
  · exact ⟨A, c, _, true, rfl, .inl ⟨n, m, hg, rfl, rfl⟩, hs, hb⟩
  · exact ⟨A, c, [], false, rfl, .inr ⟨hn, rfl, rfl⟩, fun h => absurd h (by simp), hb⟩
theorem ChangeEnd.open_ {G : Nat → Nat → List UInt8 → List ByteArray} {ss : List ByteArray} {w w' : World} {e : Ending} (h : ChangeEnd G ss w e w') :
    ∃ A res ok, e = .returned (.tuple #[.slice A res.length res.length, .bool ok]) ∧ Outcome G ss ok res ∧ Own w' w.heap.size A res ∧ (res = [] → A = none ∨ ∃ g, A = some ⟨g, 0, none⟩ ∧ w.heap.size ≤ g ∧ Row9 w' g []) ∧ Below w.heap.size w w' := by
  obtain ⟨hb, ⟨n, m, g, hg, hlo, hrow, rfl⟩ | ⟨hn, rfl⟩⟩ := h
  · exact ⟨_, _, true, rfl, .inl ⟨n, m, hg, rfl, rfl⟩, fun _ => ⟨g, rfl, hlo, hrow⟩, fun he => .inr ⟨g, rfl, hlo, by rw [← he]; exact hrow⟩, hb⟩
  · exact ⟨none, [], false, rfl, .inr ⟨hn, rfl, rfl⟩, fun h => absurd h (by simp), fun _ => .inl rfl, hb⟩

/-- The list is of the call's own: nothing, or the head of a block from lo on. -/
def Own2 (w : World) (lo : Nat) (A : Option Addr) (ss : List ByteArray) : Prop := (A = none ∧ ss = []) ∨ ∃ g, A = some ⟨g, 0, none⟩ ∧ lo ≤ g ∧ Row9 w g ss
theorem Own2.of {w : World} {lo : Nat} {A : Option Addr} {ss : List ByteArray} (h : Own w lo A ss) (h0 : ss = [] → A = none ∨ ∃ g, A = some ⟨g, 0, none⟩ ∧ lo ≤ g ∧ Row9 w g []) : Own2 w lo A ss := by
  cases ss with
  | nil =>
    rcases h0 rfl with rfl | h
    · exact .inl ⟨rfl, rfl⟩
    · exact .inr h
  | cons s ss => exact .inr (h (by simp))
theorem Own2.strs {w : World} {lo : Nat} {A : Option Addr} {ss : List ByteArray} (h : Own2 w lo A ss) : Strs w w.heap.size A ss := by
  rcases h with ⟨rfl, rfl⟩ | ⟨g, rfl, _, hr⟩
  · exact Strs.nil_ _ _ _
  · exact hr.strs hr.lt
theorem Own2.below {w w' : World} {lo : Nat} {A : Option Addr} {ss : List ByteArray} (h : Own2 w lo A ss) (hb : Below w.heap.size w w') : Own2 w' lo A ss := by
  rcases h with h | ⟨g, rfl, hlo, hr⟩
  · exact .inl h
  · exact .inr ⟨g, rfl, hlo, hr.below hb hr.lt⟩
theorem Own2.but {w w' : World} {lo g : Nat} {A : Option Addr} {ss : List ByteArray} (h : Own2 w lo A ss) (hb : But g w w') (hg : g < lo) : Own2 w' lo A ss := by
  rcases h with h | ⟨b, rfl, hlo, hr⟩
  · exact .inl h
  · exact .inr ⟨b, rfl, hlo, hr.but hb (by omega)⟩
theorem markOwn (A : Option Addr) (lo kn : Nat) (res : List ByteArray) (w : World) (h : Own2 w lo A res) (hlo : lo ≤ w.heap.size) (hl : res.length ≤ 1048576) (hk : 1 + res.length = kn) :
    Calls Try.prog 38 #[.slice A res.length res.length, .int .i64 1] w fun e w' => e = .returned (.int .i64 kn) ∧ Below lo w w' ∧ Own2 w' lo A (marksOf 1 res.length) := by
  subst hk
  rcases h with ⟨rfl, rfl⟩ | ⟨g, rfl, hg, hr⟩
  · refine (markStringS_nil 1 w).mono ?_
    rintro e w' ⟨rfl, rfl⟩
    exact ⟨rfl, Below.refl _ _, .inl ⟨rfl, rfl⟩⟩
  · refine (markStringS_row g res.length res.length 1 res w rfl hr (by omega) (by omega)).mono ?_
    rintro e w' ⟨rfl, hb, hr'⟩
    exact ⟨rfl, hb.below hg hlo, .inr ⟨g, rfl, hg, hr'⟩⟩
theorem Strs.but {w w' : World} {B g : Nat} {A : Option Addr} {ss : List ByteArray} (h : Strs w B A ss) (hb : But g w w') (hB : B ≤ g) (hw : B ≤ w.heap.size) : Strs w' B A ss := h.below (hb.below hB hw) (Nat.le_refl _)

end Go.Proofs.Ytminailbhgimkaa

/- Lists of integers that are handed back: eqIntS on equal lists, marks, what holds its marks. -/
namespace Go.Proofs.Ytminailbhgimkaa
open Go.RowKit

set_option maxHeartbeats 400000 in
theorem eqIntS_same (A A' : Option Addr) (c c' B : Nat) (l : List Int) (w : World) (h : Ints w B A l) (h' : Ints w B A' l) (hn : l.length ≤ 1048576) :
    Calls Try.prog 28 #[.slice A l.length c, .slice A' l.length c'] w (TrueDrew w) := by
  have hne : ((l.length : Int) != (l.length : Int)) = false := by simp
  go_enter Try.func28, Try.ntmps28
  go_wp2
  go_loopw [5] (DrewRel l.length w) (fun i _ => l.length - (intOf i).toNat)
  case atStart => exact ⟨0, Nat.zero_le _, rfl, 0, rfl⟩
  case round =>
    obtain ⟨k, hk, rfl, d, rfl⟩ := hrel
    by_cases hlt : k < l.length
    · obtain ⟨b, off, s, rfl, hb, hks, hc⟩ := h.at_ hlt
      obtain ⟨b', off', s', rfl, hb', hks', hc'⟩ := h'.at_ hlt
      obtain rfl : s = s' := by rw [hks] at hks'; exact Option.some.inj hks'
      clear hks hks' h h'
      have hi : (k : Int) < (l.length : Int) := by omega
      have hi0 : (0 : Int) ≤ (k : Int) := by omega
      go_wp2_with fail
      go_quiet (fail)
      go_wp2
      go_roundw
      case rel => exact ⟨k + 1, by omega, by go_num, _, rfl⟩
      case measure => simp [intOf]; omega
    · obtain rfl : k = l.length := by omega
      go_wp2
      go_ret
      exact ⟨rfl, _, rfl⟩

/-- Block g of w holds cells of integers, unfrozen, and its first l.length cells are l. -/
def Row8 (w : World) (g : Nat) (l : List Int) : Prop :=
  ∃ cs : Array Value, w.heap[g]? = some (.cells cs 3 (0, 0)) ∧ ∀ (k : Nat) (x : Int), l[k]? = some x → cs[k]? = some (Value.int .i64 x)
theorem Row8.lt {w : World} {g : Nat} {l : List Int} (h : Row8 w g l) : g < w.heap.size := by
  obtain ⟨cs, h, _⟩ := h
  exact lt_of_block h
theorem Row8.ints {w : World} {g : Nat} {l : List Int} (h : Row8 w g l) {B : Nat} (hB : g < B) : Ints w B (some ⟨g, 0, none⟩) l := fun _ => by
  obtain ⟨cs, h, hc⟩ := h
  refine ⟨g, 0, rfl, hB, fun k s hk => ?_⟩
  rw [Nat.zero_add, cell_of_row w g k cs 3 (0, 0) h]
  exact hc k s hk
theorem Row8.below {w w' : World} {g : Nat} {l : List Int} (h : Row8 w g l) {B : Nat} (hb : Below B w w') (hg : g < B) : Row8 w' g l := by
  obtain ⟨cs, h, hc⟩ := h
  exact ⟨cs, (hb.block g hg).trans h, hc⟩
theorem Row8.but {w w' : World} {b g : Nat} {l : List Int} (h : Row8 w b l) (hb : But g w w') (hn : b ≠ g) : Row8 w' b l := by
  have hl := h.lt
  obtain ⟨cs, h, hc⟩ := h
  exact ⟨cs, (hb.block b hl hn).trans h, hc⟩
/-- The list is of the call's own: nothing, or the head of a block from lo on. -/
def Own3 (w : World) (lo : Nat) (A : Option Addr) (l : List Int) : Prop := (A = none ∧ l = []) ∨ ∃ g, A = some ⟨g, 0, none⟩ ∧ lo ≤ g ∧ Row8 w g l
theorem Own3.ints {w : World} {lo : Nat} {A : Option Addr} {l : List Int} (h : Own3 w lo A l) : Ints w w.heap.size A l := by
  rcases h with ⟨rfl, rfl⟩ | ⟨g, rfl, _, hr⟩
  · exact fun h => absurd h (by simp)
  · exact hr.ints hr.lt
theorem Own3.below {w w' : World} {lo : Nat} {A : Option Addr} {l : List Int} (h : Own3 w lo A l) (hb : Below w.heap.size w w') : Own3 w' lo A l := by
  rcases h with h | ⟨g, rfl, hg, hr⟩
  · exact .inl h
  · exact .inr ⟨g, rfl, hg, hr.below hb hr.lt⟩
theorem Own3.but {w w' : World} {lo g : Nat} {A : Option Addr} {l : List Int} (h : Own3 w lo A l) (hb : But g w w') (hg : g < lo) : Own3 w' lo A l := by
  rcases h with h | ⟨b, rfl, hlo, hr⟩
  · exact .inl h
  · exact .inr ⟨b, rfl, hlo, hr.but hb (by omega)⟩
/-- A slice that has grown is of the call's own; its capacity is any. -/
theorem GrowI.own {w : World} {base : Nat} {v : Value} {l : List Int} (h : GrowI w base v l) : ∃ A c, v = .slice A l.length c ∧ Own3 w base A l := by
  rcases h.2 with ⟨rfl, h0⟩ | ⟨g, cap, cur, rfl, hb, hg, hn, _, _, ht⟩
  · rw [h0]; exact ⟨none, 0, rfl, .inl ⟨rfl, List.eq_nil_of_length_eq_zero h0⟩⟩
  · refine ⟨_, _, rfl, .inr ⟨g, rfl, hb, cur, hg, fun k s hk => ?_⟩⟩
    have hl := (List.getElem?_eq_some_iff.1 hk).1
    have e : (intsV l)[k]? = some (.int .i64 s) := by simp [intsV, hk]
    rw [← ht, List.getElem?_take_of_lt (by omega)] at e
    rw [← Array.getElem?_toList, e]

/-- The marks from a number on. -/
def marksI (k n : Nat) : List Int := (List.range n).map fun i => ((k + i : Nat) : Int)
theorem marksI_length (k n : Nat) : (marksI k n).length = n := by simp [marksI]
theorem marksI_at {k n i : Nat} (h : i < n) : (marksI k n)[i]? = some ((k + i : Nat) : Int) := by simp [marksI, h]

def MkIRel (g k0 n sz : Nat) (w : World) (kv iv : Value) (wr : World) : Prop :=
  ∃ i : Nat, i ≤ n ∧ kv = .int .i64 ((k0 + i : Nat) : Int) ∧ iv = .int .i64 i ∧ But g w wr ∧ ∃ cs : Array Value, wr.heap[g]? = some (.cells cs 3 (0, 0)) ∧ cs.size = sz ∧ ∀ j, j < i → cs[j]? = some (.int .i64 ((k0 + j : Nat) : Int))

set_option maxRecDepth 100000 in
set_option maxHeartbeats 1000000 in
theorem markIntS_row (g c n k0 : Nat) (l : List Int) (w : World) (hn : l.length = n) (h : Row8 w g l) (h2 : k0 + n ≤ 4194304) :
    Calls Try.prog 29 #[.slice (some ⟨g, 0, none⟩) n c, .int .i64 k0] w fun e w' => e = .returned (.int .i64 ((k0 + n : Nat) : Int)) ∧ But g w w' ∧ Row8 w' g (marksI k0 n) := by
  obtain ⟨cs0, hg0, hcs⟩ := h
  have hsz : n ≤ cs0.size := by
    cases n with
    | zero => omega
    | succ n =>
      have e := hcs n _ (List.getElem?_eq_getElem (by omega))
      have := (Array.getElem?_eq_some_iff.1 e).1
      omega
  have HG0 := hid hg0
  clear hcs hg0 hn
  go_enter Try.func29, Try.ntmps29
  go_wp2
  go_loopw [1, 5] (MkIRel g k0 n cs0.size w) (fun _ i _ => n - (intOf i).toNat)
  case atStart => exact ⟨0, Nat.zero_le _, rfl, rfl, But.refl _ _, cs0, HG0.out, rfl, fun j hj => absurd hj (by omega)⟩
  case round =>
    obtain ⟨i, hi, rfl, rfl, hbut, cs, hg, hs, hm⟩ := hrel
    have HBut := hid hbut
    have HG := hid hg
    have HM := hid hm
    have HS := hid hs
    clear hbut hg hm hs
    by_cases hlt : i < n
    · obtain ⟨kk, hkk⟩ : ∃ kk, k0 + i = kk := ⟨_, rfl⟩
      have hki : ((k0 + i : Nat) : Int) = (kk : Int) := by rw [hkk]
      rw [hki]
      have hk1 : (kk : Int) + 1 ≤ 4194305 := by omega
      have hk0 : 0 ≤ (kk : Int) := by omega
      have HKK := hid hkk
      clear hkk hki
      obtain ⟨u, hu⟩ : ∃ u, cs[i]? = some u := ⟨_, Array.getElem?_eq_getElem (by rw [HS.out]; omega)⟩
      have hcell : wr.cell? ⟨g, i, none⟩ = some u := by rw [cell_of_row _ _ _ _ _ _ HG.out]; exact hu
      have hfr : wr.frozen? ⟨g, i, none⟩ = false := frozen_of_row _ _ _ _ _ HG.out
      clear hu
      go_wp2_with fail
      go_roundw
      case rel => exact ⟨i + 1, by omega, by rw [← Nat.add_assoc, HKK.out]; go_num, by go_num, HBut.out.trans (But.setCell _ _ _), _, heap_setCell_same _ _ _ _ _ _ HG.out, by simp [HS.out], fun j hj => by
        by_cases hji : j = i
        · subst hji
          rw [HKK.out, Array.getElem?_setIfInBounds_self_of_lt (by rw [HS.out]; omega)]
        · rw [Array.getElem?_setIfInBounds_ne (fun e => hji e.symm)]; exact HM.out j (by omega)⟩
      case measure => simp [intOf]; omega
    · obtain rfl : i = n := by omega
      go_wp2_with fail
      go_ret
      exact ⟨rfl, HBut.out, cs, HG.out, fun j s hj => by
        have hl := (List.getElem?_eq_some_iff.1 hj).1
        rw [marksI_length] at hl
        rw [marksI_at hl] at hj
        cases hj
        exact HM.out j hl⟩

set_option maxHeartbeats 400000 in
theorem markIntS_nil (k0 : Nat) (c : Nat) (w : World) :
    Calls Try.prog 29 #[.slice none 0 c, .int .i64 k0] w fun e w' => e = .returned (.int .i64 k0) ∧ w = w' := by
  go_enter Try.func29, Try.ntmps29
  go_wp2
  refine wp_loop_rounds 1 ?_
  rw [rounds_succ]
  go_wp2
  go_ret
  exact ⟨rfl, rfl⟩

def HdIRel (k0 n : Nat) (w : World) (kv iv : Value) (wr : World) : Prop :=
  ∃ i : Nat, i ≤ n ∧ kv = .int .i64 ((k0 + i : Nat) : Int) ∧ iv = .int .i64 i ∧ w = wr

set_option maxRecDepth 100000 in
set_option maxHeartbeats 1000000 in
/-- heldIntS on what holds its marks. -/
theorem heldIntS_own (A : Option Addr) (c k0 n B : Nat) (w : World) (h : Ints w B A (marksI k0 n)) (h2 : k0 + n ≤ 4194304) :
    Calls Try.prog 30 #[.slice A n c, .int .i64 k0] w fun e w' => e = .returned (.int .i64 ((k0 + n : Nat) : Int)) ∧ w = w' := by
  go_enter Try.func30, Try.ntmps30
  go_wp2
  go_loopw [1, 5] (HdIRel k0 n w) (fun _ i _ => n - (intOf i).toNat)
  case atStart => exact ⟨0, Nat.zero_le _, rfl, rfl, rfl⟩
  case round =>
    obtain ⟨i, hi, rfl, rfl, rfl⟩ := hrel
    by_cases hlt : i < n
    · obtain ⟨b, off, x, rfl, hb, hx, hc⟩ := h.at_ (k := i) (by rw [marksI_length]; exact hlt)
      rw [marksI_at hlt] at hx
      obtain rfl := Option.some.inj hx
      obtain ⟨kk, hkk⟩ : ∃ kk, k0 + i = kk := ⟨_, rfl⟩
      have hki : ((k0 + i : Nat) : Int) = (kk : Int) := by rw [hkk]
      rw [hki] at hc ⊢
      have hk1 : (kk : Int) + 1 ≤ 4194305 := by omega
      have hk0 : 0 ≤ (kk : Int) := by omega
      have hne : ((kk : Int) != (kk : Int)) = false := by simp
      have HKK := hid hkk
      clear hkk hki hx h
      go_wp2_with fail
      go_roundw
      case rel => exact ⟨i + 1, by omega, by rw [← Nat.add_assoc, HKK.out]; go_num, by go_num, rfl⟩
      case measure => simp [intOf]; omega
    · obtain rfl : i = n := by omega
      go_wp2_with fail
      go_ret
      exact ⟨rfl, rfl⟩

theorem markOwnI (A : Option Addr) (c lo kn : Nat) (l : List Int) (w : World) (h : Own3 w lo A l) (hlo : lo ≤ w.heap.size) (hl : l.length ≤ 1048576) (hk : 1 + l.length = kn) :
    Calls Try.prog 29 #[.slice A l.length c, .int .i64 1] w fun e w' => e = .returned (.int .i64 kn) ∧ Below lo w w' ∧ Own3 w' lo A (marksI 1 l.length) := by
  subst hk
  rcases h with ⟨rfl, rfl⟩ | ⟨g, rfl, hg, hr⟩
  · refine (markIntS_nil 1 c w).mono ?_
    rintro e w' ⟨rfl, rfl⟩
    exact ⟨rfl, Below.refl _ _, .inl ⟨rfl, rfl⟩⟩
  · refine (markIntS_row g c l.length 1 l w rfl hr (by omega)).mono ?_
    rintro e w' ⟨rfl, hb, hr'⟩
    exact ⟨rfl, hb.below hg hlo, .inr ⟨g, rfl, hg, hr'⟩⟩
theorem heldOwnI (A : Option Addr) (c lo kn n : Nat) (w : World) (h : Own3 w lo A (marksI 1 n)) (hl : n ≤ 1048576) (hk : 1 + n = kn) :
    Calls Try.prog 30 #[.slice A n c, .int .i64 1] w fun e w' => e = .returned (.int .i64 kn) ∧ w = w' := by
  subst hk
  exact heldIntS_own A c 1 n _ w h.ints (by omega)
theorem Ints.but {w w' : World} {B g : Nat} {A : Option Addr} {l : List Int} (h : Ints w B A l) (hb : But g w w') (hB : B ≤ g) (hw : B ≤ w.heap.size) : Ints w' B A l := h.below (hb.below hB hw) (Nat.le_refl _)

end Go.Proofs.Ytminailbhgimkaa

/- l3Marks of the specification, by its contract; blocks of bools. -/
namespace Go.Proofs.Ytminailbhgimkaa
open Go.RowKit Go.Shelf

theorem Try.info_bool : (Try.prog.info? 4).map (fun i => (i.zero, i.size, i.bytes)) = some (some (.bool false), 1, 1) := by kernel_rfl
/-- Block g holds N bools, told by M. -/
def MarksAt (w : World) (g N : Nat) (M : Nat → Prop) : Prop :=
  ∃ cs : Array Value, w.heap[g]? = some (.cells cs 4 (0, 0)) ∧ cs.size = N ∧ ∀ c, c < N → ∃ b : Bool, cs[c]? = some (.bool b) ∧ (b = true ↔ M c)
theorem MarksAt.lt {w : World} {g N : Nat} {M : Nat → Prop} (h : MarksAt w g N M) : g < w.heap.size := by
  obtain ⟨cs, h, _⟩ := h
  exact lt_of_block h
theorem MarksAt.keep {w w' : World} {g N : Nat} {M : Nat → Prop} (h : MarksAt w g N M) (hb : w'.heap[g]? = w.heap[g]?) : MarksAt w' g N M := by
  obtain ⟨cs, h, hr⟩ := h
  exact ⟨cs, hb.trans h, hr⟩
theorem MarksAt.below {w w' : World} {g N : Nat} {M : Nat → Prop} (h : MarksAt w g N M) (hb : Below w.heap.size w w') : MarksAt w' g N M := h.keep (hb.block g h.lt)
theorem MarksAt.congr {w : World} {g N : Nat} {M M' : Nat → Prop} (h : MarksAt w g N M) (e : ∀ c, c < N → (M c ↔ M' c)) : MarksAt w g N M' := by
  obtain ⟨cs, h, hs, hr⟩ := h
  refine ⟨cs, h, hs, fun c hc => ?_⟩
  obtain ⟨b, h1, h2⟩ := hr c hc
  exact ⟨b, h1, h2.trans (e c hc)⟩
theorem MarksAt.cell {w : World} {g N c : Nat} {M : Nat → Prop} (h : MarksAt w g N M) (hc : c < N) : ∃ b : Bool, w.cell? ⟨g, c, none⟩ = some (.bool b) ∧ (b = true ↔ M c) ∧ w.frozen? ⟨g, c, none⟩ = false := by
  obtain ⟨cs, h, hs, hr⟩ := h
  obtain ⟨b, h1, h2⟩ := hr c hc
  exact ⟨b, by rw [cell_of_row _ _ _ _ _ _ h]; exact h1, h2, frozen_of_row _ _ _ _ _ h⟩
theorem MarksAt.set {w : World} {g N c : Nat} {M : Nat → Prop} (h : MarksAt w g N M) : MarksAt (w.setCell ⟨g, c, none⟩ (.bool true)) g N (fun c' => M c' ∨ c = c') := by
  obtain ⟨cs, h, hs, hr⟩ := h
  refine ⟨_, heap_setCell_same _ _ c _ _ (.bool true) h, by simp [hs], fun c' hc' => ?_⟩
  by_cases e : c = c'
  · subst e
    exact ⟨true, by rw [Array.getElem?_setIfInBounds_self_of_lt (by omega)], by simp⟩
  · rw [Array.getElem?_setIfInBounds_ne e]
    obtain ⟨b, h1, h2⟩ := hr c' hc'
    exact ⟨b, h1, h2.trans ⟨.inl, fun h => h.resolve_right e⟩⟩
theorem MarksAt.made {w : World} {g N : Nat} (h : w.heap[g]? = some (.cells (madeCells #[.bool false] N) 4 (0, 0))) (M : Nat → Prop) (hM : ∀ c, ¬ M c) : MarksAt w g N M :=
  ⟨_, h, size_madeCells _ _, fun c hc => ⟨false, by simp [madeCells, hc, Nat.mod_one], by simpa using hM c⟩⟩

def MOut (n m : Nat) (t : Int → Int → UInt8) (N g : Nat) (w : World) (i : Value) (wr : World) : Prop :=
  ∃ k : Nat, k ≤ 2 * (n + m) ∧ i = .int .i64 k ∧ MarksAt wr g N (fun c => ∃ p, p < k ∧ ∃ j, j < blen n m t p ∧ wcode m (bway n m t p j) = c) ∧ Below w.heap.size w wr
def MIn (m L : Nat) (bw : Nat → Wy) (M : Nat → Prop) (N g : Nat) (wo : World) (i : Value) (wr : World) : Prop :=
  ∃ j : Nat, j ≤ L ∧ i = .int .i64 j ∧ MarksAt wr g N (fun c => M c ∨ ∃ i, i < j ∧ wcode m (bw i) = c) ∧ But g wo wr
theorem cellsI_at {m L j : Nat} {bw : Nat → Wy} (h : j < L) : (cellsI m bw L)[j]? = some ((cellN m (bw j) : Nat) : Int) := by simp [cellsI, h]
theorem headsI_at' {L j : Nat} {bw : Nat → Wy} (h : j < L) : (headsI bw L)[j]? = some (((bw j).d : Nat) : Int) := by simp [headsI, h]

set_option maxRecDepth 100000 in
set_option maxHeartbeats 2000000 in
theorem l3Marks_any (A : Option Addr) (c B n m : Nat) (ss : List ByteArray) (w : World) (h : Strs w B A ss) (hB : B ≤ w.heap.size) (hg : IsGrid n m ss) :
    Calls Try.prog 78 #[.slice A ss.length c] w fun e w' => ∃ g, w.heap.size ≤ g ∧ e = .returned (.slice (some ⟨g, 0, none⟩) (4 * (n * m)) (4 * (n * m))) ∧
      MarksAt w' g (4 * (n * m)) (fun c => onR n m (lett m (pad (flat ss))) (wayN m c) = false) ∧ Below w.heap.size w w' := by
  have hn1 := hg.2.1
  have hn5 := hg.2.2.1
  have hm1 := hg.2.2.2.1
  have hm5 := hg.2.2.2.2.1
  have h25 := hg.le25
  have hnl := hg.1
  obtain ⟨b, off, s0, rfl, hb, hk0, hc0⟩ := h.at_ (k := 0) (by omega)
  rw [Nat.add_zero] at hc0
  have hs0 : s0.size = m := (hg.2.2.2.2.2 s0 (List.mem_of_getElem? hk0)).1
  have hs0i : ((s0.size : Nat) : Int) = (m : Int) := by rw [hs0]
  have hl0 : (0 : Int) < (ss.length : Int) := by omega
  have HP := hid (fun w => l2Ports_any n m w hn5 hm5)
  have HW := hid (fun q w' (hst : Strs w' B (some ⟨b, off, none⟩) ss) hB' hq => l2Way_port (some ⟨b, off, none⟩) c B n m q ss w' hst hB' hg hq)
  have HBM := hid (fun c hc => beam_marks (t := lett m (pad (flat ss))) (c := c) hn1 hm1 hc)
  have HBL := hid (fun q hq => blen_lt (n := n) (m := m) (t := lett m (pad (flat ss))) (p := q) hq)
  have HIN := hid (fun q j hj => blen_in (n := n) (m := m) (t := lett m (pad (flat ss))) (p := q) (j := j) hj)
  have HDD := hid (fun q j => bway_d (n := n) (m := m) (t := lett m (pad (flat ss))) q j)
  have HH := hid h
  have HBB := hid hB
  have HKs := hid hk0
  have HNL := hid hnl
  clear hs0 hk0 h hB hg
  generalize lett m (pad (flat ss)) = t at *
  rw [HNL.out] at hl0 HW ⊢
  clear hnl
  obtain ⟨N, hN⟩ : ∃ N, 4 * (n * m) = N := ⟨_, rfl⟩
  have hN100 : N ≤ 100 := by omega
  have hNi : 4 * (n : Int) * (m : Int) = (N : Int) := by rw [← hN]; simp [Int.mul_assoc]
  have hN4 : 4 * ((n : Int) * (m : Int)) = (N : Int) := by rw [← Int.mul_assoc]; exact hNi
  have hNn : 0 ≤ (N : Int) := Int.natCast_nonneg _
  have hn4 : 4 * (n : Int) ≤ 20 := by omega
  have HNN := hid hN
  rw [hN] at HBM HBL ⊢
  have hmk := run_make_row' (P := Try.prog) 96 4 (.bool false) 1 Try.underlying96 Try.info_bool rfl .i64 .i64 N (by omega) (by omega)
  clear hN h25 hN4
  go_enter Try.func78, Try.ntmps78
  go_wp2_with fail
  have HX0 := hid (MarksAt.made (heap_new0 w (.cells (madeCells #[.bool false] N) 4)) (fun c => ∃ p, p < 0 ∧ ∃ j, j < blen n m t p ∧ wcode m (bway n m t p j) = c) (fun c hc => by obtain ⟨p, hp, _⟩ := hc; omega))
  have HXB := hid (show Below w.heap.size w (w.alloc (.cells (madeCells #[.bool false] N) 4)) from (Below.refl _ w).alloc (Nat.le_refl _) _)
  go_loopw [5] (MOut n m t N w.heap.size w) (fun i _ => 2 * (n + m) - (intOf i).toNat)
  case atStart => exact ⟨0, Nat.zero_le _, rfl, HX0.out, HXB.out⟩
  case round =>
    obtain ⟨k, hk, rfl, hma, hbel⟩ := hrel
    have HMA := hid hma
    have HB := hid hbel
    have hst := hid (HH.out.below hbel HBB.out)
    have hc0 := hst.out.cell_ HKs.out
    rw [Nat.add_zero] at hc0
    clear hma hbel
    have hkN : k ≤ 2 * (n + m) := hk
    go_wp2_with fail
    refine (HP.out _).mono ?_
    rintro e w' ⟨rfl, rfl⟩
    by_cases hlt : k < 2 * (n + m)
    · have hli : (k : Int) < 2 * ((n : Int) + (m : Int)) := by omega
      have hway := hid (HW.out k wr hst.out (Nat.le_trans HBB.out HB.out.size) hlt)
      have hL := HBL.out k hlt
      have HI := hid (fun j hj => HIN.out k j hj)
      have HD := hid (fun j => HDD.out k j)
      have HSU := hid (show ∀ c, (∃ p, p < k + 1 ∧ ∃ j, j < blen n m t p ∧ wcode m (bway n m t p j) = c) ↔ ((∃ p, p < k ∧ ∃ j, j < blen n m t p ∧ wcode m (bway n m t p j) = c) ∨ ∃ j, j < blen n m t k ∧ wcode m (bway n m t k j) = c) from fun c => by
        constructor
        · rintro ⟨p, hp, hr⟩
          rcases Nat.lt_or_ge p k with h1 | h1
          · exact .inl ⟨p, h1, hr⟩
          · obtain rfl : p = k := by omega
            exact .inr hr
        · rintro (⟨p, hp, hr⟩ | hr)
          · exact ⟨p, by omega, hr⟩
          · exact ⟨k, by omega, hr⟩)
      generalize hM : (fun c => ∃ p, p < k ∧ ∃ j, j < blen n m t p ∧ wcode m (bway n m t p j) = c) = M at HMA
      have HMM := hid hM
      clear hM
      generalize blen n m t k = L at hway hL HI HSU
      generalize bway n m t k = bw at hway HI HD HSU
      clear hc0
      go_wp2_with fail
      refine hway.out.mono ?_
      rintro e w1 ⟨v, v', rfl, hv1, hv2, hb1⟩
      obtain ⟨A1, c1, rfl, ho1⟩ := hv1.own
      obtain ⟨A2, c2, rfl, ho2⟩ := hv2.own
      rw [cellsI_length, headsI_length]
      have HO1 := hid ho1
      have HO2 := hid ho2
      have HM1 := hid (HMA.out.below hb1)
      have HB1 := hid (HB.out.trans (hb1.mono HB.out.size))
      have HGL := hid HMA.out.lt
      clear hv1 hv2 ho1 ho2 hb1 hway
      go_wp2_with fail
      go_loopw [9] (MIn m L bw M N w.heap.size w1) (fun i _ => L - (intOf i).toNat)
      case atStart => exact ⟨0, Nat.zero_le _, rfl, HM1.out.congr fun c _ => ⟨.inl, fun h => h.resolve_right (fun ⟨i, hi, _⟩ => by omega)⟩, But.refl _ _⟩
      case round =>
        obtain ⟨j, hj, rfl, hma, hbut⟩ := hrel
        have HMJ := hid hma
        have HBT := hid hbut
        clear hma hbut
        by_cases hjl : j < L
        · have i1 := (HO1.out.but HBT.out HGL.out).ints
          have i2 := (HO2.out.but HBT.out HGL.out).ints
          obtain ⟨b1, off1, x1, rfl, hbb1, hx1, hcx1⟩ := i1.at_ (k := j) (by rw [cellsI_length]; exact hjl)
          obtain ⟨b2, off2, x2, rfl, hbb2, hx2, hcx2⟩ := i2.at_ (k := j) (by rw [headsI_length]; exact hjl)
          rw [cellsI_at hjl] at hx1
          rw [headsI_at' hjl] at hx2
          obtain rfl := Option.some.inj hx1
          obtain rfl := Option.some.inj hx2
          have hin := HI.out j hjl
          have hd4 := HD.out j
          have hcn := wcode_cell (m := m) (bw j)
          have hcl := wcode_lt hin hd4
          rw [HNN.out] at hcl
          obtain ⟨cv, hcv⟩ : ∃ cv, cellN m (bw j) = cv := ⟨_, rfl⟩
          obtain ⟨dv, hdv⟩ : ∃ dv, (bw j).d = dv := ⟨_, rfl⟩
          obtain ⟨q, hq⟩ : ∃ q, wcode m (bw j) = q := ⟨_, rfl⟩
          rw [hcv, hdv, hq] at hcn
          rw [hq] at hcl
          rw [hcv] at hcx1
          rw [hdv] at hcx2 hd4
          have HQ := hid hq
          obtain ⟨bq, hcq, _, hfq⟩ := HMJ.out.cell hcl
          have hidx : 4 * (cv : Int) + (dv : Int) = (q : Int) := by omega
          have hw1 : IntKind.i64.wrap (4 * (cv : Int)) = 4 * (cv : Int) := IntWalk.i64_in _ (by omega)
          have hw2 : IntKind.i64.wrap (q : Int) = (q : Int) := IntWalk.i64_in _ (by omega)
          have hqi : (q : Int) < (N : Int) := by omega
          have hq0 : 0 ≤ (q : Int) := by omega
          have hji : (j : Int) < (L : Int) := by omega
          have hji0 : (0 : Int) ≤ (j : Int) := by omega
          have hcv4 : 4 * (cv : Int) ≤ 100 := by omega
          have hcv0 : 0 ≤ (cv : Int) := by omega
          clear hx1 hx2 i1 i2 hin hcv hdv hq hcn
          go_wp2_with fail
          go_still_tail 12, (by kernel_rfl)
          go_wp2_with fail
          go_roundw
          case rel =>
            refine ⟨j + 1, by omega, by go_num, ?_, HBT.out.trans ((But.of_below (Below.refl _ _).drew).trans (But.setCell _ _ _))⟩
            refine (MarksAt.set (c := q) (HMJ.out.keep (w' := World.drew _) rfl)).congr fun c _ => ?_
            constructor
            · rintro ((h | ⟨i, hi, h⟩) | h)
              · exact .inl h
              · exact .inr ⟨i, by omega, h⟩
              · exact .inr ⟨j, by omega, by rw [HQ.out]; exact h⟩
            · rintro (h | ⟨i, hi, h⟩)
              · exact .inl (.inl h)
              · rcases Nat.lt_or_ge i j with h1 | h1
                · exact .inl (.inr ⟨i, h1, h⟩)
                · obtain rfl : i = j := by omega
                  exact .inr (by rw [← HQ.out]; exact h)
          case measure => simp [intOf]; omega
        · obtain rfl : j = L := by omega
          go_wp2_with fail
          go_roundw
          case rel =>
            refine ⟨k + 1, by omega, by go_num, ?_, HB1.out.trans (HBT.out.below (Nat.le_refl _) HB1.out.size)⟩
            refine HMJ.out.congr fun c _ => ?_
            rw [← HMM.out]
            exact (HSU.out c).symm
          case measure => simp [intOf]; omega
    · have hli : ¬ (k : Int) < 2 * ((n : Int) + (m : Int)) := by omega
      obtain rfl : k = 2 * (n + m) := by omega
      go_wp2_with fail
      go_ret
      exact ⟨w.heap.size, Nat.le_refl _, rfl, HMA.out.congr fun c hc => HBM.out c hc, HB.out⟩

end Go.Proofs.Ytminailbhgimkaa

/- l3Rounds of the specification, by its contract. -/
namespace Go.Proofs.Ytminailbhgimkaa
open Go.RowKit Go.Shelf

/-- The lengths of the rounds of the leading numbers below x. -/
def lensTo (n m : Nat) (t : Int → Int → UInt8) (x : Nat) : List Int := (leadsTo n m t x).map fun l => ((rlen n m t (wayN m l) : Nat) : Int)
theorem lensTo_le (n m : Nat) (t : Int → Int → UInt8) (x : Nat) : (lensTo n m t x).length ≤ x := by
  unfold lensTo
  rw [List.length_map]; exact leadsTo_le x
def ROut (n m : Nat) (t : Int → Int → UInt8) (N g : Nat) (w : World) (v i : Value) (wr : World) : Prop :=
  ∃ x : Nat, x ≤ N ∧ i = .int .i64 x ∧ GrowI wr w.heap.size v (lensTo n m t x) ∧ (∀ b, v.ownBlock = some b → b ≠ g) ∧ MarksAt wr g N (Mk n m t x) ∧ Below w.heap.size w wr
def RIn (m L : Nat) (t : Int → Int → UInt8) (bw : Nat → Wy) (M : Nat → Prop) (N g : Nat) (wo : World) (i : Value) (wr : World) : Prop :=
  ∃ j : Nat, j ≤ L ∧ i = .int .i64 j ∧ MarksAt wr g N (fun c => M c ∨ ∃ i, i < j ∧ (c = wcode m (bw i) ∨ c = wcode m (rev t (bw i)))) ∧ But g wo wr
theorem xor_opp {d : Nat} (h : d < 4) : bits .xor .i64 (d : Int) 2 = ((opp d : Nat) : Int) := by
  rcases four h with rfl | rfl | rfl | rfl <;> decide
theorem but_grown {g : Nat} {w w' : World} (h : But g w w') : w.grownBy w' (some g) := ⟨h.os, h.tape, h.output, h.size, fun k hk hne => h.block k hk (fun e => hne (by rw [e]))⟩
theorem GrowI.but {w w' : World} {base g : Nat} {v : Value} {l : List Int} (h : GrowI w base v l) (hb : But g w w') (hn : ∀ b, v.ownBlock = some b → b ≠ g) : GrowI w' base v l := by
  refine World.ownsRow.kept h (but_grown hb) ?_
  cases hv : v.ownBlock with
  | none => exact .inl rfl
  | some k => exact .inr (fun e => by cases e; exact hn g hv rfl)
theorem GrowI.below3 {w w' : World} {base : Nat} {v : Value} {l : List Int} (h : GrowI w base v l) (hb : Below w.heap.size w w') : GrowI w' base v l := by
  refine World.ownsRow.kept h (Cls.grown hb) ?_
  cases v.ownBlock with
  | none => exact .inl rfl
  | some k => exact .inr (fun e => by cases e)

set_option maxRecDepth 100000 in
set_option maxHeartbeats 4000000 in
theorem l3Rounds_any (A : Option Addr) (c B n m : Nat) (ss : List ByteArray) (w : World) (h : Strs w B A ss) (hB : B ≤ w.heap.size) (hg : IsGrid n m ss) :
    Calls Try.prog 48 #[.slice A ss.length c] w fun e w' => ∃ v, e = .returned v ∧ GrowI w' w.heap.size v (lensTo n m (lett m (pad (flat ss))) (4 * (n * m))) ∧ Below w.heap.size w w' := by
  have hn1 := hg.2.1
  have hn5 := hg.2.2.1
  have hm1 := hg.2.2.2.1
  have hm5 := hg.2.2.2.2.1
  have h25 := hg.le25
  have HMK := hid (fun w' (hst : Strs w' B A ss) hB' => l3Marks_any A c B n m ss w' hst hB' hg)
  have HCL := hid (fun p d0 w' (hst : Strs w' B A ss) hB' hp hd => l3Close_any A c B n m p d0 ss w' hst hB' hg hp hd)
  have HCE := hid (fun p bt w' (hst : Strs w' B A ss) hp hf => l2Cell_any A c B n m p ss bt w' hst hg hp hf)
  have HLT := hid (fun x (hx : inG n m x) => lett_flat hg hx)
  have HH := hid h
  have HBB := hid hB
  clear h hB hg
  generalize lett m (pad (flat ss)) = t at *
  obtain ⟨N, hN⟩ : ∃ N, 4 * (n * m) = N := ⟨_, rfl⟩
  have hN100 : N ≤ 100 := by omega
  have HNN := hid hN
  rw [hN] at HMK ⊢
  clear hN
  have hst0 := hid (HH.out.below ((Below.refl w.heap.size w).alloc (Nat.le_refl _) (.cells #[] 3)) HBB.out)
  have HM0 := hid (HMK.out _ hst0.out (Nat.le_trans HBB.out (by simp)))
  go_enter Try.func48, Try.ntmps48
  go_wp2_with fail
  refine HM0.out.mono ?_
  rintro e w0 ⟨g, hgl, rfl, hma, hb0⟩
  have hgl2 : w.heap.size < g := by simp at hgl; omega
  have HGL := hid hgl2
  have HMA0 := hid (hma.congr fun c hc => (mk_zero (n := n) (m := m) (t := t) (c := c)).symm)
  have HB0 := hid (((Below.refl w.heap.size w).alloc (Nat.le_refl _) (.cells #[] 3)).trans (hb0.mono (by simp)))
  have HG0 := hid ((growI_new w w.heap.size (Nat.le_refl _)).below3 hb0)
  clear hgl hgl2 hma hb0 hst0 HM0 HMK
  go_wp2_with fail
  go_loopw [3, 5] (ROut n m t N g w) (fun _ i _ => N - (intOf i).toNat)
  case atStart => exact ⟨0, Nat.zero_le _, rfl, HG0.out, fun b e => (by cases e; exact Nat.ne_of_lt HGL.out), HMA0.out, HB0.out⟩
  case round =>
    obtain ⟨x, hx, rfl, hgr, hap, hma, hbel⟩ := hrel
    have HGR := hid hgr
    have HAP := hid hap
    have HMA := hid hma
    have HB := hid hbel
    clear hgr hap hma hbel
    by_cases hlt : x < N
    · obtain ⟨bx, hcx, hbx, _⟩ := HMA.out.cell hlt
      have hxi : (x : Int) < (N : Int) := by omega
      have hxi0 : (0 : Int) ≤ (x : Int) := by omega
      cases bx with
      | true =>
        have hno := mk_not (hbx.1 rfl)
        have HNO := hid hno
        clear hbx hno
        go_wp2_with fail
        go_roundw
        case rel =>
          refine ⟨x + 1, by omega, by go_num, ?_, HAP.out, HMA.out.congr fun c _ => (mk_no HNO.out).symm, HB.out⟩
          unfold lensTo
          rw [leadsTo_no HNO.out]
          exact HGR.out
        case measure => simp [intOf]; omega
      | false =>
        have hyes := mk_lead (fun hm => by have := hbx.2 hm; cases this)
        have hon := (lead_iff.1 hyes).1
        have HYES := hid hyes
        have hx4 : x < 4 * (n * m) := by rw [HNN.out]; exact hlt
        have hp : x / 4 < n * m := by omega
        have hd4 : x % 4 < 4 := Nat.mod_lt _ (by decide)
        obtain ⟨p4, hp4⟩ : ∃ p4, x / 4 = p4 := ⟨_, rfl⟩
        obtain ⟨r4, hr4⟩ : ∃ r4, x % 4 = r4 := ⟨_, rfl⟩
        have hdiv : (x : Int) / 4 = (p4 : Int) := by omega
        have hmod : (x : Int) % 4 = (r4 : Int) := by omega
        have hway : (⟨((p4 / m : Nat) : Int), ((p4 % m : Nat) : Int), r4⟩ : Wy) = wayN m x := by rw [← hp4, ← hr4]; rfl
        rw [hp4] at hp
        rw [hr4] at hd4
        have hcl := hid (HCL.out p4 r4 wr (HH.out.below HB.out HBB.out) (Nat.le_trans HBB.out HB.out.size) hp hd4)
        rw [hway] at hcl
        obtain ⟨k1, k2, k3, k4⟩ := rlen_facts (wayN_d (m := m) x) hon
        have HRM := hid (fun c => ring_marks (m := m) (n := n) (t := t) (x := x) (c := c) hyes)
        have HIN := hid (fun j => onR_all (wayN_d (m := m) x) hon j)
        have HDD := hid (fun j => iter_d (t := t) (wayN_d (m := m) x) j)
        have hgo : goL n m t (wayN m x) = rlen n m t (wayN m x) := by unfold goL; rw [if_pos hon]
        have HLEN := hid (show lensTo n m t (x + 1) = lensTo n m t x ++ [((rlen n m t (wayN m x) : Nat) : Int)] by unfold lensTo; rw [leadsTo_yes hyes, List.map_append]; rfl)
        unfold CloseEnd at hcl
        rw [hgo, hon] at hcl
        generalize rlen n m t (wayN m x) = L at *
        generalize iter t (wayN m x) = bw at hcl HRM HIN HDD
        have hL100 : L ≤ 100 := by omega
        have HLL := hid k1
        have hq25 : (p4 : Int) < 25 := by omega
        have hr4i : (r4 : Int) < 4 := by omega
        clear hbx hyes hon hway k1 k2 k3 k4 hgo hp hd4 hp4 hr4
        go_wp2_with fail
        refine hcl.out.mono ?_
        rintro e w1 ⟨v, v', rfl, hv1, hv2, hb1⟩
        obtain ⟨A1, c1, rfl, ho1⟩ := hv1.own
        obtain ⟨A2, c2, rfl, ho2⟩ := hv2.own
        rw [cellsI_length, headsI_length]
        have HO1 := hid ho1
        have HO2 := hid ho2
        have HM1 := hid (HMA.out.below hb1)
        have HG1 := hid (HGR.out.below3 hb1)
        have HB1 := hid (HB.out.trans (hb1.mono HB.out.size))
        have HGW := hid HMA.out.lt
        clear hv1 hv2 ho1 ho2 hb1 hcl hcx
        go_wp2_with fail
        go_loopw [9] (RIn m L t bw (Mk n m t x) N g w1) (fun i _ => L - (intOf i).toNat)
        case atStart => exact ⟨0, Nat.zero_le _, rfl, HM1.out.congr fun c _ => ⟨.inl, fun h => h.resolve_right (fun ⟨i, hi, _⟩ => by omega)⟩, But.refl _ _⟩
        case round =>
          obtain ⟨j, hj, rfl, hma, hbut⟩ := hrel
          have HMJ := hid hma
          have HBT := hid hbut
          clear hma hbut
          by_cases hjl : j < L
          · have i1 := (HO1.out.but HBT.out HGW.out).ints
            have i2 := (HO2.out.but HBT.out HGW.out).ints
            obtain ⟨b1, off1, x1, rfl, hbb1, hx1, hcx1⟩ := i1.at_ (k := j) (by rw [cellsI_length]; exact hjl)
            obtain ⟨b2, off2, x2, rfl, hbb2, hx2, hcx2⟩ := i2.at_ (k := j) (by rw [headsI_length]; exact hjl)
            rw [cellsI_at hjl] at hx1
            rw [headsI_at' hjl] at hx2
            obtain rfl := Option.some.inj hx1
            obtain rfl := Option.some.inj hx2
            have hin := HIN.out j
            have hd4 := HDD.out j
            have hcn := wcode_cell (m := m) (bw j)
            have hcl := wcode_lt hin hd4
            have hcn2 := wcode_cell (m := m) (rev t (bw j))
            have hcl2 := wcode_lt (rev_in (t := t).2 hin) (rev_d (t := t) (bw j))
            rw [HNN.out] at hcl hcl2
            have hcc : cellN m (rev t (bw j)) = cellN m (bw j) := rfl
            have hrd : (rev t (bw j)).d = opp (bend (t (bw j).i (bw j).k) (bw j).d) := rfl
            rw [hcc, hrd] at hcn2
            have hclt := cellN_lt hin
            have hfl := HLT.out (bw j) hin
            have hbd := bend_lt (t (bw j).i (bw j).k) hd4
            have hxo := xor_opp hbd
            have hopl := opp_lt (bend (t (bw j).i (bw j).k) (bw j).d)
            obtain ⟨bt, hbt⟩ : ∃ bt, t (bw j).i (bw j).k = bt := ⟨_, rfl⟩
            rw [hbt] at hcn2 hfl hbd hxo hopl
            obtain ⟨cv, hcv⟩ : ∃ cv, cellN m (bw j) = cv := ⟨_, rfl⟩
            obtain ⟨dv, hdv⟩ : ∃ dv, (bw j).d = dv := ⟨_, rfl⟩
            obtain ⟨q, hq⟩ : ∃ q, wcode m (bw j) = q := ⟨_, rfl⟩
            obtain ⟨q2, hq2⟩ : ∃ q, wcode m (rev t (bw j)) = q := ⟨_, rfl⟩
            rw [hcv, hdv, hq] at hcn
            rw [hcv, hdv, hq2] at hcn2
            rw [hq] at hcl
            rw [hq2] at hcl2
            rw [hcv] at hcx1 hclt hfl
            rw [hdv] at hcx2 hd4 hbd hxo hopl
            obtain ⟨ev, hev⟩ : ∃ ev, bend bt dv = ev := ⟨_, rfl⟩
            rw [hev] at hbd hxo hcn2 hopl
            have HBD := hid (show ∀ w', Calls Try.prog 80 #[.int .u8 bt.toNat, .int .i64 dv] w' fun e w'' => e = .returned (.int .i64 ((ev : Nat) : Int)) ∧ w' = w'' from fun w' => by rw [← hev]; exact l2Bend_any bt dv hd4 w')
            obtain ⟨ov, hov⟩ : ∃ ov, opp ev = ov := ⟨_, rfl⟩
            rw [hov] at hxo hcn2 hopl
            have HQ := hid hq
            have HQ2 := hid hq2
            obtain ⟨bq, hcq, _, hfq⟩ := HMJ.out.cell hcl
            have hidx : 4 * (cv : Int) + (dv : Int) = (q : Int) := by omega
            have hw1 : IntKind.i64.wrap (4 * (cv : Int)) = 4 * (cv : Int) := IntWalk.i64_in _ (by omega)
            have hw2 : IntKind.i64.wrap (q : Int) = (q : Int) := IntWalk.i64_in _ (by omega)
            have hqi : (q : Int) < (N : Int) := by omega
            have hq0 : 0 ≤ (q : Int) := by omega
            have hji : (j : Int) < (L : Int) := by omega
            have hji0 : (0 : Int) ≤ (j : Int) := by omega
            have hcv4 : 4 * (cv : Int) ≤ 100 := by omega
            have hcv0 : 0 ≤ (cv : Int) := by omega
            have hov4 : (ov : Int) < 4 := by omega
            have hidx2 : 4 * (cv : Int) + (ov : Int) = (q2 : Int) := by omega
            have HI1 := hid (show ∀ w', But g w1 w' → w'.cell? ⟨b1, off1 + j, none⟩ = some (.int .i64 (cv : Int)) from fun w' hb => by
              obtain ⟨b1', off1', x1, hA, _, hx1, hcx1⟩ := (HO1.out.but hb HGW.out).ints.at_ (k := j) (by rw [cellsI_length]; exact hjl)
              obtain ⟨rfl, rfl⟩ : b1 = b1' ∧ off1 = off1' := by cases hA; exact ⟨rfl, rfl⟩
              rw [cellsI_at hjl, hcv] at hx1
              obtain rfl := Option.some.inj hx1
              exact hcx1)
            have HI2 := hid (show ∀ w', But g w1 w' → w'.cell? ⟨b2, off2 + j, none⟩ = some (.int .i64 (dv : Int)) from fun w' hb => by
              obtain ⟨b1', off1', x1, hA, _, hx1, hcx1⟩ := (HO2.out.but hb HGW.out).ints.at_ (k := j) (by rw [headsI_length]; exact hjl)
              obtain ⟨rfl, rfl⟩ : b2 = b1' ∧ off2 = off1' := by cases hA; exact ⟨rfl, rfl⟩
              rw [headsI_at' hjl, hdv] at hx1
              obtain rfl := Option.some.inj hx1
              exact hcx1)
            have HCC := hid (fun w' (hw : Below w.heap.size w w') => HCE.out cv bt w' (HH.out.below hw HBB.out) hclt hfl)
            clear hx1 hx2 i1 i2 hin hcv hdv hq hq2 hcn hcn2 hcc hrd hbt hfl hev hov hclt
            go_wp2_with fail
            go_still_tail 12, (by kernel_rfl)
            go_wp2_with fail
            have HMX := hid ((MarksAt.set (c := q) HMJ.out).keep (w' := World.drew (World.setCell _ ⟨g, q, none⟩ (.bool true))) rfl)
            have HBX := hid ((HBT.out.trans (But.setCell _ q (.bool true))).trans (But.of_below (Below.refl _ _).drew))
            generalize World.drew (World.setCell _ _ _) = X at HMX HBX ⊢
            have HC1 := hid (show ∀ w', Cls X w' → w'.cell? ⟨b1, off1 + j, none⟩ = some (.int .i64 (cv : Int)) from fun w' hw => HI1.out w' (HBX.out.trans (But.of_below hw)))
            have HC2 := hid (show ∀ w', Cls X w' → w'.cell? ⟨b2, off2 + j, none⟩ = some (.int .i64 (dv : Int)) from fun w' hw => HI2.out w' (HBX.out.trans (But.of_below hw)))
            have HBW := hid (show Below w.heap.size w X from HB1.out.trans (HBX.out.below (Nat.le_of_lt HGL.out) HB1.out.size))
            clear hcx1 hcx2 hcq hfq
            refine wp_region_quiet (C := Cls X) (by kernel_rfl) (by kernel_rfl) (Below.refl _ X).drew ?_
            quiet_step ((intro _; rfl))
            quiet_step ((intro _; rfl))
            quiet_step ((intro _; rfl))
            quiet_step ((intro _; rfl))
            refine wpQuiet_value rfl (.int .i64 (cv : Int)) (fun w' hw => by have hc := HC1.out w' hw; go_simp) ?_
            refine wpQuiet_call rfl 81 #[.slice A ss.length c, .int .i64 (cv : Int)] (.int .u8 bt.toNat) (fun w _ => by go_simp) (fun w' hw => (HCC.out w' (HBW.out.trans (hw.mono HBW.out.size))).mono fun e w'' ⟨he, d, hb'⟩ => ⟨he, by rw [hb']; exact below_drewN' hw d⟩) ?_
            quiet_step ((intro _; rfl))
            quiet_step ((intro _; rfl))
            quiet_step ((intro _; rfl))
            refine wpQuiet_value rfl (.int .i64 (dv : Int)) (fun w' hw => by have hc := HC2.out w' hw; go_simp) ?_
            refine wpQuiet_call rfl 80 #[.int .u8 bt.toNat, .int .i64 (dv : Int)] (.int .i64 ((ev : Nat) : Int)) (fun w _ => by go_simp) (fun w' hw => (HBD.out w').mono fun e w'' ⟨he, hb'⟩ => ⟨he, by rw [← hb']; exact hw⟩) ?_
            quiet_step ((intro _; rfl))
            quiet_step ((intro _; rfl))
            refine wpQuiet_nil ?_
            intro w2 hw2
            have hcx := HC1.out w2 hw2
            have HM2 := hid (HMX.out.below hw2)
            have HBT2 := hid (HBX.out.trans (But.of_below hw2))
            obtain ⟨bq2, hcq2, _, hfq2⟩ := HM2.out.cell hcl2
            have hq2i : (q2 : Int) < (N : Int) := by omega
            have hq20 : 0 ≤ (q2 : Int) := by omega
            clear hw2 HMX HBX
            go_wp2_with fail
            go_roundw
            case rel =>
              refine ⟨j + 1, by omega, by go_num, ?_, HBT2.out.trans (But.setCell _ _ _)⟩
              refine (MarksAt.set (c := q2) HM2.out).congr fun c _ => ?_
              constructor
              · rintro (((h | ⟨i, hi, h⟩) | h) | h)
                · exact .inl h
                · exact .inr ⟨i, by omega, h⟩
                · exact .inr ⟨j, by omega, .inl (by rw [HQ.out]; exact h.symm)⟩
                · exact .inr ⟨j, by omega, .inr (by rw [HQ2.out]; exact h.symm)⟩
              · rintro (h | ⟨i, hi, h⟩)
                · exact .inl (.inl (.inl h))
                · rcases Nat.lt_or_ge i j with h1 | h1
                  · exact .inl (.inl (.inr ⟨i, h1, h⟩))
                  · obtain rfl : i = j := by omega
                    rcases h with h | h
                    · exact .inl (.inr (by rw [← HQ.out]; exact h.symm))
                    · exact .inr (by rw [← HQ2.out]; exact h.symm)
            case measure => simp [intOf]; omega
          · obtain rfl : j = L := by omega
            have HG2 := hid (HG1.out.but HBT.out HAP.out)
            have HB2 := hid (HB1.out.trans (HBT.out.below (Nat.le_of_lt HGL.out) HB1.out.size))
            go_wp2_with (at_builtin; refine wpList_appendI rfl _ _ rfl w.heap.size u3 (lensTo n m t x) rfl (World.ownsRow.alloc HG2.out _) _ 1 rfl ((j : Nat) : Int) (cell_newI _ _) ?c3 (Nat.le_trans HB2.out.size (by simp)) ?_)
            case c3 => have := lensTo_le n m t x; omega
            intro v3 w3 hgr3 hgw3 hlo3
            have HG3 := hid hgr3
            have HB3 := hid ((HB2.out.alloc HB2.out.size _).grown hgw3 (Nat.le_trans HB2.out.size (by simp)) (fun k e => (World.ownsRow.lt HG2.out k e).1))
            have HMZ := hid (show MarksAt w3 g N (Mk n m t (x + 1)) from by
              have h1 := HMJ.out.congr (M' := Mk n m t (x + 1)) (fun c _ => by
                rw [mk_yes HYES.out, ← HRM.out c])
              refine (h1.below (w' := World.alloc _ _) ((Below.refl _ _).alloc (Nat.le_refl _) _)).keep (hgw3.block g (by rw [World.size_alloc]; have := h1.lt; omega) (fun e => ?_))
              exact HAP.out g e.symm rfl)
            have HAP3 := hid (show ∀ b, v3.ownBlock = some b → b ≠ g from fun b e => by
              rcases hlo3 with h1 | h1
              · exact HAP.out b (h1 ▸ e)
              · rw [h1] at e
                cases e
                have := HMJ.out.lt
                first | omega | (simp only [World.size_alloc]; omega))
            clear hgr3 hgw3 hlo3
            go_wp2_with fail
            go_roundw
            case rel => exact ⟨x + 1, by omega, by go_num, by rw [HLEN.out]; exact HG3.out, HAP3.out, HMZ.out, HB3.out⟩
            case measure => simp [intOf]; omega
    · obtain rfl : x = N := by omega
      go_wp2_with fail
      go_ret
      exact ⟨_, rfl, HGR.out, HB.out⟩

end Go.Proofs.Ytminailbhgimkaa

/- RoundMany, RoundLeast of the specification, by their contracts. -/
namespace Go.Proofs.Ytminailbhgimkaa
open Go.RowKit Go.Shelf

/-- What a question on a grid comes to, where the answer is an integer and a bool. -/
def GridOut (R : Nat → Nat → (Int → Int → UInt8) → Int × Bool) (ss : List ByteArray) (x : Int) (ok : Bool) : Prop :=
  (∃ n m, IsGrid n m ss ∧ (x, ok) = R n m (lett m (pad (flat ss)))) ∨ (NoGrid ss ∧ x = 0 ∧ ok = false)
theorem GridOut.uniq {R : Nat → Nat → (Int → Int → UInt8) → Int × Bool} {ss : List ByteArray} {x x' : Int} {ok ok' : Bool} (h : GridOut R ss x ok) (h' : GridOut R ss x' ok') : x' = x ∧ ok' = ok := by
  rcases h with ⟨n, m, h1, h2⟩ | ⟨h1, rfl, rfl⟩ <;> rcases h' with ⟨n', m', h1', h2'⟩ | ⟨h1', rfl, rfl⟩
  · obtain ⟨rfl, rfl⟩ := h1.uniq h1'
    have := h2'.trans h2.symm
    cases this
    exact ⟨rfl, rfl⟩
  · exact absurd h1 (h1' _ _)
  · exact absurd h1' (h1 _ _)
  · exact ⟨rfl, rfl⟩
def manyR (n m : Nat) (t : Int → Int → UInt8) : Int × Bool := (((leads n m t).length : Int), true)
def pathsR (n m : Nat) (t : Int → Int → UInt8) : Int × Bool := (((leads n m t).length : Int) + (n : Int) + (m : Int), true)
def leastR (n m : Nat) (t : Int → Int → UInt8) : Int × Bool :=
  match (leads n m t).head? with
  | some l => (((l / 4 : Nat) : Int), true)
  | none => (0, false)
theorem lensTo_length (n m : Nat) (t : Int → Int → UInt8) (x : Nat) : (lensTo n m t x).length = (leadsTo n m t x).length := by simp [lensTo]

end Go.Proofs.Ytminailbhgimkaa
