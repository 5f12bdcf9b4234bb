/- What the laws on functions that hand back a list want: the ends opened, marks on an own list. -/
import Derived.Test.YtmdgbcepjnfbnaaSpecOther
import Derived.Test.YtmdgbcepjnfbnaaHeld
import Derived.Test.YtmdgbcepjnfbnaaSpecThree
import Derived.Test.YtmdgbcepjnfbnaaRow
import Derived.Test.YtmdgbcepjnfbnaaHead
namespace Go.Proofs.Ytmdgbcepjnfbnaa
open Go.RowKit

/-- The outcome and the list: the same for the program and the specification. -/
def Outcome (G : Nat → Nat → List UInt8 → List ByteArray) (ss : List ByteArray) (ok : Bool) (res : List ByteArray) : Prop :=
  (∃ n m, IsGrid n m ss ∧ ok = true ∧ res = G n m (pad (flat ss))) ∨ (NoGrid ss ∧ ok = false ∧ res = [])
theorem IsGrid.uniq {n m n' m' : Nat} {ss : List ByteArray} (h : IsGrid n m ss) (h' : IsGrid n' m' ss) : n = n' ∧ m = m' := by
  have a := h.nm
  have b := h'.nm
  have e : n = n' := a.1.trans b.1.symm
  have hl : 0 < ss.length := by have := h.1; have := h.2.1; omega
  exact ⟨e, (a.2 _ (List.getElem?_eq_getElem hl)).trans (b.2 _ (List.getElem?_eq_getElem hl)).symm⟩
theorem Outcome.uniq {G : Nat → Nat → List UInt8 → List ByteArray} {ss : List ByteArray} {ok ok' : Bool} {res res' : List ByteArray} (h : Outcome G ss ok res) (h' : Outcome G ss ok' res') : ok' = ok ∧ res' = res := by
  rcases h with ⟨n, m, hg, rfl, rfl⟩ | ⟨hn, rfl, rfl⟩ <;> rcases h' with ⟨n', m', hg', rfl, rfl⟩ | ⟨hn', rfl, rfl⟩
  · obtain ⟨rfl, rfl⟩ := hg.uniq hg'
    exact ⟨rfl, rfl⟩
  · exact absurd hg (hn' _ _)
  · exact absurd hg' (hn _ _)
  · exact ⟨rfl, rfl⟩
theorem SpecEnd.open_ {G : Nat → Nat → List UInt8 → List ByteArray} {ss : List ByteArray} {w w' : World} {e : Ending} (h : SpecEnd G ss w e w') :
    ∃ A c res ok, e = .returned (.tuple #[.slice A res.length c, .bool ok]) ∧ Outcome G ss ok res ∧ Strs w' w'.heap.size A res ∧ Below w.heap.size w w' := by
  obtain ⟨hb, ⟨n, m, A, c, hg, hs, rfl⟩ | ⟨hn, A, c, rfl⟩⟩ := h
  · exact ⟨A, c, _, true, rfl, .inl ⟨n, m, hg, rfl, rfl⟩, hs, hb⟩
  · exact ⟨A, c, [], false, rfl, .inr ⟨hn, rfl, rfl⟩, fun h => absurd h (by simp), hb⟩
theorem ChangeEnd.open_ {G : Nat → Nat → List UInt8 → List ByteArray} {ss : List ByteArray} {w w' : World} {e : Ending} (h : ChangeEnd G ss w e w') :
    ∃ A res ok, e = .returned (.tuple #[.slice A res.length res.length, .bool ok]) ∧ Outcome G ss ok res ∧ Own w' w.heap.size A res ∧ (res = [] → A = none ∨ ∃ g, A = some ⟨g, 0, none⟩ ∧ w.heap.size ≤ g ∧ Row9 w' g []) ∧ Below w.heap.size w w' := by
  obtain ⟨hb, ⟨n, m, g, hg, hlo, hrow, rfl⟩ | ⟨hn, rfl⟩⟩ := h
  · exact ⟨_, _, true, rfl, .inl ⟨n, m, hg, rfl, rfl⟩, fun _ => ⟨g, rfl, hlo, hrow⟩, fun he => .inr ⟨g, rfl, hlo, by rw [← he]; exact hrow⟩, hb⟩
  · exact ⟨none, [], false, rfl, .inr ⟨hn, rfl, rfl⟩, fun h => absurd h (by simp), fun _ => .inl rfl, hb⟩

/-- The list is of the call's own: nothing, or the head of a block from lo on. -/
def Own2 (w : World) (lo : Nat) (A : Option Addr) (ss : List ByteArray) : Prop := (A = none ∧ ss = []) ∨ ∃ g, A = some ⟨g, 0, none⟩ ∧ lo ≤ g ∧ Row9 w g ss
theorem Own2.of {w : World} {lo : Nat} {A : Option Addr} {ss : List ByteArray} (h : Own w lo A ss) (h0 : ss = [] → A = none ∨ ∃ g, A = some ⟨g, 0, none⟩ ∧ lo ≤ g ∧ Row9 w g []) : Own2 w lo A ss := by
  cases ss with
  | nil =>
    rcases h0 rfl with rfl | h
    · exact .inl ⟨rfl, rfl⟩
    · exact .inr h
  | cons s ss => exact .inr (h (by simp))
theorem Own2.strs {w : World} {lo : Nat} {A : Option Addr} {ss : List ByteArray} (h : Own2 w lo A ss) : Strs w w.heap.size A ss := by
  rcases h with ⟨rfl, rfl⟩ | ⟨g, rfl, _, hr⟩
  · exact Strs.nil_ _ _ _
  · exact hr.strs hr.lt
theorem Own2.below {w w' : World} {lo : Nat} {A : Option Addr} {ss : List ByteArray} (h : Own2 w lo A ss) (hb : Below w.heap.size w w') : Own2 w' lo A ss := by
  rcases h with h | ⟨g, rfl, hlo, hr⟩
  · exact .inl h
  · exact .inr ⟨g, rfl, hlo, hr.below hb hr.lt⟩
theorem Own2.but {w w' : World} {lo g : Nat} {A : Option Addr} {ss : List ByteArray} (h : Own2 w lo A ss) (hb : But g w w') (hg : g < lo) : Own2 w' lo A ss := by
  rcases h with h | ⟨b, rfl, hlo, hr⟩
  · exact .inl h
  · exact .inr ⟨b, rfl, hlo, hr.but hb (by omega)⟩
theorem markOwn (A : Option Addr) (lo kn : Nat) (res : List ByteArray) (w : World) (h : Own2 w lo A res) (hlo : lo ≤ w.heap.size) (hl : res.length ≤ 1048576) (hk : 1 + res.length = kn) :
    Calls Try.prog 37 #[.slice A res.length res.length, .int .i64 1] w fun e w' => e = .returned (.int .i64 kn) ∧ Below lo w w' ∧ Own2 w' lo A (marksOf 1 res.length) := by
  subst hk
  rcases h with ⟨rfl, rfl⟩ | ⟨g, rfl, hg, hr⟩
  · refine (markStringS_nil 1 w).mono ?_
    rintro e w' ⟨rfl, rfl⟩
    exact ⟨rfl, Below.refl _ _, .inl ⟨rfl, rfl⟩⟩
  · refine (markStringS_row g res.length res.length 1 res w rfl hr (by omega) (by omega)).mono ?_
    rintro e w' ⟨rfl, hb, hr'⟩
    exact ⟨rfl, hb.below hg hlo, .inr ⟨g, rfl, hg, hr'⟩⟩
theorem heldOwn (A : Option Addr) (lo kn n : Nat) (w : World) (h : Own2 w lo A (marksOf 1 n)) (hl : n ≤ 1048576) (hk : 1 + n = kn) :
    Calls Try.prog 52 #[.slice A n n, .int .i64 1] w fun e w' => e = .returned (.int .i64 kn) ∧ Below w.heap.size w w' := by
  subst hk
  rcases h with ⟨rfl, h0⟩ | ⟨g, rfl, hg, hr⟩
  · have : n = 0 := by have := marksOf_length 1 n; rw [h0] at this; exact this.symm
    subst this
    refine (heldStringS_nil 1 w).mono ?_
    rintro e w' ⟨rfl, rfl⟩
    exact ⟨rfl, Below.refl _ _⟩
  · exact heldStringS_row g n n 1 w hr (by omega) (by omega)
theorem Strs.but {w w' : World} {B g : Nat} {A : Option Addr} {ss : List ByteArray} (h : Strs w B A ss) (hb : But g w w') (hB : B ≤ g) (hw : B ≤ w.heap.size) : Strs w' B A ss := h.below (hb.below hB hw) (Nat.le_refl _)

end Go.Proofs.Ytmdgbcepjnfbnaa
