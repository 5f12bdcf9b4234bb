/- What the laws on promises want: lists that read, kept from call to call; the contracts of the functions on grids that are given, in one form. -/
import Derived.Test.YtminailbhgimkaaBunF
import Derived.Test.YtminailbhgimkaaTwice
import Derived.Test.YtminailbhgimkaaBunE
import Derived.Test.YtminailbhgimkaaBunM
import Derived.Test.YtminailbhgimkaaBunD
import Derived.Test.YtminailbhgimkaaBunA
import Derived.Test.YtminailbhgimkaaBunC
namespace Go.Proofs.Ytminailbhgimkaa
open Go.RowKit

/-- The slice at A reads as the texts l; as the integers l. -/
def LS (w : World) (A : Option Addr) (l : List ByteArray) : Prop := Strs w w.heap.size A l
def LI (w : World) (A : Option Addr) (l : List Int) : Prop := Ints w w.heap.size A l
theorem LS.step {w w' : World} {A : Option Addr} {l : List ByteArray} (h : LS w A l) (hb : Below w.heap.size w w') : LS w' A l := (Strs.below h hb (Nat.le_refl _)).more hb.size
theorem LI.step {w w' : World} {A : Option Addr} {l : List Int} (h : LI w A l) (hb : Below w.heap.size w w') : LI w' A l := (Ints.below h hb (Nat.le_refl _)).more hb.size
theorem LS.nil_ (w : World) (A : Option Addr) : LS w A [] := Strs.nil_ _ _ _
theorem LI.nil_ (w : World) (A : Option Addr) : LI w A [] := fun h => absurd h (by simp)
/-- What a function that hands back texts comes to; one that hands back integers, an integer, a bool. -/
def TEnd (O : Bool → List ByteArray → Prop) (w : World) (e : Ending) (w' : World) : Prop :=
  Below w.heap.size w w' ∧ ∃ A c res ok, e = .returned (.tuple #[.slice A res.length c, .bool ok]) ∧ O ok res ∧ LS w' A res
def BEnd (O : Bool → Prop) (w : World) (e : Ending) (w' : World) : Prop := Below w.heap.size w w' ∧ ∃ ok, e = .returned (.bool ok) ∧ O ok
theorem ChangeEnd.tend {G : Nat → Nat → List UInt8 → List ByteArray} {ss : List ByteArray} {w w' : World} {e : Ending} (h : ChangeEnd G ss w e w') : TEnd (Outcome G ss) w e w' := by
  obtain ⟨A', res, ok, rfl, hout, how, _, hb⟩ := h.open_
  exact ⟨hb, A', _, res, ok, rfl, hout, how.strs⟩
theorem SpecEnd.tend {G : Nat → Nat → List UInt8 → List ByteArray} {ss : List ByteArray} {w w' : World} {e : Ending} (h : SpecEnd G ss w e w') : TEnd (Outcome G ss) w e w' := by
  obtain ⟨A', c, res, ok, rfl, hout, how, hb⟩ := h.open_
  exact ⟨hb, A', c, res, ok, rfl, hout, how⟩
theorem tend_own {O : Bool → List ByteArray → Prop} {w w' : World} {e : Ending} (h : Below w.heap.size w w' ∧ ∃ A res ok, e = .returned (.tuple #[.slice A res.length res.length, .bool ok]) ∧ O ok res ∧ Own2 w' w.heap.size A res) : TEnd O w e w' := by
  obtain ⟨hb, A, res, ok, rfl, ho, hw⟩ := h
  exact ⟨hb, A, _, res, ok, rfl, ho, hw.strs⟩
theorem tend_spec {O : Bool → List ByteArray → Prop} {w w' : World} {e : Ending} (h : Below w.heap.size w w' ∧ ∃ A c res ok, e = .returned (.tuple #[.slice A res.length c, .bool ok]) ∧ O ok res ∧ Strs w' w'.heap.size A res) : TEnd O w e w' := h
/-- One of two outcomes, where the argument is a grid. -/
theorem TEnd.yes {O : Bool → List ByteArray → Prop} {w w' : World} {e : Ending} {res : List ByteArray} (h : TEnd O w e w') (hO : ∀ ok r, O ok r → ok = true ∧ r = res) :
    Below w.heap.size w w' ∧ ∃ A c, e = .returned (.tuple #[.slice A res.length c, .bool true]) ∧ LS w' A res := by
  obtain ⟨hb, A, c, r, ok, rfl, ho, hl⟩ := h
  obtain ⟨rfl, rfl⟩ := hO _ _ ho
  exact ⟨hb, A, c, rfl, hl⟩
theorem out_grid {G : Nat → Nat → List UInt8 → List ByteArray} {ss res : List ByteArray} {n m : Nat} (hg : IsGrid n m ss) (hr : G n m (pad (flat ss)) = res) : ∀ ok r, Outcome G ss ok r → ok = true ∧ r = res := fun ok r h => by
  subst hr
  rcases h with ⟨n', m', hg', rfl, rfl⟩ | ⟨hn, _, _⟩
  · obtain ⟨rfl, rfl⟩ := hg.uniq hg'
    exact ⟨rfl, rfl⟩
  · exact absurd hg (hn _ _)
theorem gsmall {n m : Nat} {ss : List ByteArray} (hg : IsGrid n m ss) : ss.length ≤ 1048576 ∧ ∀ s ∈ ss, s.size ≤ 1048576 := by
  have h1 := hg.1
  have h2 := hg.2.2.1
  have h3 := hg.2.2.2.2.1
  exact ⟨by omega, fun s hs => by have := (hg.2.2.2.2.2 s hs).1; omega⟩
theorem Drawn.small {R C : Nat} {ts : List ByteArray} (h : Drawn R C ts) (hR : R ≤ 1000) (hC : C ≤ 1000) : ts.length ≤ 1048576 ∧ ∀ s ∈ ts, s.size ≤ 1048576 :=
  ⟨by have := h.2.1; omega, fun s hs => by have := (h.2.2 s hs).2; omega⟩
/-- The first text. -/
theorem LS.first {n m : Nat} {w : World} {A : Option Addr} {ss : List ByteArray} (h : LS w A ss) (hg : IsGrid n m ss) : ∃ b off s0, A = some ⟨b, off, none⟩ ∧ b < w.heap.size ∧ ss[0]? = some s0 ∧ w.cell? ⟨b, off, none⟩ = some (.string s0) ∧ s0.size = m := by
  obtain ⟨b, off, s0, rfl, hb, hk0, hc0⟩ := Strs.at_ (k := 0) h (by have := hg.1; have := hg.2.1; omega)
  rw [Nat.add_zero] at hc0
  exact ⟨b, off, s0, rfl, hb, hk0, hc0, (hg.2.2.2.2.2 s0 (List.mem_of_getElem? hk0)).1⟩
theorem LS.firstI {n m : Nat} {w : World} {A : Option Addr} {ss : List ByteArray} (h : LS w A ss) (hg : IsGrid n m ss) : ∃ b off s0, A = some ⟨b, off, none⟩ ∧ b < w.heap.size ∧ w.cell? ⟨b, off, none⟩ = some (.string s0) ∧ ((s0.size : Nat) : Int) = (m : Int) := by
  obtain ⟨b, off, s0, h1, h2, _, h3, h4⟩ := h.first hg
  exact ⟨b, off, s0, h1, h2, h3, by rw [h4]⟩

theorem LS.cell0 {w : World} {b off : Nat} {ss : List ByteArray} {s0 : ByteArray} (h : LS w (some ⟨b, off, none⟩) ss) (hk : ss[0]? = some s0) : w.cell? ⟨b, off, none⟩ = some (.string s0) := by
  have e := Strs.cell_ h hk
  rw [Nat.add_zero] at e
  exact e
theorem LS.cellk {w : World} {b off k : Nat} {ss : List ByteArray} {s0 : ByteArray} (h : LS w (some ⟨b, off, none⟩) ss) (hk : ss[k]? = some s0) : w.cell? ⟨b, off + k, none⟩ = some (.string s0) := Strs.cell_ h hk
theorem LS.addr {n m : Nat} {w : World} {A : Option Addr} {ss : List ByteArray} (h : LS w A ss) (hg : IsGrid n m ss) : ∃ b off s0, A = some ⟨b, off, none⟩ ∧ ss[0]? = some s0 ∧ ((s0.size : Nat) : Int) = (m : Int) ∧ 0 < ss.length := by
  obtain ⟨b, off, s0, h1, _, h2, _, h3⟩ := h.first hg
  exact ⟨b, off, s0, h1, h2, by rw [h3], (List.getElem?_eq_some_iff.1 h2).1⟩
theorem LI.cellk {w : World} {b off k : Nat} {l : List Int} {x : Int} (h : LI w (some ⟨b, off, none⟩) l) (hk : l[k]? = some x) : w.cell? ⟨b, off + k, none⟩ = some (.int .i64 x) := by
  obtain ⟨b', off', e, _, hc⟩ := h (by have := (List.getElem?_eq_some_iff.1 hk).1; omega)
  cases e
  exact hc k x hk
theorem LI.addr {w : World} {A : Option Addr} {l : List Int} (h : LI w A l) (hl : 0 < l.length) : ∃ b off, A = some ⟨b, off, none⟩ := by
  obtain ⟨b, off, e, _⟩ := h hl
  exact ⟨b, off, e⟩
theorem below_of_drew {w w' : World} (h : ∃ d, w' = w.drewN d) : Below w.heap.size w w' := by
  obtain ⟨d, rfl⟩ := h
  exact below_drewN' (Below.refl _ _) d
/-- What GridIn, GridCount, GridFull, GridNumber come to. -/
theorem InEnd.bend {ss : List ByteArray} {w w' : World} {e : Ending} (h : InEnd ss w e w') : BEnd (fun ok => ok = true ↔ ∃ n m, IsGrid n m ss) w e w' := by
  obtain ⟨ok, he, hi, hd⟩ := h
  exact ⟨below_of_drew hd, ok, he, hi⟩
def CntOut (ss : List ByteArray) (x : Int) (ok : Bool) : Prop := (∃ n m, IsGrid n m ss ∧ x = ((cntOf 114 (flat ss) + cntOf 102 (flat ss) : Nat) : Int) ∧ ok = true) ∨ (NoGrid ss ∧ x = 0 ∧ ok = false)
theorem CntOut.uniq {ss : List ByteArray} {x x' : Int} {ok ok' : Bool} (h : CntOut ss x ok) (h' : CntOut ss x' ok') : x' = x ∧ ok' = ok := by
  rcases h with ⟨n, m, hg, rfl, rfl⟩ | ⟨hn, rfl, rfl⟩ <;> rcases h' with ⟨n', m', hg', rfl, rfl⟩ | ⟨hn', rfl, rfl⟩
  · exact ⟨rfl, rfl⟩
  · exact absurd hg (hn' _ _)
  · exact absurd hg' (hn _ _)
  · exact ⟨rfl, rfl⟩
theorem cnt_end {ss : List ByteArray} {w w' : World} {e : Ending} (h : Below w.heap.size w w' ∧ CountEnd ss e) : Below w.heap.size w w' ∧ ∃ x ok, e = .returned (.tuple #[.int .i64 x, .bool ok]) ∧ CntOut ss x ok := by
  obtain ⟨hb, ⟨n, m, hg, rfl⟩ | ⟨hn, rfl⟩⟩ := h
  · exact ⟨hb, _, _, rfl, .inl ⟨n, m, hg, rfl, rfl⟩⟩
  · exact ⟨hb, _, _, rfl, .inr ⟨hn, rfl, rfl⟩⟩
theorem cnt_end2 {ss : List ByteArray} {w w' : World} {e : Ending} (h : CountEnd ss e ∧ ∃ d, w' = w.drewN d) : Below w.heap.size w w' ∧ ∃ x ok, e = .returned (.tuple #[.int .i64 x, .bool ok]) ∧ CntOut ss x ok := cnt_end ⟨below_of_drew h.2, h.1⟩
def FlOut (ss : List ByteArray) (ok : Bool) : Prop := (∃ n m, IsGrid n m ss ∧ ok = (cntOf 46 (flat ss) == 0)) ∨ (NoGrid ss ∧ ok = false)
theorem FlOut.uniq {ss : List ByteArray} {ok ok' : Bool} (h : FlOut ss ok) (h' : FlOut ss ok') : ok' = ok := by
  rcases h with ⟨n, m, hg, rfl⟩ | ⟨hn, rfl⟩ <;> rcases h' with ⟨n', m', hg', rfl⟩ | ⟨hn', rfl⟩
  · rfl
  · exact absurd hg (hn' _ _)
  · exact absurd hg' (hn _ _)
  · rfl
theorem FlOut.yes {ss : List ByteArray} (h : FlOut ss true) : ∃ n m, IsGrid n m ss ∧ (cntOf 46 (flat ss) == 0) = true := by
  rcases h with ⟨n, m, hg, he⟩ | ⟨_, he⟩
  · exact ⟨n, m, hg, he.symm⟩
  · cases he
theorem full_end {ss : List ByteArray} {w w' : World} {e : Ending} (h : Below w.heap.size w w' ∧ FullEnd ss e) : Below w.heap.size w w' ∧ ∃ ok, e = .returned (.bool ok) ∧ FlOut ss ok := by
  obtain ⟨hb, ⟨n, m, hg, rfl⟩ | ⟨hn, rfl⟩⟩ := h
  · exact ⟨hb, _, rfl, .inl ⟨n, m, hg, rfl⟩⟩
  · exact ⟨hb, _, rfl, .inr ⟨hn, rfl⟩⟩
theorem full_end2 {ss : List ByteArray} {w w' : World} {e : Ending} (h : FullEnd ss e ∧ ∃ d, w' = w.drewN d) : Below w.heap.size w w' ∧ ∃ ok, e = .returned (.bool ok) ∧ FlOut ss ok := full_end ⟨below_of_drew h.2, h.1⟩
def NuOut (ss : List ByteArray) (x : Int) (ok : Bool) : Prop := (∃ n m, IsGrid n m ss ∧ n * m ≤ 20 ∧ x = ((numOf (flat ss) : Nat) : Int) ∧ ok = true) ∨ ((∀ n m, IsGrid n m ss → 20 < n * m) ∧ x = 0 ∧ ok = false)
theorem NuOut.uniq {ss : List ByteArray} {x x' : Int} {ok ok' : Bool} (h : NuOut ss x ok) (h' : NuOut ss x' ok') : x' = x ∧ ok' = ok := by
  rcases h with ⟨n, m, hg, h1, rfl, rfl⟩ | ⟨hn, rfl, rfl⟩ <;> rcases h' with ⟨n', m', hg', h1', rfl, rfl⟩ | ⟨hn', rfl, rfl⟩
  · exact ⟨rfl, rfl⟩
  · have := hn' _ _ hg; omega
  · have := hn _ _ hg'; omega
  · exact ⟨rfl, rfl⟩
theorem nu_end {ss : List ByteArray} {w w' : World} {e : Ending} (h : Below w.heap.size w w' ∧ NumberEnd ss e) : Below w.heap.size w w' ∧ ∃ x ok, e = .returned (.tuple #[.int .i64 x, .bool ok]) ∧ NuOut ss x ok := by
  obtain ⟨hb, ⟨n, m, hg, ⟨h1, rfl⟩ | ⟨h1, rfl⟩⟩ | ⟨hn, rfl⟩⟩ := h
  · exact ⟨hb, _, _, rfl, .inl ⟨n, m, hg, h1, rfl, rfl⟩⟩
  · exact ⟨hb, _, _, rfl, .inr ⟨fun n' m' hg' => by obtain ⟨rfl, rfl⟩ := hg.uniq hg'; exact h1, rfl, rfl⟩⟩
  · exact ⟨hb, _, _, rfl, .inr ⟨fun n' m' hg' => absurd hg' (hn _ _), rfl, rfl⟩⟩
theorem nu_end2 {ss : List ByteArray} {w w' : World} {e : Ending} (h : NumberEnd ss e ∧ ∃ d, w' = w.drewN d) : Below w.heap.size w w' ∧ ∃ x ok, e = .returned (.tuple #[.int .i64 x, .bool ok]) ∧ NuOut ss x ok := nu_end ⟨below_of_drew h.2, h.1⟩
section
variable {n m c : Nat} {A : Option Addr} {ss res : List ByteArray} {w : World}
theorem nTotal {l : List Int} {S : Int} (h : LI w A l) (hn : l.length ≤ 1000) (hb : ∀ x ∈ l, -1000 ≤ x ∧ x ≤ 1000) (hS : l.sum = S) :
    Calls Try.prog 19 #[.slice A l.length c] w fun e w' => Below w.heap.size w w' ∧ e = .returned (.int .i64 S) :=
  (total_any A c w.heap.size l w h hn hb).mono fun _ _ ⟨he, hd⟩ => ⟨below_of_drew hd, by rw [he, hS]⟩
theorem nSameI {A' : Option Addr} {c c' : Nat} {l : List Int} (h : LI w A l) (h' : LI w A' l) (hn : l.length ≤ 1048576) :
    Calls Try.prog 17 #[.slice A l.length c, .slice A' l.length c'] w fun e w' => Below w.heap.size w w' ∧ e = .returned (.bool true) :=
  (sameInts_same A A' c c' w.heap.size l w h h' hn).mono fun _ _ ⟨he, d, hw⟩ => ⟨by rw [hw]; exact below_drewN' (Below.refl _ _) d, he⟩
end
end Go.Proofs.Ytminailbhgimkaa
