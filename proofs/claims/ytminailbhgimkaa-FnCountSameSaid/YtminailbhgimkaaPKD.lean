/- Drawings, call by call: the reader is opened, picks, draws grids; what was drawn is kept. -/
import Derived.Test.YtminailbhgimkaaPK
import Derived.Test.YtminailbhgimkaaBunM
namespace Go.Proofs.Ytminailbhgimkaa
open Go.RowKit Go.Shelf

/-- The reader in block g has gone on at most P times since world w0. -/
def Dr (w0 : World) (g P : Nat) (w : World) : Prop := Rd w g P ∧ Below w0.heap.size w0 w ∧ w0.heap.size ≤ g
/-- Texts that were drawn: not in the reader's block. -/
def LD (g : Nat) (w : World) (A : Option Addr) (ts : List ByteArray) : Prop := LS w A ts ∧ ∀ a, A = some a → a.block ≠ g
theorem LD.step {g : Nat} {w w' : World} {A : Option Addr} {ts : List ByteArray} (h : LD g w A ts) (hg : w.grownBy w' (some g)) : LD g w' A ts := by
  refine ⟨fun hn => ?_, h.2⟩
  obtain ⟨b, off, rfl, hb, hc⟩ := h.1 hn
  refine ⟨b, off, rfl, Nat.lt_of_lt_of_le hb hg.size, fun k s hk => ?_⟩
  have e := hg.block b hb (fun e => h.2 _ rfl (Option.some.inj e))
  have h1 := hc k s hk
  unfold World.cell? at h1 ⊢
  simp only at h1 ⊢
  rw [e]; exact h1
theorem Dr.below {w0 w : World} {g P : Nat} (h : Dr w0 g P w) : Below w0.heap.size w0 w := h.2.1
theorem Dr.grown {w0 w w' : World} {g P P' : Nat} (h : Dr w0 g P w) (hr : Rd w' g P') (hg : w.grownBy w' (some g)) : Dr w0 g P' w' :=
  ⟨hr, h.2.1.grown hg h.2.1.size (fun k e => by cases e; exact h.2.2), h.2.2⟩

theorem Dr.alloc {w0 w : World} {g P : Nat} (h : Dr w0 g P w) (o : Obj) : Dr w0 g P (w.alloc o) := ⟨h.1.below ((Below.refl _ w).alloc (Nat.le_refl _) o), h.2.1.alloc h.2.1.size o, h.2.2⟩
theorem LD.alloc {g : Nat} {w : World} {A : Option Addr} {ts : List ByteArray} (h : LD g w A ts) (o : Obj) : LD g (w.alloc o) A ts := ⟨LS.step h.1 ((Below.refl _ w).alloc (Nat.le_refl _) o), h.2⟩
theorem Dr.texts {w0 w : World} {g P : Nat} (h : Dr w0 g P w) (ts : List ByteArray) : LD g (w.alloc (.cells (strsV ts).toArray 9)) (some ⟨w.heap.size, 0, none⟩) ts := by
  have hr : Row9 (w.alloc (.cells (strsV ts).toArray 9)) w.heap.size ts := ⟨_, heap_new0 w _, fun k s hk => by simp [strsV, hk]⟩
  have hl := h.1.lt
  exact ⟨hr.strs hr.lt, fun a ha => by cases ha; show w.heap.size ≠ g; omega⟩
theorem dOpen (A : Option Addr) (len cap : Nat) (w : World) (h : CodeAt w A len) (hl : len ≤ 1048576) (hc : len ≤ cap) (hc2 : cap ≤ 9223372036854775807) :
    Calls Try.prog 75 #[.slice A len cap] w fun e w' => e = .returned (.pointer (some ⟨w.heap.size, 0, none⟩)) ∧ Dr w w.heap.size 0 w' := by
  refine (l6Open_any A len cap w (by omega) hc hc2).mono ?_
  rintro e w1 ⟨rfl, len', h1, h2, _, rfl⟩
  exact ⟨rfl, open_rd h h1 h2, (Below.refl _ w).alloc (Nat.le_refl _) _, Nat.le_refl _⟩
section
variable {w0 w : World} {g P : Nat}
theorem dPick (n : Nat) (h : Dr w0 g P w) (hP : P ≤ 90000) (hn : 1 ≤ n) (hn2 : n ≤ 1000) :
    Calls Try.prog 76 #[.pointer (some ⟨g, 0, none⟩), .int .i64 n] w fun e w' => w.grownBy w' (some g) ∧ Dr w0 g (P + 1) w' ∧ ∃ v : Nat, v < n ∧ e = .returned (.int .i64 v) :=
  (pick_rd g P n w h.1 (by omega) hn hn2).mono fun _ _ ⟨h1, h2, h3, _⟩ => ⟨h3, h.grown h2 h3, h1⟩
end
theorem q23 (v : Nat) (hv : v < 24) : ∃ q : Nat, q ≤ 1 ∧ (v : Int) / 23 = (q : Int) := ⟨v / 23, by omega, by omega⟩
end Go.Proofs.Ytminailbhgimkaa
