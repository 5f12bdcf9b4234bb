/- Drawn pairings: kept from call to call. -/
import Derived.Test.YtonhnmpgikmlpaaPKD
import Derived.Test.YtonhnmpgikmlpaaBunN
namespace Go.Proofs.Ytonhnmpgikmlpaa
open Go.RowKit Go.Shelf

/-- Integers that were drawn: not in the reader's block. -/
def LP (g : Nat) (w : World) (A : Option Addr) (l : List Int) : Prop := LI w A l ∧ ∀ a, A = some a → a.block ≠ g
theorem LP.step {g : Nat} {w w' : World} {A : Option Addr} {l : List Int} (h : LP g w A l) (hg : w.grownBy w' (some g)) : LP g w' A l := by
  refine ⟨fun hn => ?_, h.2⟩
  obtain ⟨b, off, rfl, hb, hc⟩ := h.1 hn
  refine ⟨b, off, rfl, Nat.lt_of_lt_of_le hb hg.size, fun k s hk => ?_⟩
  have e := hg.block b hb (fun e => h.2 _ rfl (Option.some.inj e))
  have h1 := hc k s hk
  unfold World.cell? at h1 ⊢
  simp only at h1 ⊢
  rw [e]; exact h1
theorem dPairs {w0 w : World} {g P : Nat} (p : Nat) (h : Dr w0 g P w) (hP : P ≤ 80000) (hp4 : 3 ≤ p) (hp : p ≤ 20) :
    Calls Try.prog 91 #[.pointer (some ⟨g, 0, none⟩), .int .i64 p] w fun e w' => w.grownBy w' (some g) ∧ Dr w0 g (P + 30) w' ∧ ∃ A c l, l.length = p ∧ LP g w' A l ∧ e = .returned (.slice A p c) :=
  (l91Pairs_any g P p w h.1 (by omega) hp4 hp).mono fun _ _ ⟨⟨b, c, l, he, hl, hb, hr⟩, h2, h3⟩ => by
    have hlt := h.1.lt
    refine ⟨h3, h.grown h2 h3, some ⟨b, 0, none⟩, c, l, hl, ⟨fun _ => ?_, fun a ha => by cases ha; show b ≠ g; omega⟩, he⟩
    obtain ⟨cs, hc, hk⟩ := hr
    refine ⟨b, 0, rfl, lt_of_block hc, fun k x hx => ?_⟩
    rw [Nat.zero_add, cell_of_row _ _ _ _ _ _ hc]
    exact hk k x hx
theorem LP.alloc {g : Nat} {w : World} {A : Option Addr} {l : List Int} (h : LP g w A l) (o : Obj) : LP g (w.alloc o) A l := ⟨LI.step h.1 ((Below.refl _ w).alloc (Nat.le_refl _) o), h.2⟩
end Go.Proofs.Ytonhnmpgikmlpaa
