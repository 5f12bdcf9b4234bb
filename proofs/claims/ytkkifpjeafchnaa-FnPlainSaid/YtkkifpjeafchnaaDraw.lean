/- The drawings' reader by a loose contract; a grid that is drawn. -/
import Derived.Test.YtkkifpjeafchnaaOpen
import Derived.Test.YtkkifpjeafchnaaBunC
namespace Go.Proofs.Ytkkifpjeafchnaa
open Go.RowKit Go.Shelf

theorem gby_below {a b : World} (r : Option Nat) (h : Below a.heap.size a b) : a.grownBy b r := ⟨h.os, h.tape, h.output, h.size, fun k hk _ => h.block k hk⟩
theorem gby_trans {a b c : World} {r : Option Nat} (h : a.grownBy b r) (k : b.grownBy c r) : a.grownBy c r :=
  ⟨k.os.trans h.os, k.tape.trans h.tape, k.output.trans h.output, Nat.le_trans h.size k.size, fun j hj hne => (k.block j (Nat.lt_of_lt_of_le hj h.size) hne).trans (h.block j hj hne)⟩
/-- Grown by a new block's growing. -/
theorem gby_new {a b c : World} {r r' : Option Nat} (h : a.grownBy b r) (k : b.grownBy c r') (hr : ∀ j, r' = some j → a.heap.size ≤ j) : a.grownBy c r :=
  ⟨k.os.trans h.os, k.tape.trans h.tape, k.output.trans h.output, Nat.le_trans h.size k.size, fun j hj hne => (k.block j (Nat.lt_of_lt_of_le hj h.size) (fun e => by have := hr j e.symm; omega)).trans (h.block j hj hne)⟩
/-- Block g holds a reader that has gone on at most P times. -/
def Rd (w : World) (g P : Nat) : Prop :=
  ∃ A len cap p, p ≤ P ∧ len ≤ 2000 ∧ w.heap[g]? = some (.cells #[.slice A len cap, .int .i64 ((p : Nat) : Int)] 115 (0, 0)) ∧ (len = 0 ∨ ∃ b off, A = some ⟨b, off, none⟩ ∧ b < g ∧ Bytes w b off len)
theorem Rd.lt {w : World} {g P : Nat} (h : Rd w g P) : g < w.heap.size := by
  obtain ⟨_, _, _, _, _, _, h, _⟩ := h
  exact lt_of_block h
theorem Rd.more {w : World} {g P P' : Nat} (h : Rd w g P) (hP : P ≤ P') : Rd w g P' := by
  obtain ⟨A, len, cap, p, h1, h2⟩ := h
  exact ⟨A, len, cap, p, by omega, h2⟩
theorem Bytes.kept {w w' : World} {b off len : Nat} (h : Bytes w b off len) (hb : len = 0 ∨ w'.heap[b]? = w.heap[b]?) : Bytes w' b off len := fun k hk => by
  obtain ⟨v, h1, h2, h3⟩ := h k hk
  rcases hb with rfl | hb
  · omega
  refine ⟨v, h1, h2, ?_⟩
  unfold World.cell? at h3 ⊢
  simp only at h3 ⊢
  rw [hb]; exact h3
theorem Rd.kept {w w' : World} {g P : Nat} {row : Option Nat} (h : Rd w g P) (hg : w.grownBy w' row) (hr : ∀ k, row = some k → g < k) : Rd w' g P := by
  have hl := h.lt
  obtain ⟨A, len, cap, p, h1, h2, h3, h4⟩ := h
  refine ⟨A, len, cap, p, h1, h2, (hg.block g hl (fun e => by have := hr g e.symm; omega)).trans h3, h4.imp id fun h => ?_⟩
  obtain ⟨b, off, h5, h6, h7⟩ := h
  exact ⟨b, off, h5, h6, h7.kept (.inr (hg.block b (by omega) (fun e => by have := hr b e.symm; omega)))⟩
theorem Rd.below {w w' : World} {g P : Nat} (h : Rd w g P) (hb : Below w.heap.size w w') : Rd w' g P := h.kept (gby_below none hb) (fun _ e => by cases e)

theorem pick_rd (g P n : Nat) (w : World) (h : Rd w g P) (hP : P ≤ 99999) (hn : 1 ≤ n) (hn2 : n ≤ 1000) :
    Calls Try.prog 71 #[.pointer (some ⟨g, 0, none⟩), .int .i64 n] w fun e w' => (∃ v : Nat, v < n ∧ e = .returned (.int .i64 v)) ∧ Rd w' g (P + 1) ∧ w.grownBy w' (some g) ∧ w'.heap.size = w.heap.size := by
  obtain ⟨A, len, cap, p, h1, h2, h3, h4⟩ := h
  have key : ∀ (d : Nat), Rd ((w.setCell ⟨g, 1, none⟩ (.int .i64 ((p : Int) + 1))).drewN d) g (P + 1) ∧ w.grownBy ((w.setCell ⟨g, 1, none⟩ (.int .i64 ((p : Int) + 1))).drewN d) (some g) ∧ ((w.setCell ⟨g, 1, none⟩ (.int .i64 ((p : Int) + 1))).drewN d).heap.size = w.heap.size := fun d => by
    have e : w.setCell ⟨g, 1, none⟩ (.int .i64 ((p : Int) + 1)) = w.setRow g #[.slice A len cap, .int .i64 ((p : Int) + 1)] := by
      rw [setCell_eq_setRow _ _ _ _ _ _ _ h3]
      rfl
    rw [e]
    have hr : (w.setRow g #[.slice A len cap, .int .i64 ((p : Int) + 1)]).heap[g]? = some (.cells #[.slice A len cap, .int .i64 (((p + 1 : Nat) : Nat) : Int)] 115 (0, 0)) := setRow_heap _ _ _ _ _ _ h3
    have ho : ∀ k, k ≠ g → (w.setRow g #[.slice A len cap, .int .i64 ((p : Int) + 1)]).heap[k]? = w.heap[k]? := fun k hk => setRow_other _ _ _ _ hk
    have hs : (w.setRow g #[.slice A len cap, .int .i64 ((p : Int) + 1)]).heap.size = w.heap.size := by simp
    refine ⟨⟨A, len, cap, p + 1, by omega, h2, hr, h4.imp id fun h => ?_⟩, ⟨rfl, rfl, rfl, Nat.le_of_eq hs.symm, fun k hk hne => ho k (fun e => hne (by rw [e]))⟩, hs⟩
    obtain ⟨b, off, h5, h6, h7⟩ := h
    exact ⟨b, off, h5, h6, h7.kept (.inr (ho b (by omega)))⟩
  rcases Nat.eq_zero_or_pos len with h0 | h0
  · subst h0
    refine (pick_empty g cap p n A w h3 (by omega) hn).mono ?_
    rintro e w' ⟨rfl, rfl⟩
    exact ⟨⟨0, hn, rfl⟩, key 0⟩
  · obtain ⟨b, off, rfl, h6, h7⟩ : ∃ b off, A = some ⟨b, off, none⟩ ∧ b < g ∧ Bytes w b off len := h4.resolve_left (by omega)
    refine (pick_any g b off len cap p n w h3 h7 (by omega) h0 h2 (by omega) hn hn2).mono ?_
    rintro e w' ⟨⟨v, hv, rfl⟩, d, rfl⟩
    exact ⟨⟨v, hv, rfl⟩, key d⟩
end Go.Proofs.Ytkkifpjeafchnaa
