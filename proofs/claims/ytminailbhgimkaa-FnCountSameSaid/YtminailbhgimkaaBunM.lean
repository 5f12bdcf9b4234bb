/- Settled texts in one file. Each begins with what it holds. -/
import Derived.Test.YtminailbhgimkaaBunD
import Derived.Test.YtminailbhgimkaaBunA
import Derived.Test.YtminailbhgimkaaBunC
import Derived.Test.YtminailbhgimkaaBunF
/- The drawings' reader: pick, by a loose contract: a number from 0 to n - 1. -/
namespace Go.Proofs.Ytminailbhgimkaa
open Go.RowKit

theorem i64_xor_small (a b : Nat) (ha : a < 2 ^ 62) (hb : b < 2 ^ 62) : bits .xor .i64 (a : Int) (b : Int) = ((a ^^^ b : Nat) : Int) := by
  have hx : a ^^^ b < 2 ^ 62 := Nat.xor_lt_two_pow ha hb
  have h1 : (BitVec.ofInt 64 (a : Int)).toNat = a := by
    rw [BitVec.ofInt_natCast, BitVec.toNat_ofNat]; exact Nat.mod_eq_of_lt (by omega)
  have h2 : (BitVec.ofInt 64 (b : Int)).toNat = b := by
    rw [BitVec.ofInt_natCast, BitVec.toNat_ofNat]; exact Nat.mod_eq_of_lt (by omega)
  show IntKind.i64.wrap ((BitVec.ofInt 64 (a : Int) ^^^ BitVec.ofInt 64 (b : Int)).toNat : Int) = _
  rw [BitVec.toNat_xor, h1, h2, IntKind.wrap_i64]
  omega
/-- A slice of bytes that reads. -/
def Bytes (w : World) (b off len : Nat) : Prop := ∀ k, k < len → ∃ v : Int, 0 ≤ v ∧ v ≤ 255 ∧ w.cell? ⟨b, off + k, none⟩ = some (.int .u8 v)

set_option maxRecDepth 100000 in
set_option maxHeartbeats 2000000 in
theorem pick_any (g b off len cap p n : Nat) (w : World) (hg : w.heap[g]? = some (.cells #[.slice (some ⟨b, off, none⟩) len cap, .int .i64 p] 150 (0, 0))) (hb : Bytes w b off len) (hbg : b ≠ g) (hl : 1 ≤ len) (hl2 : len ≤ 2000) (hp : p ≤ 100000) (hn : 1 ≤ n) (hn2 : n ≤ 1000) :
    Calls Try.prog 76 #[.pointer (some ⟨g, 0, none⟩), .int .i64 n] w fun e w' => (∃ v : Nat, v < n ∧ e = .returned (.int .i64 v)) ∧ ∃ d, w' = (w.setCell ⟨g, 1, none⟩ (.int .i64 ((p : Int) + 1))).drewN d := by
  have c0 : w.cell? ⟨g, 0, none⟩ = some (.slice (some ⟨b, off, none⟩) len cap) := by rw [cell_of_row _ _ _ _ _ _ hg]; rfl
  have c1 : w.cell? ⟨g, 1, none⟩ = some (.int .i64 p) := by rw [cell_of_row _ _ _ _ _ _ hg]; rfl
  have f1 : w.frozen? ⟨g, 1, none⟩ = false := frozen_of_row _ _ _ _ _ hg
  have hbs : Bytes (w.setCell ⟨g, 1, none⟩ (.int .i64 ((p : Int) + 1))) b off len := fun k hk => by
    obtain ⟨v, v0, v1, hv⟩ := hb k hk
    refine ⟨v, v0, v1, ?_⟩
    simp only [World.cell?] at hv ⊢
    rw [Below.heap_setCell _ _ _ _ hbg]; exact hv
  have HBS := hid hbs
  have hnl : decide ((n : Int) < 1) = false := by simp; omega
  have hnz : ((n : Int) == 0) = false := by simp; omega
  have hlz : ((len : Int) == 0) = false := by simp; omega
  clear hg hb hbs
  go_enter Try.func76, Try.ntmps76
  by_cases hlt : p < len
  · obtain ⟨v, v0, v1, hv⟩ := HBS.out p hlt
    have hpl : (p : Int) < (len : Int) := by omega
    obtain ⟨rv, hrv⟩ : ∃ rv : Nat, v % (n : Int) = (rv : Int) := ⟨(v % (n : Int)).toNat, by have := Int.emod_nonneg v (show (n : Int) ≠ 0 by omega); omega⟩
    have hrn : rv < n := by have := Int.emod_lt_of_pos v (show (0 : Int) < n by omega); omega
    have HRN := hid hrn
    clear hrn
    go_wp2
    go_ret
    exact ⟨⟨rv, HRN.out, by rw [← hrv]; rfl⟩, 0, rfl⟩
  · have hnlt : ¬ (p : Int) < (len : Int) := by omega
    have hlp : (0 : Int) < (len : Int) := by omega
    obtain ⟨i1, hi1⟩ : ∃ i1, p % len = i1 := ⟨_, rfl⟩
    have hi1l : i1 < len := by rw [← hi1]; exact Nat.mod_lt _ (by omega)
    obtain ⟨i2, hi2⟩ : ∃ i2, (p * 7 + 3) % len = i2 := ⟨_, rfl⟩
    have hi2l : i2 < len := by rw [← hi2]; exact Nat.mod_lt _ (by omega)
    obtain ⟨qq, hqq⟩ : ∃ qq, p / len = qq := ⟨_, rfl⟩
    have hq1 : qq ≤ p := by rw [← hqq]; exact Nat.div_le_self _ _
    have hm1 : (p : Int) % (len : Int) = (i1 : Int) := by rw [← hi1]; rfl
    have hm2 : ((p : Int) * 7 + 3) % (len : Int) = (i2 : Int) := by rw [← hi2]; rfl
    have hd1 : (p : Int) / (len : Int) = (qq : Int) := by rw [← hqq]; rfl
    obtain ⟨v, v0, v1, hv⟩ := HBS.out i1 hi1l
    obtain ⟨u, u0, u1, hu⟩ := HBS.out i2 hi2l
    clear hi1 hi2 hqq
    go_wp2_with fail
    go_quiet (fail)
    obtain ⟨X, hX⟩ : ∃ X : Nat, v * 131 + u * 1117 + (p : Int) * 29 + (qq : Int) * 53 = (X : Int) := ⟨(v * 131 + u * 1117 + (p : Int) * 29 + (qq : Int) * 53).toNat, by omega⟩
    have hXb : (X : Int) ≤ 100000000 := by omega
    have hX0 : (0 : Int) ≤ (X : Int) := Int.natCast_nonneg _
    try rw [hX]
    clear hX
    obtain ⟨Y, hY⟩ : ∃ Y : Nat, bits .xor .i64 (X : Int) ((X : Int) / 64) = (Y : Int) := ⟨X ^^^ (X / 64), by
      rw [show ((X : Int) / 64) = ((X / 64 : Nat) : Int) by omega]
      exact i64_xor_small _ _ (by omega) (by omega)⟩
    have hYn : Y % n < n := Nat.mod_lt _ (by omega)
    have HY := hid hY
    have HYN := hid hYn
    clear hY hYn
    go_wp2
    go_ret
    refine ⟨⟨Y % n, HYN.out, ?_⟩, _, rfl⟩
    have e : ((Y : Int)).tmod (n : Int) = ((Y % n : Nat) : Int) := by rw [Int.tmod_eq_emod_of_nonneg (Int.natCast_nonneg _)]; rfl
    rw [← e, ← HY.out]; rfl

end Go.Proofs.Ytminailbhgimkaa

/- The drawings' reader: l6Open, by its contract. -/
namespace Go.Proofs.Ytminailbhgimkaa
open Go.RowKit

set_option maxRecDepth 100000 in
set_option maxHeartbeats 1000000 in
theorem l6Open_any (A : Option Addr) (len cap : Nat) (w : World) (hl : len ≤ 9223372036854775807) (hc : len ≤ cap) (hc2 : cap ≤ 9223372036854775807) :
    Calls Try.prog 75 #[.slice A len cap] w fun e w' => e = .returned (.pointer (some ⟨w.heap.size, 0, none⟩)) ∧ ∃ len', len' ≤ len ∧ len' ≤ 2000 ∧ (len' = 0 ↔ len = 0) ∧ w' = w.alloc (.cells #[.slice A len' cap, .int .i64 0] 150) := by
  go_enter Try.func75, Try.ntmps75
  by_cases h : 2000 < len
  · have hi : (2000 : Int) < (len : Int) := by omega
    have hci : (2000 : Int) ≤ (cap : Int) := by omega
    go_wp2
    go_ret
    exact ⟨rfl, 2000, by omega, Nat.le_refl _, by omega, rfl⟩
  · have hi : ¬ (2000 : Int) < (len : Int) := by omega
    go_wp2
    go_ret
    exact ⟨rfl, len, Nat.le_refl _, by omega, Iff.rfl, rfl⟩

set_option maxRecDepth 100000 in
set_option maxHeartbeats 1000000 in
/-- pick on an empty code: nought. -/
theorem pick_empty (g cap p n : Nat) (A : Option Addr) (w : World) (hg : w.heap[g]? = some (.cells #[.slice A 0 cap, .int .i64 p] 150 (0, 0))) (hp : p ≤ 100000) (hn : 1 ≤ n) :
    Calls Try.prog 76 #[.pointer (some ⟨g, 0, none⟩), .int .i64 n] w fun e w' => e = .returned (.int .i64 0) ∧ w' = w.setCell ⟨g, 1, none⟩ (.int .i64 ((p : Int) + 1)) := by
  have c0 : w.cell? ⟨g, 0, none⟩ = some (.slice A 0 cap) := by rw [cell_of_row _ _ _ _ _ _ hg]; rfl
  have c1 : w.cell? ⟨g, 1, none⟩ = some (.int .i64 p) := by rw [cell_of_row _ _ _ _ _ _ hg]; rfl
  have f1 : w.frozen? ⟨g, 1, none⟩ = false := frozen_of_row _ _ _ _ _ hg
  have hnl : decide ((n : Int) < 1) = false := by simp; omega
  clear hg
  go_enter Try.func76, Try.ntmps76
  go_wp2
  go_ret
  exact ⟨rfl, rfl⟩

end Go.Proofs.Ytminailbhgimkaa

/- The drawings' reader by a loose contract; a grid that is drawn. -/
namespace Go.Proofs.Ytminailbhgimkaa
open Go.RowKit Go.Shelf

theorem gby_below {a b : World} (r : Option Nat) (h : Below a.heap.size a b) : a.grownBy b r := ⟨h.os, h.tape, h.output, h.size, fun k hk _ => h.block k hk⟩
theorem gby_trans {a b c : World} {r : Option Nat} (h : a.grownBy b r) (k : b.grownBy c r) : a.grownBy c r :=
  ⟨k.os.trans h.os, k.tape.trans h.tape, k.output.trans h.output, Nat.le_trans h.size k.size, fun j hj hne => (k.block j (Nat.lt_of_lt_of_le hj h.size) hne).trans (h.block j hj hne)⟩
/-- Grown by a new block's growing. -/
theorem gby_new {a b c : World} {r r' : Option Nat} (h : a.grownBy b r) (k : b.grownBy c r') (hr : ∀ j, r' = some j → a.heap.size ≤ j) : a.grownBy c r :=
  ⟨k.os.trans h.os, k.tape.trans h.tape, k.output.trans h.output, Nat.le_trans h.size k.size, fun j hj hne => (k.block j (Nat.lt_of_lt_of_le hj h.size) (fun e => by have := hr j e.symm; omega)).trans (h.block j hj hne)⟩
/-- Block g holds a reader that has gone on at most P times. -/
def Rd (w : World) (g P : Nat) : Prop :=
  ∃ A len cap p, p ≤ P ∧ len ≤ 2000 ∧ w.heap[g]? = some (.cells #[.slice A len cap, .int .i64 ((p : Nat) : Int)] 150 (0, 0)) ∧ (len = 0 ∨ ∃ b off, A = some ⟨b, off, none⟩ ∧ b < g ∧ Bytes w b off len)
theorem Rd.lt {w : World} {g P : Nat} (h : Rd w g P) : g < w.heap.size := by
  obtain ⟨_, _, _, _, _, _, h, _⟩ := h
  exact lt_of_block h
theorem Rd.more {w : World} {g P P' : Nat} (h : Rd w g P) (hP : P ≤ P') : Rd w g P' := by
  obtain ⟨A, len, cap, p, h1, h2⟩ := h
  exact ⟨A, len, cap, p, by omega, h2⟩
theorem Bytes.kept {w w' : World} {b off len : Nat} (h : Bytes w b off len) (hb : len = 0 ∨ w'.heap[b]? = w.heap[b]?) : Bytes w' b off len := fun k hk => by
  obtain ⟨v, h1, h2, h3⟩ := h k hk
  rcases hb with rfl | hb
  · omega
  refine ⟨v, h1, h2, ?_⟩
  unfold World.cell? at h3 ⊢
  simp only at h3 ⊢
  rw [hb]; exact h3
theorem Rd.kept {w w' : World} {g P : Nat} {row : Option Nat} (h : Rd w g P) (hg : w.grownBy w' row) (hr : ∀ k, row = some k → g < k) : Rd w' g P := by
  have hl := h.lt
  obtain ⟨A, len, cap, p, h1, h2, h3, h4⟩ := h
  refine ⟨A, len, cap, p, h1, h2, (hg.block g hl (fun e => by have := hr g e.symm; omega)).trans h3, h4.imp id fun h => ?_⟩
  obtain ⟨b, off, h5, h6, h7⟩ := h
  exact ⟨b, off, h5, h6, h7.kept (.inr (hg.block b (by omega) (fun e => by have := hr b e.symm; omega)))⟩
theorem Rd.below {w w' : World} {g P : Nat} (h : Rd w g P) (hb : Below w.heap.size w w') : Rd w' g P := h.kept (gby_below none hb) (fun _ e => by cases e)

theorem pick_rd (g P n : Nat) (w : World) (h : Rd w g P) (hP : P ≤ 99999) (hn : 1 ≤ n) (hn2 : n ≤ 1000) :
    Calls Try.prog 76 #[.pointer (some ⟨g, 0, none⟩), .int .i64 n] w fun e w' => (∃ v : Nat, v < n ∧ e = .returned (.int .i64 v)) ∧ Rd w' g (P + 1) ∧ w.grownBy w' (some g) ∧ w'.heap.size = w.heap.size := by
  obtain ⟨A, len, cap, p, h1, h2, h3, h4⟩ := h
  have key : ∀ (d : Nat), Rd ((w.setCell ⟨g, 1, none⟩ (.int .i64 ((p : Int) + 1))).drewN d) g (P + 1) ∧ w.grownBy ((w.setCell ⟨g, 1, none⟩ (.int .i64 ((p : Int) + 1))).drewN d) (some g) ∧ ((w.setCell ⟨g, 1, none⟩ (.int .i64 ((p : Int) + 1))).drewN d).heap.size = w.heap.size := fun d => by
    have e : w.setCell ⟨g, 1, none⟩ (.int .i64 ((p : Int) + 1)) = w.setRow g #[.slice A len cap, .int .i64 ((p : Int) + 1)] := by
      rw [setCell_eq_setRow _ _ _ _ _ _ _ h3]
      rfl
    rw [e]
    have hr : (w.setRow g #[.slice A len cap, .int .i64 ((p : Int) + 1)]).heap[g]? = some (.cells #[.slice A len cap, .int .i64 (((p + 1 : Nat) : Nat) : Int)] 150 (0, 0)) := setRow_heap _ _ _ _ _ _ h3
    have ho : ∀ k, k ≠ g → (w.setRow g #[.slice A len cap, .int .i64 ((p : Int) + 1)]).heap[k]? = w.heap[k]? := fun k hk => setRow_other _ _ _ _ hk
    have hs : (w.setRow g #[.slice A len cap, .int .i64 ((p : Int) + 1)]).heap.size = w.heap.size := by simp
    refine ⟨⟨A, len, cap, p + 1, by omega, h2, hr, h4.imp id fun h => ?_⟩, ⟨rfl, rfl, rfl, Nat.le_of_eq hs.symm, fun k hk hne => ho k (fun e => hne (by rw [e]))⟩, hs⟩
    obtain ⟨b, off, h5, h6, h7⟩ := h
    exact ⟨b, off, h5, h6, h7.kept (.inr (ho b (by omega)))⟩
  rcases Nat.eq_zero_or_pos len with h0 | h0
  · subst h0
    refine (pick_empty g cap p n A w h3 (by omega) hn).mono ?_
    rintro e w' ⟨rfl, rfl⟩
    exact ⟨⟨0, hn, rfl⟩, key 0⟩
  · obtain ⟨b, off, rfl, h6, h7⟩ : ∃ b off, A = some ⟨b, off, none⟩ ∧ b < g ∧ Bytes w b off len := h4.resolve_left (by omega)
    refine (pick_any g b off len cap p n w h3 h7 (by omega) h0 h2 (by omega) hn hn2).mono ?_
    rintro e w' ⟨⟨v, hv, rfl⟩, d, rfl⟩
    exact ⟨⟨v, hv, rfl⟩, key d⟩
end Go.Proofs.Ytminailbhgimkaa

/- l91Of: a grid that is drawn, by a loose contract: texts of letters. -/
namespace Go.Proofs.Ytminailbhgimkaa
open Go.RowKit Go.Shelf

/-- Texts of m letters each. -/
def Txts (m : Nat) (ts : List ByteArray) : Prop := ∀ s ∈ ts, s.size = m ∧ ∀ b ∈ s.data.toList, isLet b = true
theorem Txts.grid {n m : Nat} {ts : List ByteArray} (h : Txts m ts) (hl : ts.length = n) (hn : 1 ≤ n) (hn5 : n ≤ 5) (hm : 1 ≤ m) (hm5 : m ≤ 5) : IsGrid n m ts := ⟨hl, hn, hn5, hm, hm5, h⟩
theorem dlet3 {v : Nat} (hv : v < 3) : ∃ bt : UInt8, (∀ h : v < (⟨#[46, 114, 102]⟩ : ByteArray).size, (⟨#[46, 114, 102]⟩ : ByteArray)[v] = bt) ∧ isLet bt = true := by
  match v, hv with
  | 0, _ => exact ⟨46, fun _ => rfl, rfl⟩
  | 1, _ => exact ⟨114, fun _ => rfl, rfl⟩
  | 2, _ => exact ⟨102, fun _ => rfl, rfl⟩
theorem dlet2 {v : Nat} (hv : v < 2) : ∃ bt : UInt8, (∀ h : v < (⟨#[114, 102]⟩ : ByteArray).size, (⟨#[114, 102]⟩ : ByteArray)[v] = bt) ∧ isLet bt = true := by
  match v, hv with
  | 0, _ => exact ⟨114, fun _ => rfl, rfl⟩
  | 1, _ => exact ⟨102, fun _ => rfl, rfl⟩
theorem beq46 (b : UInt8) : (((b.toNat : Nat) : Int) == 46) = (b == 46) := by
  rw [Bool.eq_iff_iff, beq_iff_eq, beq_iff_eq]
  constructor
  · intro h; exact UInt8.toNat_inj.1 (by have : (46 : UInt8).toNat = 46 := rfl; omega)
  · rintro rfl; rfl

end Go.Proofs.Ytminailbhgimkaa

/- l91One, l91At: a grid that is drawn from a code; a cell's number that is drawn. -/
namespace Go.Proofs.Ytminailbhgimkaa
open Go.RowKit Go.Shelf

/-- A code: bytes that read. -/
def CodeAt (w : World) (A : Option Addr) (len : Nat) : Prop := len = 0 ∨ ∃ b off, A = some ⟨b, off, none⟩ ∧ b < w.heap.size ∧ Bytes w b off len
/-- A drawn list of texts. -/
def Drawn (R C : Nat) (ts : List ByteArray) : Prop := 1 ≤ ts.length ∧ ts.length ≤ R ∧ ∀ s ∈ ts, 1 ≤ s.size ∧ s.size ≤ C + 1
theorem open_rd {w : World} {A : Option Addr} {len len' cap : Nat} (h : CodeAt w A len) (h1 : len' ≤ len) (h2 : len' ≤ 2000) : Rd (w.alloc (.cells #[.slice A len' cap, .int .i64 0] 150)) w.heap.size 0 := by
  refine ⟨A, len', cap, 0, Nat.le_refl _, h2, heap_new0 w _, ?_⟩
  rcases h with rfl | ⟨b, off, rfl, hb, hr⟩
  · exact .inl (by omega)
  · refine .inr ⟨b, off, rfl, hb, fun k hk => ?_⟩
    obtain ⟨v, v0, v1, hv⟩ := hr k (by omega)
    exact ⟨v, v0, v1, (((Below.refl _ w).alloc (Nat.le_refl _) _).cell (p := ⟨b, off + k, none⟩) hb).trans hv⟩

/-- The texts lie as they lay: another block has grown. -/
theorem Row9.kept {w w' : World} {g b : Nat} {ts : List ByteArray} (h : Row9 w b ts) (hg : w.grownBy w' (some g)) (hne : b ≠ g) : Row9 w' b ts := by
  obtain ⟨cs, h1, h2⟩ := h
  exact ⟨cs, (hg.block b (lt_of_block h1) (fun e => hne (Option.some.inj e))).trans h1, h2⟩

end Go.Proofs.Ytminailbhgimkaa

/- The laws' codes opened: a slice of bytes that came in. -/
namespace Go.Proofs.Ytminailbhgimkaa
open Go.ChangeShapes Go.WideShapes Go.ChangeAt Go.RowKit

/-- What a law is told of a slice of bytes. -/
def CameB (W : World) (v : Value) : Prop := ∃ (A : Option Addr) (len cap : Nat), v = .slice A len cap ∧ CodeAt W A len ∧ len ≤ cap ∧ cap ≤ 9223372036854775807

set_option maxRecDepth 100000 in
theorem cameB_of {H : Type} {enc : TypeId × Value → H} {W : World} {spare : Nat → Bool} {held : Bool} {v : Value} {d : DataW H} {p : List MemPlace} {base : Nat}
    (hv : Value.okWide Try.prog W .any base 22 v) (h : DataW.Trod enc Try.prog W 0 spare held 22 v d p) : CameB W v := by
  obtain ⟨a0, len0, cap0, rfl⟩ := okWide_slice Try.underlying22 hv
  obtain ⟨fuel, hf⟩ := h
  rcases open_ints Try.underlying22 Try.underlying5 (by kernel_rfl) hf with ⟨hcs, _⟩ | ⟨x, l, c, zs, hcs, _, hl, hm, hlen, _, hcell, hwf⟩
  · simp [Value.cells] at hcs
    obtain ⟨rfl, rfl, rfl⟩ := hcs
    exact ⟨none, 0, 0, rfl, .inl rfl, Nat.le_refl _, by omega⟩
  · simp [Value.cells] at hcs
    obtain ⟨rfl, rfl, rfl⟩ := hcs
    unfold maxLen at hm
    have hle : len0 ≤ zs.length := by
      rw [hlen]; split <;> omega
    refine ⟨some x, len0, cap0, rfl, ?_, hl, by omega⟩
    rcases Nat.eq_zero_or_pos len0 with h0 | h0
    · exact .inl h0
    obtain ⟨b, off, spot⟩ := x
    have hc0 := hcell 0 (by omega)
    have hspot : spot = none := by simpa [Addr.add] using World.cell?_spot hc0
    subst hspot
    refine .inr ⟨b, off, rfl, ?_, fun k hk => ?_⟩
    · have := block_lt_of_cell hc0
      simpa [Addr.add] using this
    · have hc := hcell k (by omega)
      have ha : (Addr.add ⟨b, off, none⟩ k : Addr) = ⟨b, off + k, none⟩ := by
        unfold Addr.add; split <;> simp_all
      rw [ha] at hc
      have hw := hwf (zs.getD k 0) (by
        rw [List.getD_eq_getElem?_getD, List.getElem?_eq_getElem (by omega)]
        exact List.getElem_mem _)
      have h1 := bounds_u8 hw
      exact ⟨_, h1.1, h1.2, hc⟩
theorem CodeAt.drewN {w : World} {A : Option Addr} {len : Nat} (h : CodeAt w A len) (n : Nat) : CodeAt (w.drewN n) A len := h
end Go.Proofs.Ytminailbhgimkaa

/- sameInts on equal lists; total. -/
namespace Go.Proofs.Ytminailbhgimkaa
open Go.RowKit Go.Shelf

set_option maxRecDepth 100000 in
set_option maxHeartbeats 1000000 in
theorem sameInts_same (A A' : Option Addr) (c c' B : Nat) (l : List Int) (w : World) (h : Ints w B A l) (h' : Ints w B A' l) (hn : l.length ≤ 1048576) :
    Calls Try.prog 17 #[.slice A l.length c, .slice A' l.length c'] w (TrueDrew w) := by
  have hne : ((l.length : Int) != (l.length : Int)) = false := by simp
  go_enter Try.func17, Try.ntmps17
  go_wp2
  go_loopw [5] (DrewRel l.length w) (fun i _ => l.length - (intOf i).toNat)
  case atStart => exact ⟨0, Nat.zero_le _, rfl, 0, rfl⟩
  case round =>
    obtain ⟨k, hk, rfl, d, rfl⟩ := hrel
    by_cases hlt : k < l.length
    · obtain ⟨b, off, x, rfl, hb, hks, hc⟩ := h.at_ hlt
      obtain ⟨b', off', x', rfl, hb', hks', hc'⟩ := h'.at_ hlt
      obtain rfl : x = x' := by rw [hks] at hks'; exact Option.some.inj hks'
      clear hks hks' h h'
      have hi : (k : Int) < (l.length : Int) := by omega
      have hi0 : (0 : Int) ≤ (k : Int) := by omega
      go_wp2_with fail
      go_quiet (fail)
      go_wp2
      go_roundw
      case rel => exact ⟨k + 1, by omega, by go_num, _, rfl⟩
      case measure => simp [intOf]; omega
    · obtain rfl : k = l.length := by omega
      go_wp2
      go_ret
      exact ⟨rfl, _, rfl⟩

theorem sum_take (l : List Int) {k : Nat} {x : Int} (h : l[k]? = some x) : (l.take (k + 1)).sum = (l.take k).sum + x := by
  obtain ⟨h1, h2⟩ := List.getElem?_eq_some_iff.1 h
  rw [List.take_succ_eq_append_getElem h1, List.sum_append, h2]
  simp
theorem sum_bound (l : List Int) (h : ∀ x ∈ l, -1000 ≤ x ∧ x ≤ 1000) : -(1000 * (l.length : Int)) ≤ l.sum ∧ l.sum ≤ 1000 * (l.length : Int) := by
  induction l with
  | nil => simp
  | cons y l ih =>
    have h1 := h y (by simp)
    have h2 := ih fun x hx => h x (by simp [hx])
    rw [List.sum_cons, List.length_cons]
    omega

set_option maxRecDepth 100000 in
set_option maxHeartbeats 1000000 in
theorem total_any (A : Option Addr) (c B : Nat) (l : List Int) (w : World) (h : Ints w B A l) (hn : l.length ≤ 1000) (hb : ∀ x ∈ l, -1000 ≤ x ∧ x ≤ 1000) :
    Calls Try.prog 19 #[.slice A l.length c] w fun e w' => e = .returned (.int .i64 l.sum) ∧ ∃ d, w' = w.drewN d := by
  have HB := hid (show ∀ k, k ≤ l.length → -1000000 ≤ (l.take k).sum ∧ (l.take k).sum ≤ 1000000 from fun k hk => by
    have h1 := sum_bound (l.take k) fun x hx => hb x (List.mem_of_mem_take hx)
    rw [List.length_take] at h1
    omega)
  have HX := hid hb
  clear hb
  go_enter Try.func19, Try.ntmps19
  go_wp2
  go_loopw [3, 4] (fun (v iv : Value) (wr : World) => ∃ k : Nat, k ≤ l.length ∧ iv = .int .i64 k ∧ v = .int .i64 (l.take k).sum ∧ ∃ d, wr = w.drewN d) (fun _ i _ => l.length - (intOf i).toNat)
  case atStart => exact ⟨0, Nat.zero_le _, rfl, by simp, 0, rfl⟩
  case round =>
    obtain ⟨k, hk, rfl, rfl, d, rfl⟩ := hrel
    by_cases hlt : k < l.length
    · obtain ⟨b, off, x, rfl, hb, hks, hc⟩ := h.at_ hlt
      have HS := hid (sum_take l hks)
      have hxb := HX.out x (List.mem_of_getElem? hks)
      have hsb := HB.out k hk
      obtain ⟨sm, hsm⟩ : ∃ sm, (l.take k).sum = sm := ⟨_, rfl⟩
      rw [hsm] at hsb ⊢
      have HSM := hid hsm
      obtain ⟨hx0, hx1⟩ := hxb
      obtain ⟨hs0, hs1⟩ := hsb
      clear hks h hsm
      have hi : (k : Int) < (l.length : Int) := by omega
      have hi0 : (0 : Int) ≤ (k : Int) := by omega
      go_wp2_with fail
      go_roundw
      case rel => exact ⟨k + 1, by omega, by go_num, by rw [HS.out, HSM.out], _, rfl⟩
      case measure => simp [intOf]; omega
    · obtain rfl : k = l.length := by omega
      have hall : l.take l.length = l := List.take_length
      rw [hall]
      go_wp2
      go_ret
      exact ⟨rfl, _, rfl⟩
end Go.Proofs.Ytminailbhgimkaa
