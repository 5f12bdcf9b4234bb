/- Settled texts in one file. Each begins with what it holds. -/
import Derived.Test.YtonhnmpgikmlpaaBunD
import Derived.Test.YtonhnmpgikmlpaaBunA
import Derived.Test.YtonhnmpgikmlpaaBunC
import Derived.Test.YtonhnmpgikmlpaaBunF
/- The drawings' reader: pick, by a loose contract: a number from 0 to n - 1. -/
namespace Go.Proofs.Ytonhnmpgikmlpaa
open Go.RowKit

theorem i64_xor_small (a b : Nat) (ha : a < 2 ^ 62) (hb : b < 2 ^ 62) : bits .xor .i64 (a : Int) (b : Int) = ((a ^^^ b : Nat) : Int) := by
  have hx : a ^^^ b < 2 ^ 62 := Nat.xor_lt_two_pow ha hb
  have h1 : (BitVec.ofInt 64 (a : Int)).toNat = a := by
    rw [BitVec.ofInt_natCast, BitVec.toNat_ofNat]; exact Nat.mod_eq_of_lt (by omega)
  have h2 : (BitVec.ofInt 64 (b : Int)).toNat = b := by
    rw [BitVec.ofInt_natCast, BitVec.toNat_ofNat]; exact Nat.mod_eq_of_lt (by omega)
  show IntKind.i64.wrap ((BitVec.ofInt 64 (a : Int) ^^^ BitVec.ofInt 64 (b : Int)).toNat : Int) = _
  rw [BitVec.toNat_xor, h1, h2, IntKind.wrap_i64]
  omega
/-- A slice of bytes that reads. -/
def Bytes (w : World) (b off len : Nat) : Prop := ∀ k, k < len → ∃ v : Int, 0 ≤ v ∧ v ≤ 255 ∧ w.cell? ⟨b, off + k, none⟩ = some (.int .u8 v)

set_option maxRecDepth 100000 in
set_option maxHeartbeats 2000000 in
theorem pick_any (g b off len cap p n : Nat) (w : World) (hg : w.heap[g]? = some (.cells #[.slice (some ⟨b, off, none⟩) len cap, .int .i64 p] 124 (0, 0))) (hb : Bytes w b off len) (hbg : b ≠ g) (hl : 1 ≤ len) (hl2 : len ≤ 2000) (hp : p ≤ 100000) (hn : 1 ≤ n) (hn2 : n ≤ 1000) :
    Calls Try.prog 63 #[.pointer (some ⟨g, 0, none⟩), .int .i64 n] w fun e w' => (∃ v : Nat, v < n ∧ e = .returned (.int .i64 v)) ∧ ∃ d, w' = (w.setCell ⟨g, 1, none⟩ (.int .i64 ((p : Int) + 1))).drewN d := by
  have c0 : w.cell? ⟨g, 0, none⟩ = some (.slice (some ⟨b, off, none⟩) len cap) := by rw [cell_of_row _ _ _ _ _ _ hg]; rfl
  have c1 : w.cell? ⟨g, 1, none⟩ = some (.int .i64 p) := by rw [cell_of_row _ _ _ _ _ _ hg]; rfl
  have f1 : w.frozen? ⟨g, 1, none⟩ = false := frozen_of_row _ _ _ _ _ hg
  have hbs : Bytes (w.setCell ⟨g, 1, none⟩ (.int .i64 ((p : Int) + 1))) b off len := fun k hk => by
    obtain ⟨v, v0, v1, hv⟩ := hb k hk
    refine ⟨v, v0, v1, ?_⟩
    simp only [World.cell?] at hv ⊢
    rw [Below.heap_setCell _ _ _ _ hbg]; exact hv
  have HBS := hid hbs
  have hnl : decide ((n : Int) < 1) = false := by simp; omega
  have hnz : ((n : Int) == 0) = false := by simp; omega
  have hlz : ((len : Int) == 0) = false := by simp; omega
  clear hg hb hbs
  go_enter Try.func63, Try.ntmps63
  by_cases hlt : p < len
  · obtain ⟨v, v0, v1, hv⟩ := HBS.out p hlt
    have hpl : (p : Int) < (len : Int) := by omega
    obtain ⟨rv, hrv⟩ : ∃ rv : Nat, v % (n : Int) = (rv : Int) := ⟨(v % (n : Int)).toNat, by have := Int.emod_nonneg v (show (n : Int) ≠ 0 by omega); omega⟩
    have hrn : rv < n := by have := Int.emod_lt_of_pos v (show (0 : Int) < n by omega); omega
    have HRN := hid hrn
    clear hrn
    go_wp2
    go_ret
    exact ⟨⟨rv, HRN.out, by rw [← hrv]; rfl⟩, 0, rfl⟩
  · have hnlt : ¬ (p : Int) < (len : Int) := by omega
    have hlp : (0 : Int) < (len : Int) := by omega
    obtain ⟨i1, hi1⟩ : ∃ i1, p % len = i1 := ⟨_, rfl⟩
    have hi1l : i1 < len := by rw [← hi1]; exact Nat.mod_lt _ (by omega)
    obtain ⟨i2, hi2⟩ : ∃ i2, (p * 7 + 3) % len = i2 := ⟨_, rfl⟩
    have hi2l : i2 < len := by rw [← hi2]; exact Nat.mod_lt _ (by omega)
    obtain ⟨qq, hqq⟩ : ∃ qq, p / len = qq := ⟨_, rfl⟩
    have hq1 : qq ≤ p := by rw [← hqq]; exact Nat.div_le_self _ _
    have hm1 : (p : Int) % (len : Int) = (i1 : Int) := by rw [← hi1]; rfl
    have hm2 : ((p : Int) * 7 + 3) % (len : Int) = (i2 : Int) := by rw [← hi2]; rfl
    have hd1 : (p : Int) / (len : Int) = (qq : Int) := by rw [← hqq]; rfl
    obtain ⟨v, v0, v1, hv⟩ := HBS.out i1 hi1l
    obtain ⟨u, u0, u1, hu⟩ := HBS.out i2 hi2l
    clear hi1 hi2 hqq
    go_wp2_with fail
    go_quiet (fail)
    obtain ⟨X, hX⟩ : ∃ X : Nat, v * 131 + u * 1117 + (p : Int) * 29 + (qq : Int) * 53 = (X : Int) := ⟨(v * 131 + u * 1117 + (p : Int) * 29 + (qq : Int) * 53).toNat, by omega⟩
    have hXb : (X : Int) ≤ 100000000 := by omega
    have hX0 : (0 : Int) ≤ (X : Int) := Int.natCast_nonneg _
    try rw [hX]
    clear hX
    obtain ⟨Y, hY⟩ : ∃ Y : Nat, bits .xor .i64 (X : Int) ((X : Int) / 64) = (Y : Int) := ⟨X ^^^ (X / 64), by
      rw [show ((X : Int) / 64) = ((X / 64 : Nat) : Int) by omega]
      exact i64_xor_small _ _ (by omega) (by omega)⟩
    have hYn : Y % n < n := Nat.mod_lt _ (by omega)
    have HY := hid hY
    have HYN := hid hYn
    clear hY hYn
    go_wp2
    go_ret
    refine ⟨⟨Y % n, HYN.out, ?_⟩, _, rfl⟩
    have e : ((Y : Int)).tmod (n : Int) = ((Y % n : Nat) : Int) := by rw [Int.tmod_eq_emod_of_nonneg (Int.natCast_nonneg _)]; rfl
    rw [← e, ← HY.out]; rfl

end Go.Proofs.Ytonhnmpgikmlpaa

/- The drawings' reader: l6Open, by its contract. -/
namespace Go.Proofs.Ytonhnmpgikmlpaa
open Go.RowKit

set_option maxRecDepth 100000 in
set_option maxHeartbeats 1000000 in
theorem l6Open_any (A : Option Addr) (len cap : Nat) (w : World) (hl : len ≤ 9223372036854775807) (hc : len ≤ cap) (hc2 : cap ≤ 9223372036854775807) :
    Calls Try.prog 60 #[.slice A len cap] w fun e w' => e = .returned (.pointer (some ⟨w.heap.size, 0, none⟩)) ∧ ∃ len', len' ≤ len ∧ len' ≤ 2000 ∧ (len' = 0 ↔ len = 0) ∧ w' = w.alloc (.cells #[.slice A len' cap, .int .i64 0] 124) := by
  go_enter Try.func60, Try.ntmps60
  by_cases h : 2000 < len
  · have hi : (2000 : Int) < (len : Int) := by omega
    have hci : (2000 : Int) ≤ (cap : Int) := by omega
    go_wp2
    go_ret
    exact ⟨rfl, 2000, by omega, Nat.le_refl _, by omega, rfl⟩
  · have hi : ¬ (2000 : Int) < (len : Int) := by omega
    go_wp2
    go_ret
    exact ⟨rfl, len, Nat.le_refl _, by omega, Iff.rfl, rfl⟩

set_option maxRecDepth 100000 in
set_option maxHeartbeats 1000000 in
/-- pick on an empty code: nought. -/
theorem pick_empty (g cap p n : Nat) (A : Option Addr) (w : World) (hg : w.heap[g]? = some (.cells #[.slice A 0 cap, .int .i64 p] 124 (0, 0))) (hp : p ≤ 100000) (hn : 1 ≤ n) :
    Calls Try.prog 63 #[.pointer (some ⟨g, 0, none⟩), .int .i64 n] w fun e w' => e = .returned (.int .i64 0) ∧ w' = w.setCell ⟨g, 1, none⟩ (.int .i64 ((p : Int) + 1)) := by
  have c0 : w.cell? ⟨g, 0, none⟩ = some (.slice A 0 cap) := by rw [cell_of_row _ _ _ _ _ _ hg]; rfl
  have c1 : w.cell? ⟨g, 1, none⟩ = some (.int .i64 p) := by rw [cell_of_row _ _ _ _ _ _ hg]; rfl
  have f1 : w.frozen? ⟨g, 1, none⟩ = false := frozen_of_row _ _ _ _ _ hg
  have hnl : decide ((n : Int) < 1) = false := by simp; omega
  clear hg
  go_enter Try.func63, Try.ntmps63
  go_wp2
  go_ret
  exact ⟨rfl, rfl⟩

end Go.Proofs.Ytonhnmpgikmlpaa

/- The drawings' reader by a loose contract; a grid that is drawn. -/
namespace Go.Proofs.Ytonhnmpgikmlpaa
open Go.RowKit Go.Shelf

theorem gby_below {a b : World} (r : Option Nat) (h : Below a.heap.size a b) : a.grownBy b r := ⟨h.os, h.tape, h.output, h.size, fun k hk _ => h.block k hk⟩
theorem gby_trans {a b c : World} {r : Option Nat} (h : a.grownBy b r) (k : b.grownBy c r) : a.grownBy c r :=
  ⟨k.os.trans h.os, k.tape.trans h.tape, k.output.trans h.output, Nat.le_trans h.size k.size, fun j hj hne => (k.block j (Nat.lt_of_lt_of_le hj h.size) hne).trans (h.block j hj hne)⟩
/-- Grown by a new block's growing. -/
theorem gby_new {a b c : World} {r r' : Option Nat} (h : a.grownBy b r) (k : b.grownBy c r') (hr : ∀ j, r' = some j → a.heap.size ≤ j) : a.grownBy c r :=
  ⟨k.os.trans h.os, k.tape.trans h.tape, k.output.trans h.output, Nat.le_trans h.size k.size, fun j hj hne => (k.block j (Nat.lt_of_lt_of_le hj h.size) (fun e => by have := hr j e.symm; omega)).trans (h.block j hj hne)⟩
/-- Block g holds a reader that has gone on at most P times. -/
def Rd (w : World) (g P : Nat) : Prop :=
  ∃ A len cap p, p ≤ P ∧ len ≤ 2000 ∧ w.heap[g]? = some (.cells #[.slice A len cap, .int .i64 ((p : Nat) : Int)] 124 (0, 0)) ∧ (len = 0 ∨ ∃ b off, A = some ⟨b, off, none⟩ ∧ b < g ∧ Bytes w b off len)
theorem Rd.lt {w : World} {g P : Nat} (h : Rd w g P) : g < w.heap.size := by
  obtain ⟨_, _, _, _, _, _, h, _⟩ := h
  exact lt_of_block h
theorem Rd.more {w : World} {g P P' : Nat} (h : Rd w g P) (hP : P ≤ P') : Rd w g P' := by
  obtain ⟨A, len, cap, p, h1, h2⟩ := h
  exact ⟨A, len, cap, p, by omega, h2⟩
theorem Bytes.kept {w w' : World} {b off len : Nat} (h : Bytes w b off len) (hb : len = 0 ∨ w'.heap[b]? = w.heap[b]?) : Bytes w' b off len := fun k hk => by
  obtain ⟨v, h1, h2, h3⟩ := h k hk
  rcases hb with rfl | hb
  · omega
  refine ⟨v, h1, h2, ?_⟩
  unfold World.cell? at h3 ⊢
  simp only at h3 ⊢
  rw [hb]; exact h3
theorem Rd.kept {w w' : World} {g P : Nat} {row : Option Nat} (h : Rd w g P) (hg : w.grownBy w' row) (hr : ∀ k, row = some k → g < k) : Rd w' g P := by
  have hl := h.lt
  obtain ⟨A, len, cap, p, h1, h2, h3, h4⟩ := h
  refine ⟨A, len, cap, p, h1, h2, (hg.block g hl (fun e => by have := hr g e.symm; omega)).trans h3, h4.imp id fun h => ?_⟩
  obtain ⟨b, off, h5, h6, h7⟩ := h
  exact ⟨b, off, h5, h6, h7.kept (.inr (hg.block b (by omega) (fun e => by have := hr b e.symm; omega)))⟩
theorem Rd.below {w w' : World} {g P : Nat} (h : Rd w g P) (hb : Below w.heap.size w w') : Rd w' g P := h.kept (gby_below none hb) (fun _ e => by cases e)

theorem pick_rd (g P n : Nat) (w : World) (h : Rd w g P) (hP : P ≤ 99999) (hn : 1 ≤ n) (hn2 : n ≤ 1000) :
    Calls Try.prog 63 #[.pointer (some ⟨g, 0, none⟩), .int .i64 n] w fun e w' => (∃ v : Nat, v < n ∧ e = .returned (.int .i64 v)) ∧ Rd w' g (P + 1) ∧ w.grownBy w' (some g) ∧ w'.heap.size = w.heap.size := by
  obtain ⟨A, len, cap, p, h1, h2, h3, h4⟩ := h
  have key : ∀ (d : Nat), Rd ((w.setCell ⟨g, 1, none⟩ (.int .i64 ((p : Int) + 1))).drewN d) g (P + 1) ∧ w.grownBy ((w.setCell ⟨g, 1, none⟩ (.int .i64 ((p : Int) + 1))).drewN d) (some g) ∧ ((w.setCell ⟨g, 1, none⟩ (.int .i64 ((p : Int) + 1))).drewN d).heap.size = w.heap.size := fun d => by
    have e : w.setCell ⟨g, 1, none⟩ (.int .i64 ((p : Int) + 1)) = w.setRow g #[.slice A len cap, .int .i64 ((p : Int) + 1)] := by
      rw [setCell_eq_setRow _ _ _ _ _ _ _ h3]
      rfl
    rw [e]
    have hr : (w.setRow g #[.slice A len cap, .int .i64 ((p : Int) + 1)]).heap[g]? = some (.cells #[.slice A len cap, .int .i64 (((p + 1 : Nat) : Nat) : Int)] 124 (0, 0)) := setRow_heap _ _ _ _ _ _ h3
    have ho : ∀ k, k ≠ g → (w.setRow g #[.slice A len cap, .int .i64 ((p : Int) + 1)]).heap[k]? = w.heap[k]? := fun k hk => setRow_other _ _ _ _ hk
    have hs : (w.setRow g #[.slice A len cap, .int .i64 ((p : Int) + 1)]).heap.size = w.heap.size := by simp
    refine ⟨⟨A, len, cap, p + 1, by omega, h2, hr, h4.imp id fun h => ?_⟩, ⟨rfl, rfl, rfl, Nat.le_of_eq hs.symm, fun k hk hne => ho k (fun e => hne (by rw [e]))⟩, hs⟩
    obtain ⟨b, off, h5, h6, h7⟩ := h
    exact ⟨b, off, h5, h6, h7.kept (.inr (ho b (by omega)))⟩
  rcases Nat.eq_zero_or_pos len with h0 | h0
  · subst h0
    refine (pick_empty g cap p n A w h3 (by omega) hn).mono ?_
    rintro e w' ⟨rfl, rfl⟩
    exact ⟨⟨0, hn, rfl⟩, key 0⟩
  · obtain ⟨b, off, rfl, h6, h7⟩ : ∃ b off, A = some ⟨b, off, none⟩ ∧ b < g ∧ Bytes w b off len := h4.resolve_left (by omega)
    refine (pick_any g b off len cap p n w h3 h7 (by omega) h0 h2 (by omega) hn hn2).mono ?_
    rintro e w' ⟨⟨v, hv, rfl⟩, d, rfl⟩
    exact ⟨⟨v, hv, rfl⟩, key d⟩
end Go.Proofs.Ytonhnmpgikmlpaa

/- l91Of: a grid that is drawn, by a loose contract: texts of letters. -/
namespace Go.Proofs.Ytonhnmpgikmlpaa
open Go.RowKit Go.Shelf

/-- Texts of m letters each. -/
def Txts (m : Nat) (ts : List ByteArray) : Prop := ∀ s ∈ ts, s.size = m ∧ ∀ b ∈ s.data.toList, isLet b = true
theorem Txts.grid {n m : Nat} {ts : List ByteArray} (h : Txts m ts) (hl : ts.length = n) (hn : 1 ≤ n) (hn5 : n ≤ 5) (hm : 1 ≤ m) (hm5 : m ≤ 5) : IsGrid n m ts := ⟨hl, hn, hn5, hm, hm5, h⟩
theorem dlet3 {v : Nat} (hv : v < 3) : ∃ bt : UInt8, (∀ h : v < (⟨#[46, 114, 102]⟩ : ByteArray).size, (⟨#[46, 114, 102]⟩ : ByteArray)[v] = bt) ∧ isLet bt = true := by
  match v, hv with
  | 0, _ => exact ⟨46, fun _ => rfl, rfl⟩
  | 1, _ => exact ⟨114, fun _ => rfl, rfl⟩
  | 2, _ => exact ⟨102, fun _ => rfl, rfl⟩
theorem dlet2 {v : Nat} (hv : v < 2) : ∃ bt : UInt8, (∀ h : v < (⟨#[114, 102]⟩ : ByteArray).size, (⟨#[114, 102]⟩ : ByteArray)[v] = bt) ∧ isLet bt = true := by
  match v, hv with
  | 0, _ => exact ⟨114, fun _ => rfl, rfl⟩
  | 1, _ => exact ⟨102, fun _ => rfl, rfl⟩
theorem beq46 (b : UInt8) : (((b.toNat : Nat) : Int) == 46) = (b == 46) := by
  rw [Bool.eq_iff_iff, beq_iff_eq, beq_iff_eq]
  constructor
  · intro h; exact UInt8.toNat_inj.1 (by have : (46 : UInt8).toNat = 46 := rfl; omega)
  · rintro rfl; rfl

set_option maxRecDepth 100000 in
set_option maxHeartbeats 4000000 in
theorem l91Of_any (g P n m : Nat) (w : World) (h : Rd w g P) (hP : P ≤ 90000) (hn : n ≤ 10) (hm1 : 1 ≤ m) (hm : m ≤ 10) :
    Calls Try.prog 90 #[.pointer (some ⟨g, 0, none⟩), .int .i64 n, .int .i64 m] w fun e w' => (∃ v ts, e = .returned v ∧ GrowS w' w.heap.size v ts ∧ ts.length = n ∧ Txts m ts) ∧ Rd w' g (P + 201) ∧ w.grownBy w' (some g) := by
  have HGO := hid h.lt
  have HRA := hid (h.below ((Below.refl _ w).alloc (Nat.le_refl _) (.cells #[] 9)))
  have HPK := hid (fun p q W (hr : Rd W g p) (hp : p ≤ 99999) (hq : 1 ≤ q) (hq2 : q ≤ 1000) => pick_rd g p q W hr hp hq hq2)
  have HP4 := hid (HPK.out P 4 _ HRA.out (by omega) (by omega) (by omega))
  clear h
  go_enter Try.func90, Try.ntmps90
  go_wp2_with fail
  refine HP4.out.mono ?_
  rintro e w1 ⟨⟨kd, _, rfl⟩, hrd, hgw, hsz⟩
  obtain ⟨kI, hkI⟩ : ∃ kI : Int, ((kd : Nat) : Int) = kI := ⟨_, rfl⟩
  rw [hkI]
  clear hkI
  have HRD1 := hid hrd
  have HW1 := hid (gby_trans (World.grownBy_alloc w (.cells #[] 9) (some g)) hgw)
  have HG1 := hid (show GrowS w1 w.heap.size (.slice (some ⟨w.heap.size, 0, none⟩) 0 0) [] from World.ownsRow.kept (growS_new w w.heap.size (Nat.le_refl _)) hgw (.inr (fun e => by have h1 : w.heap.size = g := Option.some.inj e; have h2 := HGO.out; omega)))
  clear hrd hgw hsz HP4 HRA
  go_wp2_with fail
  go_loopw [7, 9] (fun (v iv : Value) (wr : World) => ∃ (i : Nat) (ts : List ByteArray), i ≤ n ∧ iv = .int .i64 i ∧ GrowS wr w.heap.size v ts ∧ ts.length = i ∧ Hid (Txts m ts) ∧ Rd wr g (P + 1 + 20 * i) ∧ w.grownBy wr (some g)) (fun _ iv _ => n - (intOf iv).toNat)
  case atStart => exact ⟨0, [], by omega, rfl, HG1.out, rfl, hid (fun s hs => by simp at hs), HRD1.out, HW1.out⟩
  case round =>
    obtain ⟨i, ts, hi, rfl, hgs, hts, hal, hrd, hw⟩ := hrel
    have HS := hid hgs
    have HTS := hid hts
    have HAL := hal
    have HRD := hid hrd
    have HWO := hid hw
    clear hgs hts hal hrd hw
    by_cases hlt : i < n
    · have hii : (i : Int) < (n : Int) := by omega
      obtain ⟨wo, rfl⟩ : ∃ wo : World, wo = wr := ⟨_, rfl⟩
      obtain ⟨ov, rfl⟩ : ∃ ov : Value, ov = u7 := ⟨_, rfl⟩
      go_wp2_with fail
      go_loopw [10, 11] (fun (v kv : Value) (wi : World) => ∃ (k : Nat) (l : List UInt8), k ≤ m ∧ kv = .int .i64 k ∧ GrowB wi wo.heap.size v l ∧ l.length = k ∧ Hid (∀ b ∈ l, isLet b = true) ∧ GrowS wi w.heap.size ov ts ∧ Rd wi g (P + 1 + 20 * i + 2 * k) ∧ w.grownBy wi (some g) ∧ wo.heap.size ≤ wi.heap.size) (fun _ kv _ => m - (intOf kv).toNat)
      case atStart =>
        exact ⟨0, [], by omega, rfl, growB_new wo _ (Nat.le_refl _), rfl, hid (fun b hb => by simp at hb), World.ownsRow.alloc HS.out _, HRD.out.below ((Below.refl _ wo).alloc (Nat.le_refl _) _), gby_trans HWO.out (World.grownBy_alloc wo _ (some g)), by simp⟩
      case round =>
        obtain ⟨k, l, hk, rfl, hgb, hll, hlb, hgs, hrd, hw, hz⟩ := hrel
        have HGB := hid hgb
        have HLL := hid hll
        have HLB := hlb
        have HGS := hid hgs
        have HRK := hid hrd
        have HWK := hid hw
        have HZK := hid hz
        clear hgb hll hlb hgs hrd hw hz
        by_cases hkm : k < m
        · have hkk : (k : Int) < (m : Int) := by omega
          have HP3 := hid (HPK.out _ 3 wr HRK.out (by omega) (by omega) (by omega))
          obtain ⟨r, hr⟩ : ∃ r, (i + k) % 2 = r := ⟨_, rfl⟩
          have hr2 : r < 2 := by omega
          have hrm : ((i : Int) + (k : Int)) % 2 = (r : Int) := by omega
          have hik0 : (0 : Int) ≤ (i : Int) + (k : Int) := by omega
          have hr2i : (r : Int) < 2 := by omega
          have hr0i : (0 : Int) ≤ (r : Int) := by omega
          obtain ⟨b2, hb2, hl2⟩ := dlet2 hr2
          have HL2 := hid hl2
          clear hr hl2
          go_wp2_with fail
          refine HP3.out.mono ?_
          rintro e w2 ⟨⟨v, hv, rfl⟩, hrd, hgw, hsz⟩
          obtain ⟨bt, hbt, hlt3⟩ := dlet3 hv
          have HL3 := hid hlt3
          have hvi : (v : Int) < 3 := by omega
          have hvi0 : (0 : Int) ≤ (v : Int) := by omega
          have HRD2 := hid hrd
          have HW2 := hid (gby_trans HWK.out hgw)
          have HGB2 := hid (show GrowB w2 wo.heap.size u10 l from World.ownsRow.kept HGB.out hgw (.inr (fun e => by have h1 := (World.ownsRow.lt HGB.out g e).1; have h2 := HGO.out; have h3 := HWO.out.size; omega)))
          have HGS2 := hid (show GrowS w2 w.heap.size ov ts from World.ownsRow.kept HGS.out hgw (.inr (fun e => by have h1 := (World.ownsRow.lt HGS.out g e).1; have h2 := HGO.out; omega)))
          have HZ2 := hid (Nat.le_trans HZK.out (Nat.le_of_eq hsz.symm))
          have hbe := beq46 bt
          clear hrd hgw hsz hlt3 HP3 HGB HGS HRK HWK HZK
          by_cases hk0 : kI = 0
          · have hkb0 : (kI == 0) = true := by simpa using hk0
            have hkb1 : (kI == 1) = false := by simp; omega
            clear hk0
            cases hq : (bt == 46) with
            | true =>
              rw [hq] at hbe
              go_wp2_with (at_builtin; refine wpList_appendB rfl _ _ rfl wo.heap.size u10 l rfl (World.ownsRow.alloc HGB2.out _) w2.heap.size 1 rfl b2 (cell_newB w2 _) ?c3 (Nat.le_trans HZ2.out (by simp)) ?_)
              case c3 => have := HLL.out; omega
              intro v' w' hgr hgw
              have HGR := hid hgr
              have HSS := hid (grown_other (World.ownsRow.alloc HGS2.out _) (World.ownsRow.alloc HGB2.out _) (fun k e => (ownBlock_lt HS.out k e).2) (Nat.le_refl _) hgw)
              have HRR := hid ((HRD2.out.below ((Below.refl _ w2).alloc (Nat.le_refl _) (.cells #[.int .u8 b2.toNat] 5))).kept hgw (fun k e => Nat.lt_of_lt_of_le HGO.out (Nat.le_trans HWO.out.size (World.ownsRow.lt HGB2.out k e).1)))
              have HNW := hid (gby_new (gby_trans HW2.out (World.grownBy_alloc w2 (.cells #[.int .u8 b2.toNat] 5) (some g))) hgw (fun k e => Nat.le_trans HWO.out.size (World.ownsRow.lt HGB2.out k e).1))
              have HZZ := hid (Nat.le_trans HZ2.out (Nat.le_trans (by simp : w2.heap.size ≤ (w2.alloc (.cells #[.int .u8 b2.toNat] 5)).heap.size) hgw.size))
              have HLE := hid HL2.out
              clear hgr hgw
              go_wp2
              go_roundw
              case rel => exact ⟨k + 1, l ++ [b2], by omega, by go_num, HGR.out, by have := HLL.out; simp; omega, fun b hb => (by
                rcases List.mem_append.1 hb with h | h
                · exact HLB.out b h
                · rw [List.mem_singleton.1 h]; exact HLE.out), HSS.out, HRR.out.more (by omega), HNW.out, HZZ.out⟩
              case measure => simp [intOf]; omega
            | false =>
              rw [hq] at hbe
              go_wp2_with (at_builtin; refine wpList_appendB rfl _ _ rfl wo.heap.size u10 l rfl (World.ownsRow.alloc HGB2.out _) w2.heap.size 1 rfl bt (cell_newB w2 _) ?c3 (Nat.le_trans HZ2.out (by simp)) ?_)
              case c3 => have := HLL.out; omega
              intro v' w' hgr hgw
              have HGR := hid hgr
              have HSS := hid (grown_other (World.ownsRow.alloc HGS2.out _) (World.ownsRow.alloc HGB2.out _) (fun k e => (ownBlock_lt HS.out k e).2) (Nat.le_refl _) hgw)
              have HRR := hid ((HRD2.out.below ((Below.refl _ w2).alloc (Nat.le_refl _) (.cells #[.int .u8 bt.toNat] 5))).kept hgw (fun k e => Nat.lt_of_lt_of_le HGO.out (Nat.le_trans HWO.out.size (World.ownsRow.lt HGB2.out k e).1)))
              have HNW := hid (gby_new (gby_trans HW2.out (World.grownBy_alloc w2 (.cells #[.int .u8 bt.toNat] 5) (some g))) hgw (fun k e => Nat.le_trans HWO.out.size (World.ownsRow.lt HGB2.out k e).1))
              have HZZ := hid (Nat.le_trans HZ2.out (Nat.le_trans (by simp : w2.heap.size ≤ (w2.alloc (.cells #[.int .u8 bt.toNat] 5)).heap.size) hgw.size))
              have HLE := hid HL3.out
              clear hgr hgw
              go_wp2
              go_roundw
              case rel => exact ⟨k + 1, l ++ [bt], by omega, by go_num, HGR.out, by have := HLL.out; simp; omega, fun b hb => (by
                rcases List.mem_append.1 hb with h | h
                · exact HLB.out b h
                · rw [List.mem_singleton.1 h]; exact HLE.out), HSS.out, HRR.out.more (by omega), HNW.out, HZZ.out⟩
              case measure => simp [intOf]; omega
          · have hkb0 : (kI == 0) = false := by simpa using hk0
            by_cases hk1 : kI = 1
            · have hkb1 : (kI == 1) = true := by simpa using hk1
              clear hk0 hk1
              have HP5 := hid (HPK.out _ 3 w2 HRD2.out (by omega) (by omega) (by omega))
              go_wp2_with fail
              refine HP5.out.mono ?_
              rintro e w3 ⟨⟨q, hq, rfl⟩, hrd, hgw, hsz⟩
              have HRD3 := hid hrd
              have HW3 := hid (gby_trans HW2.out hgw)
              have HGB3 := hid (show GrowB w3 wo.heap.size u10 l from World.ownsRow.kept HGB2.out hgw (.inr (fun e => by have h1 := (World.ownsRow.lt HGB2.out g e).1; have h2 := HGO.out; have h3 := HWO.out.size; omega)))
              have HGS3 := hid (show GrowS w3 w.heap.size ov ts from World.ownsRow.kept HGS2.out hgw (.inr (fun e => by have h1 := (World.ownsRow.lt HGS2.out g e).1; have h2 := HGO.out; omega)))
              have HZ3 := hid (Nat.le_trans HZ2.out (Nat.le_of_eq hsz.symm))
              clear hrd hgw hsz HP5
              by_cases hq0 : 0 < q
              · have hqi : (0 : Int) < (q : Int) := by omega
                go_wp2_with (at_builtin; refine wpList_appendB rfl _ _ rfl wo.heap.size u10 l rfl (World.ownsRow.alloc HGB3.out _) w3.heap.size 1 rfl b2 (cell_newB w3 _) ?c3 (Nat.le_trans HZ3.out (by simp)) ?_)
                case c3 => have := HLL.out; omega
                intro v' w' hgr hgw
                have HGR := hid hgr
                have HSS := hid (grown_other (World.ownsRow.alloc HGS3.out _) (World.ownsRow.alloc HGB3.out _) (fun k e => (ownBlock_lt HS.out k e).2) (Nat.le_refl _) hgw)
                have HRR := hid ((HRD3.out.below ((Below.refl _ w3).alloc (Nat.le_refl _) (.cells #[.int .u8 b2.toNat] 5))).kept hgw (fun k e => Nat.lt_of_lt_of_le HGO.out (Nat.le_trans HWO.out.size (World.ownsRow.lt HGB3.out k e).1)))
                have HNW := hid (gby_new (gby_trans HW3.out (World.grownBy_alloc w3 (.cells #[.int .u8 b2.toNat] 5) (some g))) hgw (fun k e => Nat.le_trans HWO.out.size (World.ownsRow.lt HGB3.out k e).1))
                have HZZ := hid (Nat.le_trans HZ3.out (Nat.le_trans (by simp : w3.heap.size ≤ (w3.alloc (.cells #[.int .u8 b2.toNat] 5)).heap.size) hgw.size))
                have HLE := hid HL2.out
                clear hgr hgw
                go_wp2
                go_roundw
                case rel => exact ⟨k + 1, l ++ [b2], by omega, by go_num, HGR.out, by have := HLL.out; simp; omega, fun b hb => (by
                  rcases List.mem_append.1 hb with h | h
                  · exact HLB.out b h
                  · rw [List.mem_singleton.1 h]; exact HLE.out), HSS.out, HRR.out.more (by omega), HNW.out, HZZ.out⟩
                case measure => simp [intOf]; omega
              · have hqi : ¬ ((0 : Int) < (q : Int)) := by omega
                go_wp2_with (at_builtin; refine wpList_appendB rfl _ _ rfl wo.heap.size u10 l rfl (World.ownsRow.alloc HGB3.out _) w3.heap.size 1 rfl bt (cell_newB w3 _) ?c3 (Nat.le_trans HZ3.out (by simp)) ?_)
                case c3 => have := HLL.out; omega
                intro v' w' hgr hgw
                have HGR := hid hgr
                have HSS := hid (grown_other (World.ownsRow.alloc HGS3.out _) (World.ownsRow.alloc HGB3.out _) (fun k e => (ownBlock_lt HS.out k e).2) (Nat.le_refl _) hgw)
                have HRR := hid ((HRD3.out.below ((Below.refl _ w3).alloc (Nat.le_refl _) (.cells #[.int .u8 bt.toNat] 5))).kept hgw (fun k e => Nat.lt_of_lt_of_le HGO.out (Nat.le_trans HWO.out.size (World.ownsRow.lt HGB3.out k e).1)))
                have HNW := hid (gby_new (gby_trans HW3.out (World.grownBy_alloc w3 (.cells #[.int .u8 bt.toNat] 5) (some g))) hgw (fun k e => Nat.le_trans HWO.out.size (World.ownsRow.lt HGB3.out k e).1))
                have HZZ := hid (Nat.le_trans HZ3.out (Nat.le_trans (by simp : w3.heap.size ≤ (w3.alloc (.cells #[.int .u8 bt.toNat] 5)).heap.size) hgw.size))
                have HLE := hid HL3.out
                clear hgr hgw
                go_wp2
                go_roundw
                case rel => exact ⟨k + 1, l ++ [bt], by omega, by go_num, HGR.out, by have := HLL.out; simp; omega, fun b hb => (by
                  rcases List.mem_append.1 hb with h | h
                  · exact HLB.out b h
                  · rw [List.mem_singleton.1 h]; exact HLE.out), HSS.out, HRR.out.more (by omega), HNW.out, HZZ.out⟩
                case measure => simp [intOf]; omega
            · have hkb1 : (kI == 1) = false := by simpa using hk1
              clear hk0 hk1
              go_wp2_with (at_builtin; refine wpList_appendB rfl _ _ rfl wo.heap.size u10 l rfl (World.ownsRow.alloc HGB2.out _) w2.heap.size 1 rfl bt (cell_newB w2 _) ?c3 (Nat.le_trans HZ2.out (by simp)) ?_)
              case c3 => have := HLL.out; omega
              intro v' w' hgr hgw
              have HGR := hid hgr
              have HSS := hid (grown_other (World.ownsRow.alloc HGS2.out _) (World.ownsRow.alloc HGB2.out _) (fun k e => (ownBlock_lt HS.out k e).2) (Nat.le_refl _) hgw)
              have HRR := hid ((HRD2.out.below ((Below.refl _ w2).alloc (Nat.le_refl _) (.cells #[.int .u8 bt.toNat] 5))).kept hgw (fun k e => Nat.lt_of_lt_of_le HGO.out (Nat.le_trans HWO.out.size (World.ownsRow.lt HGB2.out k e).1)))
              have HNW := hid (gby_new (gby_trans HW2.out (World.grownBy_alloc w2 (.cells #[.int .u8 bt.toNat] 5) (some g))) hgw (fun k e => Nat.le_trans HWO.out.size (World.ownsRow.lt HGB2.out k e).1))
              have HZZ := hid (Nat.le_trans HZ2.out (Nat.le_trans (by simp : w2.heap.size ≤ (w2.alloc (.cells #[.int .u8 bt.toNat] 5)).heap.size) hgw.size))
              have HLE := hid HL3.out
              clear hgr hgw
              go_wp2
              go_roundw
              case rel => exact ⟨k + 1, l ++ [bt], by omega, by go_num, HGR.out, by have := HLL.out; simp; omega, fun b hb => (by
                rcases List.mem_append.1 hb with h | h
                · exact HLB.out b h
                · rw [List.mem_singleton.1 h]; exact HLE.out), HSS.out, HRR.out.more (by omega), HNW.out, HZZ.out⟩
              case measure => simp [intOf]; omega
        · obtain rfl : k = m := by omega
          have hcv := growB_text HGB.out (by rw [HLL.out]; exact hm1)
          obtain ⟨tx, htx⟩ : ∃ tx : ByteArray, (⟨l.toArray⟩ : ByteArray) = tx := ⟨_, rfl⟩
          rw [htx] at hcv
          have HTX := hid (show tx.size = k ∧ ∀ b ∈ tx.data.toList, isLet b = true by
            rw [← htx]
            exact ⟨by rw [Lib.size_eq]; simpa using HLL.out, fun b hb => HLB.out b (by simpa using hb)⟩)
          clear htx
          go_wp2_with (at_builtin; refine wpList_appendS rfl _ _ rfl w.heap.size ov ts rfl (World.ownsRow.alloc HGS.out _) wr.heap.size 1 rfl tx (cell_new wr tx) ?c3 (Nat.le_trans HWK.out.size (by simp)) ?_)
          case c3 => have := HTS.out; omega
          intro v' w' hgr hgw
          have HGR := hid hgr
          have HRR := hid ((HRK.out.below ((Below.refl _ wr).alloc (Nat.le_refl _) (.cells #[.string tx] 9))).kept hgw (fun k e => Nat.lt_of_lt_of_le HGO.out (World.ownsRow.lt HGS.out k e).1))
          have HNW := hid (gby_new (gby_trans HWK.out (World.grownBy_alloc wr (.cells #[.string tx] 9) (some g))) hgw (fun k e => (World.ownsRow.lt HGS.out k e).1))
          clear hgr hgw hcv
          go_wp2
          go_roundw
          case rel => exact ⟨i + 1, ts ++ [tx], by omega, by go_num, HGR.out, by have := HTS.out; simp; omega, hid (fun s hs => by
            rcases List.mem_append.1 hs with h | h
            · exact HAL.out s h
            · rw [List.mem_singleton.1 h]; exact HTX.out), HRR.out.more (by omega), HNW.out⟩
          case measure => simp [intOf]; omega
    · obtain rfl : i = n := by omega
      go_wp2_with fail
      go_ret
      exact ⟨⟨_, ts, rfl, HS.out, HTS.out, HAL.out⟩, HRD.out.more (by omega), HWO.out⟩
end Go.Proofs.Ytonhnmpgikmlpaa

/- l91Some: a grid that is drawn, seldom spoilt, by a loose contract. -/
namespace Go.Proofs.Ytonhnmpgikmlpaa
open Go.RowKit Go.Shelf

set_option maxRecDepth 100000 in
set_option maxHeartbeats 2000000 in
theorem l91Some_cap (g P R C : Nat) (w : World) (h : Rd w g P) (hP : P ≤ 80000) (hR1 : 1 ≤ R) (hR : R ≤ 6) (hC1 : 1 ≤ C) (hC : C ≤ 6) :
    Calls Try.prog 61 #[.pointer (some ⟨g, 0, none⟩), .int .i64 R, .int .i64 C] w fun e w' => (∃ gb c ts, e = .returned (.slice (some ⟨gb, 0, none⟩) ts.length c) ∧ w.heap.size ≤ gb ∧ Row9 w' gb ts ∧ 1 ≤ ts.length ∧ ts.length ≤ R ∧ (∀ s ∈ ts, 1 ≤ s.size ∧ s.size ≤ C + 1) ∧ ts.length ≤ c) ∧ Rd w' g (P + 205) ∧ w.grownBy w' (some g) := by
  have HGO := hid h.lt
  have HPK := hid (fun p q W (hr : Rd W g p) (hp : p ≤ 99999) (hq : 1 ≤ q) (hq2 : q ≤ 1000) => pick_rd g p q W hr hp hq hq2)
  have HOF := hid (fun p n m W (hr : Rd W g p) (hp : p ≤ 90000) (hn : n ≤ 10) (hm1 : 1 ≤ m) (hm : m ≤ 10) => l91Of_any g p n m W hr hp hn hm1 hm)
  have HP1 := hid (HPK.out P R w h (by omega) hR1 (by omega))
  clear h
  go_enter Try.func61, Try.ntmps61
  go_wp2_with fail
  refine HP1.out.mono ?_
  rintro e w1 ⟨⟨n0, hn0, rfl⟩, hrd, hgw, hsz⟩
  obtain ⟨n, hn⟩ : ∃ n, 1 + n0 = n := ⟨_, rfl⟩
  have hni : (1 : Int) + (n0 : Int) = (n : Int) := by omega
  have hn1 : 1 ≤ n := by omega
  have hnR : n ≤ R := by omega
  have HW1 := hid hgw
  have HP2 := hid (HPK.out _ C w1 hrd (by omega) hC1 (by omega))
  clear hrd hgw hsz HP1 hn
  go_wp2_with fail
  refine HP2.out.mono ?_
  rintro e w2 ⟨⟨m0, hm0, rfl⟩, hrd, hgw, hsz⟩
  obtain ⟨m, hm⟩ : ∃ m, 1 + m0 = m := ⟨_, rfl⟩
  have hmi : (1 : Int) + (m0 : Int) = (m : Int) := by omega
  have hm1 : 1 ≤ m := by omega
  have hmC : m ≤ C := by omega
  have HW2 := hid (gby_trans HW1.out hgw)
  have HO2 := hid (HOF.out _ n m w2 hrd (by omega) (by omega) hm1 (by omega))
  clear hrd hgw hsz HP2 hm
  go_wp2_with fail
  refine HO2.out.mono ?_
  rintro e w3 ⟨⟨v, ts, rfl, hgs, hl, ht⟩, hrd, hgw⟩
  have HW3 := hid (gby_trans HW2.out hgw)
  have HZ := hid HW2.out.size
  have HTX := hid ht
  have HL := hid hl
  have HP3 := hid (HPK.out _ 60 w3 hrd (by omega) (by omega) (by omega))
  obtain ⟨gb, cap, cur, hv, hbase, hgb, hncap, htake⟩ : ∃ gb cap cur, v = .slice (some ⟨gb, 0, none⟩) n cap ∧ w2.heap.size ≤ gb ∧ w3.heap[gb]? = some (.cells cur 9 (0, 0)) ∧ n ≤ cap ∧ ∀ (k : Nat) (t : ByteArray), ts[k]? = some t → cur[k]? = some (.string t) := by
    rcases hgs.2 with ⟨_, h0⟩ | ⟨g', cap, cur, h1, h2, h3, hc, _, _, h4⟩
    · omega
    · refine ⟨g', cap, cur, by rw [h1, hl], h2, h3, by rw [← hl]; exact hc, fun k t hk => ?_⟩
      have hl := (List.getElem?_eq_some_iff.1 hk).1
      have e : (strsV ts)[k]? = some (.string t) := by simp [strsV, hk]
      rw [← h4, List.getElem?_take_of_lt (by omega)] at e
      rw [← Array.getElem?_toList, e]
  subst hv
  have HBA := hid hbase
  have HGB := hid hgb
  have HTK := hid htake
  have HNC := hid hncap
  clear hrd hgw hgs hl ht HO2 hbase hgb htake hncap
  go_wp2_with fail
  refine HP3.out.mono ?_
  rintro e w4 ⟨⟨q, hq, rfl⟩, hrd, hgw, hsz⟩
  have HRD4 := hid hrd
  have HW4 := hid (gby_trans HW3.out hgw)
  have HGB4 := hid (show w4.heap[gb]? = some (.cells cur 9 (0, 0)) from (hgw.block gb (lt_of_block HGB.out) (fun e => by have h1 := Option.some.inj e; have h2 := HGO.out; have h3 := HBA.out; have h4 := HZ.out; omega)).trans HGB.out)
  clear hrd hgw hsz HP3
  have hn0n : (0 : Int) < (n : Int) := by omega
  have KEY := hid (show ∀ (k : Nat) (t : ByteArray), k < n → 1 ≤ t.size → t.size ≤ C + 1 → (∃ gb' c ts, Ending.returned (Value.slice (some ⟨gb, 0, none⟩) n cap) = .returned (.slice (some ⟨gb', 0, none⟩) ts.length c) ∧ w.heap.size ≤ gb' ∧ Row9 (w4.setCell ⟨gb, k, none⟩ (.string t)) gb' ts ∧ 1 ≤ ts.length ∧ ts.length ≤ R ∧ (∀ s ∈ ts, 1 ≤ s.size ∧ s.size ≤ C + 1) ∧ ts.length ≤ c) ∧ Rd (w4.setCell ⟨gb, k, none⟩ (.string t)) g (P + 205) ∧ w.grownBy (w4.setCell ⟨gb, k, none⟩ (.string t)) (some g) from fun k t hk h1 h2 => by
    have e : w4.setCell ⟨gb, k, none⟩ (.string t) = w4.setRow gb (cur.setIfInBounds k (.string t)) := setCell_eq_setRow _ _ _ _ _ _ _ HGB4.out
    rw [e]
    have hr : (w4.setRow gb (cur.setIfInBounds k (.string t))).heap[gb]? = some (.cells (cur.setIfInBounds k (.string t)) 9 (0, 0)) := setRow_heap _ _ _ _ _ _ HGB4.out
    have hgb : g < gb := by have h2 := HGO.out; have h3 := HBA.out; have h4 := HZ.out; omega
    have hg2 : w4.grownBy (w4.setRow gb (cur.setIfInBounds k (.string t))) (some gb) := ⟨rfl, rfl, rfl, by simp, fun j hj hne => setRow_other _ _ _ _ (fun e => hne (by rw [e]))⟩
    have hrow : Row9 (w4.setRow gb (cur.setIfInBounds k (.string t))) gb (ts.set k t) := ⟨_, hr, fun j u hj => by
      by_cases hjk : j = k
      · subst hjk
        rw [List.getElem?_set_self (by rw [HL.out]; exact hk)] at hj
        cases hj
        have hks : j < cur.size := by
          obtain ⟨s, hs⟩ : ∃ s, ts[j]? = some s := ⟨_, List.getElem?_eq_getElem (by rw [HL.out]; exact hk)⟩
          exact (Array.getElem?_eq_some_iff.1 (HTK.out _ _ hs)).1
        rw [Array.getElem?_setIfInBounds_self_of_lt hks]
      · rw [List.getElem?_set_ne (fun e => hjk e.symm)] at hj
        rw [Array.getElem?_setIfInBounds_ne (fun e => hjk e.symm)]
        exact HTK.out _ _ hj⟩
    refine ⟨⟨_, cap, ts.set k t, by rw [List.length_set, HL.out], Nat.le_trans HZ.out HBA.out, hrow, by rw [List.length_set, HL.out]; exact hn1, by rw [List.length_set, HL.out]; exact hnR, fun s hs => ?_, by rw [List.length_set, HL.out]; exact HNC.out⟩, (HRD4.out.kept hg2 (fun j e => by cases e; exact hgb)).more (by omega), gby_new HW4.out hg2 (fun j e => by cases e; have h3 := HBA.out; have h4 := HZ.out; omega)⟩
    rcases List.mem_or_eq_of_mem_set hs with h | rfl
    · have := (HTX.out s h).1; omega
    · exact ⟨h1, h2⟩)
  by_cases hq0 : q = 0
  · subst hq0
    obtain ⟨s0, hs0⟩ : ∃ s0, ts[0]? = some s0 := ⟨_, List.getElem?_eq_getElem (by rw [HL.out]; omega)⟩
    have hc0 : w4.cell? ⟨gb, 0, none⟩ = some (.string s0) := by rw [cell_of_row _ _ _ _ _ _ HGB4.out]; exact HTK.out _ _ hs0
    have hf0 : w4.frozen? ⟨gb, 0, none⟩ = false := frozen_of_row _ _ _ _ _ HGB4.out
    have hsz0 : s0.size = m := (HTX.out s0 (List.mem_of_getElem? hs0)).1
    have hszi : (1 : Int) ≤ ((s0.size : Nat) : Int) := by omega
    go_wp2_with fail
    go_ret
    exact KEY.out 0 _ (by omega) (by rw [ByteArray.size_append, ByteArray.size_extract]; show 1 ≤ _ + 1; omega) (by rw [ByteArray.size_append, ByteArray.size_extract]; show _ + 1 ≤ _; omega)
  · by_cases hq1 : q = 1
    · subst hq1
      obtain ⟨s1, hs1⟩ : ∃ s1, ts[n - 1]? = some s1 := ⟨_, List.getElem?_eq_getElem (by rw [HL.out]; omega)⟩
      obtain ⟨nn, hnn⟩ : ∃ nn, n - 1 = nn := ⟨_, rfl⟩
      rw [hnn] at hs1
      have hnni : (n : Int) - 1 = (nn : Int) := by omega
      have hnn0 : (nn : Int) < (n : Int) := by omega
      have hc0 : w4.cell? ⟨gb, nn, none⟩ = some (.string s1) := by rw [cell_of_row _ _ _ _ _ _ HGB4.out]; exact HTK.out _ _ hs1
      have hf0 : w4.frozen? ⟨gb, nn, none⟩ = false := frozen_of_row _ _ _ _ _ HGB4.out
      have hsz0 : s1.size = m := (HTX.out s1 (List.mem_of_getElem? hs1)).1
      clear hnn
      go_wp2_with fail
      go_ret
      exact KEY.out nn _ (by omega) (by rw [ByteArray.size_append]; show 1 ≤ _ + 1; omega) (by rw [ByteArray.size_append, hsz0]; show _ + 1 ≤ _; omega)
    · have hqi0 : ((q : Int) == 0) = false := by simp; omega
      have hqi1 : ((q : Int) == 1) = false := by simp; omega
      go_wp2_with fail
      go_ret
      exact ⟨⟨_, cap, ts, by rw [HL.out]; rfl, Nat.le_trans HZ.out HBA.out, ⟨cur, HGB4.out, HTK.out⟩, by rw [HL.out]; exact hn1, by rw [HL.out]; exact hnR, fun s hs => by have := (HTX.out s hs).1; omega, by rw [HL.out]; exact HNC.out⟩, HRD4.out.more (by omega), HW4.out⟩
theorem l91Some_any (g P R C : Nat) (w : World) (h : Rd w g P) (hP : P ≤ 80000) (hR1 : 1 ≤ R) (hR : R ≤ 6) (hC1 : 1 ≤ C) (hC : C ≤ 6) :
    Calls Try.prog 61 #[.pointer (some ⟨g, 0, none⟩), .int .i64 R, .int .i64 C] w fun e w' => (∃ gb c ts, e = .returned (.slice (some ⟨gb, 0, none⟩) ts.length c) ∧ w.heap.size ≤ gb ∧ Row9 w' gb ts ∧ 1 ≤ ts.length ∧ ts.length ≤ R ∧ ∀ s ∈ ts, 1 ≤ s.size ∧ s.size ≤ C + 1) ∧ Rd w' g (P + 205) ∧ w.grownBy w' (some g) :=
  (l91Some_cap g P R C w h hP hR1 hR hC1 hC).mono fun _ _ ⟨⟨gb, c, ts, h1, h2, h3, h4, h5, h6, _⟩, h7, h8⟩ => ⟨⟨gb, c, ts, h1, h2, h3, h4, h5, h6⟩, h7, h8⟩
end Go.Proofs.Ytonhnmpgikmlpaa

/- l91One, l91At: a grid that is drawn from a code; a cell's number that is drawn. -/
namespace Go.Proofs.Ytonhnmpgikmlpaa
open Go.RowKit Go.Shelf

/-- A code: bytes that read. -/
def CodeAt (w : World) (A : Option Addr) (len : Nat) : Prop := len = 0 ∨ ∃ b off, A = some ⟨b, off, none⟩ ∧ b < w.heap.size ∧ Bytes w b off len
/-- A drawn list of texts. -/
def Drawn (R C : Nat) (ts : List ByteArray) : Prop := 1 ≤ ts.length ∧ ts.length ≤ R ∧ ∀ s ∈ ts, 1 ≤ s.size ∧ s.size ≤ C + 1
theorem open_rd {w : World} {A : Option Addr} {len len' cap : Nat} (h : CodeAt w A len) (h1 : len' ≤ len) (h2 : len' ≤ 2000) : Rd (w.alloc (.cells #[.slice A len' cap, .int .i64 0] 124)) w.heap.size 0 := by
  refine ⟨A, len', cap, 0, Nat.le_refl _, h2, heap_new0 w _, ?_⟩
  rcases h with rfl | ⟨b, off, rfl, hb, hr⟩
  · exact .inl (by omega)
  · refine .inr ⟨b, off, rfl, hb, fun k hk => ?_⟩
    obtain ⟨v, v0, v1, hv⟩ := hr k (by omega)
    exact ⟨v, v0, v1, (((Below.refl _ w).alloc (Nat.le_refl _) _).cell (p := ⟨b, off + k, none⟩) hb).trans hv⟩

set_option maxRecDepth 100000 in
set_option maxHeartbeats 1000000 in
theorem l91One_any (A : Option Addr) (len cap : Nat) (w : World) (h : CodeAt w A len) (hl : len ≤ 1048576) (hc : len ≤ cap) (hc2 : cap ≤ 9223372036854775807) :
    Calls Try.prog 72 #[.slice A len cap] w fun e w' => (∃ A c ts, e = .returned (.slice A ts.length c) ∧ Strs w' w'.heap.size A ts ∧ Drawn 4 4 ts) ∧ Below w.heap.size w w' := by
  have HOP := hid (l6Open_any A len cap w (by omega) hc hc2)
  have HRD := hid (fun len' (h1 : len' ≤ len) (h2 : len' ≤ 2000) => open_rd (cap := cap) h h1 h2)
  have HSO := hid (fun W (hr : Rd W w.heap.size 0) => l91Some_any w.heap.size 0 4 4 W hr (by omega) (by omega) (by omega) (by omega) (by omega))
  clear h
  go_enter Try.func72, Try.ntmps72
  go_wp2_with fail
  refine HOP.out.mono ?_
  rintro e w1 ⟨rfl, len', h1, h2, _, rfl⟩
  have HS := hid (HSO.out _ (HRD.out len' h1 h2))
  go_wp2_with fail
  refine HS.out.mono ?_
  rintro e w2 ⟨⟨gb, c1, ts, rfl, _, hst, h3, h4, h5⟩, _, hgw⟩
  have HST := hid (hst.strs hst.lt)
  have HD := hid (show Drawn 4 4 ts from ⟨h3, h4, h5⟩)
  have HB := hid (((Below.refl _ w).alloc (Nat.le_refl _) (.cells #[.slice A len' cap, .int .i64 0] 124)).grown hgw (by simp) (fun k e => by cases e; exact Nat.le_refl _))
  clear hst h3 h4 h5 hgw
  go_wp2_with fail
  go_ret
  exact ⟨⟨_, c1, ts, rfl, HST.out, HD.out⟩, HB.out⟩

/-- The texts lie as they lay: another block has grown. -/
theorem Row9.kept {w w' : World} {g b : Nat} {ts : List ByteArray} (h : Row9 w b ts) (hg : w.grownBy w' (some g)) (hne : b ≠ g) : Row9 w' b ts := by
  obtain ⟨cs, h1, h2⟩ := h
  exact ⟨cs, (hg.block b (lt_of_block h1) (fun e => hne (Option.some.inj e))).trans h1, h2⟩

end Go.Proofs.Ytonhnmpgikmlpaa

/- The laws' codes opened: a slice of bytes that came in. -/
namespace Go.Proofs.Ytonhnmpgikmlpaa
open Go.ChangeShapes Go.WideShapes Go.ChangeAt Go.RowKit

/-- What a law is told of a slice of bytes. -/
def CameB (W : World) (v : Value) : Prop := ∃ (A : Option Addr) (len cap : Nat), v = .slice A len cap ∧ CodeAt W A len ∧ len ≤ cap ∧ cap ≤ 9223372036854775807

set_option maxRecDepth 100000 in
theorem cameB_of {H : Type} {enc : TypeId × Value → H} {W : World} {spare : Nat → Bool} {held : Bool} {v : Value} {d : DataW H} {p : List MemPlace} {base : Nat}
    (hv : Value.okWide Try.prog W .any base 22 v) (h : DataW.Trod enc Try.prog W 0 spare held 22 v d p) : CameB W v := by
  obtain ⟨a0, len0, cap0, rfl⟩ := okWide_slice Try.underlying22 hv
  obtain ⟨fuel, hf⟩ := h
  rcases open_ints Try.underlying22 Try.underlying5 (by kernel_rfl) hf with ⟨hcs, _⟩ | ⟨x, l, c, zs, hcs, _, hl, hm, hlen, _, hcell, hwf⟩
  · simp [Value.cells] at hcs
    obtain ⟨rfl, rfl, rfl⟩ := hcs
    exact ⟨none, 0, 0, rfl, .inl rfl, Nat.le_refl _, by omega⟩
  · simp [Value.cells] at hcs
    obtain ⟨rfl, rfl, rfl⟩ := hcs
    unfold maxLen at hm
    have hle : len0 ≤ zs.length := by
      rw [hlen]; split <;> omega
    refine ⟨some x, len0, cap0, rfl, ?_, hl, by omega⟩
    rcases Nat.eq_zero_or_pos len0 with h0 | h0
    · exact .inl h0
    obtain ⟨b, off, spot⟩ := x
    have hc0 := hcell 0 (by omega)
    have hspot : spot = none := by simpa [Addr.add] using World.cell?_spot hc0
    subst hspot
    refine .inr ⟨b, off, rfl, ?_, fun k hk => ?_⟩
    · have := block_lt_of_cell hc0
      simpa [Addr.add] using this
    · have hc := hcell k (by omega)
      have ha : (Addr.add ⟨b, off, none⟩ k : Addr) = ⟨b, off + k, none⟩ := by
        unfold Addr.add; split <;> simp_all
      rw [ha] at hc
      have hw := hwf (zs.getD k 0) (by
        rw [List.getD_eq_getElem?_getD, List.getElem?_eq_getElem (by omega)]
        exact List.getElem_mem _)
      have h1 := bounds_u8 hw
      exact ⟨_, h1.1, h1.2, hc⟩
theorem CodeAt.drewN {w : World} {A : Option Addr} {len : Nat} (h : CodeAt w A len) (n : Nat) : CodeAt (w.drewN n) A len := h
end Go.Proofs.Ytonhnmpgikmlpaa

/- sameInts on equal lists; total. -/
namespace Go.Proofs.Ytonhnmpgikmlpaa
open Go.RowKit Go.Shelf

set_option maxRecDepth 100000 in
set_option maxHeartbeats 1000000 in
theorem sameInts_same (A A' : Option Addr) (c c' B : Nat) (l : List Int) (w : World) (h : Ints w B A l) (h' : Ints w B A' l) (hn : l.length ≤ 1048576) :
    Calls Try.prog 41 #[.slice A l.length c, .slice A' l.length c'] w (TrueDrew w) := by
  have hne : ((l.length : Int) != (l.length : Int)) = false := by simp
  go_enter Try.func41, Try.ntmps41
  go_wp2
  go_loopw [5] (DrewRel l.length w) (fun i _ => l.length - (intOf i).toNat)
  case atStart => exact ⟨0, Nat.zero_le _, rfl, 0, rfl⟩
  case round =>
    obtain ⟨k, hk, rfl, d, rfl⟩ := hrel
    by_cases hlt : k < l.length
    · obtain ⟨b, off, x, rfl, hb, hks, hc⟩ := h.at_ hlt
      obtain ⟨b', off', x', rfl, hb', hks', hc'⟩ := h'.at_ hlt
      obtain rfl : x = x' := by rw [hks] at hks'; exact Option.some.inj hks'
      clear hks hks' h h'
      have hi : (k : Int) < (l.length : Int) := by omega
      have hi0 : (0 : Int) ≤ (k : Int) := by omega
      go_wp2_with fail
      go_quiet (fail)
      go_wp2
      go_roundw
      case rel => exact ⟨k + 1, by omega, by go_num, _, rfl⟩
      case measure => simp [intOf]; omega
    · obtain rfl : k = l.length := by omega
      go_wp2
      go_ret
      exact ⟨rfl, _, rfl⟩

theorem sum_take (l : List Int) {k : Nat} {x : Int} (h : l[k]? = some x) : (l.take (k + 1)).sum = (l.take k).sum + x := by
  obtain ⟨h1, h2⟩ := List.getElem?_eq_some_iff.1 h
  rw [List.take_succ_eq_append_getElem h1, List.sum_append, h2]
  simp
theorem sum_bound (l : List Int) (h : ∀ x ∈ l, -1000 ≤ x ∧ x ≤ 1000) : -(1000 * (l.length : Int)) ≤ l.sum ∧ l.sum ≤ 1000 * (l.length : Int) := by
  induction l with
  | nil => simp
  | cons y l ih =>
    have h1 := h y (by simp)
    have h2 := ih fun x hx => h x (by simp [hx])
    rw [List.sum_cons, List.length_cons]
    omega

end Go.Proofs.Ytonhnmpgikmlpaa
