/- The drawings' reader: pick, by a loose contract: a number from 0 to n - 1. -/
import Derived.Test.YtkkifpjeafchnaaBunD
import Derived.Test.YtkkifpjeafchnaaBunA
namespace Go.Proofs.Ytkkifpjeafchnaa
open Go.RowKit

theorem i64_xor_small (a b : Nat) (ha : a < 2 ^ 62) (hb : b < 2 ^ 62) : bits .xor .i64 (a : Int) (b : Int) = ((a ^^^ b : Nat) : Int) := by
  have hx : a ^^^ b < 2 ^ 62 := Nat.xor_lt_two_pow ha hb
  have h1 : (BitVec.ofInt 64 (a : Int)).toNat = a := by
    rw [BitVec.ofInt_natCast, BitVec.toNat_ofNat]; exact Nat.mod_eq_of_lt (by omega)
  have h2 : (BitVec.ofInt 64 (b : Int)).toNat = b := by
    rw [BitVec.ofInt_natCast, BitVec.toNat_ofNat]; exact Nat.mod_eq_of_lt (by omega)
  show IntKind.i64.wrap ((BitVec.ofInt 64 (a : Int) ^^^ BitVec.ofInt 64 (b : Int)).toNat : Int) = _
  rw [BitVec.toNat_xor, h1, h2, IntKind.wrap_i64]
  omega
/-- A slice of bytes that reads. -/
def Bytes (w : World) (b off len : Nat) : Prop := ∀ k, k < len → ∃ v : Int, 0 ≤ v ∧ v ≤ 255 ∧ w.cell? ⟨b, off + k, none⟩ = some (.int .u8 v)

set_option maxRecDepth 100000 in
set_option maxHeartbeats 2000000 in
theorem pick_any (g b off len cap p n : Nat) (w : World) (hg : w.heap[g]? = some (.cells #[.slice (some ⟨b, off, none⟩) len cap, .int .i64 p] 115 (0, 0))) (hb : Bytes w b off len) (hbg : b ≠ g) (hl : 1 ≤ len) (hl2 : len ≤ 2000) (hp : p ≤ 100000) (hn : 1 ≤ n) (hn2 : n ≤ 1000) :
    Calls Try.prog 71 #[.pointer (some ⟨g, 0, none⟩), .int .i64 n] w fun e w' => (∃ v : Nat, v < n ∧ e = .returned (.int .i64 v)) ∧ ∃ d, w' = (w.setCell ⟨g, 1, none⟩ (.int .i64 ((p : Int) + 1))).drewN d := by
  have c0 : w.cell? ⟨g, 0, none⟩ = some (.slice (some ⟨b, off, none⟩) len cap) := by rw [cell_of_row _ _ _ _ _ _ hg]; rfl
  have c1 : w.cell? ⟨g, 1, none⟩ = some (.int .i64 p) := by rw [cell_of_row _ _ _ _ _ _ hg]; rfl
  have f1 : w.frozen? ⟨g, 1, none⟩ = false := frozen_of_row _ _ _ _ _ hg
  have hbs : Bytes (w.setCell ⟨g, 1, none⟩ (.int .i64 ((p : Int) + 1))) b off len := fun k hk => by
    obtain ⟨v, v0, v1, hv⟩ := hb k hk
    refine ⟨v, v0, v1, ?_⟩
    simp only [World.cell?] at hv ⊢
    rw [Below.heap_setCell _ _ _ _ hbg]; exact hv
  have HBS := hid hbs
  have hnl : decide ((n : Int) < 1) = false := by simp; omega
  have hnz : ((n : Int) == 0) = false := by simp; omega
  have hlz : ((len : Int) == 0) = false := by simp; omega
  clear hg hb hbs
  go_enter Try.func71, Try.ntmps71
  by_cases hlt : p < len
  · obtain ⟨v, v0, v1, hv⟩ := HBS.out p hlt
    have hpl : (p : Int) < (len : Int) := by omega
    obtain ⟨rv, hrv⟩ : ∃ rv : Nat, v % (n : Int) = (rv : Int) := ⟨(v % (n : Int)).toNat, by have := Int.emod_nonneg v (show (n : Int) ≠ 0 by omega); omega⟩
    have hrn : rv < n := by have := Int.emod_lt_of_pos v (show (0 : Int) < n by omega); omega
    have HRN := hid hrn
    clear hrn
    go_wp2
    go_ret
    exact ⟨⟨rv, HRN.out, by rw [← hrv]; rfl⟩, 0, rfl⟩
  · have hnlt : ¬ (p : Int) < (len : Int) := by omega
    have hlp : (0 : Int) < (len : Int) := by omega
    obtain ⟨i1, hi1⟩ : ∃ i1, p % len = i1 := ⟨_, rfl⟩
    have hi1l : i1 < len := by rw [← hi1]; exact Nat.mod_lt _ (by omega)
    obtain ⟨i2, hi2⟩ : ∃ i2, (p * 7 + 3) % len = i2 := ⟨_, rfl⟩
    have hi2l : i2 < len := by rw [← hi2]; exact Nat.mod_lt _ (by omega)
    obtain ⟨qq, hqq⟩ : ∃ qq, p / len = qq := ⟨_, rfl⟩
    have hq1 : qq ≤ p := by rw [← hqq]; exact Nat.div_le_self _ _
    have hm1 : (p : Int) % (len : Int) = (i1 : Int) := by rw [← hi1]; rfl
    have hm2 : ((p : Int) * 7 + 3) % (len : Int) = (i2 : Int) := by rw [← hi2]; rfl
    have hd1 : (p : Int) / (len : Int) = (qq : Int) := by rw [← hqq]; rfl
    obtain ⟨v, v0, v1, hv⟩ := HBS.out i1 hi1l
    obtain ⟨u, u0, u1, hu⟩ := HBS.out i2 hi2l
    clear hi1 hi2 hqq
    go_wp2_with fail
    go_quiet (fail)
    obtain ⟨X, hX⟩ : ∃ X : Nat, v * 131 + u * 1117 + (p : Int) * 29 + (qq : Int) * 53 = (X : Int) := ⟨(v * 131 + u * 1117 + (p : Int) * 29 + (qq : Int) * 53).toNat, by omega⟩
    have hXb : (X : Int) ≤ 100000000 := by omega
    have hX0 : (0 : Int) ≤ (X : Int) := Int.natCast_nonneg _
    try rw [hX]
    clear hX
    obtain ⟨Y, hY⟩ : ∃ Y : Nat, bits .xor .i64 (X : Int) ((X : Int) / 64) = (Y : Int) := ⟨X ^^^ (X / 64), by
      rw [show ((X : Int) / 64) = ((X / 64 : Nat) : Int) by omega]
      exact i64_xor_small _ _ (by omega) (by omega)⟩
    have hYn : Y % n < n := Nat.mod_lt _ (by omega)
    have HY := hid hY
    have HYN := hid hYn
    clear hY hYn
    go_wp2
    go_ret
    refine ⟨⟨Y % n, HYN.out, ?_⟩, _, rfl⟩
    have e : ((Y : Int)).tmod (n : Int) = ((Y % n : Nat) : Int) := by rw [Int.tmod_eq_emod_of_nonneg (Int.natCast_nonneg _)]; rfl
    rw [← e, ← HY.out]; rfl

end Go.Proofs.Ytkkifpjeafchnaa
