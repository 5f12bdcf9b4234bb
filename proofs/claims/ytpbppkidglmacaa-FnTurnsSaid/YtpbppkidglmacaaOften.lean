/- How often a number stands in a list: l2Often of the specification, by its contract. -/
import Derived.Test.YtpbppkidglmacaaBunE
import Derived.Deep.QuietTactic
import Derived.BigQuiet
namespace Go.Proofs.Ytpbppkidglmacaa
open Go.RowKit Go.Shelf

def OftenRel (l : List Int) (x : Int) (w : World) (nv iv : Value) (wr : World) : Prop :=
  ∃ k : Nat, k ≤ l.length ∧ nv = .int .i64 (((l.take k).count x : Nat) : Int) ∧ iv = .int .i64 (k : Int) ∧ ∃ d, wr = w.drewN d
theorem count_snoc (l : List Int) (x y : Int) (k : Nat) (h : l[k]? = some y) : (l.take (k + 1)).count x = (l.take k).count x + (if y = x then 1 else 0) := by
  obtain ⟨hlt, rfl⟩ := List.getElem?_eq_some_iff.1 h
  rw [List.take_succ_eq_append_getElem hlt, List.count_append]
  simp [List.count_cons]

set_option maxRecDepth 100000 in
set_option maxHeartbeats 2000000 in
theorem l2Often_any (A : Option Addr) (c B : Nat) (l : List Int) (x : Int) (w : World) (h : Ints w B A l) (hn : l.length ≤ 1048576) :
    Calls Try.prog 62 #[.slice A l.length c, .int .i64 x] w fun e w' => e = .returned (.int .i64 ((l.count x : Nat) : Int)) ∧ ∃ d, w' = w.drewN d := by
  have HD := hid h
  clear h
  go_enter Try.func62, Try.ntmps62
  go_wp2_with fail
  go_loopw [5, 6] (OftenRel l x w) (fun _ i _ => l.length - (intOf i).toNat)
  case atStart => exact ⟨0, Nat.zero_le _, rfl, rfl, 0, rfl⟩
  case round =>
    obtain ⟨k, hk, rfl, rfl, d2, rfl⟩ := hrel
    have hcl : (l.take k).count x ≤ k := Nat.le_trans List.count_le_length (by simp; omega)
    by_cases hlt : k < l.length
    · obtain ⟨b, off, y, rfl, hb, hx, hcx⟩ := HD.out.at_ hlt
      have hcd : (w.drewN d2).cell? ⟨b, off + k, none⟩ = some (.int .i64 y) := hcx
      have hsn := count_snoc l x y k hx
      generalize (l.take k).count x = tk at *
      have HSN := hid hsn
      clear hsn hx hcx
      by_cases hxy : y = x
      · have HSX := hid (show (l.take (k + 1)).count x = tk + 1 by rw [HSN.out, if_pos hxy])
        subst hxy
        go_wp2_with fail
        go_roundw
        case rel => exact ⟨k + 1, by omega, by rw [HSX.out]; go_num, by go_num, _, rfl⟩
        case measure => simp [intOf]; omega
      · have HSX := hid (show (l.take (k + 1)).count x = tk by rw [HSN.out, if_neg hxy, Nat.add_zero])
        go_wp2_with fail
        go_roundw
        case rel => exact ⟨k + 1, by omega, by rw [HSX.out], by go_num, _, rfl⟩
        case measure => simp [intOf]; omega
    · obtain rfl : k = l.length := by omega
      rw [List.take_length] at hcl ⊢
      clear hcl hlt hk
      go_wp2_with fail
      go_ret
      exact ⟨rfl, _, rfl⟩

end Go.Proofs.Ytpbppkidglmacaa
