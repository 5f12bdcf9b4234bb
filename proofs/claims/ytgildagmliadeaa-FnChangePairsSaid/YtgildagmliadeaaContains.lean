/- slices.Index and slices.Contains at []int, by their contracts. -/
import Derived.Test.YtgildagmliadeaaBunE
namespace Go.Proofs.Ytgildagmliadeaa
open Go.RowKit Go.Shelf

set_option maxRecDepth 100000 in
set_option maxHeartbeats 2000000 in
theorem index_any (A : Option Addr) (c B : Nat) (l : List Int) (x : Int) (w : World) (h : Ints w B A l) (hn : l.length ≤ 1000) :
    Calls Try.prog 187 #[.slice A l.length c, .int .i64 x] w fun e w' => ∃ r : Int, e = .returned (.int .i64 r) ∧ (0 ≤ r ↔ x ∈ l) ∧ ∃ d, w' = w.drewN d := by
  have HD := hid h
  clear h
  go_enter Try.func187, Try.ntmps187
  go_wp2_with fail
  go_loopw [8] (fun (iv : Value) (wr : World) => ∃ k : Nat, k ≤ l.length ∧ iv = .int .i64 k ∧ Hid (∀ j, j < k → l[j]? ≠ some x) ∧ ∃ d, wr = w.drewN d) (fun i _ => l.length - (intOf i).toNat)
  case atStart => exact ⟨0, by omega, rfl, hid (fun j hj => absurd hj (by omega)), 0, rfl⟩
  case round =>
    obtain ⟨k, hk, rfl, hno, d, rfl⟩ := hrel
    have HNO := hno
    clear hno
    by_cases hlt : k < l.length
    · obtain ⟨b, off, y, rfl, hb, hx, hcx⟩ := HD.out.at_ hlt
      have hcd : (w.drewN d).cell? ⟨b, off + k, none⟩ = some (.int .i64 y) := hcx
      have HX := hid hx
      clear hx hcx hb
      by_cases hxy : x = y
      · have hxb : (x == y) = true := by simpa using hxy
        have HM := hid (show x ∈ l by rw [hxy]; exact List.mem_of_getElem? HX.out)
        go_wp2_with fail
        go_ret
        exact ⟨_, rfl, ⟨fun _ => HM.out, fun _ => Int.natCast_nonneg _⟩, d, rfl⟩
      · have hxb : (x == y) = false := by simpa using hxy
        have HNE := hid hxy
        clear hxy
        go_wp2_with fail
        go_roundw
        case rel => exact ⟨k + 1, by omega, by go_num, hid (fun j hj => by
          by_cases hjk : j = k
          · rw [hjk, HX.out]
            intro e
            exact HNE.out (Option.some.inj e).symm
          · exact HNO.out j (by omega)), d, rfl⟩
        case measure => simp [intOf]; omega
    · obtain rfl : k = l.length := by omega
      have HM := hid (show ¬ x ∈ l from fun hm => by
        obtain ⟨j, hj⟩ := List.getElem?_of_mem hm
        exact HNO.out j (List.getElem?_eq_some_iff.1 hj).1 hj)
      go_wp2_with fail
      go_ret
      exact ⟨-1, rfl, ⟨fun h => absurd h (by decide), fun h => absurd h HM.out⟩, d, rfl⟩

end Go.Proofs.Ytgildagmliadeaa
