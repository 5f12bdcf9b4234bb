/- sameInts on equal lists; total. -/
import Derived.Test.YtmdgbcepjnfbnaaBunF
namespace Go.Proofs.Ytmdgbcepjnfbnaa
open Go.RowKit Go.Shelf

set_option maxRecDepth 100000 in
set_option maxHeartbeats 1000000 in
theorem sameInts_same (A A' : Option Addr) (c c' B : Nat) (l : List Int) (w : World) (h : Ints w B A l) (h' : Ints w B A' l) (hn : l.length ≤ 1048576) :
    Calls Try.prog 24 #[.slice A l.length c, .slice A' l.length c'] w (TrueDrew w) := by
  have hne : ((l.length : Int) != (l.length : Int)) = false := by simp
  go_enter Try.func24, Try.ntmps24
  go_wp2
  go_loopw [5] (DrewRel l.length w) (fun i _ => l.length - (intOf i).toNat)
  case atStart => exact ⟨0, Nat.zero_le _, rfl, 0, rfl⟩
  case round =>
    obtain ⟨k, hk, rfl, d, rfl⟩ := hrel
    by_cases hlt : k < l.length
    · obtain ⟨b, off, x, rfl, hb, hks, hc⟩ := h.at_ hlt
      obtain ⟨b', off', x', rfl, hb', hks', hc'⟩ := h'.at_ hlt
      obtain rfl : x = x' := by rw [hks] at hks'; exact Option.some.inj hks'
      clear hks hks' h h'
      have hi : (k : Int) < (l.length : Int) := by omega
      have hi0 : (0 : Int) ≤ (k : Int) := by omega
      go_wp2_with fail
      go_quiet (fail)
      go_wp2
      go_roundw
      case rel => exact ⟨k + 1, by omega, by go_num, _, rfl⟩
      case measure => simp [intOf]; omega
    · obtain rfl : k = l.length := by omega
      go_wp2
      go_ret
      exact ⟨rfl, _, rfl⟩

theorem sum_take (l : List Int) {k : Nat} {x : Int} (h : l[k]? = some x) : (l.take (k + 1)).sum = (l.take k).sum + x := by
  obtain ⟨h1, h2⟩ := List.getElem?_eq_some_iff.1 h
  rw [List.take_succ_eq_append_getElem h1, List.sum_append, h2]
  simp
theorem sum_bound (l : List Int) (h : ∀ x ∈ l, -1000 ≤ x ∧ x ≤ 1000) : -(1000 * (l.length : Int)) ≤ l.sum ∧ l.sum ≤ 1000 * (l.length : Int) := by
  induction l with
  | nil => simp
  | cons y l ih =>
    have h1 := h y (by simp)
    have h2 := ih fun x hx => h x (by simp [hx])
    rw [List.sum_cons, List.length_cons]
    omega

set_option maxRecDepth 100000 in
set_option maxHeartbeats 1000000 in
theorem total_any (A : Option Addr) (c B : Nat) (l : List Int) (w : World) (h : Ints w B A l) (hn : l.length ≤ 1000) (hb : ∀ x ∈ l, -1000 ≤ x ∧ x ≤ 1000) :
    Calls Try.prog 29 #[.slice A l.length c] w fun e w' => e = .returned (.int .i64 l.sum) ∧ ∃ d, w' = w.drewN d := by
  have HB := hid (show ∀ k, k ≤ l.length → -1000000 ≤ (l.take k).sum ∧ (l.take k).sum ≤ 1000000 from fun k hk => by
    have h1 := sum_bound (l.take k) fun x hx => hb x (List.mem_of_mem_take hx)
    rw [List.length_take] at h1
    omega)
  have HX := hid hb
  clear hb
  go_enter Try.func29, Try.ntmps29
  go_wp2
  go_loopw [3, 4] (fun (v iv : Value) (wr : World) => ∃ k : Nat, k ≤ l.length ∧ iv = .int .i64 k ∧ v = .int .i64 (l.take k).sum ∧ ∃ d, wr = w.drewN d) (fun _ i _ => l.length - (intOf i).toNat)
  case atStart => exact ⟨0, Nat.zero_le _, rfl, by simp, 0, rfl⟩
  case round =>
    obtain ⟨k, hk, rfl, rfl, d, rfl⟩ := hrel
    by_cases hlt : k < l.length
    · obtain ⟨b, off, x, rfl, hb, hks, hc⟩ := h.at_ hlt
      have HS := hid (sum_take l hks)
      have hxb := HX.out x (List.mem_of_getElem? hks)
      have hsb := HB.out k hk
      obtain ⟨sm, hsm⟩ : ∃ sm, (l.take k).sum = sm := ⟨_, rfl⟩
      rw [hsm] at hsb ⊢
      have HSM := hid hsm
      obtain ⟨hx0, hx1⟩ := hxb
      obtain ⟨hs0, hs1⟩ := hsb
      clear hks h hsm
      have hi : (k : Int) < (l.length : Int) := by omega
      have hi0 : (0 : Int) ≤ (k : Int) := by omega
      go_wp2_with fail
      go_roundw
      case rel => exact ⟨k + 1, by omega, by go_num, by rw [HS.out, HSM.out], _, rfl⟩
      case measure => simp [intOf]; omega
    · obtain rfl : k = l.length := by omega
      have hall : l.take l.length = l := List.take_length
      rw [hall]
      go_wp2
      go_ret
      exact ⟨rfl, _, rfl⟩
end Go.Proofs.Ytmdgbcepjnfbnaa
