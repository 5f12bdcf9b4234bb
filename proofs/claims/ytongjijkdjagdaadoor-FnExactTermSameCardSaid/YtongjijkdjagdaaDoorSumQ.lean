/- Sums over the first numbers. No program is named. -/
import Derived.Test.YtongjijkdjagdaaDoorBunB
namespace Go.Proofs.YtongjijkdjagdaaDoor

theorem sumN_head (F : Nat → Nat) : ∀ N, sumN F (N + 1) = F 0 + sumN (fun q => F (q + 1)) N
  | 0 => by simp [sumN]
  | N + 1 => by rw [sumN, sumN_head F N, sumN]; omega
theorem sumN_rev : ∀ (N : Nat) (F : Nat → Nat), sumN (fun q => F (N - 1 - q)) N = sumN F N
  | 0, _ => rfl
  | N + 1, F => by
    rw [sumN_head, sumN, show N + 1 - 1 - 0 = N by omega, Nat.add_comm]
    congr 1
    rw [← sumN_rev N F]
    exact sumN_congr N fun q hq => by rw [show N + 1 - 1 - (q + 1) = N - 1 - q by omega]
theorem sumN_swap2 (F : Nat → Nat → Nat) (M : Nat) : ∀ N, sumN (fun p => sumN (fun q => F p q) M) N = sumN (fun q => sumN (fun p => F p q) N) M
  | 0 => by
    show 0 = _
    induction M with
    | zero => rfl
    | succ M ih => rw [sumN, ← ih]; rfl
  | N + 1 => by
    rw [sumN, sumN_swap2 F M N, ← sumN_add]
    rfl
theorem countP_range (p : Nat → Bool) : ∀ N, (List.range N).countP p = sumN (fun q => if p q = true then 1 else 0) N
  | 0 => rfl
  | N + 1 => by rw [List.range_succ, List.countP_append, countP_range p N, sumN]; simp [List.countP_cons]
theorem sumN_le {F G : Nat → Nat} : ∀ N, (∀ c, c < N → F c ≤ G c) → sumN F N ≤ sumN G N
  | 0, _ => Nat.le_refl _
  | N + 1, h => by
    have h1 := sumN_le N (fun c hc => h c (by omega))
    have h2 := h N (by omega)
    rw [sumN, sumN]; omega
theorem sumN_const (a : Nat) : ∀ N, sumN (fun _ => a) N = a * N
  | 0 => rfl
  | N + 1 => by rw [sumN, sumN_const a N, Nat.mul_succ]
theorem sumN_mul (a : Nat) (F : Nat → Nat) : ∀ N, sumN (fun c => a * F c) N = a * sumN F N
  | 0 => rfl
  | N + 1 => by rw [sumN, sumN, sumN_mul a F N, Nat.mul_add]
/-- A sum over all, by an involution. -/
theorem sumN_invol {N : Nat} {s : Nat → Nat} (hlt : ∀ q, q < N → s q < N) (hb : ∀ q, q < N → s (s q) = q) (F : Nat → Nat) : sumN (fun p => F (s p)) N = sumN F N := by
  have e : sumN (fun p => F (s p)) N = ((List.range N).map fun p => F (s p)).sum := by
    clear hlt hb
    induction N with
    | zero => rfl
    | succ N ih => rw [sumN, ih, List.range_succ, List.map_append, List.sum_append]; simp
  have e2 : sumN (fun c => ((List.range N).map s).count c * F c) N = (((List.range N).map s).map F).sum := (sum_swap F N _ (fun x hx => by
    obtain ⟨p, hp, rfl⟩ := List.mem_map.1 hx
    exact hlt p (List.mem_range.1 hp))).symm
  have e3 : ((List.range N).map fun p => F (s p)) = ((List.range N).map s).map F := by rw [List.map_map]; rfl
  rw [e, e3, ← e2]
  refine sumN_congr N fun c hc => ?_
  have h1 : ((List.range N).map s).count c = 1 := by
    rw [List.count, List.countP_map]
    have h2 : (List.range N).countP ((fun x => x == c) ∘ s) = (List.range N).countP fun p => p == s c := by
      refine List.countP_congr fun p hp => ?_
      have hp := List.mem_range.1 hp
      simp only [Function.comp, beq_iff_eq]
      constructor
      · intro h2; rw [← h2, hb p hp]
      · intro h2; rw [h2, hb c hc]
    rw [h2]
    show (List.range N).count (s c) = 1
    rw [List.nodup_range.count, if_pos (List.mem_range.2 (hlt c hc))]
  rw [h1, Nat.one_mul]
end Go.Proofs.YtongjijkdjagdaaDoor
