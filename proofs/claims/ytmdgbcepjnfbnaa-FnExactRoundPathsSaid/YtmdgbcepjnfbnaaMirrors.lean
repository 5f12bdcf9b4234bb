/- The number of mirrors, and whether all cells are full, by their contracts. -/
import Derived.Test.YtmdgbcepjnfbnaaIter
namespace Go.Proofs.Ytmdgbcepjnfbnaa
open Go.RowKit Go.Shelf
attribute [local go_sem] Oper.semAt_some

/-- The mirrors among the cells that have come. -/
def mirr {N : Nat} (ls : List UInt8) (pre : List (Fin N)) : Nat := pre.countP fun x => ls.getD x.val 0 != 46
theorem mirr_snoc {N : Nat} (ls : List UInt8) (pre : List (Fin N)) (x : Fin N) : mirr ls (pre ++ [x]) = mirr ls pre + (if (ls.getD x.val 0 != 46) = true then 1 else 0) := by
  simp [mirr, List.countP_append, List.countP_cons]
theorem mirr_le {N : Nat} (ls : List UInt8) (pre : List (Fin N)) : mirr ls pre ≤ pre.length := List.countP_le_length
theorem byte_bne (b : UInt8) : ((b.toNat : Int) != 46) = (b != 46) := by
  by_cases h : b = 46
  · subst h; rfl
  · have h' : b.toNat ≠ 46 := fun e => h (UInt8.toNat_inj.1 e)
    rw [bne_iff_ne.2 h, bne_iff_ne]; omega

theorem byte_beq46 (b : UInt8) : ((b.toNat : Int) == 46) = (b == 46) := by
  by_cases h : b = 46
  · subst h; rfl
  · have h' : b.toNat ≠ 46 := fun e => h (UInt8.toNat_inj.1 e)
    rw [beq_eq_false_iff_ne.2 h, beq_eq_false_iff_ne]; omega
theorem mirr_upto_lt {N k : Nat} (ls : List UInt8) (hk : k ≤ N) (h : mirr ls (upto N k) < (upto N k).length) : mirr ls (List.finRange N) < N := by
  have e : List.finRange N = upto N k ++ (List.finRange N).drop k := (List.take_append_drop k _).symm
  have h1 : mirr ls (List.finRange N) = mirr ls (upto N k) + mirr ls ((List.finRange N).drop k) := by
    unfold mirr
    conv => lhs; rw [e]
    rw [List.countP_append]
  have h2 := mirr_le ls ((List.finRange N).drop k)
  rw [upto_length hk] at h
  simp only [List.length_drop, List.length_finRange] at h2
  omega

end Go.Proofs.Ytmdgbcepjnfbnaa
