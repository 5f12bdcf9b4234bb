/- Pairings that are turned: in plain words, and of the program, by their contracts. -/
import Derived.Test.YtkkifpjeafchnaaPairS
namespace Go.Proofs.Ytkkifpjeafchnaa
open Go.RowKit Go.Shelf

theorem turn_inv {n k j : Nat} (hj : j < n) : ((j + (n - k % n)) % n + k) % n = j := by
  have hn : 0 < n := by omega
  have hr : k % n < n := Nat.mod_lt _ hn
  have hk : n * (k / n) + k % n = k := Nat.div_add_mod k n
  rw [Nat.mod_add_mod, show j + (n - k % n) + k = j + n * (k / n + 1) by rw [Nat.mul_add, Nat.mul_one]; omega, Nat.add_mul_mod_self_left, Nat.mod_eq_of_lt hj]
theorem turn_back {n k q : Nat} (hq : q < n) : ((q + k) % n + (n - k % n)) % n = q := by
  have hn : 0 < n := by omega
  have hr : k % n < n := Nat.mod_lt _ hn
  have hk : n * (k / n) + k % n = k := Nat.div_add_mod k n
  rw [Nat.mod_add_mod, show q + k + (n - k % n) = q + n * (k / n + 1) by rw [Nat.mul_add, Nat.mul_one]; omega, Nat.add_mul_mod_self_left, Nat.mod_eq_of_lt hq]
theorem turn_inj {n k q q' : Nat} (hq : q < n) (hq' : q' < n) (h : (q + k) % n = (q' + k) % n) : q = q' := by
  rw [← turn_back (k := k) hq, h, turn_back hq']
/-- The partner, turned. -/
def turnV (l : List Int) (k q : Nat) : Int := (((mateN l q + k) % l.length : Nat) : Int)
/-- The pairing of the same pairs for ports with numbers k greater. -/
def turnL (l : List Int) (k : Nat) : List Int := (List.range l.length).map fun j => turnV l k ((j + (l.length - k % l.length)) % l.length)
theorem turnL_length (l : List Int) (k : Nat) : (turnL l k).length = l.length := by simp [turnL]
theorem turnL_at {l : List Int} {k q : Nat} (hq : q < l.length) : (turnL l k)[(q + k) % l.length]? = some (turnV l k q) := by
  unfold turnL
  rw [List.getElem?_map, List.getElem?_range (Nat.mod_lt _ (by omega)), Option.map_some, turn_back hq]
/-- A list that has all partners turned is it. -/
theorem turn_all {l L : List Int} {k : Nat} (hL : L.length = l.length) (h : ∀ q, q < l.length → L[(q + k) % l.length]? = some (turnV l k q)) : L = turnL l k := by
  refine List.ext_getElem? fun j => ?_
  by_cases hj : j < l.length
  · have hq : (j + (l.length - k % l.length)) % l.length < l.length := Nat.mod_lt _ (by omega)
    have h1 := h _ hq
    have h2 := turnL_at (k := k) hq
    rw [turn_inv hj] at h1 h2
    rw [h1, h2]
  · rw [List.getElem?_eq_none (by omega), List.getElem?_eq_none (by rw [turnL_length]; omega)]
theorem turn_pad {l L : List Int} {k : Nat} (h20 : l.length ≤ 20) (hL : L.length = 20) (h : ∀ q, q < l.length → L[(q + k) % l.length]? = some (turnV l k q)) (hb : ∀ j, l.length ≤ j → j < 20 → L[j]? = some (j : Int)) : L = padTo (turnL l k) := by
  refine List.ext_getElem? fun j => ?_
  by_cases hj : j < l.length
  · have hq : (j + (l.length - k % l.length)) % l.length < l.length := Nat.mod_lt _ (by omega)
    have h1 := h _ hq
    have h2 := turnL_at (k := k) hq
    rw [turn_inv hj] at h1 h2
    rw [h1, padTo_at h2]
  · by_cases hj2 : j < 20
    · rw [hb j (by omega) hj2, padTo_behind (by rw [turnL_length]; omega) hj2]
    · rw [List.getElem?_eq_none (by omega), List.getElem?_eq_none (by rw [padTo_length (by rw [turnL_length]; exact h20)]; omega)]
theorem turn_ports {l : List Int} {k : Nat} (h : IsPair l) : portsN (padTo (turnL l k)) = l.length := by
  have e := portsN_pad (l := turnL l k) (by rw [turnL_length]; exact h.2.1) fun p hp => by
    rw [turnL_length] at hp
    have hq : (p + (l.length - k % l.length)) % l.length < l.length := Nat.mod_lt _ (by omega)
    have h2 := turnL_at (k := k) hq
    rw [turn_inv hp] at h2
    rw [h2]
    intro e
    have e2 := Option.some.inj e
    unfold turnV at e2
    have e3 : (mateN l ((p + (l.length - k % l.length)) % l.length) + k) % l.length = p := by omega
    have hm := h.mates hq
    refine hm.2.1 (turn_inj (k := k) hm.1 hq ?_)
    exact e3.trans (turn_inv hp).symm
  rw [e, turnL_length]

end Go.Proofs.Ytkkifpjeafchnaa
