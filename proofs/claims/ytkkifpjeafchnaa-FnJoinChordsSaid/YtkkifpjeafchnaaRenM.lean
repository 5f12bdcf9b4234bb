/- Pairings whose ports get other numbers, in plain words; ports made partners pair by pair. No function of the program is named. -/
import Derived.Test.YtkkifpjeafchnaaJoinedM
import Derived.Test.YtkkifpjeafchnaaTurnP
namespace Go.Proofs.Ytkkifpjeafchnaa

/-- Partners s for N ports. -/
structure Mates (N : Nat) (s : Nat → Nat) : Prop where
  lt : ∀ q, q < N → s q < N
  ne : ∀ q, q < N → s q ≠ q
  back : ∀ q, q < N → s (s q) = q
theorem IsPair.mates_of {l : List Int} (h : IsPair l) : Mates l.length (mateN l) := ⟨fun _ hq => (h.mates hq).1, fun _ hq => (h.mates hq).2.1, fun _ hq => (h.mates hq).2.2.2⟩
/-- The list that tells partners. -/
def listS (N : Nat) (s : Nat → Nat) : List Int := (List.range N).map fun q => ((s q : Nat) : Int)
theorem listS_length (N : Nat) (s : Nat → Nat) : (listS N s).length = N := by simp [listS]
theorem listS_at {N q : Nat} {s : Nat → Nat} (h : q < N) : (listS N s)[q]? = some ((s q : Nat) : Int) := by simp [listS, h]
theorem listS_pair {N : Nat} {s : Nat → Nat} (h : Mates N s) (h4 : 4 ≤ N) (h20 : N ≤ 20) : IsPair (listS N s) := by
  refine ⟨by rw [listS_length]; exact h4, by rw [listS_length]; exact h20, fun p hp => ?_⟩
  rw [listS_length] at hp ⊢
  refine ⟨s p, h.lt p hp, h.ne p hp, listS_at hp, ?_⟩
  rw [listS_at (h.lt p hp), h.back p hp]
theorem listS_mate {N q : Nat} {s : Nat → Nat} (h : q < N) : mateN (listS N s) q = s q := by
  unfold mateN
  rw [List.getD_eq_getElem?_getD, listS_at h]
  rfl
theorem pair_list {l : List Int} (h : IsPair l) : listS l.length (mateN l) = l := by
  refine List.ext_getElem? fun k => ?_
  by_cases hk : k < l.length
  · rw [listS_at hk, (h.mates hk).2.2.1]
  · rw [List.getElem?_eq_none (by rw [listS_length]; omega), List.getElem?_eq_none (by omega)]
theorem listS_all {N : Nat} {s : Nat → Nat} {L : List Int} (hL : L.length = N) (h : ∀ q, q < N → L[q]? = some ((s q : Nat) : Int)) : L = listS N s := by
  refine List.ext_getElem? fun k => ?_
  by_cases hk : k < N
  · rw [listS_at hk, h k hk]
  · rw [List.getElem?_eq_none (by omega), List.getElem?_eq_none (by rw [listS_length]; omega)]
theorem listS_pad {N : Nat} {s : Nat → Nat} {L : List Int} (h20 : N ≤ 20) (hL : L.length = 20) (h : ∀ q, q < N → L[q]? = some ((s q : Nat) : Int)) (hb : ∀ j, N ≤ j → j < 20 → L[j]? = some (j : Int)) : L = padTo (listS N s) := by
  refine List.ext_getElem? fun k => ?_
  by_cases hk : k < N
  · rw [h k hk, padTo_at (listS_at hk)]
  · by_cases hk2 : k < 20
    · rw [hb k (by omega) hk2, padTo_behind (by rw [listS_length]; omega) hk2]
    · rw [List.getElem?_eq_none (by omega), List.getElem?_eq_none (by rw [padTo_length (by rw [listS_length]; exact h20)]; omega)]
/-- Other numbers: f, and g back. -/
structure Names (N : Nat) (f g : Nat → Nat) : Prop where
  flt : ∀ q, q < N → f q < N
  glt : ∀ q, q < N → g q < N
  fg : ∀ q, q < N → f (g q) = q
  gf : ∀ q, q < N → g (f q) = q
/-- Partners by other numbers. -/
def renS (f g s : Nat → Nat) (j : Nat) : Nat := f (s (g j))
theorem renS_mates {N : Nat} {f g s : Nat → Nat} (h : Names N f g) (hs : Mates N s) : Mates N (renS f g s) where
  lt q hq := h.flt _ (hs.lt _ (h.glt _ hq))
  ne q hq e := by
    unfold renS at e
    have e2 := congrArg g e
    rw [h.gf _ (hs.lt _ (h.glt _ hq))] at e2
    exact hs.ne _ (h.glt _ hq) e2
  back q hq := by
    unfold renS
    rw [h.gf _ (hs.lt _ (h.glt _ hq)), hs.back _ (h.glt _ hq), h.fg _ hq]
theorem renS_at {N : Nat} {f g s : Nat → Nat} (h : Names N f g) {q : Nat} (hq : q < N) : renS f g s (f q) = f (s q) := by
  unfold renS
  rw [h.gf _ hq]

/-- So far the ports in V, by their other numbers, have their partners, and these them. -/
def PairsUp (L : List Int) (N : Nat) (V : Nat → Prop) (f s : Nat → Nat) : Prop :=
  L.length = 20 ∧ (∀ q, q < N → V q → L[f q]? = some ((f (s q) : Nat) : Int) ∧ L[f (s q)]? = some ((f q : Nat) : Int)) ∧ ∀ j, N ≤ j → j < 20 → L[j]? = some (j : Int)
theorem pairs_none {N : Nat} {f s : Nat → Nat} {V : Nat → Prop} (hV : ∀ q, ¬ V q) : PairsUp idL N V f s := ⟨idL_length, fun q _ h => absurd h (hV q), fun _ _ hj => idL_at hj⟩
theorem pairs_step {L : List Int} {N q0 : Nat} {V V' : Nat → Prop} {f g s : Nat → Nat} (hN : N ≤ 20) (hn : Names N f g) (hs : Mates N s) (h : PairsUp L N V f s) (hq0 : q0 < N) (hV : ∀ q, V' q → V q ∨ q = q0) :
    PairsUp ((L.set (f q0) ((f (s q0) : Nat) : Int)).set (f (s q0)) ((f q0 : Nat) : Int)) N V' f s := by
  obtain ⟨h1, h2, h3⟩ := h
  have hi : ∀ a b, a < N → b < N → f a = f b → a = b := fun a b ha hb e => by rw [← hn.gf a ha, e, hn.gf b hb]
  have hf0 := hn.flt _ hq0
  have hs0 := hs.lt _ hq0
  have hfs0 := hn.flt _ hs0
  have hne : f (s q0) ≠ f q0 := fun e => hs.ne _ hq0 (hi _ _ hs0 hq0 e)
  have at0 : ((L.set (f q0) ((f (s q0) : Nat) : Int)).set (f (s q0)) ((f q0 : Nat) : Int))[f q0]? = some ((f (s q0) : Nat) : Int) := by
    rw [List.getElem?_set_ne hne, List.getElem?_set_self (by omega)]
  have at1 : ((L.set (f q0) ((f (s q0) : Nat) : Int)).set (f (s q0)) ((f q0 : Nat) : Int))[f (s q0)]? = some ((f q0 : Nat) : Int) := by
    rw [List.getElem?_set_self (by rw [List.length_set]; omega)]
  refine ⟨by simp [h1], fun q hq hv => ?_, fun j hj hj2 => ?_⟩
  · by_cases e : q = q0
    · subst e
      exact ⟨at0, at1⟩
    · rcases hV q hv with hv | hv
      · obtain ⟨k1, k2⟩ := h2 q hq hv
        by_cases e1 : q = s q0
        · subst e1
          rw [hs.back _ hq0]
          exact ⟨at1, at0⟩
        · have n1 : f q ≠ f q0 := fun e2 => e (hi _ _ hq hq0 e2)
          have n2 : f q ≠ f (s q0) := fun e2 => e1 (hi _ _ hq hs0 e2)
          have n3 : s q ≠ q0 := fun e2 => e1 (by rw [← e2, hs.back _ hq])
          have n4 : f (s q) ≠ f q0 := fun e2 => n3 (hi _ _ (hs.lt _ hq) hq0 e2)
          have n5 : f (s q) ≠ f (s q0) := fun e2 => e (by
            have := hi _ _ (hs.lt _ hq) hs0 e2
            rw [← hs.back _ hq, this, hs.back _ hq0])
          rw [List.getElem?_set_ne n2.symm, List.getElem?_set_ne n1.symm, List.getElem?_set_ne n5.symm, List.getElem?_set_ne n4.symm]
          exact ⟨k1, k2⟩
      · exact absurd hv e
  · rw [List.getElem?_set_ne (by omega), List.getElem?_set_ne (by omega)]
    exact h3 j hj hj2
theorem pairs_done {L : List Int} {N : Nat} {V : Nat → Prop} {f g s : Nat → Nat} (hN : N ≤ 20) (hn : Names N f g) (hs : Mates N s) (h : PairsUp L N V f s) (hV : ∀ q, q < N → V q ∨ V (s q)) : L = padTo (listS N (renS f g s)) := by
  refine listS_pad hN h.1 (fun q hq => ?_) h.2.2
  have hg := hn.glt _ hq
  unfold renS
  rcases hV (g q) hg with hv | hv
  · have := (h.2.1 _ hg hv).1
    rwa [hn.fg _ hq] at this
  · have := (h.2.1 _ (hs.lt _ hg) hv).2
    rw [hs.back _ hg, hn.fg _ hq] at this
    exact this
theorem names_id (N : Nat) : Names N (fun q => q) (fun q => q) := ⟨fun _ h => h, fun _ h => h, fun _ _ => rfl, fun _ _ => rfl⟩
theorem paired_joinL {L : List Int} {n m r i j : Nat} (hL : L.length = 20) (hi : i < 20) (hj : j < 20) :
    ((pairC (joinL L n m r)).setIfInBounds i (.int .i64 (j : Int))).setIfInBounds j (.int .i64 (i : Int)) = pairC (joinL ((L.set i (j : Int)).set j (i : Int)) n m r) := by
  rw [pairC_set, pairC_set, joinL_set _ (by omega), joinL_set _ (by rw [List.length_set]; omega)]

/-- A port as it is seen from behind: of p ports, m of them above. -/
def flipN (p m i : Nat) : Nat := (p + m - 1 - i) % p
theorem flipN_names {p m : Nat} (hm : m ≤ p) (h1 : 1 ≤ m) : Names p (flipN p m) (flipN p m) := by
  have hlt : ∀ q, q < p → flipN p m q < p := fun q hq => Nat.mod_lt _ (by omega)
  have key : ∀ q, q < p → flipN p m (flipN p m q) = q := fun q hq => by
    unfold flipN
    by_cases h : p + m - 1 - q < p
    · rw [Nat.mod_eq_of_lt h]
      by_cases h2 : q < p
      · rw [show p + m - 1 - (p + m - 1 - q) = q by omega, Nat.mod_eq_of_lt hq]
      · omega
    · have e : (p + m - 1 - q) % p = m - 1 - q := by
        rw [show p + m - 1 - q = (m - 1 - q) + p by omega, Nat.add_mod_right, Nat.mod_eq_of_lt (by omega)]
      rw [e, show p + m - 1 - (m - 1 - q) = q + p by omega, Nat.add_mod_right, Nat.mod_eq_of_lt hq]
  exact ⟨hlt, hlt, key, key⟩
/-- The pairing as it is seen from behind. -/
def flipL (l : List Int) (m : Nat) : List Int := listS l.length (renS (flipN l.length m) (flipN l.length m) (mateN l))
theorem flipL_length (l : List Int) (m : Nat) : (flipL l m).length = l.length := listS_length _ _
theorem flipL_pair {l : List Int} {m : Nat} (h : IsPair l) (hm : m ≤ l.length) (h1 : 1 ≤ m) : IsPair (flipL l m) := listS_pair (renS_mates (flipN_names hm h1) h.mates_of) h.1 h.2.1
theorem turn_names {p k : Nat} : Names p (fun i => (i + k) % p) (fun j => (j + (p - k % p)) % p) :=
  ⟨fun _ hq => Nat.mod_lt _ (by omega), fun _ hq => Nat.mod_lt _ (by omega), fun _ hq => turn_inv hq, fun _ hq => turn_back hq⟩
theorem turnL_ren (l : List Int) (k : Nat) : turnL l k = listS l.length (renS (fun i => (i + k) % l.length) (fun j => (j + (l.length - k % l.length)) % l.length) (mateN l)) := by
  unfold turnL listS
  rfl
/-- The ends of rows and columns are partners. -/
def unitN (n m q : Nat) : Nat := if q < m then n + 2 * m - 1 - q else if q < m + n then 2 * n + 2 * m - 1 - (q - m) else if q < 2 * m + n then n + 2 * m - 1 - q else m + (2 * n + 2 * m - 1 - q)
theorem unitN_mates {n m : Nat} : Mates (2 * (n + m)) (unitN n m) where
  lt q hq := by unfold unitN; split <;> (try split) <;> (try split) <;> omega
  ne q hq := by unfold unitN; split <;> (try split) <;> (try split) <;> omega
  back q hq := by
    unfold unitN
    by_cases h1 : q < m
    · rw [if_pos h1, if_neg (by omega), if_neg (by omega), if_pos (by omega)]; omega
    · rw [if_neg h1]
      by_cases h2 : q < m + n
      · rw [if_pos h2, if_neg (by omega), if_neg (by omega), if_neg (by omega)]; omega
      · rw [if_neg h2]
        by_cases h3 : q < 2 * m + n
        · rw [if_pos h3, if_pos (by omega)]; omega
        · rw [if_neg h3, if_neg (by omega), if_pos (by omega)]; omega
end Go.Proofs.Ytkkifpjeafchnaa
