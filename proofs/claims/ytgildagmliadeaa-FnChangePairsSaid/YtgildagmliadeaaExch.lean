/- The exchanges of all mirrors: exchanges, by its contract. -/
import Derived.Test.YtgildagmliadeaaBunR
import Derived.Test.YtgildagmliadeaaBunQ
import Derived.Test.YtgildagmliadeaaBunD
import Derived.Test.YtgildagmliadeaaRelIn
namespace Go.Proofs.Ytgildagmliadeaa
open Go.RowKit Go.Shelf
attribute [local go_sem] Oper.semAt_some

theorem lett_place {m c : Nat} (ls : List UInt8) : lett m ls (placeN m c).i (placeN m c).k = ls.getD c 0 := by
  unfold lett placeN
  have e : (((c / m : Nat) : Int) * (m : Int) + ((c % m : Nat) : Int)).toNat = c := by
    have h := Nat.div_add_mod c m
    rw [Nat.mul_comm] at h
    rw [← Int.natCast_mul, ← Int.natCast_add, h]
    simp
  simp only [e]
/-- The exchanges of the mirrors among the cells that have come. -/
def mirI {N : Nat} (m : Nat) (ls : List UInt8) (pre : List (Fin N)) : List (Wy × UInt8) := (pre.filter fun x => ls.getD x.val 0 != 46).map fun x => (placeN m x.val, oth (ls.getD x.val 0))
theorem mirI_snoc {N : Nat} (m : Nat) (ls : List UInt8) (pre : List (Fin N)) (x : Fin N) : mirI m ls (pre ++ [x]) = mirI m ls pre ++ (if (ls.getD x.val 0 != 46) = true then [(placeN m x.val, oth (ls.getD x.val 0))] else []) := by
  unfold mirI
  rw [List.filter_append, List.map_append]
  congr 1
  by_cases h : (ls.getD x.val 0 != 46) = true
  · rw [if_pos h, List.filter_cons_of_pos (by exact h)]; rfl
  · rw [if_neg h, List.filter_cons_of_neg (by exact h)]; rfl
theorem mirI_length {N : Nat} (m : Nat) (ls : List UInt8) (pre : List (Fin N)) : (mirI m ls pre).length ≤ pre.length := by
  unfold mirI
  rw [List.length_map]
  exact List.length_filter_le _ _
/-- Changes are their holder's own. -/
theorem chgs_own (base n m : Nat) (v : Value) (ls : List UInt8) (items : List (Wy × UInt8)) : Go.Own (fun (_ : Unit) W => ChgsAt W base v n m ls items) := by
  rintro _ X Y row ⟨es, h1, h2, h3⟩ hg hrow
  refine ⟨es, h1, h2.kept hg ?_, fun e he => ?_⟩
  · rcases h2.2 with ⟨rfl, _⟩ | ⟨g, cap, cur, rfl, _, hgb, _⟩
    · exact .inl rfl
    · refine .inr fun e' => ?_
      obtain ⟨o, ho, hc⟩ := hrow g (by simpa [Value.ownBlock] using e'.symm)
      rw [hgb] at ho; cases ho; cases hc
  · have hk : ∀ {g : Nat} {cs : Array Value} {t : TypeId}, X.heap[g]? = some (.cells cs t (0, 0)) → Y.heap[g]? = some (.cells cs t (0, 0)) := fun {g cs t} h => by
      refine (hg.block g (lt_of_block h) fun e => ?_).trans h
      obtain ⟨o, ho, hc⟩ := hrow g e.symm
      rw [h] at ho; cases ho; cases hc
    obtain ⟨a, b, c⟩ := h3 e he
    exact ⟨hk a, hk b, hk c⟩
section
variable {F : Fence} {nF : Nat} {ops : Array Oper} {rest : List Oper} {o : Oper} {a : Act} {w : World} {Q : Exit → Act → World → Prop}
end
/-- A block of another type outlives the growth of a slice of changes. -/
theorem chgs_heap {base b n m : Nat} {W W' : World} {v : Value} {ls : List UInt8} {items : List (Wy × UInt8)} {cs : Array Value} {t : TypeId} (hrow : ChgsAt W base v n m ls items) (hg : W.grownBy W' v.ownBlock) (hb : W.heap[b]? = some (.cells cs t (0, 0))) (ht : t ≠ 97) : W'.heap[b]? = some (.cells cs t (0, 0)) := by
  refine (hg.block b (lt_of_block hb) fun e' => ?_).trans hb
  obtain ⟨es, _, h2, _⟩ := hrow
  obtain ⟨cur, hc⟩ := own_change h2 b e'.symm
  rw [hb] at hc
  cases hc
  exact ht rfl

/-- What the operations of one round hand back, up to the append. -/
def exchgRel (v0 : Value) (n m : Nat) (ls : List UInt8) (x : Wy) (b : UInt8) (i : Nat) (v : Value) (W : World) : Prop :=
  match i with
  | 0 => v = v0
  | 1 => v = .agg (gcells n m ls)
  | 2 => v = .agg #[.int .i64 x.i, .int .i64 x.k]
  | 3 => ChangeV W n m ls x b v
  | 4 => ∃ h g0 g1 g2, v = .slice (some ⟨h, 0, none⟩) 1 1 ∧ W.heap[h]? = some (.cells (changeC ((cellN m x : Nat) : Int) g0 g1 g2) 97 (0, 0)) ∧ MadeAt W n m ls x b g0 g1 g2
  | _ => True

end Go.Proofs.Ytgildagmliadeaa
