/- Settled texts in one file. Each begins with what it holds. -/
import Derived.Test.YtgildagmliadeaaBunO
import Derived.Test.YtgildagmliadeaaBunA
import Derived.Test.YtgildagmliadeaaBunJ
/- The beam of a port, as its two ports; two beams compared; a region that draws its order and holds guarded operations. -/
namespace Go.Proofs.Ytgildagmliadeaa
open Go.RowKit Go.Shelf

def beamC (p b : Nat) : Array Value := #[.int .i64 (if (p : Int) < (b : Int) then (p : Int) else (b : Int)), .int .i64 (if (p : Int) < (b : Int) then (b : Int) else (p : Int))]

/-- Two beams are the same just if they have an end in common. -/
def loC (p b : Nat) : Int := if (p : Int) < (b : Int) then (p : Int) else (b : Int)
def hiC (p b : Nat) : Int := if (p : Int) < (b : Int) then (b : Int) else (p : Int)
theorem beamC_eq (p b : Nat) : beamC p b = #[.int .i64 (loC p b), .int .i64 (hiC p b)] := rfl
theorem beam_same {p q P Q : Nat} (h : p = q → P = Q) (h1 : P = q → Q = p) : decide (loC p P = loC q Q ∧ hiC p P = hiC q Q) = decide (p = q ∨ P = q) := by
  rw [decide_eq_decide]
  unfold loC hiC
  constructor
  · rintro ⟨a, b⟩
    split at a <;> split at a <;> simp_all <;> omega
  · rintro (e | e)
    · have := h e
      subst e
      subst this
      exact ⟨rfl, rfl⟩
    · have := h1 e
      subst e
      subst this
      constructor <;> split <;> split <;> omega

end Go.Proofs.Ytgildagmliadeaa

/- The places at which two beams meet, by the contract of meetings. -/
namespace Go.Proofs.Ytgildagmliadeaa
open Go.RowKit Go.Shelf
attribute [local go_sem] Oper.semAt_some

/-- The places of the ways with something among those that have come. -/
def metL {L : Nat} (bw : Nat → Wy) (g : Wy → Bool) (pre : List (Fin L)) : List (Int × Int) := (pre.filter fun x => g (bw x.val)).map fun x => ((bw x.val).i, (bw x.val).k)
theorem metL_yes {L : Nat} (bw : Nat → Wy) (g : Wy → Bool) (pre : List (Fin L)) (x : Fin L) (h : g (bw x.val) = true) : metL bw g (pre ++ [x]) = metL bw g pre ++ [((bw x.val).i, (bw x.val).k)] := by
  simp [metL, List.filter_append, h]
theorem metL_no {L : Nat} (bw : Nat → Wy) (g : Wy → Bool) (pre : List (Fin L)) (x : Fin L) (h : g (bw x.val) = false) : metL bw g (pre ++ [x]) = metL bw g pre := by
  simp [metL, List.filter_append, h]
theorem metL_le {L : Nat} (bw : Nat → Wy) (g : Wy → Bool) (pre : List (Fin L)) : (metL bw g pre).length ≤ pre.length := by
  unfold metL
  rw [List.length_map]
  exact List.length_filter_le _ _
theorem metL_all (L : Nat) (bw : Nat → Wy) (g : Wy → Bool) : metL bw g (List.finRange L) = ((List.range L).filter fun j => g (bw j)).map fun j => ((bw j).i, (bw j).k) := by
  unfold metL
  have e := upto_val (N := L) (k := L) (Nat.le_refl _)
  rw [upto_all] at e
  rw [← e, List.filter_map, List.map_map]
  rfl
theorem times_cell' {n m : Nat} {t : Int → Int → UInt8} {p : Nat} {x : Wy} (hp : p < 2 * (n + m)) (hx : inG n m x) : upT (fun d => goesTo (bway n m t p) (blen n m t p) ⟨x.i, x.k, d⟩) 4 = (bcells n m t p).count (cellN m x) := by
  obtain ⟨h1, h2, h3, h4⟩ := hx
  have e := times_count (n := n) (m := m) (t := t) (p := p) (i := x.i.toNat) (k := x.k.toNat) hp (by omega)
  rw [Int.toNat_of_nonneg h1, Int.toNat_of_nonneg h3] at e
  exact e
/-- All of them. -/
def metP (n m : Nat) (t : Int → Int → UInt8) (a b : Nat) : List (Int × Int) := ((List.range (blen n m t b)).filter fun j => goesC n m t a (cellN m (bway n m t b j))).map fun j => ((bway n m t b j).i, (bway n m t b j).k)
theorem KeepsW.grownPl {g n0 base : Nat} {W W' : World} {v : Value} {l : List (Int × Int)} {cs : Array Value} (hrow : GrowPl W base v l) (hg : W.grownBy W' v.ownBlock) (hB : W.heap[g]? = some (.cells cs 54 (0, 0))) : KeepsW g n0 W W' :=
  ⟨hg.size, (grownPl_heap hrow hg hB (by decide)).trans hB.symm, fun _ _ _ hb => grownPl_heap hrow hg hb (by decide)⟩

end Go.Proofs.Ytgildagmliadeaa

/- gridWithBeams of the program, by its contract. -/
namespace Go.Proofs.Ytgildagmliadeaa
open Go.RowKit Go.Shelf

/-- What gridWithBeams comes to. -/
def GBEnd (ss : List ByteArray) (p q : Int) (e : Ending) : Prop :=
  (∃ n m a b, MeetIn ss p q n m a b ∧ e = .returned (.tuple #[.agg (gcells n m (pad (flat ss))), .bool true])) ∨ ((∀ n m a b, ¬ MeetIn ss p q n m a b) ∧ e = .returned (.tuple #[.agg zeroG, .bool false]))

end Go.Proofs.Ytgildagmliadeaa

/- BeamMeets and CrossBetween of the program, by their contracts. -/
namespace Go.Proofs.Ytgildagmliadeaa
open Go.RowKit Go.Shelf

theorem metP_length {n m : Nat} {t : Int → Int → UInt8} {a b : Nat} (hn : 1 ≤ n) (hm : 1 ≤ m) (ha : a < 2 * (n + m)) (hb : b < 2 * (n + m)) (h1 : a ≠ b) (h2 : a ≠ bend_ n m t b) : (metP n m t a b).length = meetN n m t a b := by
  unfold metP
  rw [List.length_map, ← List.countP_eq_length_filter]
  exact meet_count hn hm ha hb h1 h2
theorem metP_in {n m : Nat} {t : Int → Int → UInt8} {a b : Nat} : ∀ p ∈ metP n m t a b, 0 ≤ p.1 ∧ p.1 < n ∧ 0 ≤ p.2 ∧ p.2 < m := fun p hp => by
  unfold metP at hp
  obtain ⟨j, hj, rfl⟩ := List.mem_map.1 hp
  exact blen_in (List.mem_range.1 (List.mem_filter.1 hj).1)
theorem empty_way {n m : Nat} {t : Int → Int → UInt8} {x : Wy} (hx : inG n m x) : emptyC m t (cellN m x) = (t x.i x.k == 46) := by
  obtain ⟨h1, h2, h3, h4⟩ := hx
  have hm : 0 < m := by omega
  have hk : x.k.toNat < m := by omega
  unfold emptyC cellN
  rw [show (x.i.toNat * m + x.k.toNat) / m = x.i.toNat by rw [Nat.mul_comm, Nat.mul_add_div hm, Nat.div_eq_of_lt hk, Nat.add_zero], show (x.i.toNat * m + x.k.toNat) % m = x.k.toNat by rw [Nat.mul_comm, Nat.mul_add_mod, Nat.mod_eq_of_lt hk], Int.toNat_of_nonneg h1, Int.toNat_of_nonneg h3]
theorem empt_metP {n m : Nat} {ls : List UInt8} {a b : Nat} (hn : 1 ≤ n) (hm : 1 ≤ m) (ha : a < 2 * (n + m)) (hb : b < 2 * (n + m)) (h1 : a ≠ b) (h2 : a ≠ bend_ n m (lett m ls) b) : emptN m ls (metP n m (lett m ls) a b) = bothN n m (lett m ls) a b := by
  unfold emptN metP
  rw [countP_filter_map]
  have e : (List.range (blen n m (lett m ls) b)).countP (fun j => goesC n m (lett m ls) a (cellN m (bway n m (lett m ls) b j)) && lett m ls (bway n m (lett m ls) b j).i (bway n m (lett m ls) b j).k == 46) = (bcells n m (lett m ls) b).countP fun c => goesC n m (lett m ls) a c && emptyC m (lett m ls) c := by
    unfold bcells
    rw [List.countP_map]
    refine List.countP_congr fun j hj => ?_
    simp only [Function.comp]
    rw [empty_way (n := n) (blen_in (List.mem_range.1 hj))]
  rw [e, countP_sum, sum_swap _ (n * m) _ bcells_lt]
  unfold bothN
  rw [← sumN_countP]
  refine sumN_congr _ fun c _ => ?_
  cases he : emptyC m (lett m ls) c with
  | false => simp
  | true =>
    by_cases hc : 0 < (bcells n m (lett m ls) a).count c
    · have h3 := count_other hn hm ha hb h1 h2 hc
      have hg : goesC n m (lett m ls) a c = true := decide_eq_true hc
      rw [hg]
      by_cases hd : 0 < (bcells n m (lett m ls) b).count c
      · have hg2 : goesC n m (lett m ls) b c = true := decide_eq_true hd
        rw [hg2]
        simp
        omega
      · have hg2 : goesC n m (lett m ls) b c = false := decide_eq_false hd
        rw [hg2]
        simp
        omega
    · have hg : goesC n m (lett m ls) a c = false := decide_eq_false hc
      rw [hg]
      simp

/-- What CrossBetween comes to. -/
def BothOut (ss : List ByteArray) (p q x : Int) (ok : Bool) : Prop :=
  (∃ n m a b, MeetIn ss p q n m a b ∧ x = ((bothN n m (lett m (pad (flat ss))) a b : Nat) : Int) ∧ ok = true) ∨ ((∀ n m a b, ¬ MeetIn ss p q n m a b) ∧ x = 0 ∧ ok = false)
theorem BothOut.uniq {ss : List ByteArray} {p q x x' : Int} {ok ok' : Bool} (h : BothOut ss p q x ok) (h' : BothOut ss p q x' ok') : x' = x ∧ ok' = ok := by
  rcases h with ⟨n, m, a, b, h1, rfl, rfl⟩ | ⟨h1, rfl, rfl⟩ <;> rcases h' with ⟨n', m', a', b', h1', rfl, rfl⟩ | ⟨h1', rfl, rfl⟩
  · obtain ⟨rfl, rfl, rfl⟩ := h1.1.uniq h1'.1
    obtain ⟨_, _, rfl⟩ := h1.2.1.uniq h1'.2.1
    exact ⟨rfl, rfl⟩
  · exact absurd h1 (h1' _ _ _ _)
  · exact absurd h1' (h1 _ _ _ _)
  · exact ⟨rfl, rfl⟩
/-- What the operations of CrossBetween's last statement hand back. -/
def betweenRel (m : Nat) (ls : List UInt8) (cs : Array Value) (a b : Nat) (mp : List (Int × Int)) (i : Nat) (v : Value) (W : World) : Prop :=
  match i with
  | 0 => v = .agg cs
  | 1 => v = .agg cs
  | 2 => v = .int .i64 (a : Int)
  | 3 => v = .int .i64 (b : Int)
  | 4 => ∃ A c, v = .slice A mp.length c ∧ Plcs W A mp
  | 5 => v = .int .i64 ((emptN m ls mp : Nat) : Int)
  | 6 => v = .int .i64 ((emptN m ls mp : Nat) : Int)
  | 7 => v = .bool true
  | _ => True

end Go.Proofs.Ytgildagmliadeaa
