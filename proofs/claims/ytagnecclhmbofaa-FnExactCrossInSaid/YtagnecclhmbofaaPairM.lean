/- Pairings: lists of twenty integers as the cells of an array; two of them compared. -/
import Derived.Test.YtagnecclhmbofaaBunF
import Derived.Test.YtagnecclhmbofaaTrace
import Derived.DeepKeys
namespace Go.Proofs.Ytagnecclhmbofaa
open Go.RowKit Go.Shelf

/-- The cells of an array of integers. -/
def pairC (l : List Int) : Array Value := (l.map fun x => Value.int .i64 x).toArray
theorem pairC_size (l : List Int) : (pairC l).size = l.length := by simp [pairC]
theorem pairC_at {l : List Int} {k : Nat} {x : Int} (h : l[k]? = some x) : (pairC l)[k]? = some (.int .i64 x) := by simp [pairC, h]
theorem pairC_set (l : List Int) (k : Nat) (x : Int) : (pairC l).setIfInBounds k (.int .i64 x) = pairC (l.set k x) := by simp [pairC, List.map_set]
theorem pairC_one (l : List Int) : (pairC l).all (·.oneCell') = true := by
  rw [Array.all_eq_true_iff_forall_mem]
  intro x hx
  simp [pairC] at hx
  obtain ⟨b, _, rfl⟩ := hx
  rfl
theorem pairC_inj {a b : List Int} (h : pairC a = pairC b) : a = b := by
  have h2 := congrArg Array.toList h
  simp only [pairC] at h2
  have h3 := congrArg (List.map fun v : Value => match v with | .int _ x => x | _ => 0) h2
  simpa [List.map_map, Function.comp_def] using h3
/-- The cells of no pairing. -/
abbrev zeroP : Array Value := #[.int .i64 0, .int .i64 0, .int .i64 0, .int .i64 0, .int .i64 0, .int .i64 0, .int .i64 0, .int .i64 0, .int .i64 0, .int .i64 0, .int .i64 0, .int .i64 0, .int .i64 0, .int .i64 0, .int .i64 0, .int .i64 0, .int .i64 0, .int .i64 0, .int .i64 0, .int .i64 0]
theorem zeroP_eq : zeroP = pairC (List.replicate 20 0) := rfl
theorem Try.size_pair : (Try.prog.info? 62).map (·.size) = some 20 := by kernel_rfl

section
variable (w : World)
theorem run_eqItems_pair (d : Nat) (a b : List Int) (ha : a.length = 20) (hb : b.length = 20) : ∀ is : List Nat, (∀ i ∈ is, i < 20) →
    (Op.eqItems (d + 1) 3 1 (pairC a) (pairC b) is).run Try.prog w = .ok (is.all fun i => a[i]? == b[i]?) w
  | [], _ => by simp [Op.eqItems]
  | i :: is, h => by
    have hi := h i (by simp)
    have ha1 : a[i]? = some (a[i]'(by omega)) := List.getElem?_eq_getElem (by omega)
    have hb1 : b[i]? = some (b[i]'(by omega)) := List.getElem?_eq_getElem (by omega)
    have e1 := pairC_at ha1
    have e2 := pairC_at hb1
    have ih := run_eqItems_pair d a b ha hb is (fun j hj => h j (by simp [hj]))
    have hp : ∀ cs : Array Value, ∀ v, cs[i]? = some v → (part 3 cs (i * 1)).run Try.prog w = .ok v w := fun cs v hv => by
      simp [part, isAgg, run_underlying Try.underlying3, hv]
    have he : ∀ x y : Int, (Op.equalIn (d + 1) 3 (.int .i64 x) (.int .i64 y)).run Try.prog w = .ok (x == y) w := fun x y => by
      simp [Op.equalIn, run_underlying Try.underlying3]
    simp only [Op.eqItems, Sem.run_bind, hp _ _ e1, hp _ _ e2, he, Result.andThen_ok, List.all_cons, ha1, hb1]
    cases hx : (a[i]'(by omega) == b[i]'(by omega)) with
    | true =>
      have hx2 : (some (a[i]'(by omega)) == some (b[i]'(by omega))) = true := by simpa using hx
      rw [hx2]
      simpa using ih
    | false =>
      have hx2 : (some (a[i]'(by omega)) == some (b[i]'(by omega))) = false := by simpa using hx
      rw [hx2]
      simp
theorem all_eq_pair {a b : List Int} (ha : a.length = 20) (hb : b.length = 20) : ((List.range 20).all fun i => a[i]? == b[i]?) = decide (a = b) := by
  rw [Bool.eq_iff_iff, List.all_eq_true, decide_eq_true_iff]
  constructor
  · intro h
    refine List.ext_getElem? fun i => ?_
    by_cases hi : i < 20
    · exact eq_of_beq (h i (List.mem_range.2 hi))
    · rw [List.getElem?_eq_none (by omega), List.getElem?_eq_none (by omega)]
  · rintro rfl i _
    exact beq_self_eq_true _
theorem run_equal_pair {a b : List Int} (ha : a.length = 20) (hb : b.length = 20) :
    (Op.equalIn 10000 62 (.agg (pairC a)) (.agg (pairC b))).run Try.prog w = .ok (decide (a = b)) w := by
  obtain ⟨i, hi⟩ : ∃ i, Try.prog.info? 3 = some i := info_of_underlying Try.underlying3
  have hc : Try.prog.cellsOf 3 = 1 := by kernel_rfl
  have h := run_equalIn_array (P := Try.prog) w 9999 (pairC a) (pairC b) Try.underlying62 hi
  rw [hc, run_eqItems_pair w 9998 a b ha hb _ (fun j hj => List.mem_range.1 hj), all_eq_pair ha hb] at h
  exact h
theorem run_index_pair {cs : Array Value} {k : Nat} {v : Value} (hk : k < 20) (h : cs[k]? = some v) :
    (Instr.index 62 (.agg cs) (.int .i64 (k : Int))).run Try.prog w = .ok v w := by
  obtain ⟨i, hi⟩ : ∃ i, Try.prog.info? 3 = some i := info_of_underlying Try.underlying3
  have h1 : i.size = 1 := by
    have hc : Try.prog.cellsOf 3 = 1 := by kernel_rfl
    unfold Program.cellsOf at hc
    rw [hi] at hc
    exact hc
  simp [Instr.index, asIntOf, run_underlying Try.underlying62, part, isAgg, run_underlying Try.underlying3, sizeOf, typeInfo, hi, h1, h]
  omega
end
end Go.Proofs.Ytagnecclhmbofaa
