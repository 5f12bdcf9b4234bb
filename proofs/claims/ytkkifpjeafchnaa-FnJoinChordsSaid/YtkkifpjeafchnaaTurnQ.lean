/- Pairings handed back as lists: slices.Clone, list, CrossTurn of the program, by their contracts. -/
import Derived.Test.YtkkifpjeafchnaaTurnP
import Derived.Test.YtkkifpjeafchnaaApp
namespace Go.Proofs.Ytkkifpjeafchnaa
open Go.RowKit Go.Shelf

theorem run_eql_slice_nil (a : Addr) (n c : Nat) (w : World) : (binOp .eql 25 (.slice (some a) n c) (.slice none 0 0)).run Try.prog w = .ok (.bool false) w := by
  have h : ∀ d : Nat, (Op.equalIn (d + 1) 25 (.slice (some a) n c) (.slice none 0 0)).run Try.prog w = .ok false w := fun d => by
    simp [Op.equalIn, run_underlying Try.underlying25]
  simp only [binOp]
  simp [Op.equal, Op.maxDepth, h 9999]

set_option maxRecDepth 100000 in
set_option maxHeartbeats 2000000 in
theorem clone_any (g c : Nat) (l : List Int) (cs : Array Value) (t : TypeId) (w : World) (hg : w.heap[g]? = some (.cells cs t (0, 0))) (hc : ∀ (k : Nat) (x : Int), l[k]? = some x → cs[k]? = some (.int .i64 x)) (hl : l.length ≤ 20) :
    Calls Try.prog 101 #[.slice (some ⟨g, 0, none⟩) l.length c] w fun e w' => ∃ v, e = .returned v ∧ GrowI w' w.heap.size v l ∧ Below w.heap.size w w' := by
  have HG0 := hid (growI_new w w.heap.size (Nat.le_refl _))
  have HB := hid ((Below.refl w.heap.size w).alloc (Nat.le_refl _) (.cells #[] 3))
  have hnews : ∀ (j : Nat) (u : Value), (intsV l)[j]? = some u → (w.alloc (.cells #[] 3)).cell? ((⟨g, 0, none⟩ : Addr).add j) = some u := fun j u hj => by
    unfold intsV at hj
    rw [List.getElem?_map] at hj
    cases hlj : l[j]? with
    | none => rw [hlj] at hj; cases hj
    | some x =>
      rw [hlj] at hj
      cases hj
      have ha : (Addr.add ⟨g, 0, none⟩ j : Addr) = ⟨g, j, none⟩ := by unfold Addr.add; split <;> simp_all
      rw [ha, cell_of_row _ _ _ _ _ _ ((Below.heap_alloc _ _ _ (lt_of_block hg)).trans hg)]
      exact hc j x hlj
  have HN := hid hnews
  have HL := hid hl
  obtain ⟨i0, hi, hi0, hi1, hi2⟩ := info_parts Try.info_int
  have HII := hid hi
  clear hnews hi hg hc hl
  have heq := run_eql_slice_nil ⟨g, 0, none⟩ l.length c w
  go_enter Try.func101, Try.ntmps101
  go_wp2_with (at_builtin; refine wpList_append_own _ rfl _ _ 25 rfl w.heap.size 3 i0 (.int .i64 0) 1 8 Try.underlying25 HII.out hi0 hi1 hi2 rfl (by decide) (.slice (some ⟨w.heap.size, 0, none⟩) 0 0) 0 [] rfl HG0.out ⟨g, 0, none⟩ l.length c (intsV l) rfl (by simp [intsV]) HN.out (intsV_one _) ?c2 ?c3 ?c4 ?_)
  case c2 => unfold maxLen; have := HL.out; omega
  case c3 => have := HL.out; omega
  case c4 => simp
  intro v' w1 hown hgw _
  have HB1 := hid (HB.out.grown hgw (by simp) (fun k e => by cases e; exact Nat.le_refl _))
  have HG1 := hid (show GrowI w1 w.heap.size v' l by
    unfold GrowI
    simpa using hown)
  clear hown hgw
  go_wp2_with fail
  go_ret
  exact ⟨_, rfl, HG1.out, HB1.out⟩

set_option maxRecDepth 100000 in
set_option maxHeartbeats 2000000 in
theorem plist_any (l : List Int) (w : World) (h20 : l.length ≤ 20) (h : portsN (padTo l) = l.length) :
    Calls Try.prog 74 #[.agg (pairC (padTo l))] w fun e w' => ∃ v, e = .returned v ∧ GrowI w' w.heap.size v l ∧ Below w.heap.size w w' := by
  have HS := hid (show (Try.prog.info? 60).map (·.size) = some (pairC (padTo l)).size by rw [pairC_size, padTo_length h20]; exact Try.size_pair)
  have HPO := hid (fun w' => pports_any (padTo l) w' (padTo_length h20))
  rw [h] at HPO
  have HCL := hid (fun (g c : Nat) (w' : World) (hg : w'.heap[g]? = some (.cells (pairC (padTo l)) 60 (0, 0))) => clone_any g c l (pairC (padTo l)) 60 w' hg (fun k x hk => pairC_at (padTo_at hk)) h20)
  obtain ⟨n, hn⟩ : ∃ n, l.length = n := ⟨_, rfl⟩
  rw [hn] at HPO HCL h20
  clear h hn
  generalize pairC (padTo l) = cs at *
  have H0 := hid (heap_new0 w (.cells cs 60))
  have HB := hid ((Below.refl w.heap.size w).alloc (Nat.le_refl _) (.cells cs 60))
  have hni : (n : Int) ≤ 20 := by omega
  go_enter Try.func74, Try.ntmps74
  go_wp2_with (refine wpList_load_row rfl 60 _ rfl w.heap.size rfl 60 cs (0, 0) _ H0.out Try.underlying60 rfl HS.out ?_)
  generalize World.alloc w _ = Y at H0 HB ⊢
  refine (HPO.out _).mono ?_
  rintro e w1 ⟨rfl, hb1⟩
  have I0 := hid ((hb1.block _ (lt_of_block H0.out)).trans H0.out)
  have IB := hid (HB.out.trans (hb1.mono HB.out.size))
  clear hb1
  go_wp2_with fail
  refine (HCL.out w.heap.size 20 w1 I0.out).mono ?_
  rintro e w2 ⟨v, rfl, hg2, hb2⟩
  have HG2 := hid (hg2.lower IB.out.size)
  have HB2 := hid (IB.out.trans (hb2.mono IB.out.size))
  clear hg2 hb2
  go_wp2_with fail
  go_ret
  exact ⟨_, rfl, HG2.out, HB2.out⟩

/-- What CrossTurn comes to. -/
def TurnOut (l : List Int) (k : Int) (res : List Int) (ok : Bool) : Prop :=
  (∃ kn : Nat, IsPair l ∧ kn ≤ 20 ∧ k = (kn : Int) ∧ res = turnL l kn ∧ ok = true) ∨ (¬ (IsPair l ∧ 0 ≤ k ∧ k ≤ 20) ∧ res = [] ∧ ok = false)
theorem TurnOut.uniq {l : List Int} {k : Int} {r r' : List Int} {ok ok' : Bool} (h : TurnOut l k r ok) (h' : TurnOut l k r' ok') : ok' = ok ∧ r' = r := by
  rcases h with ⟨kn, h1, h2, h3, rfl, rfl⟩ | ⟨h1, rfl, rfl⟩ <;> rcases h' with ⟨kn', h1', h2', h3', rfl, rfl⟩ | ⟨h1', rfl, rfl⟩
  · obtain rfl : kn = kn' := by omega
    exact ⟨rfl, rfl⟩
  · exact absurd ⟨h1, by omega, by omega⟩ h1'
  · exact absurd ⟨h1', by omega, by omega⟩ h1
  · exact ⟨rfl, rfl⟩
theorem TurnOut.len {l : List Int} {k : Int} {r : List Int} {ok : Bool} (h : TurnOut l k r ok) : r.length ≤ 1048576 := by
  rcases h with ⟨kn, h1, _, _, rfl, _⟩ | ⟨_, rfl, _⟩
  · rw [turnL_length]; have := h1.2.1; omega
  · simp

/-- The cells that CrossTurn of the specification has filled after p rounds. -/
def Turned (l : List Int) (k p : Nat) (C : Array Value) : Prop :=
  C.size = l.length ∧ (∀ q, q < p → C[(q + k) % l.length]? = some (Value.int .i64 (turnV l k q)))
theorem Turned.zero (l : List Int) (k : Nat) : Turned l k 0 (madeCells #[Value.int .i64 0] l.length) :=
  ⟨size_madeCells _ _, fun i h => absurd h (by omega)⟩
theorem Turned.step {l : List Int} {k p : Nat} {C : Array Value} (h : Turned l k p C) (hp : p < l.length) : Turned l k (p + 1) (C.setIfInBounds ((p + k) % l.length) (.int .i64 (turnV l k p))) := by
  refine ⟨by simpa using h.1, fun q hq => ?_⟩
  rw [Array.getElem?_setIfInBounds]
  have hlt : (p + k) % l.length < l.length := Nat.mod_lt _ (by omega)
  by_cases e : (p + k) % l.length = (q + k) % l.length
  · rw [if_pos e, if_pos (by rw [h.1]; exact hlt)]
    have := turn_inj hp (by omega) e
    rw [this]
  · rw [if_neg e]
    exact h.2 q (by
      rcases Nat.lt_or_ge q p with h1 | h1
      · exact h1
      · exact absurd (by rw [show q = p by omega]) e)
theorem Turned.all {l : List Int} {k : Nat} {C : Array Value} (h : Turned l k l.length C) : ∀ (j : Nat) (x : Int), (turnL l k)[j]? = some x → C[j]? = some (.int .i64 x) := fun j x hj => by
  have hlt := (List.getElem?_eq_some_iff.1 hj).1
  rw [turnL_length] at hlt
  have hq : (j + (l.length - k % l.length)) % l.length < l.length := Nat.mod_lt _ (by omega)
  have h1 := h.2 _ hq
  have h2 := turnL_at (k := k) hq
  rw [turn_inv hlt] at h1 h2
  rw [h2] at hj
  cases hj
  exact h1
end Go.Proofs.Ytkkifpjeafchnaa
