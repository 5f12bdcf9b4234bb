/- Pairings handed back as lists: slices.Clone, list, CrossTurn of the program, by their contracts. -/
import Derived.Test.YtagnecclhmbofaaTurnP
import Derived.Test.YtagnecclhmbofaaApp
namespace Go.Proofs.Ytagnecclhmbofaa
open Go.RowKit Go.Shelf

theorem run_eql_slice_nil (a : Addr) (n c : Nat) (w : World) : (binOp .eql 31 (.slice (some a) n c) (.slice none 0 0)).run Try.prog w = .ok (.bool false) w := by
  have h : ∀ d : Nat, (Op.equalIn (d + 1) 31 (.slice (some a) n c) (.slice none 0 0)).run Try.prog w = .ok false w := fun d => by
    simp [Op.equalIn, run_underlying Try.underlying31]
  simp only [binOp]
  simp [Op.equal, Op.maxDepth, h 9999]

set_option maxRecDepth 100000 in
set_option maxHeartbeats 2000000 in
theorem clone_any (g c : Nat) (l : List Int) (cs : Array Value) (t : TypeId) (w : World) (hg : w.heap[g]? = some (.cells cs t (0, 0))) (hc : ∀ (k : Nat) (x : Int), l[k]? = some x → cs[k]? = some (.int .i64 x)) (hl : l.length ≤ 20) :
    Calls Try.prog 89 #[.slice (some ⟨g, 0, none⟩) l.length c] w fun e w' => ∃ v, e = .returned v ∧ GrowI w' w.heap.size v l ∧ Below w.heap.size w w' := by
  have HG0 := hid (growI_new w w.heap.size (Nat.le_refl _))
  have HB := hid ((Below.refl w.heap.size w).alloc (Nat.le_refl _) (.cells #[] 3))
  have hnews : ∀ (j : Nat) (u : Value), (intsV l)[j]? = some u → (w.alloc (.cells #[] 3)).cell? ((⟨g, 0, none⟩ : Addr).add j) = some u := fun j u hj => by
    unfold intsV at hj
    rw [List.getElem?_map] at hj
    cases hlj : l[j]? with
    | none => rw [hlj] at hj; cases hj
    | some x =>
      rw [hlj] at hj
      cases hj
      have ha : (Addr.add ⟨g, 0, none⟩ j : Addr) = ⟨g, j, none⟩ := by unfold Addr.add; split <;> simp_all
      rw [ha, cell_of_row _ _ _ _ _ _ ((Below.heap_alloc _ _ _ (lt_of_block hg)).trans hg)]
      exact hc j x hlj
  have HN := hid hnews
  have HL := hid hl
  obtain ⟨i0, hi, hi0, hi1, hi2⟩ := info_parts Try.info_int
  have HII := hid hi
  clear hnews hi hg hc hl
  have heq := run_eql_slice_nil ⟨g, 0, none⟩ l.length c w
  go_enter Try.func89, Try.ntmps89
  go_wp2_with (at_builtin; refine wpList_append_own _ rfl _ _ 31 rfl w.heap.size 3 i0 (.int .i64 0) 1 8 Try.underlying31 HII.out hi0 hi1 hi2 rfl (by decide) (.slice (some ⟨w.heap.size, 0, none⟩) 0 0) 0 [] rfl HG0.out ⟨g, 0, none⟩ l.length c (intsV l) rfl (by simp [intsV]) HN.out (intsV_one _) ?c2 ?c3 ?c4 ?_)
  case c2 => unfold maxLen; have := HL.out; omega
  case c3 => have := HL.out; omega
  case c4 => simp
  intro v' w1 hown hgw _
  have HB1 := hid (HB.out.grown hgw (by simp) (fun k e => by cases e; exact Nat.le_refl _))
  have HG1 := hid (show GrowI w1 w.heap.size v' l by
    unfold GrowI
    simpa using hown)
  clear hown hgw
  go_wp2_with fail
  go_ret
  exact ⟨_, rfl, HG1.out, HB1.out⟩

set_option maxRecDepth 100000 in
set_option maxHeartbeats 2000000 in
theorem plist_any (l : List Int) (w : World) (h20 : l.length ≤ 20) (h : portsN (padTo l) = l.length) :
    Calls Try.prog 63 #[.agg (pairC (padTo l))] w fun e w' => ∃ v, e = .returned v ∧ GrowI w' w.heap.size v l ∧ Below w.heap.size w w' := by
  have HS := hid (show (Try.prog.info? 62).map (·.size) = some (pairC (padTo l)).size by rw [pairC_size, padTo_length h20]; exact Try.size_pair)
  have HPO := hid (fun w' => pports_any (padTo l) w' (padTo_length h20))
  rw [h] at HPO
  have HCL := hid (fun (g c : Nat) (w' : World) (hg : w'.heap[g]? = some (.cells (pairC (padTo l)) 62 (0, 0))) => clone_any g c l (pairC (padTo l)) 62 w' hg (fun k x hk => pairC_at (padTo_at hk)) h20)
  obtain ⟨n, hn⟩ : ∃ n, l.length = n := ⟨_, rfl⟩
  rw [hn] at HPO HCL h20
  clear h hn
  generalize pairC (padTo l) = cs at *
  have H0 := hid (heap_new0 w (.cells cs 62))
  have HB := hid ((Below.refl w.heap.size w).alloc (Nat.le_refl _) (.cells cs 62))
  have hni : (n : Int) ≤ 20 := by omega
  go_enter Try.func63, Try.ntmps63
  go_wp2_with (refine wpList_load_row rfl 62 _ rfl w.heap.size rfl 62 cs (0, 0) _ H0.out Try.underlying62 rfl HS.out ?_)
  generalize World.alloc w _ = Y at H0 HB ⊢
  refine (HPO.out _).mono ?_
  rintro e w1 ⟨rfl, hb1⟩
  have I0 := hid ((hb1.block _ (lt_of_block H0.out)).trans H0.out)
  have IB := hid (HB.out.trans (hb1.mono HB.out.size))
  clear hb1
  go_wp2_with fail
  refine (HCL.out w.heap.size 20 w1 I0.out).mono ?_
  rintro e w2 ⟨v, rfl, hg2, hb2⟩
  have HG2 := hid (hg2.lower IB.out.size)
  have HB2 := hid (IB.out.trans (hb2.mono IB.out.size))
  clear hg2 hb2
  go_wp2_with fail
  go_ret
  exact ⟨_, rfl, HG2.out, HB2.out⟩

/-- What CrossTurn comes to. -/
def TurnOut (l : List Int) (k : Int) (res : List Int) (ok : Bool) : Prop :=
  (∃ kn : Nat, IsPair l ∧ kn ≤ 20 ∧ k = (kn : Int) ∧ res = turnL l kn ∧ ok = true) ∨ (¬ (IsPair l ∧ 0 ≤ k ∧ k ≤ 20) ∧ res = [] ∧ ok = false)
theorem TurnOut.uniq {l : List Int} {k : Int} {r r' : List Int} {ok ok' : Bool} (h : TurnOut l k r ok) (h' : TurnOut l k r' ok') : ok' = ok ∧ r' = r := by
  rcases h with ⟨kn, h1, h2, h3, rfl, rfl⟩ | ⟨h1, rfl, rfl⟩ <;> rcases h' with ⟨kn', h1', h2', h3', rfl, rfl⟩ | ⟨h1', rfl, rfl⟩
  · obtain rfl : kn = kn' := by omega
    exact ⟨rfl, rfl⟩
  · exact absurd ⟨h1, by omega, by omega⟩ h1'
  · exact absurd ⟨h1', by omega, by omega⟩ h1
  · exact ⟨rfl, rfl⟩
theorem TurnOut.len {l : List Int} {k : Int} {r : List Int} {ok : Bool} (h : TurnOut l k r ok) : r.length ≤ 1048576 := by
  rcases h with ⟨kn, h1, _, _, rfl, _⟩ | ⟨_, rfl, _⟩
  · rw [turnL_length]; have := h1.2.1; omega
  · simp

set_option maxRecDepth 100000 in
set_option maxHeartbeats 2000000 in
theorem implCrossTurn_any (A : Option Addr) (c : Nat) (l : List Int) (k : Int) (w : World) (h : Ints w w.heap.size A l) (hn : l.length ≤ 1048576) :
    Calls Try.prog 35 #[.slice A l.length c, .int .i64 k] w fun e w' => Below w.heap.size w w' ∧ ∃ A' c' res ok, e = .returned (.tuple #[.slice A' res.length c', .bool ok]) ∧ TurnOut l k res ok ∧ Own3 w' w.heap.size A' res := by
  have H := hid (readPairing_any A c l w h hn)
  have HSP := hid (fun (h : l.length ≤ 20) => show (Try.prog.info? 62).map (·.size) = some (pairC (padTo l)).size by rw [pairC_size, padTo_length h]; exact Try.size_pair)
  have HZP := hid (fun (h : l.length ≤ 20) => show zeroP.size = (pairC (padTo l)).size by rw [pairC_size, padTo_length h]; rfl)
  go_enter Try.func35, Try.ntmps35
  go_wp2_with fail
  refine H.out.mono ?_
  rintro e w1 ⟨⟨hp, rfl⟩ | ⟨hp, rfl⟩, hb⟩
  · have HP := hid hp
    have HSP2 := hid (HSP.out hp.2.1)
    have HZP2 := hid (HZP.out hp.2.1)
    have HB := hid hb
    have N0 := hid (heap_new0 w1 (.cells zeroP 62))
    have NB := hid (below_setRow' (hb.alloc hb.size (.cells zeroP 62)) hb.size (pairC (padTo l)))
    have N1 := hid (setRow_heap _ _ _ (pairC (padTo l)) _ _ N0.out)
    clear hb hp
    generalize hY : World.setRow (w1.alloc (.cells zeroP 62)) w1.heap.size (pairC (padTo l)) = Y at NB N1
    have HY := hid hY
    clear hY
    by_cases hk0 : k < 0
    · have HNo := hid (show ¬ (IsPair l ∧ 0 ≤ k ∧ k ≤ 20) from fun h => by omega)
      go_wp2_with (refine wpList_store_row rfl 62 _ _ rfl w1.heap.size (pairC (padTo l)) rfl rfl 62 zeroP N0.out HSP2.out HZP2.out (pairC_one (padTo l)) ?_; rw [HY.out])
      refine bodyPost_ret (results_tmp2 rfl _ _ _) rfl ?_
      exact ⟨NB.out, none, 0, [], false, rfl, .inr ⟨HNo.out, rfl, rfl⟩, .inl ⟨rfl, rfl⟩⟩
    by_cases hk20 : 20 < k
    · have HNo := hid (show ¬ (IsPair l ∧ 0 ≤ k ∧ k ≤ 20) from fun h => by omega)
      have hk0' : 0 ≤ k := by omega
      go_wp2_with (refine wpList_store_row rfl 62 _ _ rfl w1.heap.size (pairC (padTo l)) rfl rfl 62 zeroP N0.out HSP2.out HZP2.out (pairC_one (padTo l)) ?_; rw [HY.out])
      refine bodyPost_ret (results_tmp2 rfl _ _ _) rfl ?_
      exact ⟨NB.out, none, 0, [], false, rfl, .inr ⟨HNo.out, rfl, rfl⟩, .inl ⟨rfl, rfl⟩⟩
    obtain ⟨kn, rfl⟩ : ∃ kn : Nat, k = (kn : Int) := ⟨k.toNat, by omega⟩
    have hkn : kn ≤ 20 := by omega
    have HKN := hid hkn
    have HT := hid (fun w' => pturned_any l kn w' HP.out hkn)
    have HL := hid (fun w' => plist_any (turnL l kn) w' (by rw [turnL_length]; exact HP.out.2.1) ((turn_ports HP.out).trans (turnL_length l kn).symm))
    have hki : ¬ (20 : Int) < (kn : Int) := by omega
    have hki0 : ¬ (kn : Int) < 0 := by omega
    go_wp2_with (first
      | (refine wpList_store_row rfl 62 _ _ rfl w1.heap.size (pairC (padTo l)) rfl rfl 62 zeroP N0.out HSP2.out HZP2.out (pairC_one (padTo l)) ?_; rw [HY.out])
      | refine wpList_load_row rfl 62 _ rfl w1.heap.size rfl 62 (pairC (padTo l)) (0, 0) _ N1.out Try.underlying62 rfl HSP2.out ?_)
    refine (HT.out _).mono ?_
    rintro e w2 ⟨rfl, hb2⟩
    have B2 := hid (NB.out.trans (hb2.mono NB.out.size))
    clear hb2
    go_wp2_with fail
    refine (HL.out _).mono ?_
    rintro e w3 ⟨v, rfl, hg3, hb3⟩
    obtain ⟨A', c', rfl, hown⟩ := (hg3.lower B2.out.size).own
    have HOW := hid hown
    have B3 := hid (B2.out.trans (hb3.mono B2.out.size))
    clear hg3 hb3 hown
    go_wp2_with fail
    refine bodyPost_ret (results_tmp2 rfl _ _ _) rfl ?_
    exact ⟨B3.out, A', c', _, true, rfl, .inl ⟨kn, HP.out, HKN.out, rfl, rfl, rfl⟩, HOW.out⟩
  · have HNo := hid (show ¬ (IsPair l ∧ 0 ≤ k ∧ k ≤ 20) from fun h => hp h.1)
    have HB := hid hb
    clear hb hp
    have N0 := hid (heap_new0 w1 (.cells zeroP 62))
    have NB := hid (below_setRow' (HB.out.alloc HB.out.size (.cells zeroP 62)) HB.out.size zeroP)
    go_wp2_with (refine wpList_store_row rfl 62 _ _ rfl w1.heap.size zeroP rfl rfl 62 zeroP N0.out Try.size_pair rfl (pairC_one (List.replicate 20 0)) ?_)
    refine bodyPost_ret (results_tmp2 rfl _ _ _) rfl ?_
    exact ⟨NB.out, none, 0, [], false, rfl, .inr ⟨HNo.out, rfl, rfl⟩, .inl ⟨rfl, rfl⟩⟩

/-- The cells that CrossTurn of the specification has filled after p rounds. -/
def Turned (l : List Int) (k p : Nat) (C : Array Value) : Prop :=
  C.size = l.length ∧ (∀ q, q < p → C[(q + k) % l.length]? = some (Value.int .i64 (turnV l k q)))
theorem Turned.zero (l : List Int) (k : Nat) : Turned l k 0 (madeCells #[Value.int .i64 0] l.length) :=
  ⟨size_madeCells _ _, fun i h => absurd h (by omega)⟩
theorem Turned.step {l : List Int} {k p : Nat} {C : Array Value} (h : Turned l k p C) (hp : p < l.length) : Turned l k (p + 1) (C.setIfInBounds ((p + k) % l.length) (.int .i64 (turnV l k p))) := by
  refine ⟨by simpa using h.1, fun q hq => ?_⟩
  rw [Array.getElem?_setIfInBounds]
  have hlt : (p + k) % l.length < l.length := Nat.mod_lt _ (by omega)
  by_cases e : (p + k) % l.length = (q + k) % l.length
  · rw [if_pos e, if_pos (by rw [h.1]; exact hlt)]
    have := turn_inj hp (by omega) e
    rw [this]
  · rw [if_neg e]
    exact h.2 q (by
      rcases Nat.lt_or_ge q p with h1 | h1
      · exact h1
      · exact absurd (by rw [show q = p by omega]) e)
theorem Turned.all {l : List Int} {k : Nat} {C : Array Value} (h : Turned l k l.length C) : ∀ (j : Nat) (x : Int), (turnL l k)[j]? = some x → C[j]? = some (.int .i64 x) := fun j x hj => by
  have hlt := (List.getElem?_eq_some_iff.1 hj).1
  rw [turnL_length] at hlt
  have hq : (j + (l.length - k % l.length)) % l.length < l.length := Nat.mod_lt _ (by omega)
  have h1 := h.2 _ hq
  have h2 := turnL_at (k := k) hq
  rw [turn_inv hlt] at h1 h2
  rw [h2] at hj
  cases hj
  exact h1
end Go.Proofs.Ytagnecclhmbofaa
