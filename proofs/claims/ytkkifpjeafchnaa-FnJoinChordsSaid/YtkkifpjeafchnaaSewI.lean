/- Ports that are sewn, of the program: slices.Min, path, end, loose, rounds, by their contracts. -/
import Derived.Test.YtkkifpjeafchnaaSewM
import Derived.Test.YtkkifpjeafchnaaRenM
import Derived.Test.YtkkifpjeafchnaaJoinSt
namespace Go.Proofs.Ytkkifpjeafchnaa
open Go.RowKit Go.Shelf

/-- The list that tells to what ports are sewn. -/
def othersL (N : Nat) (t : Nat → Nat) : List Int := (List.range N).map fun i => if t i = i then (-1 : Int) else ((t i : Nat) : Int)
theorem othersL_length (N : Nat) (t : Nat → Nat) : (othersL N t).length = N := by simp [othersL]
theorem othersL_at {N i : Nat} {t : Nat → Nat} (h : i < N) : (othersL N t)[i]? = some (if t i = i then (-1 : Int) else ((t i : Nat) : Int)) := by simp [othersL, h]
/-- The integers are numbers. -/
def natsI (l : List Nat) : List Int := l.map fun x : Nat => (x : Int)
theorem natsI_length (l : List Nat) : (natsI l).length = l.length := by simp [natsI]
/-- The value is a sewing whose lists read so. -/
def SewR (w : World) (B : Nat) (v : Value) (N : Nat) (s t : Nat → Nat) : Prop :=
  ∃ A1 c1 A2 c2, v = .agg #[.slice A1 N c1, .slice A2 N c2] ∧ Ints w B A1 (listS N s) ∧ Ints w B A2 (othersL N t)
theorem SewR.below {w w' : World} {B B' : Nat} {v : Value} {N : Nat} {s t : Nat → Nat} (h : SewR w B v N s t) (hb : Below B' w w') (hB : B ≤ B') : SewR w' B v N s t := by
  obtain ⟨A1, c1, A2, c2, e, h1, h2⟩ := h
  exact ⟨A1, c1, A2, c2, e, h1.below hb hB, h2.below hb hB⟩
theorem SewR.more {w : World} {B B' : Nat} {v : Value} {N : Nat} {s t : Nat → Nat} (h : SewR w B v N s t) (hB : B ≤ B') : SewR w B' v N s t := by
  obtain ⟨A1, c1, A2, c2, e, h1, h2⟩ := h
  exact ⟨A1, c1, A2, c2, e, h1.more hB, h2.more hB⟩

/-- An integer that is least among the first ones. -/
def MinTo (l : List Int) (k : Nat) (x : Int) : Prop := (∃ j, j < k ∧ l[j]? = some x) ∧ ∀ j y, j < k → l[j]? = some y → x ≤ y
theorem MinTo.keep {l : List Int} {k : Nat} {x y : Int} (h : MinTo l k x) (hk : l[k]? = some y) (hxy : x ≤ y) : MinTo l (k + 1) x := by
  obtain ⟨⟨j, hj, e⟩, h2⟩ := h
  refine ⟨⟨j, by omega, e⟩, fun i z hi hz => ?_⟩
  rcases Nat.lt_or_ge i k with h3 | h3
  · exact h2 i z h3 hz
  · obtain rfl : i = k := by omega
    rw [hk] at hz
    obtain rfl := Option.some.inj hz
    exact hxy
theorem MinTo.turn {l : List Int} {k : Nat} {x y : Int} (h : MinTo l k x) (hk : l[k]? = some y) (hxy : y ≤ x) : MinTo l (k + 1) y := by
  obtain ⟨_, h2⟩ := h
  refine ⟨⟨k, by omega, hk⟩, fun i z hi hz => ?_⟩
  rcases Nat.lt_or_ge i k with h3 | h3
  · have := h2 i z h3 hz
    omega
  · obtain rfl : i = k := by omega
    rw [hk] at hz
    obtain rfl := Option.some.inj hz
    exact Int.le_refl _

set_option maxRecDepth 100000 in
set_option maxHeartbeats 2000000 in
theorem min_any (A : Option Addr) (c B : Nat) (l : List Int) (w : World) (h : Ints w B A l) (h0 : 0 < l.length) (hn : l.length ≤ 1000) :
    Calls Try.prog 170 #[.slice A l.length c] w fun e w' => (∃ x : Int, e = .returned (.int .i64 x) ∧ MinTo l l.length x) ∧ w = w' := by
  have HI := hid h
  obtain ⟨b, off, x0, rfl, hb, hx0, hc0⟩ := h.at_ h0
  rw [Nat.add_zero] at hc0
  have HM0 := hid (show MinTo l 1 x0 from ⟨⟨0, by omega, hx0⟩, fun j y hj hy => by
    obtain rfl : j = 0 := by omega
    rw [hx0] at hy
    obtain rfl := Option.some.inj hy
    exact Int.le_refl _⟩)
  obtain ⟨n, hnl⟩ : ∃ n, l.length = n := ⟨_, rfl⟩
  have HNL := hid hnl
  rw [hnl] at h0 hn ⊢
  have hni : ¬ (n : Int) < 1 := by omega
  clear h hx0 hnl hb
  go_enter Try.func170, Try.ntmps170
  go_wp2_with fail
  go_loopw [3, 4] (fun (v iv : Value) (wr : World) => ∃ (k : Nat) (x : Int), 1 ≤ k ∧ k ≤ n ∧ iv = .int .i64 k ∧ v = .int .i64 x ∧ Hid (MinTo l k x) ∧ w = wr) (fun _ i _ => n - (intOf i).toNat)
  case atStart => exact ⟨1, x0, by omega, by omega, rfl, rfl, HM0, rfl⟩
  case round =>
    obtain ⟨k, x, hk1, hk, rfl, rfl, hm, rfl⟩ := hrel
    have HM := hm
    clear hm
    by_cases hlt : k < n
    · obtain ⟨b', off', y, hA, _, hy, hcy⟩ := HI.out.at_ (k := k) (by rw [HNL.out]; exact hlt)
      obtain ⟨rfl, rfl⟩ : b = b' ∧ off = off' := by cases hA; exact ⟨rfl, rfl⟩
      have HY := hid hy
      have hki : (k : Int) < (n : Int) := by omega
      clear hA hy
      by_cases hxy : y < x
      · have hxl : y ≤ x := by omega
        have HT := hid (HM.out.turn HY.out hxl)
        go_wp2_with fail
        go_roundw
        case rel => exact ⟨k + 1, y, by omega, by omega, by go_num, by first | rfl | (congr 1; omega), HT, by first | rfl | trivial⟩
        case measure => simp [intOf]; omega
      · have hxl : x ≤ y := by omega
        have HT := hid (HM.out.keep HY.out hxl)
        go_wp2_with fail
        go_roundw
        case rel => exact ⟨k + 1, x, by omega, by omega, by go_num, by first | rfl | (congr 1; omega), HT, by first | rfl | trivial⟩
        case measure => simp [intOf]; omega
    · obtain rfl : k = n := by omega
      go_wp2_with fail
      go_ret
      exact ⟨⟨x, rfl, HM.out⟩, rfl⟩

theorem Try.size_sewing : (Try.prog.info? 166).map (·.size) = some 2 := by kernel_rfl
theorem sew_one (v1 v2 : Value) (h1 : v1.oneCell' = true) (h2 : v2.oneCell' = true) : (#[v1, v2] : Array Value).all (·.oneCell') = true := by
  rw [Array.all_eq_true_iff_forall_mem]
  intro u hu
  simp at hu
  rcases hu with rfl | rfl
  · exact h1
  · exact h2
theorem natsI_two (p : Nat) (s t : Nat → Nat) (k : Nat) : natsI (pathTo s t p (k + 1)) = natsI (pathTo s t p k) ++ [((goN s t k p : Nat) : Int), ((s (goN s t k p) : Nat) : Int)] := by
  unfold natsI pathTo
  rw [List.range_succ, List.flatMap_append, List.map_append]
  rfl
theorem pathTo_length (p : Nat) (s t : Nat → Nat) : ∀ k, (pathTo s t p k).length = 2 * k
  | 0 => rfl
  | k + 1 => by
    have ih := pathTo_length p s t k
    unfold pathTo at ih ⊢
    rw [List.range_succ, List.flatMap_append, List.length_append, ih]
    simp
    omega
section
variable {ops : Array Oper} {rest : List Oper} {o : Oper} {a : Act} {w : World} {Q : Exit → Act → World → Prop}
/-- Two integers appended. -/
theorem wpList_appendI2 (hgd : o.guard = none) (s x : Operand) (ho : o.op = .call { callee := .builtin .append, args := #[s, x], argTypes := #[25, 25] })
    (base : Nat) (v : Value) (l : List Int) (hs : a.eval s = v) (hown : GrowI w base v l) (h c : Nat) (hx : a.eval x = .slice (some ⟨h, 0, none⟩) 2 c) (b1 b2 : Int) (hc1 : w.cell? ⟨h, 0, none⟩ = some (.int .i64 b1)) (hc2 : w.cell? ⟨h, 1, none⟩ = some (.int .i64 b2))
    (hl : l.length ≤ 1000000) (hbase : base ≤ w.heap.size)
    (hk : ∀ v' w', GrowI w' base v' (l ++ [b1, b2]) → w.grownBy w' v.ownBlock → (v'.ownBlock = v.ownBlock ∨ v'.ownBlock = some w.heap.size) → wpList Try.prog ops Q rest (a.put o.dst v') w') : wpList Try.prog ops Q (o :: rest) a w := by
  obtain ⟨i0, hi, hz0, hz1, hz2⟩ := info_parts Try.info_int
  refine wpList_append_own_at w hgd s x 25 ho base 3 i0 (.int .i64 0) 1 8 Try.underlying25 hi hz0 hz1 hz2 rfl (by decide) v l.length (intsV l) hs hown ⟨h, 0, none⟩ 2 c [.int .i64 b1, .int .i64 b2] hx rfl ?_ ?_ (by unfold maxLen; omega) (by omega) hbase ?_
  · intro j u hj
    match j, hj with
    | 0, hj => simp at hj; subst hj; simpa [Addr.add] using hc1
    | 1, hj => simp at hj; subst hj; simpa [Addr.add] using hc2
    | j + 2, hj => simp at hj
  · intro u hu; simp at hu; rcases hu with rfl | rfl <;> rfl
  · intro v' w' h1 h2 _ h4
    refine hk v' w' ?_ h2 h4
    unfold GrowI intsV
    rw [List.length_append, List.map_append]
    exact h1
end

/-- A block of another type outlives the growth of a slice of integers. -/
theorem grownI_heap {base b : Nat} {W W' : World} {v : Value} {l : List Int} {cs : Array Value} {t : TypeId} (hrow : GrowI W base v l) (hg : W.grownBy W' v.ownBlock) (hb : W.heap[b]? = some (.cells cs t (0, 0))) (ht : t ≠ 3) : W'.heap[b]? = some (.cells cs t (0, 0)) := by
  refine (hg.block b (lt_of_block hb) ?_).trans hb
  rcases hrow.2 with ⟨rfl, _⟩ | ⟨g', cap, cur, rfl, _, hgb, _⟩
  · simp [Value.ownBlock]
  · intro e'
    have : b = g' := by simpa [Value.ownBlock] using e'
    subst this
    rw [hb] at hgb
    cases hgb
    exact ht rfl
set_option maxRecDepth 100000 in
set_option maxHeartbeats 4000000 in
theorem path_any (v : Value) (B N p : Nat) (s t : Nat → Nat) (w : World) (hsw : Sewn N s t) (h : SewR w B v N s t) (hB : B ≤ w.heap.size) (hN : N ≤ 40) (hp : p < N) :
    Calls Try.prog 169 #[v, .int .i64 (p : Int)] w fun e w' => (∃ v', e = .returned (.tuple #[v', .bool (onS N s t p)]) ∧ GrowI w' w.heap.size v' (natsI (pathTo s t p (plen N s t p)))) ∧ Below w.heap.size w w' := by
  obtain ⟨A1, c1, A2, c2, rfl, hi1, hi2⟩ := h
  have HI1 := hid hi1
  have HI2 := hid hi2
  have HBW := hid hB
  have HSW := hid hsw
  obtain ⟨hL1, hL2, hL3, hL4⟩ := plen_facts hsw hp
  have HL3 := hid hL3
  have HL4 := hid hL4
  have HON := hid (show onS N s t p = (t (pend N s t p) != pend N s t p) from rfl)
  have HPE := hid (show pend N s t p = s (goN s t (plen N s t p - 1) p) from rfl)
  generalize onS N s t p = ob at *
  generalize pend N s t p = pe at *
  generalize plen N s t p = L at *
  have HPN := hid hp
  have HTW := hid (fun k => natsI_two p s t k)
  have HLN := hid (fun k => (natsI_length (pathTo s t p k)).trans (pathTo_length p s t k))
  have HP0 := hid (show natsI (pathTo s t p 0) = [] from rfl)
  generalize hPT : (fun k => natsI (pathTo s t p k)) = PT at *
  have HPT := hid (fun k => congrFun hPT k)
  clear hPT hi1 hi2 hB hsw hL3 hL4
  have HS0 := hid (heap_new1 w (.cells #[.slice A1 N c1, .slice A2 N c2] 166) (.cells #[] 3))
  have HG0 := hid (growI_new (w.alloc (.cells #[.slice A1 N c1, .slice A2 N c2] 166)) w.heap.size (by simp))
  have HB0 := hid (((Below.refl w.heap.size w).alloc (Nat.le_refl _) (.cells #[.slice A1 N c1, .slice A2 N c2] 166)).alloc (by simp) (.cells #[] 3))
  go_enter Try.func169, Try.ntmps169
  go_wp2_with fail
  rw [World.size_alloc] at HG0
  generalize World.alloc (World.alloc w _) _ = Y at HS0 HG0 HB0 ⊢
  go_loopg [6, 7] 41 (fun (f : Nat) (v iv : Value) (wr : World) => ∃ (k x : Nat), f + k = 41 ∧ k < L ∧ Hid (x = goN s t k p) ∧ iv = .int .i64 x ∧ GrowI wr w.heap.size v (PT k) ∧ wr.heap[w.heap.size]? = some (.cells #[.slice A1 N c1, .slice A2 N c2] 166 (0, 0)) ∧ Below w.heap.size w wr)
  case atStart => exact ⟨0, p, by omega, by omega, hid rfl, rfl, by rw [← HPT.out, HP0.out]; exact HG0.out, HS0.out, HB0.out⟩
  case round =>
    obtain ⟨k, x, hf, hk, hx, rfl, hg, hs0, hb⟩ := hrel
    have HX := hx
    have HG := hid hg
    have HSR := hid hs0
    have HB := hid hb
    clear hx hg hs0 hb
    have hxN : x < N := by rw [HX.out]; exact goN_lt HSW.out HPN.out k
    have hyN : s x < N := HSW.out.slt x hxN
    obtain ⟨y, hy⟩ : ∃ y, s x = y := ⟨_, rfl⟩
    have HY := hid hy
    rw [hy] at hyN
    have hzN : t y < N := HSW.out.tlt y hyN
    obtain ⟨z, hz⟩ : ∃ z, t y = z := ⟨_, rfl⟩
    have HZ := hid hz
    rw [hz] at hzN
    obtain ⟨b1, o1, x1, rfl, hb1, hx1, hcx1⟩ := (HI1.out.below HB.out HBW.out).at_ (k := x) (by rw [listS_length]; exact hxN)
    rw [listS_at hxN, hy] at hx1
    obtain rfl := Option.some.inj hx1
    have hcs1 : wr.cell? ⟨w.heap.size, 0, none⟩ = some (.slice (some ⟨b1, o1, none⟩) N c1) := by rw [cell_of_row _ _ _ _ _ _ HSR.out]; rfl
    have hxi : (x : Int) < (N : Int) := by omega
    clear hb1 hx1 hy hz
    go_wp2_with (at_builtin; refine wpList_appendI2 rfl _ _ rfl w.heap.size u6 (PT k) rfl (World.ownsRow.alloc HG.out _) _ 2 rfl (x : Int) (y : Int) ?c1 ?c2 ?c3 (Nat.le_trans HB.out.size (by simp)) ?_)
    case c1 => rw [cell_of_row _ _ _ _ _ _ (heap_new0 wr _)]; rfl
    case c2 => rw [cell_of_row _ _ _ _ _ _ (heap_new0 wr _)]; rfl
    case c3 => have h1 := HLN.out k; rw [HPT.out k] at h1; omega
    intro v3 w3 hgr3 hgw3 _
    have HS3 := hid (grownI_heap (World.ownsRow.alloc HG.out _) hgw3 ((Below.heap_alloc _ _ _ (lt_of_block HSR.out)).trans HSR.out) (by decide))
    have HB3 := hid ((HB.out.alloc HB.out.size _).grown hgw3 (Nat.le_trans HB.out.size (by simp)) (fun k e => (World.ownsRow.lt HG.out k e).1))
    have HG3 := hid (show GrowI w3 w.heap.size v3 (PT (k + 1)) by rw [← HPT.out, HTW.out, ← HX.out, HY.out, HPT.out]; exact hgr3)
    clear hgr3 hgw3 hcs1 hcx1
    obtain ⟨b2, o2, x2, rfl, hb2, hx2, hcx2⟩ := (HI2.out.below HB3.out HBW.out).at_ (k := y) (by rw [othersL_length]; exact hyN)
    rw [othersL_at hyN, HZ.out] at hx2
    obtain rfl := Option.some.inj hx2
    have hcs2 : w3.cell? ⟨w.heap.size, 1, none⟩ = some (.slice (some ⟨b2, o2, none⟩) N c2) := by rw [cell_of_row _ _ _ _ _ _ HS3.out]; rfl
    have hyi : (y : Int) < (N : Int) := by omega
    clear hb2 hx2
    have HGN := hid (show goN s t (k + 1) p = z by
      show t (s (goN s t k p)) = z
      rw [← HX.out, HY.out, HZ.out])
    have hlast : (z = y ∨ z = p) → L = k + 1 := fun h => by
      rcases Nat.lt_or_ge (k + 1) L with h1 | h1
      · have h2 := HL4.out k h1
        rw [← HX.out, HY.out, HZ.out, HGN.out] at h2
        rcases h with h | h
        · exact absurd h h2.1
        · exact absurd h h2.2
      · omega
    have hgo : ¬ (z = y ∨ z = p) → k + 1 < L := fun h => by
      rcases Nat.lt_or_ge (k + 1) L with h1 | h1
      · exact h1
      · exfalso
        obtain rfl : L = k + 1 := by omega
        rw [HPE.out, Nat.add_sub_cancel, ← HX.out, HY.out, HZ.out, HGN.out] at HL3
        exact h HL3.out
    have hob : L = k + 1 → ob = (z != y) := fun h => by rw [HON.out, HPE.out, h, Nat.add_sub_cancel, ← HX.out, HY.out, HZ.out]
    have HLAST := hid hlast
    have HGO := hid hgo
    have HOB := hid hob
    clear hlast hgo hob
    by_cases hl : z = y
    · rw [if_pos hl] at hcx2
      have HK := hid (HLAST.out (.inl hl))
      have HO := hid (show ob = false by rw [HOB.out HK.out, hl]; simp)
      have hne : ((-1 : Int) == (p : Int)) = false := by simp
      clear hl
      go_wp2_with fail
      refine bodyPost_ret (results_tmp2 rfl _ _ _) rfl ?_
      exact ⟨⟨v3, by rw [HO.out]; rfl, by rw [HK.out, HPT.out]; exact HG3.out⟩, HB3.out⟩
    · rw [if_neg hl] at hcx2
      have hz1 : ((z : Int) == -1) = false := by simp
      by_cases hzp : z = p
      · have HK := hid (HLAST.out (.inr hzp))
        have HO := hid (show ob = true by rw [HOB.out HK.out]; simpa using hl)
        have hne : ((z : Int) == (p : Int)) = true := by rw [hzp]; simp
        clear hl hzp
        go_wp2_with fail
        refine bodyPost_ret (results_tmp2 rfl _ _ _) rfl ?_
        exact ⟨⟨v3, by rw [HO.out]; rfl, by rw [HK.out, HPT.out]; exact HG3.out⟩, HB3.out⟩
      · have HK := hid (HGO.out (fun h => h.elim hl hzp))
        have hne : ((z : Int) == (p : Int)) = false := by rw [beq_eq_false_iff_ne]; intro e; exact hzp (by omega)
        have HGN2 := hid (show z = goN s t (k + 1) p from HGN.out.symm)
        have HLL := hid hL2
        clear hl hzp
        go_wp2_with fail
        go_roundg (gk - 1)
        case measure => have := HK.out; have := HLL.out; omega
        case rel => exact ⟨k + 1, z, by have := HK.out; have := HLL.out; omega, HK.out, HGN2, rfl, HG3.out, HS3.out, HB3.out⟩
end Go.Proofs.Ytkkifpjeafchnaa
