/- Sewing of the program: end, rounds, loose, sew, by their contracts. -/
import Derived.Test.YtkkifpjeafchnaaSewI
namespace Go.Proofs.Ytkkifpjeafchnaa
open Go.RowKit Go.Shelf

theorem natsI_at {l : List Nat} {k x : Nat} (h : l[k]? = some x) : (natsI l)[k]? = some (x : Int) := by simp [natsI, h]
theorem pathTo_last (p : Nat) (s t : Nat → Nat) (k : Nat) : (pathTo s t p (k + 1))[2 * k + 1]? = some (s (goN s t k p)) := by
  have hl := pathTo_length p s t k
  unfold pathTo at hl ⊢
  rw [List.range_succ, List.flatMap_append, List.getElem?_append_right (by omega), hl, show 2 * k + 1 - 2 * k = 1 by omega]
  rfl

set_option maxRecDepth 100000 in
set_option maxHeartbeats 4000000 in
theorem end_any (v : Value) (B N p : Nat) (s t : Nat → Nat) (w : World) (hsw : Sewn N s t) (h : SewR w B v N s t) (hB : B ≤ w.heap.size) (hN : N ≤ 40) (hp : p < N) :
    Calls Try.prog 139 #[v, .int .i64 (p : Int)] w fun e w' => e = .returned (.int .i64 ((pend N s t p : Nat) : Int)) ∧ Below w.heap.size w w' := by
  have HPA := hid (fun W (hb : Below w.heap.size w W) => path_any v B N p s t W hsw (h.below hb hB) (Nat.le_trans hB hb.size) hN hp)
  obtain ⟨hL1, hL2, _, _⟩ := plen_facts hsw hp
  have HPE := hid (show pend N s t p = s (goN s t (plen N s t p - 1) p) from rfl)
  obtain ⟨L, hL⟩ : ∃ L, plen N s t p = L + 1 := ⟨plen N s t p - 1, by omega⟩
  rw [hL] at HPA HPE hL2
  rw [Nat.add_sub_cancel] at HPE
  have HLA := hid (natsI_at (pathTo_last p s t L))
  rw [← HPE.out] at HLA
  have HLN := hid ((natsI_length (pathTo s t p (L + 1))).trans (pathTo_length p s t (L + 1)))
  generalize pend N s t p = pe at *
  generalize natsI (pathTo s t p (L + 1)) = PT at *
  generalize onS N s t p = ob at *
  obtain ⟨A1, c1, A2, c2, rfl, _, _⟩ := h
  have hL20 : L + 1 ≤ 40 := by omega
  have H0 := hid (heap_new0 w (.cells #[.slice A1 N c1, .slice A2 N c2] 166))
  have HB := hid ((Below.refl w.heap.size w).alloc (Nat.le_refl _) (.cells #[.slice A1 N c1, .slice A2 N c2] 166))
  clear hsw hL hL1 hL2 hN hB
  go_enter Try.func139, Try.ntmps139
  go_wp2_with (refine wpList_load_row rfl 166 _ rfl w.heap.size rfl 166 #[.slice A1 N c1, .slice A2 N c2] (0, 0) _ H0.out Try.underlying166 rfl Try.size_sewing ?_)
  generalize World.alloc w _ = Y at H0 HB ⊢
  refine (HPA.out _ HB.out).mono ?_
  rintro e w1 ⟨⟨v', rfl, hg⟩, hb⟩
  obtain ⟨A, c, rfl, hints⟩ := hg.ints
  have HB1 := hid (HB.out.trans (hb.mono HB.out.size))
  obtain ⟨b, off, x, rfl, _, hx, hcx⟩ := hints.at_ (k := 2 * L + 1) (by rw [HLN.out]; omega)
  rw [HLA.out] at hx
  obtain rfl := Option.some.inj hx
  rw [HLN.out]
  obtain ⟨K, hK⟩ : ∃ K, 2 * (L + 1) = K := ⟨_, rfl⟩
  have hK1 : 2 * L + 1 = K - 1 := by omega
  rw [hK1] at hcx
  rw [hK]
  have hKi : 2 ≤ (K : Int) := by omega
  have hKi2 : (K : Int) ≤ 80 := by omega
  have hKs : (K : Int) - 1 = ((K - 1 : Nat) : Int) := by omega
  have hKl : K - 1 < K := by omega
  clear hg hb hints hx hK hK1
  go_wp2_with fail
  go_ret
  exact ⟨rfl, HB1.out⟩

/-- The numbers from a on, of so many, that are loose. -/
def looseL (t : Nat → Nat) (a k : Nat) : List Nat := ((List.range k).map fun i => a + i).filter fun i => t i == i
theorem looseL_yes {t : Nat → Nat} {a k : Nat} (h : t (a + k) = a + k) : looseL t a (k + 1) = looseL t a k ++ [a + k] := by
  unfold looseL
  rw [List.range_succ, List.map_append, List.filter_append]
  simp [h]
theorem looseL_no {t : Nat → Nat} {a k : Nat} (h : t (a + k) ≠ a + k) : looseL t a (k + 1) = looseL t a k := by
  unfold looseL
  rw [List.range_succ, List.map_append, List.filter_append]
  simp [h]
theorem looseL_le (t : Nat → Nat) (a k : Nat) : (looseL t a k).length ≤ k := by
  have := List.length_filter_le (fun i => t i == i) ((List.range k).map fun i => a + i)
  rw [List.length_map, List.length_range] at this
  exact this

set_option maxRecDepth 100000 in
set_option maxHeartbeats 4000000 in
theorem loose_any (v : Value) (B N a d : Nat) (s t : Nat → Nat) (w : World) (h : SewR w B v N s t) (hB : B ≤ w.heap.size) (hN : N ≤ 40) (hd : a + d ≤ N) :
    Calls Try.prog 136 #[v, .int .i64 (a : Int), .int .i64 ((a + d : Nat) : Int)] w fun e w' => (∃ v', e = .returned v' ∧ GrowI w' w.heap.size v' (natsI (looseL t a d))) ∧ Below w.heap.size w w' := by
  obtain ⟨A1, c1, A2, c2, rfl, _, hi2⟩ := h
  have HI2 := hid hi2
  have HBW := hid hB
  obtain ⟨D, hD⟩ : ∃ D, a + d = D := ⟨_, rfl⟩
  have HD := hid hD
  have hDN : D ≤ N := by omega
  rw [hD]
  clear hi2 hB hd
  have HS0 := hid (heap_new1 w (.cells #[.slice A1 N c1, .slice A2 N c2] 166) (.cells #[] 3))
  have HG0 := hid (growI_new (w.alloc (.cells #[.slice A1 N c1, .slice A2 N c2] 166)) w.heap.size (by simp))
  have HB0 := hid (((Below.refl w.heap.size w).alloc (Nat.le_refl _) (.cells #[.slice A1 N c1, .slice A2 N c2] 166)).alloc (by simp) (.cells #[] 3))
  rw [World.size_alloc] at HG0
  go_enter Try.func136, Try.ntmps136
  go_wp2_with fail
  generalize World.alloc (World.alloc w _) _ = Y at HS0 HG0 HB0 ⊢
  go_loopw [7, 8] (fun (v iv : Value) (wr : World) => ∃ i k : Nat, k ≤ d ∧ Hid (a + k = i) ∧ iv = .int .i64 i ∧ GrowI wr w.heap.size v (natsI (looseL t a k)) ∧ wr.heap[w.heap.size]? = some (.cells #[.slice A1 N c1, .slice A2 N c2] 166 (0, 0)) ∧ Below w.heap.size w wr) (fun _ i _ => D - (intOf i).toNat)
  case atStart => exact ⟨a, 0, by omega, hid rfl, rfl, HG0.out, HS0.out, HB0.out⟩
  case round =>
    obtain ⟨i, k, hk, hik, rfl, hg, hs0, hb⟩ := hrel
    have HIK := hik
    have HG := hid hg
    have HSR := hid hs0
    have HB := hid hb
    have hiD : i ≤ D := by have := HIK.out; have := HD.out; omega
    clear hik hg hs0 hb
    by_cases hlt : i < D
    · have hkd : k < d := by have := HIK.out; have := HD.out; omega
      obtain ⟨b2, o2, x2, rfl, hb2, hx2, hcx2⟩ := (HI2.out.below HB.out HBW.out).at_ (k := i) (by rw [othersL_length]; omega)
      rw [othersL_at (by omega)] at hx2
      obtain rfl := Option.some.inj hx2
      have hcs2 : wr.cell? ⟨w.heap.size, 1, none⟩ = some (.slice (some ⟨b2, o2, none⟩) N c2) := by rw [cell_of_row _ _ _ _ _ _ HSR.out]; rfl
      have hiN : (i : Int) < (N : Int) := by omega
      have hiDi : (i : Int) < (D : Int) := by omega
      clear hb2 hx2
      by_cases hl : t i = i
      · rw [if_pos hl] at hcx2
        have HLY := hid (show natsI (looseL t a (k + 1)) = natsI (looseL t a k) ++ [(i : Int)] by
          rw [looseL_yes (by rw [HIK.out]; exact hl), HIK.out]
          unfold natsI
          rw [List.map_append]
          rfl)
        have HLE := hid (show (natsI (looseL t a k)).length ≤ 40 by rw [natsI_length]; have := looseL_le t a k; have := HIK.out; omega)
        clear hl
        go_wp2_with (at_builtin; refine wpList_appendI rfl _ _ rfl w.heap.size u7 (natsI (looseL t a k)) rfl (World.ownsRow.alloc HG.out _) _ 1 rfl (i : Int) (cell_newI _ _) ?c3 (Nat.le_trans HB.out.size (by simp)) ?_)
        case c3 => have := HLE.out; omega
        intro v3 w3 hgr3 hgw3 _
        have HS3 := hid (grownI_heap (World.ownsRow.alloc HG.out _) hgw3 ((Below.heap_alloc _ _ _ (lt_of_block HSR.out)).trans HSR.out) (by decide))
        have HB3 := hid ((HB.out.alloc HB.out.size _).grown hgw3 (Nat.le_trans HB.out.size (by simp)) (fun k e => (World.ownsRow.lt HG.out k e).1))
        have HG3 := hid (show GrowI w3 w.heap.size v3 (natsI (looseL t a (k + 1))) by rw [HLY.out]; exact hgr3)
        clear hgr3 hgw3 hcs2 hcx2
        go_wp2_with fail
        go_roundw
        case rel => exact ⟨i + 1, k + 1, by omega, hid (by have := HIK.out; omega), by go_num, HG3.out, HS3.out, HB3.out⟩
        case measure => simp [intOf]; omega
      · rw [if_neg hl] at hcx2
        have HLN := hid (show natsI (looseL t a (k + 1)) = natsI (looseL t a k) by rw [looseL_no (by rw [HIK.out]; exact hl)])
        have hne : (((t i : Nat) : Int) == -1) = false := by simp
        generalize t i = ti at *
        clear hl
        go_wp2_with fail
        go_roundw
        case rel => exact ⟨i + 1, k + 1, by omega, hid (by have := HIK.out; omega), by go_num, by rw [HLN.out]; exact HG.out, HSR.out, HB.out⟩
        case measure => simp [intOf]; omega
    · obtain rfl : i = D := by omega
      have HK := hid (show k = d by have := HIK.out; have := HD.out; omega)
      go_wp2_with fail
      go_ret
      exact ⟨⟨_, rfl, by rw [← HK.out]; exact HG.out⟩, HB.out⟩

set_option maxRecDepth 100000 in
set_option maxHeartbeats 4000000 in
theorem sewRounds_any (v : Value) (B N : Nat) (s t : Nat → Nat) (w : World) (hsw : Sewn N s t) (h : SewR w B v N s t) (hB : B ≤ w.heap.size) (hN : N ≤ 40) :
    Calls Try.prog 134 #[v] w fun e w' => e = .returned (.int .i64 ((roundsTo N s t N : Nat) : Int)) ∧ Below w.heap.size w w' := by
  have HPA := hid (fun p W (hp : p < N) (hb : Below w.heap.size w W) => path_any v B N p s t W hsw (h.below hb hB) (Nat.le_trans hB hb.size) hN hp)
  have HL1 := hid (fun p (hp : p < N) => (plen_facts hsw hp).1)
  have HL2 := hid (fun p (hp : p < N) => (plen_facts hsw hp).2.1)
  have HLI := hid (fun p (hp : p < N) => leadS_iff hsw hp)
  have HPR := hid (fun p q (hp : p < N) (ho : onS N s t p = true) => path_ring (q := q) hsw hp ho)
  have HYES := hid (fun x (hx : leadS N s t x = true) => roundsTo_yes hx)
  have HNO := hid (fun x (hx : leadS N s t x = false) => roundsTo_no hx)
  have HLE := hid (roundsTo_le (N := N) (s := s) (t := t))
  have HZ := hid (roundsTo_zero (N := N) (s := s) (t := t))
  obtain ⟨A1, c1, A2, c2, rfl, _, _⟩ := h
  have H0 := hid (heap_new0 w (.cells #[.slice A1 N c1, .slice A2 N c2] 166))
  have HB := hid ((Below.refl w.heap.size w).alloc (Nat.le_refl _) (.cells #[.slice A1 N c1, .slice A2 N c2] 166))
  have hc0 : (w.alloc (.cells #[.slice A1 N c1, .slice A2 N c2] 166)).cell? ⟨w.heap.size, 0, none⟩ = some (.slice A1 N c1) := by rw [cell_of_row _ _ _ _ _ _ H0.out]; rfl
  generalize roundsTo N s t = RT at *
  clear hsw hB
  go_enter Try.func134, Try.ntmps134
  go_wp2_with fail
  clear hc0
  generalize World.alloc w _ = Y at H0 HB ⊢
  go_loopw [3, 10] (fun (v iv : Value) (wr : World) => ∃ k : Nat, k ≤ N ∧ iv = .int .i64 k ∧ v = .int .i64 ((RT k : Nat) : Int) ∧ wr.heap[w.heap.size]? = some (.cells #[.slice A1 N c1, .slice A2 N c2] 166 (0, 0)) ∧ Below w.heap.size w wr) (fun _ i _ => N - (intOf i).toNat)
  case atStart => exact ⟨0, by omega, rfl, by rw [HZ.out]; rfl, H0.out, HB.out⟩
  case round =>
    obtain ⟨k, hk, rfl, rfl, hs0, hb⟩ := hrel
    have HSR := hid hs0
    have HBr := hid hb
    clear hs0 hb
    by_cases hlt : k < N
    · have hki : (k : Int) < (N : Int) := by omega
      obtain ⟨rk, hrk⟩ : ∃ rk, RT k = rk := ⟨_, rfl⟩
      have HRK := hid hrk
      have hrk40 : (rk : Int) ≤ 40 := by have := HLE.out k; omega
      rw [hrk]
      clear hrk
      go_wp2_with (refine wpList_load_row rfl 166 _ rfl w.heap.size rfl 166 #[.slice A1 N c1, .slice A2 N c2] (0, 0) _ HSR.out Try.underlying166 rfl Try.size_sewing ?_)
      refine (HPA.out k _ hlt HBr.out).mono ?_
      rintro e w1 ⟨⟨v', rfl, hg⟩, hb⟩
      obtain ⟨A, c, rfl, hints⟩ := hg.ints
      have HINT := hid hints
      have HS1 := hid ((hb.block _ (lt_of_block HSR.out)).trans HSR.out)
      have HB1 := hid (HBr.out.trans (hb.mono HBr.out.size))
      have HLK := hid ((natsI_length (pathTo s t k (plen N s t k))).trans (pathTo_length k s t (plen N s t k)))
      clear hg hb hints
      cases hon : onS N s t k with
      | false =>
        have HNOK := hid (HNO.out k (by unfold leadS; rw [hon]; rfl))
        clear hon
        go_wp2_with fail
        go_roundw
        case rel => exact ⟨k + 1, by omega, by go_num, by rw [HNOK.out, HRK.out], HS1.out, HB1.out⟩
        case measure => simp [intOf]; omega
      | true =>
        have HON := hid hon
        have HMI := hid (fun W (hb : Below w1.heap.size w1 W) => min_any A c w1.heap.size (natsI (pathTo s t k (plen N s t k))) W (HINT.out.below hb (Nat.le_refl _)) (by rw [HLK.out]; have := HL1.out k hlt; omega) (by rw [HLK.out]; have := HL2.out k hlt; omega))
        have HMEM := hid (show ∀ x : Int, MinTo (natsI (pathTo s t k (plen N s t k))) (natsI (pathTo s t k (plen N s t k))).length x → (leadS N s t k = true ↔ x = (k : Int)) from fun x ⟨⟨j, hj, hjx⟩, hall⟩ => by
          have mem : ∀ q, ringS s t k q → x ≤ (q : Int) := fun q hq => by
            obtain ⟨i, hi⟩ := List.getElem?_of_mem ((HPR.out k q hlt HON.out).2 hq)
            have h1 := natsI_at hi
            exact hall i _ (List.getElem?_eq_some_iff.1 h1).1 h1
          have xin : ∃ q : Nat, x = (q : Int) ∧ ringS s t k q := by
            unfold natsI at hjx
            rw [List.getElem?_map] at hjx
            cases hq : (pathTo s t k (plen N s t k))[j]? with
            | none => rw [hq] at hjx; cases hjx
            | some q =>
              rw [hq] at hjx
              exact ⟨q, (Option.some.inj hjx).symm, (HPR.out k q hlt HON.out).1 (List.mem_of_getElem? hq)⟩
          obtain ⟨q, rfl, hq⟩ := xin
          rw [HLI.out k hlt]
          constructor
          · rintro ⟨_, h2⟩
            have h3 := h2 q hq
            have h4 := mem k (ring_refl k)
            omega
          · intro e
            refine ⟨HON.out, fun z hz => ?_⟩
            have := mem z hz
            omega)
        generalize (natsI (pathTo s t k (plen N s t k))).length = PL at *
        clear hon
        go_wp2_with fail
        refine (HMI.out _ (Below.refl _ _)).mono ?_
        rintro e w2 ⟨⟨x, rfl, hx⟩, rfl⟩
        have HX := hid (HMEM.out x hx)
        clear hx
        by_cases hxk : x = (k : Int)
        · have HY := hid (HYES.out k (HX.out.2 hxk))
          have hxb : (x == (k : Int)) = true := by simpa using hxk
          clear hxk
          go_wp2_with fail
          go_roundw
          case rel => exact ⟨k + 1, by omega, by go_num, by rw [HY.out, HRK.out]; go_num, HS1.out, HB1.out⟩
          case measure => simp [intOf]; omega
        · have HNK := hid (HNO.out k (by rw [Bool.eq_false_iff]; exact fun h => hxk (HX.out.1 h)))
          have hxb : (x == (k : Int)) = false := by simpa using hxk
          clear hxk
          go_wp2_with fail
          go_roundw
          case rel => exact ⟨k + 1, by omega, by go_num, by rw [HNK.out, HRK.out], HS1.out, HB1.out⟩
          case measure => simp [intOf]; omega
    · obtain rfl : k = N := by omega
      go_wp2_with fail
      go_ret
      exact ⟨rfl, HBr.out⟩
end Go.Proofs.Ytkkifpjeafchnaa
