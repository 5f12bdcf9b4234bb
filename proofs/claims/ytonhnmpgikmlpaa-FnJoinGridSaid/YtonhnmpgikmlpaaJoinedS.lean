/- Two pairings joined by the specification: l6jTwo, l6jJoined, by their contracts. -/
import Derived.Test.YtonhnmpgikmlpaaJoinPI
import Derived.Test.YtonhnmpgikmlpaaCloseS
namespace Go.Proofs.Ytonhnmpgikmlpaa
open Go.RowKit Go.Shelf

theorem GrowI.setOther {w : World} {base g k : Nat} {v u : Value} {l : List Int} (h : GrowI w base v l) (hne : v.ownBlock ≠ some g) : GrowI (w.setCell ⟨g, k, none⟩ u) base v l :=
  World.ownsRow.kept h (grownBy_cell w ⟨g, k, none⟩ u) (.inr hne)
theorem GrowI.setSelf {w : World} {base g n c i : Nat} {l : List Int} {x : Int} (h : GrowI w base (.slice (some ⟨g, 0, none⟩) n c) l) : GrowI (w.setCell ⟨g, i, none⟩ (.int .i64 x)) base (.slice (some ⟨g, 0, none⟩) n c) (l.set i x) := by
  rcases h.2 with ⟨h0, _⟩ | ⟨g', cap, cur, hv, hb, hg, h1, h2, h3, h4⟩
  · cases h0
  · cases hv
    refine ⟨?_, .inr ⟨g, c, _, ?_, hb, heap_setCell_same _ _ _ _ _ _ hg, ?_, h2, by simpa using h3, ?_⟩⟩
    · simp [intsV]
    · simp
    · simpa using h1
    · rw [Array.toList_setIfInBounds, set_take]
      have h5 : cur.toList.take (l.length * 1) = intsV l := h4
      simp only [List.length_set]
      rw [h5]
      unfold intsV
      rw [List.map_set]
theorem GrowI.some {w : World} {base g n c : Nat} {l : List Int} (h : GrowI w base (.slice (some ⟨g, 0, none⟩) n c) l) : g < w.heap.size ∧ ∃ cs, w.heap[g]? = some (.cells cs 3 (0, 0)) ∧ l.length ≤ cs.size := by
  rcases h.2 with ⟨h0, _⟩ | ⟨g', cap, cur, hv, _, hg, h1, _, h3, _⟩
  · cases h0
  · cases hv
    exact ⟨lt_of_block hg, cur, hg, by omega⟩
/-- So far the ports in V have their numbers, all others none. -/
def Named (L : List Int) (M : Nat) (V : Nat → Prop) (g : Nat → Nat) : Prop := L.length = M ∧ ∀ i, i < M → (V i → L[i]? = some ((g i : Nat) : Int)) ∧ (¬ V i → L[i]? = some (-1))
theorem Named.none {M : Nat} {V : Nat → Prop} {g : Nat → Nat} (hV : ∀ i, ¬ V i) : Named (List.replicate M (-1)) M V g := ⟨by simp, fun i hi => ⟨fun h => absurd h (hV i), fun _ => by rw [List.getElem?_replicate, if_pos hi]⟩⟩
theorem Named.step {L : List Int} {M i0 x : Nat} {V V' : Nat → Prop} {g : Nat → Nat} (h : Named L M V g) (hi : i0 < M) (hx : g i0 = x) (hV : ∀ i, V' i ↔ V i ∨ i = i0) : Named (L.set i0 (x : Int)) M V' g := by
  refine ⟨by simp [h.1], fun i hiM => ?_⟩
  by_cases e : i = i0
  · subst e
    refine ⟨fun _ => by rw [List.getElem?_set_self (by rw [h.1]; exact hi), hx], fun hn => absurd ((hV i).2 (.inr rfl)) hn⟩
  · rw [List.getElem?_set_ne (fun e2 => e e2.symm)]
    refine ⟨fun hv => (h.2 i hiM).1 (((hV i).1 hv).resolve_right e), fun hn => (h.2 i hiM).2 (fun hv => hn ((hV i).2 (.inl hv)))⟩
theorem Named.congr {L : List Int} {M : Nat} {V V' : Nat → Prop} {g : Nat → Nat} (h : Named L M V g) (hV : ∀ i, i < M → (V' i ↔ V i)) : Named L M V' g :=
  ⟨h.1, fun i hi => ⟨fun hv => (h.2 i hi).1 ((hV i hi).1 hv), fun hn => (h.2 i hi).2 (fun hv => hn ((hV i hi).2 hv))⟩⟩
/-- The partners that have been told of the loose ports below x. -/
def OutTo (C : Array Value) (P M x : Nat) (s t : Nat → Nat) (g : Nat → Nat) : Prop := C.size = P ∧ ∀ i, i < x → t i = i → C[g i]? = some (Value.int .i64 ((g (pend M s t i) : Nat) : Int))
theorem OutTo.step {C : Array Value} {P M x : Nat} {s t g : Nat → Nat} (h : OutTo C P M x s t g) (hinj : ∀ i, i < x → t i = i → g i ≠ g x) (hlt : g x < P) : OutTo (C.setIfInBounds (g x) (.int .i64 ((g (pend M s t x) : Nat) : Int))) P M (x + 1) s t g := by
  refine ⟨by simpa using h.1, fun i hi hl => ?_⟩
  rw [Array.getElem?_setIfInBounds]
  rcases Nat.lt_or_ge i x with h1 | h1
  · rw [if_neg (fun e => hinj i h1 hl e.symm)]
    exact h.2 i h1 hl
  · obtain rfl : i = x := by omega
    rw [if_pos rfl, if_pos (by rw [h.1]; exact hlt)]
theorem OutTo.skip {C : Array Value} {P M x : Nat} {s t g : Nat → Nat} (h : OutTo C P M x s t g) (hl : t x ≠ x) : OutTo C P M (x + 1) s t g :=
  ⟨h.1, fun i hi hli => h.2 i (by
    rcases Nat.lt_or_ge i x with h1 | h1
    · exact h1
    · obtain rfl : i = x := by omega
      exact absurd hli hl) hli⟩
/-- The value that names a port. -/
def nameV (t g : Nat → Nat) (i : Nat) : Int := if t i = i then ((g i : Nat) : Int) else -1
theorem nameV_yes {t g : Nat → Nat} {i : Nat} (h : t i = i) : nameV t g i = ((g i : Nat) : Int) := if_pos h
theorem nameV_no {t g : Nat → Nat} {i : Nat} (h : t i ≠ i) : nameV t g i = -1 := if_neg h
theorem Named.at_ {L : List Int} {M : Nat} {t g : Nat → Nat} (h : Named L M (fun i => t i = i) g) {i : Nat} (hi : i < M) : L[i]? = some (nameV t g i) := by
  by_cases e : t i = i
  · rw [nameV_yes e]
    exact (h.2 i hi).1 e
  · rw [nameV_no e]
    exact (h.2 i hi).2 e
theorem slice_ne {g h n c : Nat} (e : h ≠ g) : (Value.slice (some ⟨h, 0, none⟩) n c).ownBlock ≠ some g := fun x => e (by simpa [Value.ownBlock] using x)
theorem kept_set {w : World} {g h k : Nat} {cs : Array Value} {t : TypeId} {u : Value} (hO : w.heap[h]? = some (.cells cs t (0, 0))) (hn : h ≠ g) : (w.setCell ⟨g, k, none⟩ u).heap[h]? = some (.cells cs t (0, 0)) := ((But.setCell _ _ _).block h (lt_of_block hO) hn).trans hO
theorem MarksAt.other {w : World} {g h k N : Nat} {u : Value} {V : Nat → Prop} (hm : MarksAt w h N V) (hn : h ≠ g) : MarksAt (w.setCell ⟨g, k, none⟩ u) h N V := by
  obtain ⟨cs, h1, h2⟩ := hm
  exact ⟨cs, kept_set h1 hn, h2⟩
theorem takeMap_succ {l : List Int} {p j q : Nat} (h : l[j]? = some (q : Int)) (a : List Int) : a ++ (l.take (j + 1)).map (fun x => x + (p : Int)) = (a ++ (l.take j).map fun x => x + (p : Int)) ++ [(q : Int) + (p : Int)] := by
  obtain ⟨h1, h2⟩ := List.getElem?_eq_some_iff.1 h
  rw [List.take_succ_eq_append_getElem h1, h2, List.map_append, List.append_assoc]
  rfl
theorem two_list {a b : List Int} (ha : IsPair a) (hb : IsPair b) : a ++ (b.take b.length).map (fun x => x + (a.length : Int)) = listS (a.length + b.length) (twoS a.length (mateN a) (mateN b)) := by
  refine listS_all (by simp) fun q hq => ?_
  unfold twoS
  by_cases hqa : q < a.length
  · rw [List.getElem?_append_left hqa, if_pos hqa, (ha.mates hqa).2.2.1]
  · rw [List.getElem?_append_right (by omega), if_neg hqa, List.take_length, List.getElem?_map, (hb.mates (p := q - a.length) (by omega)).2.2.1]
    show some (((mateN b (q - a.length) : Nat) : Int) + (a.length : Int)) = _
    rw [Int.natCast_add, Int.add_comm]

section
variable {ops : Array Oper} {rest : List Oper} {o : Oper} {a : Act} {w : World} {Q : Exit → Act → World → Prop}
theorem wpList_appendNew (hgd : o.guard = none) (s x : Operand) (ho : o.op = .call { callee := .builtin .append, args := #[s, x], argTypes := #[32, 32] }) (h : Nat) (ad : Addr) (c : Nat) (l : List Int)
    (hs : a.eval s = .slice (some ⟨h, 0, none⟩) 0 0) (hx : a.eval x = .slice (some ad) l.length c) (hc : ∀ (j : Nat) u, (intsV l)[j]? = some u → w.cell? (ad.add j) = some u) (h0 : 0 < l.length) (hl : l.length ≤ 1000000)
    (hk : ∀ v' w', GrowI w' w.heap.size v' l → Below w.heap.size w w' → wpList Try.prog ops Q rest (a.put o.dst v') w') : wpList Try.prog ops Q (o :: rest) a w := by
  obtain ⟨v', w', hr, hg, hb⟩ := exec_appendI s x ho h ad c l hs hx hc h0 hl
  exact wpList_exec hgd hr (hk v' w' hg hb)
end

set_option maxRecDepth 100000 in
set_option maxHeartbeats 8000000 in
theorem l6jJoined_any (n m k : Nat) (A A2 : Option Addr) (c c2 B : Nat) (a b : List Int) (w : World) (h : Ints w B A a) (h2 : Ints w B A2 b) (hB : B ≤ w.heap.size) (hp : TwoOf (n : Int) (m : Int) a (k : Int) b) :
    Calls Try.prog 102 #[.int .i64 (n : Int), .int .i64 (m : Int), .slice A a.length c, .int .i64 (k : Int), .slice A2 b.length c2] w fun e w' => Below w.heap.size w w' ∧ ∃ g c', e = .returned (.tuple #[.slice (some ⟨g, 0, none⟩) (joinedL n m a b).length c', .int .i64 ((joinedR n m a b : Nat) : Int)]) ∧ Row8 w' g (joinedL n m a b) := by
  obtain ⟨hpa, hpb, hmk⟩ := hp
  have hia := hpa.2.2.1
  have hib := hpb.2.2.1
  have la := hpa.2.2.2
  have lb := hpb.2.2.2
  have hn1 := hpa.1
  have hm1 := hpa.2.1
  have hk1 := hpb.2.1
  obtain ⟨pa, oa, rfl, hpaw, hpac⟩ := Ints.cellB h hB (by have := hia.1; omega)
  obtain ⟨pb, ob, rfl, hpbw, hpbc⟩ := Ints.cellB h2 hB (by have := hib.1; omega)
  have HPA := hid (And.intro hpaw hpbw)
  have HAC := hid hpac
  have HBC := hid hpbc
  have HXB := hid (show ∀ q, q < b.length → ∃ x : Nat, x < b.length ∧ b[q]? = some (x : Int) from fun q hq => ⟨_, (hib.mates hq).1, (hib.mates hq).2.2.1⟩)
  have HSW := hid (twoA_sewn (n := n) (m := m) hia hib (by omega))
  have HJL := hid (show joinedL n m a b = listS (joinP n a b) (joinS n m a b) from rfl)
  have HJS := hid (show ∀ j, joinS n m a b j = nameN n m a.length (b.length - n) (pend (a.length + b.length) (twoA a b) (sewA n m a b) (aroundN n m a.length (b.length - n) j)) from fun _ => rfl)
  have HRR := hid (show joinedR n m a b = roundsTo (a.length + b.length) (twoA a b) (sewA n m a b) (a.length + b.length) from rfl)
  have HAO := hid (fun j (hj : j < joinP n a b) => around_ok (n := n) (m := m) (a := a) (b := b) (by omega) (by omega) hj)
  have HAN := hid (fun j (hj : j < joinP n a b) => name_around (n := n) (m := m) (p := a.length) (r := b.length - n) (j := j) (by omega) hj)
  have HNA := hid (fun i (hi : i < m ∨ (m + n ≤ i ∧ i < a.length + (b.length - n))) => around_name (n := n) (m := m) (p := a.length) (r := b.length - n) (i := i) hi)
  have HNL := hid (fun i (hi : i < m ∨ (m + n ≤ i ∧ i < a.length + (b.length - n))) => name_lt (n := n) (m := m) (p := a.length) (r := b.length - n) (i := i) (by omega) hi)
  have HTW := hid (two_list hia hib)
  have HLO := hid (fun i (hi : i < a.length + b.length) => sewT_loose (n := n) (m := m) (N := a.length + b.length) (i := i) (by omega) hi)
  have HJP := hid (show joinP n a b = a.length - n + (b.length - n) from rfl)
  have HN4 := hid (show ∀ i, i < m → nameN n m a.length (b.length - n) i = i from fun i hi => by unfold nameN; rw [if_pos hi])
  have HN5 := hid (show ∀ i, nameN n m a.length (b.length - n) (a.length + i) = m + i from fun i => by unfold nameN; rw [if_neg (by omega), if_pos (by omega)]; omega)
  have HN6 := hid (show ∀ i, m + n ≤ i → i < a.length → nameN n m a.length (b.length - n) i = m + (b.length - n) + (i - m - n) from fun i h1 h2 => by unfold nameN; rw [if_neg (by omega), if_neg (by omega)])
  obtain ⟨p, hpe⟩ : ∃ p, a.length = p := ⟨_, rfl⟩
  obtain ⟨q, hqe⟩ : ∃ q, b.length = q := ⟨_, rfl⟩
  have HPQ := hid (And.intro (show p = 2 * (n + m) by omega) (show q = 2 * (n + k) by omega))
  obtain ⟨S, hS⟩ : ∃ S, twoA a b = S := ⟨_, rfl⟩
  obtain ⟨T, hT⟩ : ∃ T, sewA n m a b = T := ⟨_, rfl⟩
  simp only [hS, hT, hpe, hqe] at HSW HJS HRR HAO HAN HNA HNL HTW HLO HJP HN4 HN5 HN6 HXB
  have hS2 : twoS p (mateN a) (mateN b) = S := by rw [← hS, ← hpe]
  have hT2 : sewT n m (p + q) = T := by rw [← hT, ← hpe, ← hqe]
  rw [hS2] at HTW
  simp only [hT2] at HLO
  have HZT := hid (sewT_zero m (p + q))
  have HOS := hid (fun j (hj : j < n) => othersL_sew (N := p + q) (m := m) (k := j) (by have := HPQ.out; omega))
  have HON := hid (othersL_none (p + q))
  obtain ⟨TT, hTT⟩ : ∃ TT, (fun j => sewT j m (p + q)) = TT := ⟨_, rfl⟩
  have HTT := hid (fun j => congrFun hTT j)
  have HTN := hid (show TT n = T by rw [← hTT]; exact hT2)
  obtain ⟨M, hM⟩ : ∃ M, p + q = M := ⟨_, rfl⟩
  have HMM := hid hM
  obtain ⟨r, hr⟩ : ∃ r, q - n = r := ⟨_, rfl⟩
  have HR := hid (show r = 2 * k + n ∧ q = r + n by have := HPQ.out; omega)
  obtain ⟨P, hP⟩ : ∃ P, joinP n a b = P := ⟨_, rfl⟩
  simp only [hM, hr, hP] at HSW HJS HRR HAO HAN HNA HNL HTW HLO HJP HN4 HN5 HN6 HZT HOS HON HTT HJL
  have HPP := hid (show P = p - n + r from HJP.out)
  have HJLL := hid (show (joinedL n m a b).length = P by rw [joinedL_length, hP])
  have hn5 : n ≤ 5 := by omega
  have hm5 : m ≤ 5 := by omega
  have hk5 : k ≤ 5 := by omega
  have HQP := hid (show ∀ W, Calls Try.prog 62 #[.int .i64 (n : Int), .int .i64 (m : Int)] W fun e w' => e = .returned (.int .i64 (p : Int)) ∧ W = w' from fun W => by
    have := l2Ports_any n m W hn5 hm5
    rwa [show 2 * ((n : Int) + (m : Int)) = (p : Int) by have := HPQ.out; omega] at this)
  have HQQ := hid (show ∀ W, Calls Try.prog 62 #[.int .i64 (n : Int), .int .i64 (k : Int)] W fun e w' => e = .returned (.int .i64 (q : Int)) ∧ W = w' from fun W => by
    have := l2Ports_any n k W hn5 hk5
    rwa [show 2 * ((n : Int) + (k : Int)) = (q : Int) by have := HPQ.out; omega] at this)
  have HAL := hid hpe
  generalize joinedR n m a b = RN at *
  generalize joinS n m a b = js at *
  generalize joinedL n m a b = JL at *
  generalize aroundN n m p r = f at *
  generalize nameN n m p r = gN at *
  have HNB := hid (show (1 ≤ n ∧ n ≤ 5) ∧ (1 ≤ m ∧ m ≤ 5) ∧ 1 ≤ k ∧ m + k ≤ 5 by omega)
  rw [hpe, hqe, HJLL.out]
  clear h h2 hB hpa hpb hmk hia hib la lb hn1 hm1 hk1 hpaw hpac hpbw hpbc hS hT hS2 hT2 hTT hM hr hP hpe hqe
  have hpi20 : (p : Int) ≤ 20 := by have := HPQ.out; omega
  have hqi20 : (q : Int) ≤ 20 := by have := HPQ.out; omega
  have hp1 : 1 ≤ (p : Int) := by have := HPQ.out; have := HNB.out; omega
  go_enter Try.func102, Try.ntmps102
  go_wp2_with fail
  refine (HQP.out _).mono ?_
  rintro e w' ⟨rfl, rfl⟩
  go_wp2_with fail
  refine (HQQ.out _).mono ?_
  rintro e w' ⟨rfl, rfl⟩
  have HBa := hid ((Below.refl w.heap.size w).alloc (Nat.le_refl _) (.cells #[] 3))
  have hcc : ∀ (j : Nat) u, (intsV a)[j]? = some u → (w.alloc (.cells #[] 3)).cell? ((⟨pa, oa, none⟩ : Addr).add j) = some u := fun j u hj => by
    obtain ⟨x, hx, rfl⟩ := intsV_at hj
    rw [Addr.add_mid]
    exact HAC.out _ HBa.out j x hx
  have HCC := hid hcc
  clear hcc
  go_wp2_with (at_builtin; refine wpList_appendNew rfl _ _ rfl w.heap.size ⟨pa, oa, none⟩ c a rfl (by rw [HAL.out]; rfl) HCC.out (by rw [HAL.out]; omega) (by rw [HAL.out]; omega) ?_)
  intro v0 w0 hg0 hb0
  have HG0 := hid (hg0.lower (show w.heap.size ≤ w.heap.size + 1 by omega))
  have HB0 := hid (HBa.out.trans (hb0.mono (show w.heap.size ≤ w.heap.size + 1 by omega)))
  clear hg0 hb0
  go_wp2_with fail
  -- the second pairing's ports numbered on
  go_loopw [14, 15] (fun (v i : Value) (wr : World) => ∃ j : Nat, j ≤ q ∧ i = .int .i64 j ∧ GrowI wr w.heap.size v (a ++ (b.take j).map fun x => x + (p : Int)) ∧ Below w.heap.size w wr) (fun _ i _ => q - (intOf i).toNat)
  case atStart => exact ⟨0, by omega, rfl, by rw [List.take_zero, List.map_nil, List.append_nil]; exact HG0.out, HB0.out⟩
  case round =>
    obtain ⟨j, hj, rfl, hg, hb⟩ := hrel
    have HG := hid hg
    have HB := hid hb
    clear hg hb
    by_cases hlt : j < q
    · obtain ⟨x, hx, hbx⟩ := HXB.out j hlt
      have hcb := HBC.out wr HB.out j _ hbx
      have HS := hid (takeMap_succ (p := p) hbx a)
      have HLE := hid (show (a ++ (b.take j).map fun x => x + (p : Int)).length ≤ 40 by rw [List.length_append, List.length_map, List.length_take, HAL.out]; omega)
      have hji : (j : Int) < (q : Int) := by omega
      have hxi : (x : Int) < 20 := by omega
      generalize (a ++ (b.take j).map fun x => x + (p : Int)) = l1 at *
      clear hbx
      go_wp2_with (at_builtin; refine wpList_appendI rfl _ _ rfl w.heap.size u14 l1 rfl (World.ownsRow.alloc HG.out _) _ 1 rfl ((x : Int) + (p : Int)) (cell_newI _ _) ?c3 (Nat.le_trans HB.out.size (by simp)) ?_)
      case c3 => have := HLE.out; omega
      intro v3 w3 hgr3 hgw3 _
      have HG3 := hid (hgr3)
      have HB3 := hid ((HB.out.alloc HB.out.size _).grown hgw3 (Nat.le_trans HB.out.size (by simp)) (fun k e => (World.ownsRow.lt HG.out k e).1))
      clear hgr3 hgw3
      go_wp2_with fail
      go_roundw
      case rel => exact ⟨j + 1, by omega, by go_num, by rw [HS.out]; exact HG3.out, HB3.out⟩
      case measure => simp [intOf]; omega
    · obtain rfl : q = j := by omega
      rw [HTW.out] at HG
      obtain ⟨gX, cX, _, rfl, _, _, hloX⟩ := HG.out.head' (by rw [listS_length]; have := HMM.out; omega)
      rw [listS_length] at HG ⊢
      have hMi : (M : Int) ≤ 40 := by have := HMM.out; omega
      have hpji : (p : Int) + (q : Int) = (M : Int) := by have := HMM.out; omega
      have H1 := hid (growI_new wr w.heap.size HB.out.size)
      have HXW := hid (HG.out.some).1
      have HA1 := hid (World.ownsRow.alloc HG.out (.cells #[] 3))
      have HBB1 := hid (HB.out.alloc HB.out.size (.cells #[] 3))
      have H2 := hid (growI_new (wr.alloc (.cells #[] 3)) w.heap.size HBB1.out.size)
      have HA2 := hid (World.ownsRow.alloc HA1.out (.cells #[] 3))
      have H1b := hid (World.ownsRow.alloc H1.out (.cells #[] 3))
      have HBB2 := hid (HBB1.out.alloc HBB1.out.size (.cells #[] 3))
      rw [World.size_alloc] at H2
      clear hloX
      go_wp2_with fail
      have HNE := hid (show wr.heap.size ≠ gX ∧ wr.heap.size + 1 ≠ gX by have := HXW.out; omega)
      generalize World.alloc (World.alloc wr _) _ = Y at HA2 H1b H2 HBB2 ⊢
      generalize wr.heap.size = z0 at *
      clear HG HB HA1 HBB1 H1
      go_loopw [16, 17, 18] (fun (v v2 i : Value) (wr : World) => ∃ x : Nat, x ≤ M ∧ i = .int .i64 x ∧ GrowI wr w.heap.size (.slice (some ⟨gX, 0, none⟩) M cX) (listS M S) ∧ GrowI wr w.heap.size v (List.replicate x (-1)) ∧ GrowI wr w.heap.size v2 (List.replicate x (-1)) ∧
        Hid ((∀ b, v.ownBlock = some b → v2.ownBlock ≠ some b) ∧ v.ownBlock ≠ some gX ∧ v2.ownBlock ≠ some gX) ∧ Below w.heap.size w wr) (fun _ _ i _ => M - (intOf i).toNat)
      case atStart => exact ⟨0, by omega, rfl, HA2.out, H1b.out, H2.out, hid ⟨fun b e e2 => (by cases e; cases e2), fun e => (by cases e; exact HNE.out.1 rfl), fun e => (by cases e; exact HNE.out.2 rfl)⟩, HBB2.out⟩
      case round =>
        clear HA2 H1b H2 HBB2 HNE
        obtain ⟨x, hx, rfl, hgx, hg1, hg2, hap, hb⟩ := hrel
        have GX := hid hgx
        have G1 := hid hg1
        have G2 := hid hg2
        have HAP := hap
        have HB := hid hb
        clear hgx hg1 hg2 hap hb
        by_cases hlt : x < M
        · have hxi : (x : Int) < (M : Int) := by omega
          have HS := hid (show List.replicate (x + 1) (-1 : Int) = List.replicate x (-1) ++ [-1] from List.replicate_succ')
          have HLR := hid (show (List.replicate x (-1 : Int)).length ≤ 40 by rw [List.length_replicate]; omega)
          go_wp2_with (at_builtin; refine wpList_appendI rfl _ _ rfl w.heap.size u16 (List.replicate x (-1)) rfl (World.ownsRow.alloc G1.out _) _ 1 rfl (-1 : Int) (cell_newI _ _) ?c3 (Nat.le_trans HB.out.size (by simp)) ?_)
          case c3 => have := HLR.out; omega
          intro v3 w3 hgr3 hgw3 ho3
          have G13 := hid hgr3
          have hne12 : u17.ownBlock = none ∨ u17.ownBlock ≠ u16.ownBlock := by
            cases hq : u17.ownBlock with
            | none => exact .inl rfl
            | some b => exact .inr fun e => HAP.out.1 b e.symm hq
          have G23 := hid (show GrowI w3 w.heap.size u17 (List.replicate x (-1)) from World.ownsRow.kept (World.ownsRow.alloc G2.out _) hgw3 hne12)
          have GX3 := hid (show GrowI w3 w.heap.size (.slice (some ⟨gX, 0, none⟩) M cX) (listS M S) from World.ownsRow.kept (World.ownsRow.alloc GX.out _) hgw3 (.inr fun e => HAP.out.2.1 e.symm))
          have HB3 := hid ((HB.out.alloc HB.out.size _).grown hgw3 (Nat.le_trans HB.out.size (by simp)) (fun k e => (World.ownsRow.lt G1.out k e).1))
          have HAP3 := hid (show (∀ b, v3.ownBlock = some b → u17.ownBlock ≠ some b) ∧ v3.ownBlock ≠ some gX ∧ u17.ownBlock ≠ some gX from by
            have hx1 := (GX.out.some).1
            refine ⟨fun b e e2 => ?_, fun e => ?_, HAP.out.2.2⟩
            · rcases ho3 with ho | ho
              · exact HAP.out.1 b (by rw [← ho]; exact e) e2
              · rw [e] at ho
                have := (World.ownsRow.lt G2.out b e2).2
                cases ho
                first | omega | (simp at this; omega)
            · rcases ho3 with ho | ho
              · exact HAP.out.2.1 (by rw [← ho]; exact e)
              · rw [e] at ho
                cases ho
                first | omega | (simp at hx1; omega))
          clear hgr3 hgw3 ho3 hne12
          go_wp2_with (at_builtin; refine wpList_appendI rfl _ _ rfl w.heap.size u17 (List.replicate x (-1)) rfl (World.ownsRow.alloc G23.out _) _ 1 rfl (-1 : Int) (cell_newI _ _) ?c3 (Nat.le_trans HB3.out.size (by simp)) ?_)
          case c3 => have := HLR.out; omega
          intro v4 w4 hgr4 hgw4 ho4
          have G24 := hid hgr4
          have hne12 : v3.ownBlock = none ∨ v3.ownBlock ≠ u17.ownBlock := by
            cases hq : v3.ownBlock with
            | none => exact .inl rfl
            | some b => exact .inr fun e => HAP3.out.1 b hq e.symm
          have G14 := hid (show GrowI w4 w.heap.size v3 (List.replicate (x + 1) (-1)) from by rw [HS.out]; exact World.ownsRow.kept (World.ownsRow.alloc G13.out _) hgw4 hne12)
          have GX4 := hid (show GrowI w4 w.heap.size (.slice (some ⟨gX, 0, none⟩) M cX) (listS M S) from World.ownsRow.kept (World.ownsRow.alloc GX3.out _) hgw4 (.inr fun e => HAP3.out.2.2 e.symm))
          have HB4 := hid ((HB3.out.alloc HB3.out.size _).grown hgw4 (Nat.le_trans HB3.out.size (by simp)) (fun k e => (World.ownsRow.lt G23.out k e).1))
          have HAP4 := hid (show (∀ b, v3.ownBlock = some b → v4.ownBlock ≠ some b) ∧ v3.ownBlock ≠ some gX ∧ v4.ownBlock ≠ some gX from by
            have hx1 := (GX3.out.some).1
            refine ⟨fun b e e2 => ?_, HAP3.out.2.1, fun e => ?_⟩
            · rcases ho4 with ho | ho
              · exact HAP3.out.1 b e (by rw [← ho]; exact e2)
              · rw [e2] at ho
                have := (World.ownsRow.lt G13.out b e).2
                cases ho
                first | omega | (simp at this; omega)
            · rcases ho4 with ho | ho
              · exact HAP3.out.2.2 (by rw [← ho]; exact e)
              · rw [e] at ho
                cases ho
                first | omega | (simp at hx1; omega))
          clear hgr4 hgw4 ho4 hne12
          go_wp2_with fail
          go_roundw
          case rel => exact ⟨x + 1, by omega, by go_num, GX4.out, G14.out, by rw [HS.out]; exact G24.out, HAP4, HB4.out⟩
          case measure => simp [intOf]; omega
        · obtain rfl : M = x := by omega
          obtain ⟨gM, cM, _, rfl, _, _, hloM⟩ := G1.out.head' (by rw [List.length_replicate]; have := HMM.out; have := HPQ.out; have := HNB.out; have := HR.out; omega)
          obtain ⟨gB, cB, _, rfl, _, _, hloB⟩ := G2.out.head' (by rw [List.length_replicate]; have := HMM.out; have := HPQ.out; have := HNB.out; have := HR.out; omega)
          rw [List.length_replicate] at G1 G2 ⊢
          have HLM := hid hloM
          have HLB := hid hloB
          have HD := hid (show gM ≠ gB ∧ gM ≠ gX ∧ gB ≠ gX from ⟨fun e => HAP.out.1 gM rfl (by rw [e]; rfl), fun e => HAP.out.2.1 (by rw [e]; rfl), fun e => HAP.out.2.2 (by rw [e]; rfl)⟩)
          have G0 := hid (show GrowI wr w.heap.size (.slice (some ⟨gM, 0, none⟩) M cM) (othersL M (TT 0)) by rw [← HTT.out 0, HZT.out, ← HON.out]; exact G1.out)
          clear hloM hloB HAP G1
          go_wp2_with fail
          -- the rows are sewn
          go_loopw [19] (fun (i : Value) (wr : World) => ∃ j : Nat, j ≤ n ∧ i = .int .i64 j ∧ GrowI wr w.heap.size (.slice (some ⟨gM, 0, none⟩) M cM) (othersL M (TT j)) ∧ GrowI wr w.heap.size (.slice (some ⟨gX, 0, none⟩) M cX) (listS M S) ∧ GrowI wr w.heap.size (.slice (some ⟨gB, 0, none⟩) M cB) (List.replicate M (-1)) ∧ Below w.heap.size w wr) (fun i _ => n - (intOf i).toNat)
          case atStart => exact ⟨0, by omega, rfl, G0.out, GX.out, G2.out, HB.out⟩
          case round =>
            clear G0 GX G2 HB
            obtain ⟨j, hj, rfl, hg1, hgx, hg2, hb⟩ := hrel
            have G1 := hid hg1
            have GX := hid hgx
            have G2 := hid hg2
            have HB := hid hb
            clear hg1 hgx hg2 hb
            by_cases hlt : j < n
            · have hji : (j : Int) < (n : Int) := by omega
              obtain ⟨_, cs, hcs, hsz⟩ := G1.out.some
              rw [othersL_length] at hsz
              obtain ⟨y, hy⟩ : ∃ y, m + j = y := ⟨_, rfl⟩
              obtain ⟨z, hz⟩ : ∃ z, M - 1 - j = z := ⟨_, rfl⟩
              have hyN : y < M := by have := HMM.out; have := HPQ.out; have := HNB.out; have := HR.out; omega
              have hzN : z < M := by have := HMM.out; have := HPQ.out; have := HNB.out; have := HR.out; omega
              have hkz : ¬ y = z := by have := HMM.out; have := HPQ.out; have := HNB.out; have := HR.out; omega
              have hzk : ¬ z = y := by omega
              have HST := hid (HOS.out j hlt)
              rw [HTT.out, HTT.out, hy, hz] at HST
              have hyi : (m : Int) + (j : Int) = (y : Int) := by omega
              have hzi : (M : Int) - 1 - (j : Int) = (z : Int) := by omega
              obtain ⟨u, hu⟩ : ∃ u, cs[y]? = some u := ⟨_, Array.getElem?_eq_getElem (by omega)⟩
              have hc : wr.cell? ⟨gM, y, none⟩ = some u := by rw [cell_of_row _ _ _ _ _ _ hcs]; exact hu
              have hf : wr.frozen? ⟨gM, y, none⟩ = false := frozen_of_row _ _ _ _ _ hcs
              clear hu
              obtain ⟨u', hu'⟩ : ∃ u, cs[z]? = some u := ⟨_, Array.getElem?_eq_getElem (by omega)⟩
              have hc' : wr.cell? ⟨gM, z, none⟩ = some u' := by rw [cell_of_row _ _ _ _ _ _ hcs]; exact hu'
              have hf' : wr.frozen? ⟨gM, z, none⟩ = false := frozen_of_row _ _ _ _ _ hcs
              clear hu'

              have hyNi : (y : Int) < (M : Int) := by omega
              have hzNi : (z : Int) < (M : Int) := by omega
              clear hcs hsz hy hz
              go_wp2_with fail
              go_roundw
              case rel =>
                refine ⟨j + 1, by omega, by go_num, ?_, ?_, ?_, ?_⟩
                · rw [← HST.out]
                  exact (G1.out.setSelf).setSelf
                · exact (GX.out.setOther (slice_ne (Ne.symm HD.out.2.1))).setOther (slice_ne (Ne.symm HD.out.2.1))
                · exact (G2.out.setOther (slice_ne (Ne.symm HD.out.1))).setOther (slice_ne (Ne.symm HD.out.1))
                · exact (HB.out.setCell (p := ⟨gM, y, none⟩) HLM.out _).setCell (p := ⟨gM, z, none⟩) HLM.out _
              case measure => simp [intOf]; omega
            · obtain rfl : n = j := by omega
              rw [HTN.out] at G1
              clear HTT HOS HZT HON HTN
              have L0 := hid (Named.none (M := M) (V := fun i => i < 0) (g := gN) (fun i => by omega))
              go_wp2_with fail
              go_loopw [22, 23] (fun (av i : Value) (wr : World) => ∃ j : Nat, j ≤ m ∧ i = .int .i64 j ∧ av = .int .i64 j ∧ GrowI wr w.heap.size (.slice (some ⟨gM, 0, none⟩) M cM) (othersL M T) ∧ GrowI wr w.heap.size (.slice (some ⟨gX, 0, none⟩) M cX) (listS M S) ∧ (∃ L : List Int, Hid (Named L M (fun i => i < j) gN) ∧ GrowI wr w.heap.size (.slice (some ⟨gB, 0, none⟩) M cB) L) ∧ Below w.heap.size w wr) (fun _ i _ => m - (intOf i).toNat)
              case atStart => exact ⟨0, by omega, rfl, rfl, G1.out, GX.out, ⟨_, L0, G2.out⟩, HB.out⟩
              case round =>
                clear G1 GX G2 HB L0
                obtain ⟨j, hj, rfl, rfl, hg1, hgx, hL, hb⟩ := hrel
                obtain ⟨L, HL, hg2⟩ := hL
                have G1 := hid hg1
                have GX := hid hgx
                have G2 := hid hg2
                have HB := hid hb
                clear hg1 hgx hg2 hb
                by_cases hlt : j < m
                · have hji : (j : Int) < (m : Int) := by omega
                  obtain ⟨_, cs, hcs, hsz⟩ := G2.out.some
                  rw [HL.out.1] at hsz
                  have hjM : j < M := by have := HMM.out; have := HPQ.out; have := HNB.out; have := HR.out; omega
                  have hjMi : (j : Int) < (M : Int) := by omega
                  have HST := hid (HL.out.step (V' := fun i => i < j + 1) hjM (HN4.out j hlt) (fun i => by omega))
                  obtain ⟨u, hu⟩ : ∃ u, cs[j]? = some u := ⟨_, Array.getElem?_eq_getElem (by omega)⟩
                  have hc : wr.cell? ⟨gB, j, none⟩ = some u := by rw [cell_of_row _ _ _ _ _ _ hcs]; exact hu
                  have hf : wr.frozen? ⟨gB, j, none⟩ = false := frozen_of_row _ _ _ _ _ hcs
                  clear hu
                  clear hcs hsz
                  go_wp2_with fail
                  go_roundw
                  case rel =>
                    refine ⟨j + 1, by omega, by go_num, by go_num, ?_, ?_, ?_, ?_⟩
                    · exact G1.out.setOther (slice_ne HD.out.1)
                    · exact GX.out.setOther (slice_ne (Ne.symm HD.out.2.2))
                    · exact ⟨_, HST, G2.out.setSelf⟩
                    · exact HB.out.setCell (p := ⟨gB, j, none⟩) HLB.out _
                  case measure => simp [intOf]; omega
                · obtain rfl : m = j := by omega
                  have HL5 := hid (HL.out.congr (V' := fun i => i < m ∨ (p ≤ i ∧ i < p + 0)) (fun i _ => by omega))
                  have hri : 2 * (k : Int) + (n : Int) = (r : Int) := by have := HR.out; omega
                  go_wp2_with fail
                  go_loopw [22, 24] (fun (av i : Value) (wr : World) => ∃ j y : Nat, j ≤ r ∧ Hid (y = m + j) ∧ i = .int .i64 j ∧ av = .int .i64 y ∧ GrowI wr w.heap.size (.slice (some ⟨gM, 0, none⟩) M cM) (othersL M T) ∧ GrowI wr w.heap.size (.slice (some ⟨gX, 0, none⟩) M cX) (listS M S) ∧ (∃ L : List Int, Hid (Named L M (fun i => i < m ∨ (p ≤ i ∧ i < p + j)) gN) ∧ GrowI wr w.heap.size (.slice (some ⟨gB, 0, none⟩) M cB) L) ∧ Below w.heap.size w wr) (fun _ i _ => r - (intOf i).toNat)
                  case atStart => exact ⟨0, m, by omega, hid rfl, rfl, rfl, G1.out, GX.out, ⟨_, HL5, G2.out⟩, HB.out⟩
                  case round =>
                    clear G1 GX G2 HB HL5 HL
                    obtain ⟨j, y, hj, HY, rfl, rfl, hg1, hgx, hL, hb⟩ := hrel
                    obtain ⟨L, HL, hg2⟩ := hL
                    have G1 := hid hg1
                    have GX := hid hgx
                    have G2 := hid hg2
                    have HB := hid hb
                    clear hg1 hgx hg2 hb
                    have hy40 : (y : Int) ≤ 40 := by have := HY.out; have := HMM.out; have := HPQ.out; have := HNB.out; have := HR.out; omega
                    by_cases hlt : j < r
                    · have hji : (j : Int) < (r : Int) := by omega
                      obtain ⟨_, cs, hcs, hsz⟩ := G2.out.some
                      rw [HL.out.1] at hsz
                      obtain ⟨z, hz⟩ : ∃ z, p + j = z := ⟨_, rfl⟩
                      have hzM : z < M := by have := HMM.out; have := HPQ.out; have := HNB.out; have := HR.out; omega
                      have hzMi : (z : Int) < (M : Int) := by omega
                      have hzi : (p : Int) + (j : Int) = (z : Int) := by omega
                      have HST := hid (HL.out.step (i0 := z) (x := y) (V' := fun i => i < m ∨ (p ≤ i ∧ i < p + (j + 1))) hzM (by rw [← hz, HN5.out, HY.out]) (fun i => by omega))
                      obtain ⟨u, hu⟩ : ∃ u, cs[z]? = some u := ⟨_, Array.getElem?_eq_getElem (by omega)⟩
                      have hc : wr.cell? ⟨gB, z, none⟩ = some u := by rw [cell_of_row _ _ _ _ _ _ hcs]; exact hu
                      have hf : wr.frozen? ⟨gB, z, none⟩ = false := frozen_of_row _ _ _ _ _ hcs
                      clear hu
                      clear hcs hsz hz
                      go_wp2_with fail
                      go_roundw
                      case rel =>
                        refine ⟨j + 1, y + 1, by omega, hid (by have := HY.out; omega), by go_num, by go_num, ?_, ?_, ?_, ?_⟩
                        · exact G1.out.setOther (slice_ne HD.out.1)
                        · exact GX.out.setOther (slice_ne (Ne.symm HD.out.2.2))
                        · exact ⟨_, HST, G2.out.setSelf⟩
                        · exact HB.out.setCell (p := ⟨gB, z, none⟩) HLB.out _
                      case measure => simp [intOf]; omega
                    · obtain rfl : r = j := by omega
                      obtain ⟨mn, hmn⟩ : ∃ mn, m + n = mn := ⟨_, rfl⟩
                      have HMN := hid hmn
                      have hmni : (m : Int) + (n : Int) = (mn : Int) := by omega
                      have HL6 := hid (HL.out.congr (V' := fun i => i < m ∨ (p ≤ i ∧ i < p + r) ∨ (mn ≤ i ∧ i < mn)) (fun i _ => by omega))
                      have hmnp : mn ≤ p := by have := HMM.out; have := HPQ.out; have := HNB.out; have := HR.out; omega
                      clear hmn
                      go_wp2_with fail
                      clear hri
                      go_loopw [22, 25] (fun (av i : Value) (wr : World) => ∃ j y : Nat, mn ≤ j ∧ j ≤ p ∧ Hid (y = m + r + (j - mn)) ∧ i = .int .i64 j ∧ av = .int .i64 y ∧ GrowI wr w.heap.size (.slice (some ⟨gM, 0, none⟩) M cM) (othersL M T) ∧ GrowI wr w.heap.size (.slice (some ⟨gX, 0, none⟩) M cX) (listS M S) ∧ (∃ L : List Int, Hid (Named L M (fun i => i < m ∨ (p ≤ i ∧ i < p + r) ∨ (mn ≤ i ∧ i < j)) gN) ∧ GrowI wr w.heap.size (.slice (some ⟨gB, 0, none⟩) M cB) L) ∧ Below w.heap.size w wr) (fun _ i _ => p - (intOf i).toNat)
                      case atStart => exact ⟨mn, y, by omega, by omega, hid (by have := HY.out; omega), rfl, rfl, G1.out, GX.out, ⟨_, HL6, G2.out⟩, HB.out⟩
                      case round =>
                        clear G1 GX G2 HB HL6 HL HY hy40 hmni
                        obtain ⟨j, y, hj1, hj, HY, rfl, rfl, hg1, hgx, hL, hb⟩ := hrel
                        obtain ⟨L, HL, hg2⟩ := hL
                        have G1 := hid hg1
                        have GX := hid hgx
                        have G2 := hid hg2
                        have HB := hid hb
                        clear hg1 hgx hg2 hb
                        have hy40 : (y : Int) ≤ 40 := by have := HY.out; have := HMM.out; have := HPQ.out; have := HNB.out; have := HR.out; omega
                        by_cases hlt : j < p
                        · have hji : (j : Int) < (p : Int) := by omega
                          obtain ⟨_, cs, hcs, hsz⟩ := G2.out.some
                          rw [HL.out.1] at hsz
                          have hjM : j < M := by have := HMM.out; have := HPQ.out; have := HNB.out; have := HR.out; omega
                          have hjMi : (j : Int) < (M : Int) := by omega
                          have HST := hid (HL.out.step (i0 := j) (x := y) (V' := fun i => i < m ∨ (p ≤ i ∧ i < p + r) ∨ (mn ≤ i ∧ i < j + 1)) hjM (by rw [HN6.out j (by have := HMN.out; omega) hlt, HY.out]; have := HMN.out; omega) (fun i => by omega))
                          obtain ⟨u, hu⟩ : ∃ u, cs[j]? = some u := ⟨_, Array.getElem?_eq_getElem (by omega)⟩
                          have hc : wr.cell? ⟨gB, j, none⟩ = some u := by rw [cell_of_row _ _ _ _ _ _ hcs]; exact hu
                          have hf : wr.frozen? ⟨gB, j, none⟩ = false := frozen_of_row _ _ _ _ _ hcs
                          clear hu
                          clear hcs hsz
                          go_wp2_with fail
                          go_roundw
                          case rel =>
                            refine ⟨j + 1, y + 1, by omega, by omega, hid (by have := HY.out; omega), by go_num, by go_num, ?_, ?_, ?_, ?_⟩
                            · exact G1.out.setOther (slice_ne HD.out.1)
                            · exact GX.out.setOther (slice_ne (Ne.symm HD.out.2.2))
                            · exact ⟨_, HST, G2.out.setSelf⟩
                            · exact HB.out.setCell (p := ⟨gB, j, none⟩) HLB.out _
                          case measure => simp [intOf]; omega
                        · obtain rfl : p = j := by omega
                          obtain rfl : P = y := by have := HY.out; have := HPP.out; have := HMN.out; have := HMM.out; have := HPQ.out; have := HNB.out; have := HR.out; omega
                          have HLL := hid (show ∀ i, i < M → T i = i → (i < m ∨ (m + n ≤ i ∧ i < p + r)) from fun i hi h => by have := (HLO.out i hi).1 h; have := HMM.out; have := HPQ.out; have := HNB.out; have := HR.out; omega)
                          have HLN := hid (HL.out.congr (V' := fun i => T i = i) (fun i hi => by rw [HLO.out i hi]; have := HMN.out; have := HMM.out; have := HPQ.out; have := HNB.out; have := HR.out; omega))
                          have HWX := hid (show ∀ W, Below wr.heap.size wr W → ∀ i, i < M → W.cell? ⟨gX, i, none⟩ = some (.int .i64 ((S i : Nat) : Int)) from fun W hb i hi => (cell_congr (hb.block gX GX.out.some.1)).trans (growI_cell GX.out (listS_at hi)))
                          have HWM := hid (show ∀ W, Below wr.heap.size wr W → ∀ i, i < M → W.cell? ⟨gM, i, none⟩ = some (.int .i64 (otherV T i)) from fun W hb i hi => (cell_congr (hb.block gM G1.out.some.1)).trans (growI_cell G1.out (othersL_at' hi)))
                          have HWN := hid (show ∀ W, Below wr.heap.size wr W → ∀ i, i < M → W.cell? ⟨gB, i, none⟩ = some (.int .i64 (nameV T gN i)) from fun W hb i hi => (cell_congr (hb.block gB G2.out.some.1)).trans (growI_cell G2.out (HLN.out.at_ hi)))
                          have HNE := hid (show gX ≠ wr.heap.size + 1 ∧ gM ≠ wr.heap.size + 1 ∧ gB ≠ wr.heap.size + 1 by have := GX.out.some.1; have := G1.out.some.1; have := G2.out.some.1; omega)
                          have HBW := hid (show Below w.heap.size w wr ∧ w.heap.size ≤ wr.heap.size from ⟨HB.out, HB.out.size⟩)
                          have hP40 : P ≤ 40 := by have := HPP.out; have := HMM.out; have := HPQ.out; have := HNB.out; have := HR.out; omega
                          have hM40 : M ≤ 40 := by have := HMM.out; have := HPQ.out; have := HNB.out; have := HR.out; omega
                          have hP40i : (P : Int) ≤ 40 := by omega
                          have hmk := run_make_row' (P := Try.prog) 32 3 (.int .i64 0) 8 Try.underlying32 Try.info_int rfl .i64 .i64 P (by omega) (by omega)
                          have hmkb := run_make_row' (P := Try.prog) 86 4 (.bool false) 1 Try.underlying86 Try.info_bool rfl .i64 .i64 M (by omega) (by omega)
                          clear GX G1 G2 HB HL HY HLO HLN hmnp hj hj1 hlt
                          obtain ⟨W2, rfl⟩ : ∃ W2, W2 = wr := ⟨_, rfl⟩
                          go_wp2_with fail
                          clear hmk hmkb
                          have M0 := hid (MarksAt.made (heap_new0 (W2.alloc (.cells (madeCells #[.int .i64 0] P) 3)) (.cells (madeCells #[.bool false] M) 4)) (fromTo M S T 0) (fun c => fromTo_zero c))
                          rw [World.size_alloc] at M0
                          have O0 := hid ((((Below.refl (W2.heap.size + 1) (W2.alloc (.cells (madeCells #[.int .i64 0] P) 3))).alloc (by simp) (.cells (madeCells #[.bool false] M) 4)).block W2.heap.size (by omega)).trans (heap_new0 W2 _))
                          have B0 := hid (((Below.refl W2.heap.size W2).alloc (Nat.le_refl _) (.cells (madeCells #[.int .i64 0] P) 3)).alloc (by simp) (.cells (madeCells #[.bool false] M) 4))
                          have C0 := hid (show OutTo (madeCells #[.int .i64 0] P) P M 0 S T gN from ⟨size_madeCells _ _, fun i hi => absurd hi (by omega)⟩)
                          generalize World.alloc (World.alloc W2 _) _ = Z at M0 O0 B0 ⊢
                          obtain ⟨gs, hgs⟩ : ∃ gs, W2.heap.size + 1 = gs := ⟨_, rfl⟩
                          rw [hgs] at M0 HNE ⊢
                          obtain ⟨go, hgo⟩ : ∃ go, W2.heap.size = go := ⟨_, rfl⟩
                          rw [hgo] at O0 B0 ⊢
                          have HGO := hid hgo
                          have HGN := hid (show go ≠ gs by omega)
                          have HSL := hid (show go ≤ gs by omega)
                          simp only [hgo] at HWX HWM HWN
                          have HLT := hid (show ∀ i, i < M → T i < M from fun i hi => HSW.out.tlt i hi)
                          have HSLT := hid (show ∀ i, i < M → S i < M from fun i hi => HSW.out.slt i hi)
                          clear hgs hgo
                          -- the ports that are left are joined
                          go_loopw [28] (fun (i : Value) (wr : World) => ∃ x : Nat, x ≤ M ∧ i = .int .i64 x ∧ MarksAt wr gs M (fromTo M S T x) ∧ (∃ C : Array Value, Hid (OutTo C P M x S T gN) ∧ wr.heap[go]? = some (.cells C 3 (0, 0))) ∧ Below go W2 wr) (fun i _ => M - (intOf i).toNat)
                          case atStart => exact ⟨0, by omega, rfl, M0.out, ⟨_, C0, O0.out⟩, B0.out⟩
                          case round =>
                            clear M0 O0 B0 C0
                            obtain ⟨x, hx, rfl, hm, hO, hb⟩ := hrel
                            obtain ⟨C, HC, hO⟩ := hO
                            have HM := hid hm
                            have HO := hid hO
                            have HB := hid hb
                            clear hm hO hb
                            by_cases hlt : x < M
                            · have hxi : (x : Int) < (M : Int) := by omega
                              have hcm := HWM.out wr HB.out x hlt
                              have hcn := HWN.out wr HB.out x hlt
                              by_cases hl : T x = x
                              · rw [show otherV T x = -1 by unfold otherV; rw [if_pos hl]] at hcm
                                rw [nameV_yes hl] at hcn
                                have HL := hid hl
                                have hcp := HWX.out wr HB.out x hlt
                                have hsx := HSLT.out x hlt
                                obtain ⟨x0, hx0⟩ : ∃ x0, S x = x0 := ⟨_, rfl⟩
                                have HX0 := hid (show x0 = S (goN S T 0 x) from hx0.symm)
                                rw [hx0] at hcp hsx
                                have HPF := hid (plen_facts HSW.out hlt)
                                have HLE := hid (loose_end HSW.out hlt hl)
                                have HOT := hid (HC.out.step (fun i hi hli e => by
                                  have h1 := HNA.out i (HLL.out i (by omega) hli)
                                  rw [e, HNA.out x (HLL.out x hlt hl)] at h1
                                  omega) (by rw [HPP.out]; exact HNL.out x (HLL.out x hlt hl)))
                                have hgxP : gN x < P := by rw [HPP.out]; exact HNL.out x (HLL.out x hlt hl)
                                obtain ⟨gx, hgx⟩ : ∃ gx, gN x = gx := ⟨_, rfl⟩
                                rw [hgx] at hcn HOT hgxP
                                have HGX := hid hgxP
                                have HGXE := hid hgx
                                have hp1 := HPF.out.1
                                have hp2 := HPF.out.2.1
                                have hgx0 : 0 ≤ (gx : Int) := by omega
                                clear hl hx0 hgx
                                go_wp2_with fail
                                go_loopg [29] 41 (fun (f : Nat) (xv : Value) (wr : World) => ∃ i y : Nat, f + i = 41 ∧ i + 1 ≤ plen M S T x ∧ Hid (y = S (goN S T i x)) ∧ xv = .int .i64 y ∧ MarksAt wr gs M (fun c => fromTo M S T x c ∨ ∃ i', i' < i ∧ (c = S (goN S T i' x) ∨ c = goN S T (i' + 1) x)) ∧ wr.heap[go]? = some (.cells C 3 (0, 0)) ∧ Below go W2 wr)
                                case atStart => exact ⟨0, x0, by omega, by omega, HX0, rfl, HM.out.congr fun c _ => ⟨.inl, fun h => h.resolve_right (fun ⟨i, hi, _⟩ => by omega)⟩, HO.out, HB.out⟩
                                case round =>
                                  clear HM HO HB hcm hcp hcn
                                  obtain ⟨i, y, hf, hi, hy, rfl, hm, hO, hb⟩ := hrel
                                  have HY := hy
                                  have HM := hid hm
                                  have HO := hid hO
                                  have HB := hid hb
                                  clear hy hm hO hb
                                  have hyk : y < M := by rw [HY.out]; exact HSLT.out _ (goN_lt HSW.out hlt i)
                                  have hyi : (y : Int) < (M : Int) := by omega
                                  have hcm := HWM.out wr HB.out y hyk
                                  by_cases hl : T y = y
                                  · rw [show otherV T y = -1 by unfold otherV; rw [if_pos hl]] at hcm
                                    have HQ := hid (show i + 1 = plen M S T x from by
                                      rcases Nat.lt_or_ge (i + 1) (plen M S T x) with h1 | h1
                                      · have := (HPF.out.2.2.2 i h1).1
                                        rw [← HY.out] at this
                                        exact absurd hl this
                                      · omega)
                                    have HF := hid (fun c => fromTo_yes (N := M) (s := S) (c := c) HL.out)
                                    have HMX := hid (HM.out.congr (M' := fromTo M S T (x + 1)) fun c _ => by
                                      rw [HF.out]
                                      constructor
                                      · rintro (h | ⟨i', hi', h⟩)
                                        · exact .inl h
                                        · exact .inr ⟨i', by have := HQ.out; omega, h⟩
                                      · rintro (h | ⟨i', hi', h⟩)
                                        · exact .inl h
                                        · exact .inr ⟨i', by have := HQ.out; omega, h⟩)
                                    have HPE := hid (show pend M S T x = y from by rw [HY.out]; unfold pend; rw [← HQ.out, Nat.add_sub_cancel])
                                    rw [HPE.out] at HOT
                                    have hcn := HWN.out wr HB.out x hlt
                                    have hcy := HWN.out wr HB.out y hyk
                                    have hgxe : gN x = gx := HGXE.out
                                    rw [nameV_yes HL.out, hgxe] at hcn
                                    rw [nameV_yes hl] at hcy
                                    obtain ⟨gy, hgy⟩ : ∃ gy, gN y = gy := ⟨_, rfl⟩
                                    rw [hgy] at hcy HOT
                                    obtain ⟨u, hu⟩ : ∃ u, C[gx]? = some u := ⟨_, Array.getElem?_eq_getElem (by rw [HC.out.1]; exact HGX.out)⟩
                                    have hco : wr.cell? ⟨go, gx, none⟩ = some u := by rw [cell_of_row _ _ _ _ _ _ HO.out]; exact hu
                                    have hfo : wr.frozen? ⟨go, gx, none⟩ = false := frozen_of_row _ _ _ _ _ HO.out
                                    have hgxi : (gx : Int) < (P : Int) := by have := HGX.out; omega
                                    clear hl hu hgy hgxe
                                    go_wp2_with fail
                                    go_still_tail 10, (by kernel_rfl)
                                    go_wp2_with fail
                                    go_roundw
                                    case rel =>
                                      refine ⟨x + 1, by omega, by go_num, ?_, ⟨_, HOT, ?_⟩, ?_⟩
                                      · exact HMX.out.other (Ne.symm HGN.out)
                                      · exact heap_setCell_same _ _ _ _ _ _ HO.out
                                      · exact (HB.out.setCell (p := ⟨go, gx, none⟩) (Nat.le_refl _) _).drew
                                    case measure => simp [intOf]; omega
                                  · rw [show otherV T y = ((T y : Nat) : Int) by unfold otherV; rw [if_neg hl]] at hcm
                                    have HQ := hid (show i + 1 < plen M S T x from by
                                      rcases Nat.lt_or_ge (i + 1) (plen M S T x) with h1 | h1
                                      · exact h1
                                      · exfalso
                                        have e : plen M S T x = i + 1 := by omega
                                        have h2 := HLE.out
                                        unfold pend at h2
                                        rw [e, Nat.add_sub_cancel, ← HY.out] at h2
                                        exact hl h2)
                                    have hzk := HLT.out y hyk
                                    obtain ⟨z, hz⟩ : ∃ z, T y = z := ⟨_, rfl⟩
                                    have HZ := hid (show z = goN S T (i + 1) x by rw [← hz, HY.out]; rfl)
                                    rw [hz] at hcm hzk
                                    have hzy : ¬ z = y := by rw [← hz]; exact hl
                                    have hyz : ¬ y = z := fun e => hzy e.symm
                                    have hzi : (z : Int) < (M : Int) := by omega
                                    have hcp := HWX.out wr HB.out z hzk
                                    have HX1 := hid (show S z = S (goN S T (i + 1) x) by rw [HZ.out])
                                    have hsz := HSLT.out z hzk
                                    obtain ⟨sz, hsze⟩ : ∃ sz, S z = sz := ⟨_, rfl⟩
                                    rw [hsze] at hcp HX1 hsz
                                    obtain ⟨b1, hs1, _, hf1⟩ := HM.out.cell hyk
                                    obtain ⟨b2, hs2, _, hf2⟩ := HM.out.cell hzk
                                    have hn1 : ¬ gM = gs := HNE.out.2.1
                                    have hn2 : ¬ gX = gs := HNE.out.1
                                    have hcm2 := cell_far2 (i := y) (j := z) (u := .bool true) (v := .bool true) HNE.out.2.1 hcm
                                    have hcp2 := cell_far2 (i := y) (j := z) (u := .bool true) (v := .bool true) HNE.out.1 hcp
                                    clear hl hz hsze
                                    go_wp2_with fail
                                    go_roundg (gk - 1)
                                    case measure => have := HQ.out; omega
                                    case rel =>
                                      refine ⟨i + 1, sz, by have := HQ.out; omega, HQ.out, HX1, rfl, ?_, ?_, ?_⟩
                                      · refine (MarksAt.set (c := z) (MarksAt.set (c := y) HM.out)).congr fun c _ => ?_
                                        constructor
                                        · rintro (((h | ⟨q', hq', h⟩) | h) | h)
                                          · exact .inl h
                                          · exact .inr ⟨q', by omega, h⟩
                                          · exact .inr ⟨i, by omega, .inl (by rw [← h]; exact HY.out)⟩
                                          · exact .inr ⟨i, by omega, .inr (by rw [← h]; exact HZ.out)⟩
                                        · rintro (h | ⟨q', hq', h⟩)
                                          · exact .inl (.inl (.inl h))
                                          · rcases Nat.lt_or_ge q' i with h1 | h1
                                            · exact .inl (.inl (.inr ⟨q', h1, h⟩))
                                            · obtain rfl : q' = i := by omega
                                              rcases h with h | h
                                              · exact .inl (.inr (by rw [h]; exact HY.out))
                                              · exact .inr (by rw [h]; exact HZ.out)
                                      · exact kept_set (kept_set HO.out HGN.out) HGN.out
                                      · exact (HB.out.setCell (p := ⟨gs, y, none⟩) HSL.out _).setCell (p := ⟨gs, z, none⟩) HSL.out _
                              · rw [show otherV T x = ((T x : Nat) : Int) by unfold otherV; rw [if_neg hl]] at hcm
                                rw [nameV_no hl] at hcn
                                have HF := hid (fun c => fromTo_no (N := M) (s := S) (c := c) hl)
                                have HCS := hid (HC.out.skip hl)
                                clear hl hcm
                                go_wp2_with fail
                                go_roundw
                                case rel => exact ⟨x + 1, by omega, by go_num, HM.out.congr (fun c _ => (HF.out c).symm), ⟨_, HCS, HO.out⟩, HB.out⟩
                                case measure => simp [intOf]; omega
                            · obtain rfl : M = x := by omega
                              have HFIN := hid (show ∀ (i : Nat) (v : Int), JL[i]? = some v → C[i]? = some (.int .i64 v) from fun i v hv => by
                                have hi : i < P := by rw [← HJLL.out]; exact (List.getElem?_eq_some_iff.1 hv).1
                                rw [HJL.out, listS_at hi] at hv
                                obtain rfl := Option.some.inj hv
                                have h1 := HAO.out i hi
                                have h2 := HC.out.2 (f i) h1.1 h1.2
                                rw [HAN.out i hi] at h2
                                rw [h2, HJS.out])
                              have HM2 := hid (HM.out.congr (M' := seenS M S T 0) fun c hc => (from_iff HSW.out hc).trans seen_zero.symm)
                              have HRL := hid (roundsTo_le (N := M) (s := S) (t := T))
                              have HRZ := hid (roundsTo_zero (N := M) (s := S) (t := T))
                              have HRY := hid (fun y (h : leadS M S T y = true) => roundsTo_yes h)
                              have HRN := hid (fun y (h : leadS M S T y = false) => roundsTo_no h)
                              generalize roundsTo M S T = RT at *
                              clear HM HC HWN HAO HAN HNA HNL HN4 HN5 HN6 HJS HLL
                              go_wp2_with fail
                              go_loopw [30, 31] (fun (rv i : Value) (wr : World) => ∃ y : Nat, y ≤ M ∧ i = .int .i64 y ∧ rv = .int .i64 ((RT y : Nat) : Int) ∧ MarksAt wr gs M (seenS M S T y) ∧ wr.heap[go]? = some (.cells C 3 (0, 0)) ∧ Below go W2 wr) (fun _ i _ => M - (intOf i).toNat)
                              case atStart => exact ⟨0, by omega, rfl, by rw [HRZ.out]; rfl, HM2.out, HO.out, HB.out⟩
                              case round =>
                                clear HM2 HO HB
                                obtain ⟨y, hy, rfl, rfl, hm, hO, hb⟩ := hrel
                                have HM := hid hm
                                have HO := hid hO
                                have HB := hid hb
                                clear hm hO hb
                                obtain ⟨ry, hry⟩ : ∃ ry, RT y = ry := ⟨_, rfl⟩
                                have HRYY := hid hry
                                have hry40 : (ry : Int) ≤ 40 := by have := HRL.out y; omega
                                rw [hry]
                                clear hry
                                by_cases hlt : y < M
                                · have hyi : (y : Int) < (M : Int) := by omega
                                  have hcm := HWM.out wr HB.out y hlt
                                  obtain ⟨bs, hs1, hbs, hf1⟩ := HM.out.cell hlt
                                  have HBS := hid hbs
                                  clear hbs
                                  by_cases hl : T y = y
                                  · rw [show otherV T y = -1 by unfold otherV; rw [if_pos hl]] at hcm
                                    have HNN := hid (seen_not HSW.out hlt (.inl hl))
                                    have HSN := hid (fun c => seen_no (c := c) HNN.out)
                                    have HR1 := hid (HRN.out y HNN.out)
                                    clear hl
                                    go_wp2_with fail
                                    go_roundw
                                    case rel => exact ⟨y + 1, by omega, by go_num, by rw [HR1.out, HRYY.out], HM.out.congr (fun c _ => (HSN.out c).symm), HO.out, HB.out⟩
                                    case measure => simp [intOf]; omega
                                  · rw [show otherV T y = ((T y : Nat) : Int) by unfold otherV; rw [if_neg hl]] at hcm
                                    cases bs with
                                    | true =>
                                      have HNN := hid (seen_not HSW.out hlt (.inr (HBS.out.1 rfl)))
                                      have HSN := hid (fun c => seen_no (c := c) HNN.out)
                                      have HR1 := hid (HRN.out y HNN.out)
                                      have hty := HLT.out y hlt
                                      generalize T y = ty at *
                                      clear hl
                                      go_wp2_with fail
                                      go_roundw
                                      case rel => exact ⟨y + 1, by omega, by go_num, by rw [HR1.out, HRYY.out], HM.out.congr (fun c _ => (HSN.out c).symm), HO.out, HB.out⟩
                                      case measure => simp [intOf]; omega
                                    | false =>
                                      have HYL := hid (seen_lead HSW.out hlt hl (fun h => by have := HBS.out.2 h; cases this))
                                      have HSY := hid (fun c => seen_yes (c := c) HYL.out)
                                      have HR1 := hid (HRY.out y HYL.out)
                                      have HMG := hid (fun i (hi : i < plen M S T y) => mark_go HSW.out hlt HYL.out hi)
                                      have HMS := hid (mark_stop HSW.out hlt HYL.out)
                                      have HMR := hid (fun c => mark_ring (c := c) HSW.out hlt HYL.out)
                                      have hpl := (plen_facts HSW.out hlt).2.1
                                      have hty := HLT.out y hlt
                                      generalize hty2 : T y = ty at hcm hty
                                      clear hl hty2
                                      go_wp2_with fail
                                      go_loopg [32] 41 (fun (f : Nat) (xv : Value) (wr : World) => ∃ i z : Nat, f + i = 41 ∧ i ≤ plen M S T y ∧ Hid (z = goN S T i y) ∧ xv = .int .i64 z ∧ MarksAt wr gs M (fun c => seenS M S T y c ∨ ∃ i', i' < i ∧ (c = goN S T i' y ∨ c = S (goN S T i' y))) ∧ wr.heap[go]? = some (.cells C 3 (0, 0)) ∧ Below go W2 wr)
                                      case atStart => exact ⟨0, y, by omega, by omega, hid rfl, rfl, HM.out.congr fun c _ => ⟨.inl, fun h => h.resolve_right (fun ⟨i, hi, _⟩ => by omega)⟩, HO.out, HB.out⟩
                                      case round =>
                                        clear HM HO HB hcm hs1 hf1 HBS
                                        obtain ⟨i, z, hf, hi, hz, rfl, hm, hO, hb⟩ := hrel
                                        have HZ := hz
                                        have HM := hid hm
                                        have HO := hid hO
                                        have HB := hid hb
                                        clear hz hm hO hb
                                        have hzk : z < M := by rw [HZ.out]; exact goN_lt HSW.out hlt i
                                        have hzi : (z : Int) < (M : Int) := by omega
                                        obtain ⟨bz, hs1, hbz, hf1⟩ := HM.out.cell hzk
                                        have HBZ := hid hbz
                                        clear hbz
                                        cases bz with
                                        | true =>
                                          have HQ := hid (show i = plen M S T y from by
                                            rcases Nat.lt_or_ge i (plen M S T y) with h1 | h1
                                            · have h2 := HBZ.out.1 rfl
                                              rw [HZ.out] at h2
                                              exact absurd h2 (HMG.out i h1)
                                            · omega)
                                          have HMX := hid (HM.out.congr (M' := seenS M S T (y + 1)) fun c _ => by rw [HSY.out, ← HMR.out, HQ.out])
                                          go_wp2_with fail
                                          go_roundw
                                          case rel => exact ⟨y + 1, by omega, by go_num, by rw [HR1.out, HRYY.out]; go_num, HMX.out, HO.out, HB.out⟩
                                          case measure => simp [intOf]; omega
                                        | false =>
                                          have HQ := hid (show i < plen M S T y from by
                                            rcases Nat.lt_or_ge i (plen M S T y) with h1 | h1
                                            · exact h1
                                            · exfalso
                                              obtain rfl : i = plen M S T y := by omega
                                              obtain ⟨q', hq', e⟩ := HMS.out
                                              have := HBZ.out.2 (.inr ⟨q', hq', .inl (by rw [HZ.out]; exact e)⟩)
                                              cases this)
                                          have hcp := HWX.out wr HB.out z hzk
                                          have hsz := HSLT.out z hzk
                                          have HSZ := hid (show S z = S (goN S T i y) by rw [HZ.out])
                                          have hsy : ¬ S z = z := HSW.out.sne z hzk
                                          have hys : ¬ z = S z := fun e => hsy e.symm
                                          have hcm := HWM.out wr HB.out (S z) hsz
                                          have HOV := hid (show otherV T (S z) = ((goN S T (i + 1) y : Nat) : Int) by
                                            have h1 := on_sewn HSW.out hlt ((leadS_iff HSW.out hlt).1 HYL.out).1 i
                                            unfold otherV
                                            rw [HSZ.out, if_neg h1]
                                            rfl)
                                          rw [HOV.out] at hcm
                                          have hgk := goN_lt HSW.out hlt (i + 1)
                                          obtain ⟨z2, hz2⟩ : ∃ z2, goN S T (i + 1) y = z2 := ⟨_, rfl⟩
                                          have HZ2 := hid hz2.symm
                                          rw [hz2] at hcm hgk
                                          clear HOV hz2
                                          obtain ⟨sz, hsze⟩ : ∃ sz, S z = sz := ⟨_, rfl⟩
                                          rw [hsze] at hcp HSZ hsz hcm hsy hys
                                          have hszi : (sz : Int) < (M : Int) := by omega
                                          obtain ⟨b2, hs2, _, hf2⟩ := HM.out.cell hsz
                                          have hn1 : ¬ gM = gs := HNE.out.2.1
                                          have hn2 : ¬ gX = gs := HNE.out.1
                                          have hcm2 := cell_far2 (i := z) (j := sz) (u := .bool true) (v := .bool true) HNE.out.2.1 hcm
                                          have hcp2 := cell_far2 (i := z) (j := sz) (u := .bool true) (v := .bool true) HNE.out.1 hcp
                                          clear hsze
                                          go_wp2_with fail
                                          go_roundg (gk - 1)
                                          case measure => have := HQ.out; omega
                                          case rel =>
                                            refine ⟨i + 1, z2, by have := HQ.out; omega, HQ.out, HZ2, rfl, ?_, ?_, ?_⟩
                                            · refine (MarksAt.set (c := sz) (MarksAt.set (c := z) HM.out)).congr fun c _ => ?_
                                              constructor
                                              · rintro (((h | ⟨q', hq', h⟩) | h) | h)
                                                · exact .inl h
                                                · exact .inr ⟨q', by omega, h⟩
                                                · exact .inr ⟨i, by omega, .inl (by rw [← h]; exact HZ.out)⟩
                                                · exact .inr ⟨i, by omega, .inr (by rw [← h]; exact HSZ.out)⟩
                                              · rintro (h | ⟨q', hq', h⟩)
                                                · exact .inl (.inl (.inl h))
                                                · rcases Nat.lt_or_ge q' i with h1 | h1
                                                  · exact .inl (.inl (.inr ⟨q', h1, h⟩))
                                                  · obtain rfl : q' = i := by omega
                                                    rcases h with h | h
                                                    · exact .inl (.inr (by rw [h]; exact HZ.out))
                                                    · exact .inr (by rw [h]; exact HSZ.out)
                                            · exact kept_set (kept_set HO.out HGN.out) HGN.out
                                            · exact (HB.out.setCell (p := ⟨gs, z, none⟩) HSL.out _).setCell (p := ⟨gs, sz, none⟩) HSL.out _
                                · obtain rfl : M = y := by omega
                                  go_wp2_with fail
                                  refine bodyPost_ret (results_tmp2 rfl _ _ _) rfl ?_
                                  exact ⟨HBW.out.1.trans (HB.out.mono (by have := HBW.out.2; have := HGO.out; omega)), go, P, by rw [HRR.out, HRYY.out]; rfl, C, HO.out, HFIN.out⟩
end Go.Proofs.Ytonhnmpgikmlpaa
