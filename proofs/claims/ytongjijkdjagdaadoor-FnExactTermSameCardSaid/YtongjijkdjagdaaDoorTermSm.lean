/- Two grids compared; TermSame of both, by contracts. -/
import Derived.Test.YtongjijkdjagdaaDoorTermGd
import Derived.Test.YtongjijkdjagdaaDoorBunA
import Derived.Laws.StructEq
namespace Go.Proofs.YtongjijkdjagdaaDoor
open Go.RowKit

/-- The letters' cells. -/
def letC (l : List UInt8) : Array Value := (l.map fun b => Value.int .u8 b.toNat).toArray
theorem letC_at {l : List UInt8} {k : Nat} {x : UInt8} (h : l[k]? = some x) : (letC l)[k]? = some (.int .u8 x.toNat) := by simp [letC, h]
theorem gcells_letters (n m : Nat) (ls : List UInt8) (h : ls.length = 25) : (gcells n m ls).extract 2 27 = letC ls := by
  apply Array.ext'
  simp only [Array.toList_extract, gcells, letC]
  simp only [List.extract, List.drop_succ_cons, List.drop_zero]
  exact List.take_of_length_le (by simp [h])
section
variable (w : World)
theorem eq_three {P : Program} {w : World} {d : Nat} {xs ys : Array Value} {f1 f2 f3 : Field} {a1 b1 a2 b2 a3 b3 : Value} {c1 c2 c3 : Bool} (hn1 : f1.name ≠ "_") (hn2 : f2.name ≠ "_") (hn3 : f3.name ≠ "_")
    (p1 : (part f1.type xs f1.offset).run P w = .ok a1 w) (q1 : (part f1.type ys f1.offset).run P w = .ok b1 w) (p2 : (part f2.type xs f2.offset).run P w = .ok a2 w) (q2 : (part f2.type ys f2.offset).run P w = .ok b2 w)
    (p3 : (part f3.type xs f3.offset).run P w = .ok a3 w) (q3 : (part f3.type ys f3.offset).run P w = .ok b3 w)
    (e1 : (Op.equalIn d f1.type a1 b1).run P w = .ok c1 w) (e2 : (Op.equalIn d f2.type a2 b2).run P w = .ok c2 w) (e3 : (Op.equalIn d f3.type a3 b3).run P w = .ok c3 w) :
    (Op.eqFields d xs ys [f1, f2, f3]).run P w = .ok (c1 && c2 && c3) w := by
  simp only [Op.eqFields, if_pos hn1, if_pos hn2, if_pos hn3, Sem.run_bind, p1, q1, e1, Result.andThen_ok]
  cases c1 <;> cases c2 <;> cases c3 <;> simp [Sem.run_bind, Sem.run_ite, p2, q2, p3, q3, e2, e3]
theorem u8_eq (x y : UInt8) : ((x.toNat : Int) == (y.toNat : Int)) = (x == y) := by
  rw [Bool.eq_iff_iff, beq_iff_eq, beq_iff_eq]
  exact ⟨fun h => UInt8.toNat_inj.1 (by exact_mod_cast h), fun h => by rw [h]⟩
theorem run_eqItems_let (d : Nat) (a b : List UInt8) (ha : a.length = 25) (hb : b.length = 25) : ∀ is : List Nat, (∀ i ∈ is, i < 25) →
    (Op.eqItems (d + 1) 5 1 (letC a) (letC b) is).run Tryd.prog w = .ok (is.all fun i => a[i]? == b[i]?) w
  | [], _ => by simp [Op.eqItems]
  | i :: is, h => by
    have hi := h i (by simp)
    have ha1 : a[i]? = some (a[i]'(by omega)) := List.getElem?_eq_getElem (by omega)
    have hb1 : b[i]? = some (b[i]'(by omega)) := List.getElem?_eq_getElem (by omega)
    have e1 := letC_at ha1
    have e2 := letC_at hb1
    have ih := run_eqItems_let d a b ha hb is (fun j hj => h j (by simp [hj]))
    have hp : ∀ cs : Array Value, ∀ v, cs[i]? = some v → (part 5 cs (i * 1)).run Tryd.prog w = .ok v w := fun cs v hv => by
      simp [part, isAgg, run_underlying Tryd.underlying5, hv]
    have he : ∀ x y : UInt8, (Op.equalIn (d + 1) 5 (.int .u8 x.toNat) (.int .u8 y.toNat)).run Tryd.prog w = .ok (x == y) w := fun x y => by
      rw [run_equalIn_int w d _ _ _ _ _ Tryd.underlying5, u8_eq]
    simp only [Op.eqItems, Sem.run_bind, hp _ _ e1, hp _ _ e2, he, Result.andThen_ok, List.all_cons, ha1, hb1]
    cases hx : (a[i]'(by omega) == b[i]'(by omega)) with
    | true =>
      have hx2 : (some (a[i]'(by omega)) == some (b[i]'(by omega))) = true := by simpa using hx
      rw [hx2]
      simpa using ih
    | false =>
      have hx2 : (some (a[i]'(by omega)) == some (b[i]'(by omega))) = false := by simpa using hx
      rw [hx2]
      simp
theorem all_eq_let {a b : List UInt8} (ha : a.length = 25) (hb : b.length = 25) : ((List.range 25).all fun i => a[i]? == b[i]?) = decide (a = b) := by
  rw [Bool.eq_iff_iff, List.all_eq_true, decide_eq_true_iff]
  constructor
  · intro h
    refine List.ext_getElem? fun i => ?_
    by_cases hi : i < 25
    · exact eq_of_beq (h i (List.mem_range.2 hi))
    · rw [List.getElem?_eq_none (by omega), List.getElem?_eq_none (by omega)]
  · rintro rfl i _
    exact beq_self_eq_true _
theorem run_equal_let (d : Nat) {a b : List UInt8} (ha : a.length = 25) (hb : b.length = 25) :
    (Op.equalIn (d + 2) 37 (.agg (letC a)) (.agg (letC b))).run Tryd.prog w = .ok (decide (a = b)) w := by
  obtain ⟨i, hi⟩ : ∃ i, Tryd.prog.info? 5 = some i := info_of_underlying Tryd.underlying5
  have hc : Tryd.prog.cellsOf 5 = 1 := by kernel_rfl
  have h := run_equalIn_array (P := Tryd.prog) w (d + 1) (letC a) (letC b) Tryd.underlying37 hi
  rw [hc, run_eqItems_let w d a b ha hb _ (fun j hj => List.mem_range.1 hj), all_eq_let ha hb] at h
  exact h
/-- Two grids compared. -/
theorem run_equal_grid (n m n' m' : Nat) {a b : List UInt8} (ha : a.length = 25) (hb : b.length = 25) :
    (Op.equalIn 10000 39 (.agg (gcells n m a)) (.agg (gcells n' m' b))).run Tryd.prog w = .ok (decide (n = n' ∧ m = m' ∧ a = b)) w := by
  have h0 : ∀ (n m : Nat) (ls : List UInt8), (part 3 (gcells n m ls) 0).run Tryd.prog w = .ok (.int .i64 (n : Int)) w := fun n m ls => by
    simp [part, isAgg, run_underlying Tryd.underlying3, gcells_0]
  have h1 : ∀ (n m : Nat) (ls : List UInt8), (part 3 (gcells n m ls) 1).run Tryd.prog w = .ok (.int .i64 (m : Int)) w := fun n m ls => by
    simp [part, isAgg, run_underlying Tryd.underlying3, gcells_1]
  obtain ⟨i, hi⟩ : ∃ i, Tryd.prog.info? 37 = some i := info_of_underlying Tryd.underlying37
  have hc : Tryd.prog.cellsOf 37 = 25 := by kernel_rfl
  have his : i.size = 25 := by
    unfold Program.cellsOf at hc
    rw [hi] at hc
    exact hc
  have h2 : ∀ (n m : Nat) (ls : List UInt8), ls.length = 25 → (part 37 (gcells n m ls) 2).run Tryd.prog w = .ok (.agg (letC ls)) w := fun n m ls hl => by
    simp [part, isAgg, run_underlying Tryd.underlying37, sizeOf, typeInfo, hi, his, gcells_letters n m ls hl]
  have he : ∀ x y : Int, (Op.equalIn 9999 3 (.int .i64 x) (.int .i64 y)).run Tryd.prog w = .ok (x == y) w := fun x y => run_equalIn_int w 9998 _ _ _ _ _ Tryd.underlying3
  have hl : (Op.equalIn 9999 37 (.agg (letC a)) (.agg (letC b))).run Tryd.prog w = .ok (decide (a = b)) w := run_equal_let w 9997 ha hb
  have h := run_equalIn_struct (P := Tryd.prog) w 9999 39 (gcells n m a) (gcells n' m' b) (by unfold Program.fieldsOf; rw [Tryd.underlying39]) (by kernel_rfl)
  have k0 := h0 n m a
  have k1 := h1 n m a
  have k2 := h2 n m a ha
  have j0 := h0 n' m' b
  have j1 := h1 n' m' b
  have j2 := h2 n' m' b hb
  have q1 := he (n : Int) (n' : Int)
  have q2 := he (m : Int) (m' : Int)
  obtain ⟨f1, f2, f3, hf, n1, n2, n3, t1, t2, t3, o1, o2, o3⟩ : ∃ f1 f2 f3, (Tryd.prog.fieldsOf 39).toList = [f1, f2, f3] ∧ f1.name ≠ "_" ∧ f2.name ≠ "_" ∧ f3.name ≠ "_" ∧ f1.type = 3 ∧ f2.type = 3 ∧ f3.type = 37 ∧ f1.offset = 0 ∧ f2.offset = 1 ∧ f3.offset = 2 := by
    unfold Program.fieldsOf
    rw [Tryd.underlying39]
    exact ⟨_, _, _, rfl, by decide, by decide, by decide, rfl, rfl, rfl, rfl, rfl, rfl⟩
  rw [h, hf, eq_three (d := 9999) n1 n2 n3 (by rw [t1, o1]; exact k0) (by rw [t1, o1]; exact j0) (by rw [t2, o2]; exact k1) (by rw [t2, o2]; exact j1) (by rw [t3, o3]; exact k2) (by rw [t3, o3]; exact j2) (by rw [t1]; exact q1) (by rw [t2]; exact q2) (by rw [t3]; exact hl)]
  have en : ((n : Int) == (n' : Int)) = decide (n = n') := by rw [Bool.eq_iff_iff, beq_iff_eq, decide_eq_true_iff]; omega
  have em : ((m : Int) == (m' : Int)) = decide (m = m') := by rw [Bool.eq_iff_iff, beq_iff_eq, decide_eq_true_iff]; omega
  have ee : (decide (n = n') && decide (m = m') && decide (a = b)) = decide (n = n' ∧ m = m' ∧ a = b) := by simp [Bool.decide_and, Bool.and_assoc]
  rw [en, em, ee]
end
theorem wpList_load_rowG {P : Program} {ops : Array Oper} {rest : List Oper} {o : Oper} {a : Act} {w : World} {Q : Exit → Act → World → Prop} (hw : Region.wanted o (yielded ops a.tmps) = true) (ty : TypeId) (x : Operand) (ho : o.op = .load ty x)
    (g : Nat) (hx : a.eval x = .pointer (some ⟨g, 0, none⟩)) (t : TypeId) (cs : Array Value) (fr : Nat × Nat) (d : TypeDesc) (hg : w.heap[g]? = some (.cells cs t fr))
    (hu : P.underlying ty = some d) (hd : (match d with | .struct _ | .array _ _ => true | _ => false) = true) (hi : (P.info? ty).map (·.size) = some cs.size)
    (h : wpList P ops Q rest (a.put o.dst (.agg cs)) w) : wpList P ops Q (o :: rest) a w :=
  BigFrame.wpList_want hw fun _ hK => wp_load_row ty x ho g hx t cs fr d hg hu hd hi (hK _ _ h)
/-- Whether two texts tell the same grid. -/
def sameF (s t : List UInt8) : Bool := okF s && okF t && decide (gridF s = gridF t)
theorem gcells_same {n m n' m' : Nat} {ss tt : List ByteArray} (h : IsGrid n m ss) (h' : IsGrid n' m' tt) : (n = n' ∧ m = m' ∧ pad (flat ss) = pad (flat tt)) ↔ ss = tt := by
  constructor
  · rintro ⟨rfl, rfl, e⟩
    rw [← gtexts_flat h, ← gtexts_flat h', e]
  · rintro rfl
    have h0 := h.1.symm.trans h'.1
    have h1 := h.nm.2
    have h2 := h'.nm.2
    cases ss with
    | nil => exact absurd h.2.1 (by rw [← h.1]; decide)
    | cons r l => exact ⟨h0, (h1 r rfl).trans (h2 r rfl).symm, rfl⟩
def SameIs (s t : List UInt8) (w : World) (e : Ending) (w' : World) : Prop := e = .returned (.bool (sameF s t)) ∧ Below w.heap.size w w'
set_option maxRecDepth 100000 in
set_option maxHeartbeats 4000000 in
theorem implTermSame_any (l k : List UInt8) (w : World) (hl : l.length ≤ 1048576) (hk : k.length ≤ 1048576) (hE : LaidE w) : Calls Tryd.prog 9 #[.string (strB l), .string (strB k)] w (SameIs l k w) := by
  have HO := hid (readTerm_any l w hl hE)
  have HO2 := hid (fun W (h : LaidE W) => readTerm_any k W hk h)
  have HE := hid hE
  clear hl hk hE
  unfold SameIs
  go_enter Tryd.func9, Tryd.ntmps9
  go_wp2_with fail
  refine HO.out.mono ?_
  rintro e w1 ⟨hb, hr⟩
  -- what the first text tells
  obtain ⟨ga, oa, A0, rfl, hga⟩ : ∃ ga oa A0, e = .returned (.tuple #[A0, .agg ga, .bool oa]) ∧ oa = okF l ∧ (Tryd.prog.info? 39).map (·.size) = some ga.size ∧ zeroG.size = ga.size ∧ ga.all (·.oneCell') = true ∧ (oa = true → ∃ n m, IsGrid n m (gridF l) ∧ ga = gcells n m (pad (flat (gridF l)))) := by
    rcases hr with ⟨t, ht, rfl⟩ | ⟨ht, rfl⟩
    · have hwf := (okT_text ht).2.1
      refine ⟨_, _, _, rfl, by unfold okF; rw [ht], t.gc_size hwf, t.gc_zero hwf, t.gc_one, fun hf => ?_⟩
      have hG : gridF l = t.G := by unfold gridF; rw [ht]; exact if_pos hf
      rw [hG]
      exact ⟨_, _, t.grid hwf hf, if_pos hf⟩
    · exact ⟨_, _, _, rfl, by unfold okF; rw [ht], Tryd.size_grid, rfl, gcells_one 0 0 (pad []), fun h => by cases h⟩
  obtain ⟨hoa, hsa, hza, hna, hia⟩ := hga
  have HSA := hid hsa
  have HZA := hid hza
  have HNA := hid hna
  have HIA := hid hia
  have HOA := hid hoa
  have E1 := hid (HE.out.below hb)
  have HB := hid hb
  clear hr hb hsa hza hna hia hoa
  have A1 := hid (setRow_heap (w1.alloc (.cells zeroG 39)) w1.heap.size zeroG ga 39 (0, 0) (heap_new0 w1 _))
  have AB := hid (below_setRow' (HB.out.alloc HB.out.size (.cells zeroG 39)) HB.out.size ga)
  have AE := hid (E1.out.below (below_setRow' ((Below.refl w1.heap.size w1).alloc (Nat.le_refl _) (.cells zeroG 39)) (Nat.le_refl _) ga))
  generalize hY : (w1.alloc (.cells zeroG 39)).setRow w1.heap.size ga = Y at A1 AB AE
  have HY := hid hY
  clear hY
  go_wp2_with (refine wpList_store_row rfl 39 _ _ rfl w1.heap.size ga rfl rfl 39 zeroG (heap_new0 w1 _) HSA.out HZA.out HNA.out ?_; rw [HY.out])
  refine (HO2.out Y AE.out).mono ?_
  rintro e w2 ⟨hb, hr⟩
  obtain ⟨gb, ob, B0, rfl, hgb⟩ : ∃ ga oa A0, e = .returned (.tuple #[A0, .agg ga, .bool oa]) ∧ oa = okF k ∧ (Tryd.prog.info? 39).map (·.size) = some ga.size ∧ zeroG.size = ga.size ∧ ga.all (·.oneCell') = true ∧ (oa = true → ∃ n m, IsGrid n m (gridF k) ∧ ga = gcells n m (pad (flat (gridF k)))) := by
    rcases hr with ⟨t, ht, rfl⟩ | ⟨ht, rfl⟩
    · have hwf := (okT_text ht).2.1
      refine ⟨_, _, _, rfl, by unfold okF; rw [ht], t.gc_size hwf, t.gc_zero hwf, t.gc_one, fun hf => ?_⟩
      have hG : gridF k = t.G := by unfold gridF; rw [ht]; exact if_pos hf
      rw [hG]
      exact ⟨_, _, t.grid hwf hf, if_pos hf⟩
    · exact ⟨_, _, _, rfl, by unfold okF; rw [ht], Tryd.size_grid, rfl, gcells_one 0 0 (pad []), fun h => by cases h⟩
  obtain ⟨hob, hsb, hzb, hnb, hib⟩ := hgb
  have HSB := hid hsb
  have HZB := hid hzb
  have HNB := hid hnb
  have HIB := hid hib
  have HOB := hid hob
  have BL := hid (lt_of_block ((hb.block _ (lt_of_block A1.out)).trans A1.out))
  have HB2 := hid (AB.out.trans (hb.mono AB.out.size))
  have B1 := hid (setRow_heap (w2.alloc (.cells zeroG 39)) w2.heap.size zeroG gb 39 (0, 0) (heap_new0 w2 _))
  have B2 := hid (show ((w2.alloc (.cells zeroG 39)).setRow w2.heap.size gb).heap[w1.heap.size]? = some (.cells ga 39 (0, 0)) by
    rw [setRow_other _ _ _ _ (by have := BL.out; omega), Below.heap_alloc _ _ _ BL.out]; exact (hb.block _ (lt_of_block A1.out)).trans A1.out)
  have BB := hid (below_setRow' (HB2.out.alloc HB2.out.size (.cells zeroG 39)) HB2.out.size gb)
  clear hr hb hsb hzb hnb hib hob
  generalize hX : (w2.alloc (.cells zeroG 39)).setRow w2.heap.size gb = X at B1 B2 BB
  have HX := hid hX
  clear hX
  cases oa with
  | false =>
    have HF := hid (show sameF l k = false by unfold sameF; rw [← HOA.out]; rfl)
    go_wp2_with (refine wpList_store_row rfl 39 _ _ rfl w2.heap.size gb rfl rfl 39 zeroG (heap_new0 w2 _) HSB.out HZB.out HNB.out ?_; rw [HX.out])
    go_ret
    exact ⟨by rw [HF.out]; rfl, BB.out⟩
  | true =>
    cases ob with
    | false =>
      have HF := hid (show sameF l k = false by unfold sameF; rw [← HOB.out, Bool.and_false]; rfl)
      go_wp2_with (refine wpList_store_row rfl 39 _ _ rfl w2.heap.size gb rfl rfl 39 zeroG (heap_new0 w2 _) HSB.out HZB.out HNB.out ?_; rw [HX.out])
      go_ret
      exact ⟨by rw [HF.out]; rfl, BB.out⟩
    | true =>
      obtain ⟨n, m, hga, ea⟩ := HIA.out rfl
      obtain ⟨n', m', hgb, eb⟩ := HIB.out rfl
      have HF := hid (show sameF l k = decide (n = n' ∧ m = m' ∧ pad (flat (gridF l)) = pad (flat (gridF k))) by
        unfold sameF
        rw [← HOA.out, ← HOB.out, Bool.true_and, Bool.true_and, decide_eq_decide]
        exact (gcells_same hga hgb).symm)
      have hq := fun w' => run_equal_grid w' n m n' m' hga.plen hgb.plen
      rw [← ea, ← eb] at hq
      generalize decide (n = n' ∧ m = m' ∧ pad (flat (gridF l)) = pad (flat (gridF k))) = r at HF hq
      clear hga hgb ea eb HIA HIB HOA HOB
      go_wp2_with (first
        | (refine wpList_store_row rfl 39 _ _ rfl w2.heap.size gb rfl rfl 39 zeroG (heap_new0 w2 _) HSB.out HZB.out HNB.out ?_; rw [HX.out])
        | refine wpList_load_rowG rfl 39 _ rfl w1.heap.size rfl 39 ga (0, 0) _ B2.out Tryd.underlying39 rfl HSA.out ?_
        | refine wpList_load_rowG rfl 39 _ rfl w2.heap.size rfl 39 gb (0, 0) _ B1.out Tryd.underlying39 rfl HSB.out ?_)
      go_ret
      exact ⟨by rw [HF.out]; rfl, BB.out⟩
theorem gridF_small (l : List UInt8) : (gridF l).length ≤ 5 := by
  unfold gridF
  cases h : okT l with
  | none => simp
  | some t =>
    show (if t.fits = true then t.G else []).length ≤ 5
    split
    · rename_i hf
      have hg := t.grid (okT_text h).2.1 hf
      rw [hg.1]
      exact hg.2.2.1
    · simp
theorem Strs.get {w : World} {B : Nat} {A : Option Addr} {ss : List ByteArray} {k : Nat} (h : Strs w B A ss) (hk : k < ss.length) : ∃ b off, A = some ⟨b, off, none⟩ ∧ b < B ∧ w.cell? ⟨b, off + k, none⟩ = some (.string (ss[k]'hk)) := by
  obtain ⟨b, off, s, h1, h2, h3, h4⟩ := h.at_ hk
  rw [List.getElem?_eq_getElem hk] at h3
  obtain rfl := Option.some.inj h3
  exact ⟨b, off, h1, h2, h4⟩
def SmRel (R R' : List ByteArray) (w : World) (i : Value) (wr : World) : Prop := ∃ k : Nat, k ≤ R.length ∧ i = .int .i64 k ∧ (∀ q, q < k → R[q]? = R'[q]?) ∧ ∃ d, wr = w.drewN d
theorem bytes_eq (s t : ByteArray) (r : Bool) (h : decide (s = t) = r) : (s.toList == t.toList) = r := by
  rw [← h, Bool.eq_iff_iff, beq_iff_eq, decide_eq_true_iff]
  constructor
  · intro e
    apply ByteArray.ext
    apply Array.ext'
    have h1 := Lib.toList_data s
    have h2 := Lib.toList_data t
    rw [e, h2] at h1
    exact h1.symm
  · rintro rfl
    rfl
set_option maxRecDepth 100000 in
set_option maxHeartbeats 4000000 in
theorem specTermSame_any (l k : List UInt8) (w : World) (hl : l.length ≤ 1048576) (hk : k.length ≤ 1048576) : Calls Tryd.prog 8 #[.string (strB l), .string (strB k)] w (SameIs l k w) := by
  have HO := hid (specTermGrid_any l w hl)
  have HO2 := hid (fun W => specTermGrid_any k W hk)
  have HS5 := hid (gridF_small l)
  have HS5k := hid (gridF_small k)
  clear hl hk
  unfold SameIs sameF
  unfold GridFS at HO HO2
  generalize okF l = ol at HO ⊢
  generalize okF k = ok at HO2 ⊢
  generalize gridF l = R at HO HS5 ⊢
  generalize gridF k = R' at HO2 HS5k ⊢
  go_enter Tryd.func8, Tryd.ntmps8
  go_wp2_with fail
  refine HO.out.mono ?_
  rintro e w1 ⟨⟨A, c, rfl, hs⟩, hb⟩
  have HS := hid hs
  have HB := hid hb
  clear hs hb
  go_wp2_with fail
  refine (HO2.out w1).mono ?_
  rintro e w2 ⟨⟨A', c', rfl, hs'⟩, hb⟩
  have HS1 := hid ((HS.out.below hb (Nat.le_refl _)).more hb.size)
  have HS' := hid hs'
  have HB2 := hid (HB.out.trans (hb.mono HB.out.size))
  clear hs' hb
  cases ol with
  | false =>
    go_wp2_with fail
    go_ret
    exact ⟨rfl, HB2.out⟩
  | true =>
    cases ok with
    | false =>
      go_wp2_with fail
      go_ret
      exact ⟨rfl, HB2.out⟩
    | true =>
      by_cases hle : R.length = R'.length
      · have hne : ((R.length : Int) != (R'.length : Int)) = false := by rw [bne_eq_false_iff_eq]; omega
        have HLE := hid hle
        clear hle
        go_wp2_with fail
        go_loopw [9] (SmRel R R' w2) (fun i _ => R.length - (intOf i).toNat)
        case atStart => exact ⟨0, Nat.zero_le _, rfl, fun q hq => absurd hq (Nat.not_lt_zero q), 0, rfl⟩
        case round =>
          obtain ⟨j, hj, rfl, hsame, d, rfl⟩ := hrel
          have HSA := hid hsame
          clear hsame
          by_cases hlt : j < R.length
          · have hlt' : j < R'.length := by have := HLE.out; omega
            obtain ⟨b, off, rfl, hb, hc⟩ := HS1.out.get hlt
            obtain ⟨b', off', rfl, hb', hc'⟩ := HS'.out.get hlt'
            have hi : (j : Int) < (R.length : Int) := by omega
            have hi' : (j : Int) < (R'.length : Int) := by omega
            have hi0 : (0 : Int) ≤ (j : Int) := by omega
            have hj5 : (j : Int) ≤ 5 := by have := HS5.out; omega
            by_cases he : R[j]'hlt = R'[j]'hlt'
            · have hq := bytes_eq _ _ true (decide_eq_true he)
              have HQ := hid (show R[j]? = R'[j]? by rw [List.getElem?_eq_getElem hlt, List.getElem?_eq_getElem hlt', he])
              generalize R[j]'hlt = s at *
              generalize R'[j]'hlt' = t at *
              clear he
              go_wp2_with fail
              go_quiet (fail)
              go_wp2_with fail
              go_roundw
              case rel => exact ⟨j + 1, by omega, by go_num, fun q hq' => by
                by_cases e : q < j
                · exact HSA.out q e
                · obtain rfl : q = j := by omega
                  exact HQ.out, _, rfl⟩
              case measure => simp [intOf]; omega
            · have hq := bytes_eq _ _ false (decide_eq_false he)
              have HQ := hid (show R ≠ R' from fun e => he (by subst e; rfl))
              generalize R[j]'hlt = s at *
              generalize R'[j]'hlt' = t at *
              clear he
              go_wp2_with fail
              go_quiet (fail)
              go_wp2_with fail
              go_ret
              exact ⟨by rw [decide_eq_false HQ.out]; rfl, below_drewN' (below_drewN' HB2.out _) _⟩
          · obtain rfl : j = R.length := by omega
            have HQ := hid (show R = R' from List.ext_getElem? fun q => by
              by_cases hq : q < R.length
              · exact HSA.out q hq
              · have := HLE.out
                rw [List.getElem?_eq_none (by omega), List.getElem?_eq_none (by omega)])
            go_wp2_with fail
            go_ret
            exact ⟨by rw [decide_eq_true HQ.out]; rfl, below_drewN' HB2.out _⟩
      · have hne : ((R.length : Int) != (R'.length : Int)) = true := by rw [bne_iff_ne]; omega
        have HQ := hid (show R ≠ R' from fun e => hle (by rw [e]))
        clear hle
        go_wp2_with fail
        go_ret
        exact ⟨by rw [decide_eq_false HQ.out]; rfl, HB2.out⟩
end Go.Proofs.YtongjijkdjagdaaDoor
