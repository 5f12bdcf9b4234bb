/- What the specification reads of a text that opens with a bracket, and of every text. -/
import Derived.Test.YtongjijkdjagdaaDoorTermS
import Derived.Test.YtongjijkdjagdaaDoorBunA
namespace Go.Proofs.YtongjijkdjagdaaDoor
open Go.RowKit

/-- What is read behind a bracket. -/
def rdP (f : Nat) (l : List UInt8) : Option (Tm × List UInt8) :=
  match rd f l with
  | some (a, s :: l1) =>
    if isMid s = true then
      match rd f l1 with
      | some (b, z :: l3) => if z = 41 then some (.cpl a s b, l3) else none
      | _ => none
    else none
  | _ => none
theorem rd_open (f : Nat) (l : List UInt8) : rd (f + 1) (40 :: l) = rdP f l := by
  conv => lhs; unfold rd
  rw [if_pos rfl]
  unfold rdP
  rfl
theorem rdP_inv {f : Nat} {l r : List UInt8} {t : Tm} (h : rdP f l = some (t, r)) : ∃ a s l1 b, rd f l = some (a, s :: l1) ∧ isMid s = true ∧ rd f l1 = some (b, 41 :: r) ∧ t = .cpl a s b := by
  unfold rdP at h
  split at h
  · rename_i a s l1 ha
    by_cases hm : isMid s = true
    · rw [if_pos hm] at h
      split at h
      · rename_i b z l3 hb
        by_cases hz : z = 41
        · rw [if_pos hz] at h
          simp only [Option.some.injEq, Prod.mk.injEq] at h
          obtain ⟨rfl, rfl⟩ := h
          subst hz
          exact ⟨a, s, l1, b, ha, hm, hb, rfl⟩
        · rw [if_neg hz] at h; cases h
      · cases h
    · rw [if_neg hm] at h; cases h
  · cases h
theorem drop_tail {L r x : List UInt8} {j : Nat} (h : L.drop j = x ++ r) : L.drop (L.length - r.length) = r ∧ r.length ≤ L.length := by
  have e : L = (L.take j ++ x) ++ r := by rw [List.append_assoc, ← h, List.take_append_drop]
  have hl := congrArg List.length e
  rw [List.length_append] at hl
  refine ⟨?_, by omega⟩
  have : L.length - r.length = (L.take j ++ x).length := by omega
  rw [this]
  have h2 : ((L.take j ++ x) ++ r).drop (L.take j ++ x).length = r := List.drop_left
  rw [← e] at h2
  exact h2
/-- Where a term ends. -/
theorem rd_end {f j : Nat} {L r : List UInt8} {t : Tm} (h : rd f (L.drop j) = some (t, r)) : L.drop (L.length - r.length) = r ∧ r.length ≤ L.length := drop_tail (rd_ok _ _ _ _ h).1
theorem wpOp_makeR {P : Program} {Q : Exit → Act → World → Prop} {ops : Array Oper} {i : Nat} {o : Oper} (hi : ops[i]? = some o) (hg : o.guard = none) {u : Value} {a : Act} {w w' : World} {R : Value → World → Prop}
    (hr : (execOp a.eval o).run P w = .ok (.value u) w') (h : R u w') (hb : Below w.heap.size w w') : wpOp P ops Q i (RelQ ops i R a w) a w := by
  unfold wpOp
  simp only [hi]
  rw [if_pos (by simp [Region.wanted, hg])]
  refine .inl ?_
  unfold Oper.wp
  rw [hr]
  simp only [Oper.upon]
  exact ⟨u, by rw [hi]; rfl, h, hb⟩
/-- Nothing read: the cells. -/
def noneC (g : Nat) : Array Value := #[.int .u8 46, .int .i64 1, .int .i64 1, .slice (some ⟨g, 0, none⟩) 0 0]
def zeroTm : Array Value := #[.int .u8 0, .int .i64 0, .int .i64 0, .slice none 0 0]
theorem noneC_tm (g : Nat) : noneC g = tmC 46 (1, 1) (.slice (some ⟨g, 0, none⟩) 0 0) := rfl
theorem noneC_one (g : Nat) : (noneC g).all (·.oneCell') = true := by rw [noneC_tm]; exact tmC_one _ _ _ _ _
/-- What stands through the reading: the result's variable, and none. -/
structure Two (w : World) (W : World) : Prop where
  r : W.heap[w.heap.size]? = some (.cells zeroTm 72 (0, 0))
  n : W.heap[w.heap.size + 1 + 1]? = some (.cells (noneC (w.heap.size + 1)) 72 (0, 0))
  b : Below w.heap.size w W
theorem Two.below {w W W' : World} (h : Two w W) (hb : Below W.heap.size W W') : Two w W' := ⟨(hb.block _ (lt_of_block h.r)).trans h.r, (hb.block _ (lt_of_block h.n)).trans h.n, h.b.trans (hb.mono h.b.size)⟩
theorem Two.lt {w W : World} (h : Two w W) : w.heap.size + 1 + 1 < W.heap.size := lt_of_block h.n
theorem Two.alloc {w W : World} (h : Two w W) (o : Obj) : Two w (W.alloc o) := h.below ((Below.refl _ W).alloc (Nat.le_refl _) o)
theorem fail_read {f at_ : Nat} {L : List UInt8} {w W : World} (h : Two w W) (hd : ∀ t' r, rd f (L.drop at_) = some (t', r) → t'.fits = false) :
    ReadS f at_ L w (.returned (.tuple #[.agg (noneC (w.heap.size + 1)), .int .i64 0])) (W.setRow w.heap.size (noneC (w.heap.size + 1))) :=
  ⟨below_setRow' h.b (Nat.le_refl _) _, .lone 46, _, 0, rfl, ⟨_, _, rfl⟩, rfl, .inr ⟨rfl, hd⟩⟩

/-- What the operations hand back that make a couple. -/
def opRel (g1 : Nat) (L : List UInt8) (k1 : Nat) (s : UInt8) (ca cb : Array Value) (da : Nat × Nat) (lo : Nat) (i : Nat) (v : Value) (W : World) : Prop :=
  match i with
  | 0 => v = .string (strB L)
  | 1 => v = .int .i64 (k1 : Int)
  | 2 => v = .int .u8 (s.toNat : Int)
  | 3 => v = .pointer (some ⟨g1, 1, none⟩)
  | 4 => v = .int .i64 (da.1 : Int)
  | 5 => v = .pointer (some ⟨g1, 2, none⟩)
  | 6 => v = .int .i64 (da.2 : Int)
  | 7 => v = .agg ca
  | 8 => v = .agg cb
  | 9 => ∃ g, v = .slice (some ⟨g, 0, none⟩) 2 2 ∧ W.heap[g]? = some (.cells (ca ++ cb) 72 (0, 0)) ∧ lo ≤ g
  | 10 => ∃ g, v = .agg (tmC s da (.slice (some ⟨g, 0, none⟩) 2 2)) ∧ W.heap[g]? = some (.cells (ca ++ cb) 72 (0, 0)) ∧ lo ≤ g
  | _ => ∃ g, v = .pointer (some ⟨g, 0, none⟩) ∧ W.heap[g]? = some (.cells zeroTm 72 (0, 0)) ∧ lo ≤ g
theorem opRel_kept {g1 : Nat} {L : List UInt8} {k1 : Nat} {s : UInt8} {ca cb : Array Value} {da : Nat × Nat} {lo : Nat} : ∀ i v W W', opRel g1 L k1 s ca cb da lo i v W → Below W.heap.size W W' → opRel g1 L k1 s ca cb da lo i v W'
  | 0, _, _, _, h, _ => h
  | 1, _, _, _, h, _ => h
  | 2, _, _, _, h, _ => h
  | 3, _, _, _, h, _ => h
  | 4, _, _, _, h, _ => h
  | 5, _, _, _, h, _ => h
  | 6, _, _, _, h, _ => h
  | 7, _, _, _, h, _ => h
  | 8, _, _, _, h, _ => h
  | 9, _, _, _, ⟨g, h1, h2, h3⟩, hb => ⟨g, h1, (hb.block g (lt_of_block h2)).trans h2, h3⟩
  | 10, _, _, _, ⟨g, h1, h2, h3⟩, hb => ⟨g, h1, (hb.block g (lt_of_block h2)).trans h2, h3⟩
  | _ + 11, _, _, _, ⟨g, h1, h2, h3⟩, hb => ⟨g, h1, (hb.block g (lt_of_block h2)).trans h2, h3⟩
theorem Keeps.setRowUp {lo g : Nat} {a w : World} (h : Keeps lo a w) (hg : a.heap.size ≤ g) (cs : Array Value) : Keeps lo a (w.setRow g cs) := fun k h1 h2 => (setRow_other w g k cs (by omega)).trans (h k h1 h2)
theorem size_setRow' (w : World) (g : Nat) (cs : Array Value) : (w.setRow g cs).heap.size = w.heap.size := by simp
theorem fit_b {p q : Nat × Nat} (h : fit2 124 p q = true) : p.1 = q.1 ∧ p.2 + q.2 ≤ 5 := by
  unfold fit2 at h
  rw [if_neg (by decide)] at h
  simpa only [Bool.and_eq_true, decide_eq_true_eq] using h
theorem fit_b2 {p q : Nat × Nat} (h : p.1 = q.1) (h5 : p.2 + q.2 ≤ 5) : fit2 124 p q = true := by
  unfold fit2
  rw [if_neg (by decide)]
  simp [h, h5]
theorem fit_u {p q : Nat × Nat} (h : fit2 45 p q = true) : p.2 = q.2 ∧ p.1 + q.1 ≤ 5 := by
  unfold fit2 at h
  rw [if_pos rfl] at h
  simpa only [Bool.and_eq_true, decide_eq_true_eq] using h
theorem fit_u2 {p q : Nat × Nat} (h : p.2 = q.2) (h5 : p.1 + q.1 ≤ 5) : fit2 45 p q = true := by
  unfold fit2
  rw [if_pos rfl]
  simp [h, h5]

set_option maxRecDepth 100000 in
set_option maxHeartbeats 8000000 in
theorem read_open (f : Nat) (at_ : Nat) (L : List UInt8) (l : List UInt8) (w : World) (h : L.drop at_ = 40 :: l) (hL : L.length ≤ 60) (IH : ∀ (j : Nat) (w : World), j ≤ L.length → at_ < j → Calls Tryd.prog 75 #[.string (strB L), .int .i64 (j : Int)] w (ReadS f j L w)) :
    Calls Tryd.prog 75 #[.string (strB L), .int .i64 (at_ : Int)] w (ReadS (f + 1) at_ L w) := by
  have hsz : ((strB L).size : Int) = (L.length : Int) := by rw [strB_size]
  obtain ⟨hk, hb⟩ := strB_at L at_ 40 l h
  have hlt : at_ < L.length := by rw [strB_size] at hk; exact hk
  have h1 : (at_ : Int) < (L.length : Int) := by omega
  have h0 : (L.length : Int) ≤ 60 := by omega
  have HD := hid h
  have HLT := hid hlt
  have HD1 := hid (show L.drop (at_ + 1) = l by rw [← List.drop_drop, h]; rfl)
  have HL := hid (l1Letter_any 40)
  rw [show isLet 40 = false from rfl] at HL
  have HIH := hid IH
  have HI1 := hid (fun W => IH (at_ + 1) W (by omega) (by omega))
  rw [Int.natCast_add, show ((1 : Nat) : Int) = 1 from rfl] at HI1
  clear h hL hlt IH
  have T0 := hid (show Two w (((w.alloc (.cells zeroTm 72)).alloc (.cells #[] 72)).alloc (.cells (noneC (w.heap.size + 1)) 72)) from
    ⟨heap_new2 w _ _ _, by have := heap_new0 ((w.alloc (.cells zeroTm 72)).alloc (.cells #[] 72)) (.cells (noneC (w.heap.size + 1)) 72); rw [World.size_alloc, World.size_alloc] at this; exact this,
     (((Below.refl _ w).alloc (Nat.le_refl _) _).alloc (by simp) _).alloc (by simp; omega) _⟩)
  unfold zeroTm noneC at T0
  go_enter Tryd.func75, Tryd.ntmps75
  go_wp2_with fail
  refine (HL.out _).mono ?_
  rintro e w' ⟨rfl, rfl⟩
  go_wp2_with fail
  generalize World.alloc (World.alloc (World.alloc w _) _) _ = Y at T0 ⊢
  refine (HI1.out _).mono ?_
  rintro e w1 ⟨hb1, ta, ca, k1, rfl, hta, hfa, hra⟩
  obtain ⟨A, na, ka, rfl⟩ := hta.shape
  have T1 := hid (T0.out.below hb1)
  have HTa := hid (hta.mono (show w.heap.size + 1 ≤ _ from by have := T0.out.lt; omega))
  have HFa := hid hfa
  have HRa := hid hra
  have hd := ta.dim_le hfa
  obtain ⟨da, hda⟩ : ∃ d, ta.dim = d := ⟨_, rfl⟩
  have HDa := hid hda
  rw [hda] at hd HTa
  have a1 : (da.1 : Int) ≤ 5 := by omega
  have a2 : (da.2 : Int) ≤ 5 := by omega
  rw [hda]
  have TX := hid (T1.out.alloc (.cells (tmC ta.sgn da (.slice A na ka)) 72))
  unfold tmC at TX ⊢
  clear hb1 hta hfa hda hd T0 HI1
  rcases hra with ⟨r1, hr1, hk1, hp1⟩ | ⟨hk0, hno⟩
  · have HK1 := hid hk1
    have HR1 := hid hr1
    obtain ⟨hdr1, hle1⟩ := rd_end hr1
    rw [← hk1] at hdr1
    have HDR1 := hid hdr1
    have hkl : k1 ≤ L.length := by omega
    have hk60 : (k1 : Int) ≤ 60 := by omega
    have hp1i : ¬ ((k1 : Int) = 0) := by omega
    have hp1b : ((k1 : Int) == 0) = false := by rw [beq_eq_false_iff_ne]; omega
    have HP1 := hid hp1
    clear hr1
    cases r1 with
    | nil =>
      have hge : (L.length : Int) ≤ (k1 : Int) := by simp at hk1; omega
      clear hle1 hk1 hdr1 hkl
      go_wp2_with (first
              | refine wpList_load_row rfl 72 _ rfl (w.heap.size + 1 + 1) rfl 72 (noneC (w.heap.size + 1)) (0, 0) _ TX.out.n Tryd.underlying72 rfl Tryd.size_tm ?_
              | refine wpList_store_row rfl 72 _ _ rfl w.heap.size (noneC (w.heap.size + 1)) rfl rfl 72 zeroTm TX.out.r Tryd.size_tm rfl (noneC_one _) ?_)
      refine bodyPost_ret (results_row_tmp Tryd.results75 _ w.heap.size 72 (noneC (w.heap.size + 1)) (0, 0) _ (by rfl) (setRow_heap _ _ _ _ _ _ TX.out.r) Tryd.underlying72 rfl Tryd.size_tm) rfl ?_
      refine fail_read TX.out fun t' r hr => ?_
      rw [HD.out, rd_open] at hr
      obtain ⟨a, s', l1', b, g1, g2, g3, rfl⟩ := rdP_inv hr
      rw [← HD1.out] at g1
      rw [HR1.out] at g1
      simp at g1
    | cons s l1 =>
      have hlt1 : (k1 : Int) < (L.length : Int) := by rw [List.length_cons] at hk1 hle1; omega
      obtain ⟨hkk1, hb1⟩ := strB_at L k1 s l1 hdr1
      have HLT1 := hid (show k1 + 1 ≤ L.length by omega)
      clear hle1 hk1 hdr1 hkl
      by_cases hmid : isMid s = true
      · have HMID := hid hmid
        have HI2 := hid (fun W => HIH.out (k1 + 1) W HLT1.out (by
          have g1 := HK1.out
          have g2 := congrArg List.length HD1.out
          have g3 := rd_len HR1.out
          have g4 := HLT.out
          rw [List.length_drop] at g2 g3
          omega))
        rw [Int.natCast_add, show ((1 : Nat) : Int) = 1 from rfl] at HI2
        have HDR2 := hid (show L.drop (k1 + 1) = l1 by rw [← List.drop_drop, HDR1.out]; rfl)
        have TA := hid (heap_new0 w1 (.cells (tmC ta.sgn da (.slice A na ka)) 72))
        have HTaX := hid (HTa.out.kept (Keeps.of ((Below.refl _ w1).alloc (Nat.le_refl _) (.cells (tmC ta.sgn da (.slice A na ka)) 72))))
        have HW1 := hid T1.out.lt
        unfold tmC at TA HTaX
        rcases mid_two hmid with rfl | rfl
        · clear hmid HMID
          go_wp2_with fail
          have TXX := hid TX.out
          generalize World.alloc w1 _ = X1 at TA HTaX TXX ⊢
          refine (HI2.out _).mono ?_
          rintro e w2 ⟨hb2, tb, cb, k2, rfl, htb, hfb, hrb⟩
          obtain ⟨B, nb, kb, rfl⟩ := htb.shape
          have T2 := hid (TXX.out.below hb2)
          have HTb := hid (htb.mono (show w.heap.size + 1 ≤ _ from by have := TXX.out.lt; omega))
          have HTa2 := hid (HTaX.out.kept (Keeps.of hb2))
          have TA2 := hid ((hb2.block _ (lt_of_block TA.out)).trans TA.out)
          have HW2 := hid (lt_of_block TA2.out)
          have HFb := hid hfb
          have hd2 := tb.dim_le hfb
          obtain ⟨db, hdb⟩ : ∃ d, tb.dim = d := ⟨_, rfl⟩
          have HDb := hid hdb
          rw [hdb] at hd2 HTb
          have b1 : (db.1 : Int) ≤ 5 := by omega
          have b2 : (db.2 : Int) ≤ 5 := by omega
          rw [hdb]
          have TX2 := hid (T2.out.alloc (.cells (tmC tb.sgn db (.slice B nb kb)) 72))
          have TB := hid (heap_new0 w2 (.cells (tmC tb.sgn db (.slice B nb kb)) 72))
          have TA3 := hid ((Below.heap_alloc w2 (.cells (tmC tb.sgn db (.slice B nb kb)) 72) _ HW2.out).trans TA2.out)
          have HTa3 := hid (HTa2.out.kept (Keeps.of ((Below.refl _ w2).alloc (Nat.le_refl _) (.cells (tmC tb.sgn db (.slice B nb kb)) 72))))
          have HTb3 := hid (HTb.out.kept (Keeps.of ((Below.refl _ w2).alloc (Nat.le_refl _) (.cells (tmC tb.sgn db (.slice B nb kb)) 72))))
          unfold tmC at TX2 TB TA3 HTa3 HTb3 ⊢
          clear hb2 htb hfb hdb hd2 HI2 TXX TA HTaX T2 TA2 HTa2 HTb
          rcases hrb with ⟨r2, hr2, hk2, hp2⟩ | ⟨hk0, hno⟩
          · have HK2 := hid hk2
            have HR2 := hid hr2
            obtain ⟨hdr2, hle2⟩ := rd_end hr2
            rw [← hk2] at hdr2
            have HDR3 := hid hdr2
            have hk60b : (k2 : Int) ≤ 60 := by omega
            have hp2b : ((k2 : Int) == 0) = false := by rw [beq_eq_false_iff_ne]; omega
            have HP2 := hid hp2
            clear hr2
            cases r2 with
            | nil =>
              have hge : (L.length : Int) ≤ (k2 : Int) := by simp at hk2; omega
              clear hle2 hk2 hdr2
              go_wp2_with (first
                      | refine wpList_load_row rfl 72 _ rfl (w.heap.size + 1 + 1) rfl 72 (noneC (w.heap.size + 1)) (0, 0) _ TX2.out.n Tryd.underlying72 rfl Tryd.size_tm ?_
                      | refine wpList_store_row rfl 72 _ _ rfl w.heap.size (noneC (w.heap.size + 1)) rfl rfl 72 zeroTm TX2.out.r Tryd.size_tm rfl (noneC_one _) ?_)
              refine bodyPost_ret (results_row_tmp Tryd.results75 _ w.heap.size 72 (noneC (w.heap.size + 1)) (0, 0) _ (by rfl) (setRow_heap _ _ _ _ _ _ TX2.out.r) Tryd.underlying72 rfl Tryd.size_tm) rfl ?_
              refine fail_read TX2.out fun t' r hr => ?_
              rw [HD.out, rd_open] at hr
              obtain ⟨a, s', l1', b, g1, g2, g3, rfl⟩ := rdP_inv hr
              rw [← HD1.out] at g1
              rw [HR1.out] at g1
              simp only [Option.some.injEq, Prod.mk.injEq, List.cons.injEq] at g1
              obtain ⟨rfl, rfl, rfl⟩ := g1
              rw [← HDR2.out, HR2.out] at g3
              simp at g3
            | cons z l3 =>
              have hlt2 : (k2 : Int) < (L.length : Int) := by rw [List.length_cons] at hk2 hle2; omega
              obtain ⟨hkk2, hbz⟩ := strB_at L k2 z l3 hdr2
              clear hle2 hk2 hdr2
              by_cases hz : z = 41
              · subst hz
                go_wp2_with fail
                generalize World.alloc w2 _ = X2 at TX2 TB TA3 HTa3 HTb3 ⊢
                refine wp_region_rel_tail (by kernel_rfl) 12 (by kernel_rfl) (fun us => { tmps := #[.string (strB L), .int .i64 (at_ : Int), undef, undef, .pointer (some ⟨w.heap.size, 0, none⟩), .int .i64 0, .pointer (some ⟨w.heap.size + 1 + 1, 0, none⟩), .int .u8 40, undef, undef, undef, .pointer (some ⟨w1.heap.size, 0, none⟩), .int .i64 (k1 : Int), .pointer (some ⟨w2.heap.size, 0, none⟩), .int .i64 (k2 : Int), us 11, .slice (some ⟨w.heap.size + 1, 0, none⟩) 0 0, .agg #[.int .u8 46, .int .i64 1, .int .i64 1, .slice (some ⟨w.heap.size + 1, 0, none⟩) 0 0], .int .i64 (at_ : Int), .string (strB L), .int .i64 (L.length : Int), .bool false, undef, .string (strB L), .int .i64 (at_ : Int), .int .u8 40, .int .u8 40, .bool false, undef, undef, undef, undef, undef, .int .u8 40, .bool false, .bool false, .int .u8 40, .bool false, .bool false, .bool false, .int .u8 40, .bool false, .bool false, undef, undef, undef, undef, undef, undef, undef, undef, undef, undef, undef, undef, undef, undef, undef, undef, undef, undef, undef, undef, undef, undef, undef, undef, undef, .int .u8 40, .bool false, undef, .tuple #[.agg #[.int .u8 (ta.sgn.toNat : Int), .int .i64 (da.fst : Int), .int .i64 (da.snd : Int), .slice A na ka], .int .i64 (k1 : Int)], .string (strB L), .int .i64 (at_ : Int), .int .i64 ((at_ : Int) + 1), .tuple #[.agg #[.int .u8 (ta.sgn.toNat : Int), .int .i64 (da.fst : Int), .int .i64 (da.snd : Int), .slice A na ka], .int .i64 (k1 : Int)], .agg #[.int .u8 (ta.sgn.toNat : Int), .int .i64 (da.fst : Int), .int .i64 (da.snd : Int), .slice A na ka], .int .i64 (k1 : Int), .int .i64 (k1 : Int), .bool false, .bool false, .int .i64 (k1 : Int), .string (strB L), .int .i64 (L.length : Int), .bool false, .bool false, .bool false, .string (strB L), .int .i64 (k1 : Int), .int .u8 124, .bool false, .bool false, undef, undef, undef, undef, .bool false, .bool false, undef, .tuple #[.agg #[.int .u8 (tb.sgn.toNat : Int), .int .i64 (db.fst : Int), .int .i64 (db.snd : Int), .slice B nb kb], .int .i64 (k2 : Int)], .string (strB L), .int .i64 (k1 : Int), .int .i64 ((k1 : Int) + 1), .tuple #[.agg #[.int .u8 (tb.sgn.toNat : Int), .int .i64 (db.fst : Int), .int .i64 (db.snd : Int), .slice B nb kb], .int .i64 (k2 : Int)], .agg #[.int .u8 (tb.sgn.toNat : Int), .int .i64 (db.fst : Int), .int .i64 (db.snd : Int), .slice B nb kb], .int .i64 (k2 : Int), .int .i64 (k2 : Int), .bool false, .bool false, .int .i64 (k2 : Int), .string (strB L), .int .i64 (L.length : Int), .bool (decide (L.length ≤ k2)), .bool (decide (L.length ≤ k2)), .bool (decide (L.length ≤ k2)), .string (strB L), .int .i64 (k2 : Int), .int .u8 41, .bool false, .bool (decide (L.length ≤ k2)), undef, us 0, us 1, us 2, us 3, us 4, us 5, us 6, us 7, us 8, us 9, us 10, undef, undef, undef, undef, undef, undef, undef, undef, undef, undef, undef, undef, undef, undef, undef, undef, undef, undef, undef, undef, undef, undef, undef, undef, undef, undef, undef, undef, undef, undef, undef, undef, undef, undef, undef, undef, undef, undef, undef, undef, undef], defers := [] }) (fun _ => undef) rfl (opRel w1.heap.size L k1 124 #[.int .u8 (ta.sgn.toNat : Int), .int .i64 (da.1 : Int), .int .i64 (da.2 : Int), .slice A na ka] #[.int .u8 (tb.sgn.toNat : Int), .int .i64 (db.1 : Int), .int .i64 (db.2 : Int), .slice B nb kb] da X2.heap.size) opRel_kept (fun i us v hi => ?_) (fun i us W hi hbw hd => ?_) (fun us W hbw hr => ?_)
                · match i, hi with
                  | 0, _ => rfl
                  | 1, _ => rfl
                  | 2, _ => rfl
                  | 3, _ => rfl
                  | 4, _ => rfl
                  | 5, _ => rfl
                  | 6, _ => rfl
                  | 7, _ => rfl
                  | 8, _ => rfl
                  | 9, _ => rfl
                  | 10, _ => rfl
                  | 11, _ => rfl
                · have LA := hid ((hbw.block _ (lt_of_block TA3.out)).trans TA3.out)
                  have LB := hid ((hbw.block _ (lt_of_block TB.out)).trans TB.out)
                  match i, hi with
                  | 0, _ => exact wpOp_val rfl rfl (by go_simp) rfl
                  | 1, _ => exact wpOp_val rfl rfl (by go_simp) rfl
                  | 2, _ =>
                    have h0 : us 0 = _ := hd _ rfl { on := 0, ground := .data } (by simp) rfl
                    have h1 : us 1 = _ := hd _ rfl { on := 1, ground := .data } (by simp) rfl
                    rw [h0, h1]
                    exact wpOp_val rfl rfl (by go_simp) rfl
                  | 3, _ => exact wpOp_val rfl rfl (by go_simp) rfl
                  | 4, _ =>
                    have h0 : us 3 = _ := hd _ rfl { on := 3, ground := .data } (by simp) rfl
                    rw [h0]
                    have hc : W.cell? ⟨w1.heap.size, 1, none⟩ = some (.int .i64 (da.1 : Int)) := by rw [cell_of_row _ _ _ _ _ _ LA.out]; rfl
                    exact wpOp_val rfl rfl (by go_simp) rfl
                  | 5, _ => exact wpOp_val rfl rfl (by go_simp) rfl
                  | 6, _ =>
                    have h0 : us 5 = _ := hd _ rfl { on := 5, ground := .data } (by simp) rfl
                    rw [h0]
                    have hc : W.cell? ⟨w1.heap.size, 2, none⟩ = some (.int .i64 (da.2 : Int)) := by rw [cell_of_row _ _ _ _ _ _ LA.out]; rfl
                    exact wpOp_val rfl rfl (by go_simp) rfl
                  | 7, _ => exact wpOp_val rfl rfl (exec_load_row 72 _ rfl w1.heap.size rfl 72 _ (0, 0) _ LA.out Tryd.underlying72 rfl Tryd.size_tm) rfl
                  | 8, _ => exact wpOp_val rfl rfl (exec_load_row 72 _ rfl w2.heap.size rfl 72 _ (0, 0) _ LB.out Tryd.underlying72 rfl Tryd.size_tm) rfl
                  | 9, _ =>
                    have h7 : us 7 = _ := hd _ rfl { on := 7, ground := .data } (by simp) rfl
                    have h8 : us 8 = _ := hd _ rfl { on := 8, ground := .data } (by simp) rfl
                    rw [h7, h8]
                    exact wpOp_makeR (u := .slice (some ⟨W.heap.size, 0, none⟩) 2 2) (w' := W.alloc (.cells #[.int .u8 (ta.sgn.toNat : Int), .int .i64 (da.1 : Int), .int .i64 (da.2 : Int), .slice A na ka, .int .u8 (tb.sgn.toNat : Int), .int .i64 (db.1 : Int), .int .i64 (db.2 : Int), .slice B nb kb] 72)) rfl rfl (by go_simp) ⟨_, rfl, heap_new0 W _, hbw.size⟩ ((Below.refl _ W).alloc (Nat.le_refl _) _)
                  | 10, _ =>
                    have h2 : us 2 = _ := hd _ rfl { on := 2, ground := .data } (by simp) rfl
                    have h4 : us 4 = _ := hd _ rfl { on := 4, ground := .data } (by simp) rfl
                    have h6 : us 6 = _ := hd _ rfl { on := 6, ground := .data } (by simp) rfl
                    obtain ⟨g, h9, hg1, hg2⟩ : ∃ g, us 9 = _ ∧ _ ∧ _ := hd _ rfl { on := 9, ground := .data } (by simp) rfl
                    rw [h2, h4, h6, h9]
                    exact wpOp_val (u := .agg (tmC 124 da (.slice (some ⟨g, 0, none⟩) 2 2))) rfl rfl (by unfold tmC; go_simp) ⟨g, rfl, hg1, hg2⟩
                  | 11, _ => exact wpOp_makeR (u := .pointer (some ⟨W.heap.size, 0, none⟩)) (w' := W.alloc (.cells zeroTm 72)) rfl rfl (by unfold zeroTm; go_simp) ⟨_, rfl, heap_new0 W _, hbw.size⟩ ((Below.refl _ W).alloc (Nat.le_refl _) _)
                · obtain ⟨g, h10, hg, hgl⟩ : ∃ g, us 10 = _ ∧ _ ∧ _ := hr 10 (by omega)
                  obtain ⟨q, h11, hq, hql⟩ : ∃ g, us 11 = _ ∧ _ ∧ _ := hr 11 (by omega)
                  rw [h10, h11]
                  have HGQ := hid (show g ≠ q from fun e => by subst e; rw [hg] at hq; simp [zeroTm] at hq)
                  have HQL := hid hql
                  have HGL := hid hgl
                  have HX2 := hid TX2.out.lt
                  have KA := hid (lt_of_block TA3.out)
                  have KB := hid (lt_of_block TB.out)
                  have VW := hid (TX2.out.below hbw)
                  have VA := hid ((hbw.block _ (lt_of_block TA3.out)).trans TA3.out)
                  have VB := hid ((hbw.block _ (lt_of_block TB.out)).trans TB.out)
                  have VK := hid (show Keeps (w.heap.size + 1) X2 W from Keeps.of hbw)
                  have VG := hid hg
                  have VQ := hid hq
                  have VS := hid hbw.size
                  clear hbw hr hg hq hql hgl h10 h11
                  generalize us 0 = u0
                  generalize us 1 = u1
                  generalize us 2 = u2
                  generalize us 3 = u3
                  generalize us 4 = u4
                  generalize us 5 = u5
                  generalize us 6 = u6
                  generalize us 7 = u7
                  generalize us 8 = u8
                  generalize us 9 = u9
                  refine wpList_store_row rfl 72 _ _ rfl q (tmC 124 da (.slice (some ⟨g, 0, none⟩) 2 2)) rfl rfl 72 zeroTm VQ.out Tryd.size_tm rfl (tmC_one _ _ _ _ _) ?_
                  have hqw : q ≠ w.heap.size ∧ q ≠ w.heap.size + 1 + 1 ∧ q ≠ w1.heap.size ∧ q ≠ w2.heap.size := by
                    have := HQL.out; have := HX2.out; have := KA.out; have := KB.out
                    omega
                  have ZW := hid (show Two w (W.setRow q (tmC 124 da (.slice (some ⟨g, 0, none⟩) 2 2))) from ⟨(setRow_other _ _ _ _ (fun e => hqw.1 e.symm)).trans VW.out.r, (setRow_other _ _ _ _ (fun e => hqw.2.1 e.symm)).trans VW.out.n, below_setRow' VW.out.b (by have := HQL.out; have := HX2.out; omega) _⟩)
                  have ZA := hid ((setRow_other W q w1.heap.size (tmC 124 da (.slice (some ⟨g, 0, none⟩) 2 2)) (fun e => hqw.2.2.1 e.symm)).trans VA.out)
                  have ZB := hid ((setRow_other W q w2.heap.size (tmC 124 da (.slice (some ⟨g, 0, none⟩) 2 2)) (fun e => hqw.2.2.2 e.symm)).trans VB.out)
                  have ZG := hid ((setRow_other W q g (tmC 124 da (.slice (some ⟨g, 0, none⟩) 2 2)) HGQ.out).trans VG.out)
                  have ZQ := hid (setRow_heap W q zeroTm (tmC 124 da (.slice (some ⟨g, 0, none⟩) 2 2)) 72 (0, 0) VQ.out)
                  have ZK := hid (show Keeps (w.heap.size + 1) X2 (W.setRow q (tmC 124 da (.slice (some ⟨g, 0, none⟩) 2 2))) from VK.out.setRowUp HQL.out _)
                  have ZS := hid (show X2.heap.size ≤ (W.setRow q (tmC 124 da (.slice (some ⟨g, 0, none⟩) 2 2))).heap.size by rw [size_setRow']; exact VS.out)
                  clear VW VA VB VG VQ VK VS
                  generalize W.setRow q _ = Z at ZW ZA ZB ZG ZQ ZK ZS ⊢
                  have YW := hid (show Two w (Z.setCell ⟨q, 2, none⟩ (.int .i64 ((da.2 : Int) + (db.2 : Int)))) from ⟨(Below.heap_setCell _ _ _ _ (fun e => hqw.1 e.symm)).trans ZW.out.r, (Below.heap_setCell _ _ _ _ (fun e => hqw.2.1 e.symm)).trans ZW.out.n, ZW.out.b.setCell (p := ⟨q, 2, none⟩) (by have := HQL.out; have := HX2.out; show _ ≤ q; omega) _⟩)
                  have YA := hid ((Below.heap_setCell Z ⟨q, 2, none⟩ (.int .i64 ((da.2 : Int) + (db.2 : Int))) w1.heap.size (fun e => hqw.2.2.1 e.symm)).trans ZA.out)
                  have YB := hid ((Below.heap_setCell Z ⟨q, 2, none⟩ (.int .i64 ((da.2 : Int) + (db.2 : Int))) w2.heap.size (fun e => hqw.2.2.2 e.symm)).trans ZB.out)
                  have YG := hid ((Below.heap_setCell Z ⟨q, 2, none⟩ (.int .i64 ((da.2 : Int) + (db.2 : Int))) g HGQ.out).trans ZG.out)
                  have YQ := hid (show (Z.setCell ⟨q, 2, none⟩ (.int .i64 ((da.2 : Int) + (db.2 : Int)))).heap[q]? = some (.cells (tmC 124 (da.1, da.2 + db.2) (.slice (some ⟨g, 0, none⟩) 2 2)) 72 (0, 0)) from heap_setCell_same Z q 2 _ _ (.int .i64 ((da.2 : Int) + (db.2 : Int))) ZQ.out)
                  have YK := hid (show Keeps (w.heap.size + 1) X2 (Z.setCell ⟨q, 2, none⟩ (.int .i64 ((da.2 : Int) + (db.2 : Int)))) from fun k h1 h2 => (Below.heap_setCell _ _ _ _ (by have := HQL.out; show k ≠ q; omega)).trans (ZK.out k h1 h2))
                  have ka1 : Z.cell? ⟨w1.heap.size, 1, none⟩ = some (.int .i64 (da.1 : Int)) := by rw [cell_of_row _ _ _ _ _ _ ZA.out]; rfl
                  have ka2 : Z.cell? ⟨w1.heap.size, 2, none⟩ = some (.int .i64 (da.2 : Int)) := by rw [cell_of_row _ _ _ _ _ _ ZA.out]; rfl
                  have kb1 : Z.cell? ⟨w2.heap.size, 1, none⟩ = some (.int .i64 (db.1 : Int)) := by rw [cell_of_row _ _ _ _ _ _ ZB.out]; rfl
                  have kb2 : Z.cell? ⟨w2.heap.size, 2, none⟩ = some (.int .i64 (db.2 : Int)) := by rw [cell_of_row _ _ _ _ _ _ ZB.out]; rfl
                  have kq : Z.cell? ⟨q, 2, none⟩ = some (.int .i64 (da.2 : Int)) := by rw [cell_of_row _ _ _ _ _ _ ZQ.out]; rfl
                  have fq := frozen_of_row _ _ 2 _ _ ZQ.out
                  have ya1 : (Z.setCell ⟨q, 2, none⟩ (.int .i64 ((da.2 : Int) + (db.2 : Int)))).cell? ⟨w1.heap.size, 1, none⟩ = some (.int .i64 (da.1 : Int)) := by rw [cell_of_row _ _ _ _ _ _ YA.out]; rfl
                  have ya2 : (Z.setCell ⟨q, 2, none⟩ (.int .i64 ((da.2 : Int) + (db.2 : Int)))).cell? ⟨w1.heap.size, 2, none⟩ = some (.int .i64 (da.2 : Int)) := by rw [cell_of_row _ _ _ _ _ _ YA.out]; rfl
                  have yb1 : (Z.setCell ⟨q, 2, none⟩ (.int .i64 ((da.2 : Int) + (db.2 : Int)))).cell? ⟨w2.heap.size, 1, none⟩ = some (.int .i64 (db.1 : Int)) := by rw [cell_of_row _ _ _ _ _ _ YB.out]; rfl
                  have yb2 : (Z.setCell ⟨q, 2, none⟩ (.int .i64 ((da.2 : Int) + (db.2 : Int)))).cell? ⟨w2.heap.size, 2, none⟩ = some (.int .i64 (db.2 : Int)) := by rw [cell_of_row _ _ _ _ _ _ YB.out]; rfl
                  have yq : (Z.setCell ⟨q, 2, none⟩ (.int .i64 ((da.2 : Int) + (db.2 : Int)))).cell? ⟨q, 2, none⟩ = some (.int .i64 ((da.2 : Int) + (db.2 : Int))) := by rw [cell_of_row _ _ _ _ _ _ YQ.out]; rfl
                  have HQW := hid hqw
                  clear hqw
                  by_cases hfit : fit2 124 da db = true
                  · have ⟨hf1, hf2⟩ := fit_b hfit
                    have hne : ((da.1 : Int) != (db.1 : Int)) = false := by rw [bne_eq_false_iff_eq]; omega
                    have hs5 : (da.2 : Int) + (db.2 : Int) ≤ 5 := by omega
                    have HFT := hid hfit
                    clear hf1 hf2 hfit
                    go_wp2_with (first
                      | refine wpList_load_row rfl 72 (.tmp 15) rfl q rfl 72 (tmC 124 (da.1, da.2 + db.2) (.slice (some ⟨g, 0, none⟩) 2 2)) (0, 0) _ YQ.out Tryd.underlying72 rfl Tryd.size_tm ?_
                      | refine wpList_store_row rfl 72 _ _ rfl w.heap.size (tmC 124 (da.1, da.2 + db.2) (.slice (some ⟨g, 0, none⟩) 2 2)) rfl rfl 72 zeroTm YW.out.r Tryd.size_tm rfl (tmC_one _ _ _ _ _) ?_)
                    refine bodyPost_ret (results_row_tmp Tryd.results75 _ w.heap.size 72 (tmC 124 (da.1, da.2 + db.2) (.slice (some ⟨g, 0, none⟩) 2 2)) (0, 0) _ (by rfl) (setRow_heap _ _ _ _ _ _ YW.out.r) Tryd.underlying72 rfl Tryd.size_tm) rfl ?_
                    have HKF := hid (show Keeps (w.heap.size + 1) X2 ((Z.setCell ⟨q, 2, none⟩ (.int .i64 ((da.2 : Int) + (db.2 : Int)))).setRow w.heap.size (tmC 124 (da.1, da.2 + db.2) (.slice (some ⟨g, 0, none⟩) 2 2))) from YK.out.setRow (Nat.lt_succ_self _) _)
                    have hfits : (Tm.cpl ta 124 tb).fits = true := by
                      simp only [Tm.fits, HFa.out, HFb.out, HDa.out, HDb.out, HFT.out, Bool.and_self]
                    refine ⟨below_setRow' YW.out.b (Nat.le_refl _) _, .cpl ta 124 tb, _, k2 + 1, rfl, ⟨g, 2, _, _, ?_, by have := HGL.out; have := HX2.out; omega, (setRow_other _ _ _ _ (by have := HGL.out; have := HX2.out; omega)).trans YG.out, (HTa3.out.kept HKF.out).mono (by omega), (HTb3.out.kept HKF.out).mono (by omega)⟩, hfits, .inl ⟨l3, ?_, ?_, by omega⟩⟩
                    · rw [show (Tm.cpl ta 124 tb).dim = (ta.dim.1, ta.dim.2 + tb.dim.2) from rfl, HDa.out, HDb.out]
                    · have hx1 := HR1.out
                      have hx2 := HR2.out
                      rw [HD1.out] at hx1
                      rw [HDR2.out] at hx2
                      rw [HD.out, rd_open]
                      unfold rdP
                      rw [hx1]
                      simp only [show isMid 124 = true from rfl, if_true]
                      rw [hx2]
                      simp only [if_true]
                    · have q1 := HK2.out
                      have q2 := HP2.out
                      rw [List.length_cons] at q1
                      omega
                  · have HFT := hid hfit
                    by_cases hsame : da.1 = db.1
                    · have hne : ((da.1 : Int) != (db.1 : Int)) = false := by rw [bne_eq_false_iff_eq]; omega
                      have hs5 : ¬ ((da.2 : Int) + (db.2 : Int) ≤ 5) := fun h => hfit (fit_b2 hsame (by omega))
                      clear hsame hfit
                      go_wp2_with (first
                              | refine wpList_load_row rfl 72 _ rfl (w.heap.size + 1 + 1) rfl 72 (noneC (w.heap.size + 1)) (0, 0) _ YW.out.n Tryd.underlying72 rfl Tryd.size_tm ?_
                              | refine wpList_store_row rfl 72 _ _ rfl w.heap.size (noneC (w.heap.size + 1)) rfl rfl 72 zeroTm YW.out.r Tryd.size_tm rfl (noneC_one _) ?_)
                      refine bodyPost_ret (results_row_tmp Tryd.results75 _ w.heap.size 72 (noneC (w.heap.size + 1)) (0, 0) _ (by rfl) (setRow_heap _ _ _ _ _ _ YW.out.r) Tryd.underlying72 rfl Tryd.size_tm) rfl ?_
                      refine fail_read YW.out fun t' r hr => ?_
                      rw [HD.out, rd_open] at hr
                      obtain ⟨a, s', l1', b, g1, g2, g3, rfl⟩ := rdP_inv hr
                      rw [← HD1.out] at g1
                      rw [HR1.out] at g1
                      simp only [Option.some.injEq, Prod.mk.injEq, List.cons.injEq] at g1
                      obtain ⟨rfl, rfl, rfl⟩ := g1
                      rw [← HDR2.out, HR2.out] at g3
                      simp only [Option.some.injEq, Prod.mk.injEq, List.cons.injEq] at g3
                      obtain ⟨rfl, _, rfl⟩ := g3
                      rw [← HDa.out, ← HDb.out] at HFT
                      have hff := HFT.out
                      simp only [Bool.not_eq_true] at hff
                      simp only [Tm.fits, hff, Bool.and_false]
                    · have hne : ((da.1 : Int) != (db.1 : Int)) = true := by rw [bne_iff_ne]; omega
                      clear hsame hfit
                      go_wp2_with (first
                              | refine wpList_load_row rfl 72 _ rfl (w.heap.size + 1 + 1) rfl 72 (noneC (w.heap.size + 1)) (0, 0) _ YW.out.n Tryd.underlying72 rfl Tryd.size_tm ?_
                              | refine wpList_store_row rfl 72 _ _ rfl w.heap.size (noneC (w.heap.size + 1)) rfl rfl 72 zeroTm YW.out.r Tryd.size_tm rfl (noneC_one _) ?_)
                      refine bodyPost_ret (results_row_tmp Tryd.results75 _ w.heap.size 72 (noneC (w.heap.size + 1)) (0, 0) _ (by rfl) (setRow_heap _ _ _ _ _ _ YW.out.r) Tryd.underlying72 rfl Tryd.size_tm) rfl ?_
                      refine fail_read YW.out fun t' r hr => ?_
                      rw [HD.out, rd_open] at hr
                      obtain ⟨a, s', l1', b, g1, g2, g3, rfl⟩ := rdP_inv hr
                      rw [← HD1.out] at g1
                      rw [HR1.out] at g1
                      simp only [Option.some.injEq, Prod.mk.injEq, List.cons.injEq] at g1
                      obtain ⟨rfl, rfl, rfl⟩ := g1
                      rw [← HDR2.out, HR2.out] at g3
                      simp only [Option.some.injEq, Prod.mk.injEq, List.cons.injEq] at g3
                      obtain ⟨rfl, _, rfl⟩ := g3
                      rw [← HDa.out, ← HDb.out] at HFT
                      have hff := HFT.out
                      simp only [Bool.not_eq_true] at hff
                      simp only [Tm.fits, hff, Bool.and_false]
              · have hz1 : ((z.toNat : Int) != 41) = true := by rw [bne_iff_ne]; intro e; exact hz (UInt8.toNat_inj.1 (by have : (41 : UInt8).toNat = 41 := rfl; omega))
                have HZ := hid hz
                clear hz
                go_wp2_with (first
                        | refine wpList_load_row rfl 72 _ rfl (w.heap.size + 1 + 1) rfl 72 (noneC (w.heap.size + 1)) (0, 0) _ TX2.out.n Tryd.underlying72 rfl Tryd.size_tm ?_
                        | refine wpList_store_row rfl 72 _ _ rfl w.heap.size (noneC (w.heap.size + 1)) rfl rfl 72 zeroTm TX2.out.r Tryd.size_tm rfl (noneC_one _) ?_)
                refine bodyPost_ret (results_row_tmp Tryd.results75 _ w.heap.size 72 (noneC (w.heap.size + 1)) (0, 0) _ (by rfl) (setRow_heap _ _ _ _ _ _ TX2.out.r) Tryd.underlying72 rfl Tryd.size_tm) rfl ?_
                refine fail_read TX2.out fun t' r hr => ?_
                rw [HD.out, rd_open] at hr
                obtain ⟨a, s', l1', b, g1, g2, g3, rfl⟩ := rdP_inv hr
                rw [← HD1.out] at g1
                rw [HR1.out] at g1
                simp only [Option.some.injEq, Prod.mk.injEq, List.cons.injEq] at g1
                obtain ⟨rfl, rfl, rfl⟩ := g1
                rw [← HDR2.out, HR2.out] at g3
                simp only [Option.some.injEq, Prod.mk.injEq, List.cons.injEq] at g3
                exact absurd g3.2.1 HZ.out
          · have HNO := hid hno
            clear hno
            subst hk0
            go_wp2_with (first
                    | refine wpList_load_row rfl 72 _ rfl (w.heap.size + 1 + 1) rfl 72 (noneC (w.heap.size + 1)) (0, 0) _ TX2.out.n Tryd.underlying72 rfl Tryd.size_tm ?_
                    | refine wpList_store_row rfl 72 _ _ rfl w.heap.size (noneC (w.heap.size + 1)) rfl rfl 72 zeroTm TX2.out.r Tryd.size_tm rfl (noneC_one _) ?_)
            refine bodyPost_ret (results_row_tmp Tryd.results75 _ w.heap.size 72 (noneC (w.heap.size + 1)) (0, 0) _ (by rfl) (setRow_heap _ _ _ _ _ _ TX2.out.r) Tryd.underlying72 rfl Tryd.size_tm) rfl ?_
            refine fail_read TX2.out fun t' r hr => ?_
            rw [HD.out, rd_open] at hr
            obtain ⟨a, s', l1', b, g1, g2, g3, rfl⟩ := rdP_inv hr
            rw [← HD1.out] at g1
            rw [HR1.out] at g1
            simp only [Option.some.injEq, Prod.mk.injEq, List.cons.injEq] at g1
            obtain ⟨rfl, rfl, rfl⟩ := g1
            rw [← HDR2.out] at g3
            have := HNO.out b _ g3
            simp [Tm.fits, this]
        · clear hmid HMID
          go_wp2_with fail
          have TXX := hid TX.out
          generalize World.alloc w1 _ = X1 at TA HTaX TXX ⊢
          refine (HI2.out _).mono ?_
          rintro e w2 ⟨hb2, tb, cb, k2, rfl, htb, hfb, hrb⟩
          obtain ⟨B, nb, kb, rfl⟩ := htb.shape
          have T2 := hid (TXX.out.below hb2)
          have HTb := hid (htb.mono (show w.heap.size + 1 ≤ _ from by have := TXX.out.lt; omega))
          have HTa2 := hid (HTaX.out.kept (Keeps.of hb2))
          have TA2 := hid ((hb2.block _ (lt_of_block TA.out)).trans TA.out)
          have HW2 := hid (lt_of_block TA2.out)
          have HFb := hid hfb
          have hd2 := tb.dim_le hfb
          obtain ⟨db, hdb⟩ : ∃ d, tb.dim = d := ⟨_, rfl⟩
          have HDb := hid hdb
          rw [hdb] at hd2 HTb
          have b1 : (db.1 : Int) ≤ 5 := by omega
          have b2 : (db.2 : Int) ≤ 5 := by omega
          rw [hdb]
          have TX2 := hid (T2.out.alloc (.cells (tmC tb.sgn db (.slice B nb kb)) 72))
          have TB := hid (heap_new0 w2 (.cells (tmC tb.sgn db (.slice B nb kb)) 72))
          have TA3 := hid ((Below.heap_alloc w2 (.cells (tmC tb.sgn db (.slice B nb kb)) 72) _ HW2.out).trans TA2.out)
          have HTa3 := hid (HTa2.out.kept (Keeps.of ((Below.refl _ w2).alloc (Nat.le_refl _) (.cells (tmC tb.sgn db (.slice B nb kb)) 72))))
          have HTb3 := hid (HTb.out.kept (Keeps.of ((Below.refl _ w2).alloc (Nat.le_refl _) (.cells (tmC tb.sgn db (.slice B nb kb)) 72))))
          unfold tmC at TX2 TB TA3 HTa3 HTb3 ⊢
          clear hb2 htb hfb hdb hd2 HI2 TXX TA HTaX T2 TA2 HTa2 HTb
          rcases hrb with ⟨r2, hr2, hk2, hp2⟩ | ⟨hk0, hno⟩
          · have HK2 := hid hk2
            have HR2 := hid hr2
            obtain ⟨hdr2, hle2⟩ := rd_end hr2
            rw [← hk2] at hdr2
            have HDR3 := hid hdr2
            have hk60b : (k2 : Int) ≤ 60 := by omega
            have hp2b : ((k2 : Int) == 0) = false := by rw [beq_eq_false_iff_ne]; omega
            have HP2 := hid hp2
            clear hr2
            cases r2 with
            | nil =>
              have hge : (L.length : Int) ≤ (k2 : Int) := by simp at hk2; omega
              clear hle2 hk2 hdr2
              go_wp2_with (first
                      | refine wpList_load_row rfl 72 _ rfl (w.heap.size + 1 + 1) rfl 72 (noneC (w.heap.size + 1)) (0, 0) _ TX2.out.n Tryd.underlying72 rfl Tryd.size_tm ?_
                      | refine wpList_store_row rfl 72 _ _ rfl w.heap.size (noneC (w.heap.size + 1)) rfl rfl 72 zeroTm TX2.out.r Tryd.size_tm rfl (noneC_one _) ?_)
              refine bodyPost_ret (results_row_tmp Tryd.results75 _ w.heap.size 72 (noneC (w.heap.size + 1)) (0, 0) _ (by rfl) (setRow_heap _ _ _ _ _ _ TX2.out.r) Tryd.underlying72 rfl Tryd.size_tm) rfl ?_
              refine fail_read TX2.out fun t' r hr => ?_
              rw [HD.out, rd_open] at hr
              obtain ⟨a, s', l1', b, g1, g2, g3, rfl⟩ := rdP_inv hr
              rw [← HD1.out] at g1
              rw [HR1.out] at g1
              simp only [Option.some.injEq, Prod.mk.injEq, List.cons.injEq] at g1
              obtain ⟨rfl, rfl, rfl⟩ := g1
              rw [← HDR2.out, HR2.out] at g3
              simp at g3
            | cons z l3 =>
              have hlt2 : (k2 : Int) < (L.length : Int) := by rw [List.length_cons] at hk2 hle2; omega
              obtain ⟨hkk2, hbz⟩ := strB_at L k2 z l3 hdr2
              clear hle2 hk2 hdr2
              by_cases hz : z = 41
              · subst hz
                go_wp2_with fail
                generalize World.alloc w2 _ = X2 at TX2 TB TA3 HTa3 HTb3 ⊢
                refine wp_region_rel_tail (by kernel_rfl) 12 (by kernel_rfl) (fun us => { tmps := #[.string (strB L), .int .i64 (at_ : Int), undef, undef, .pointer (some ⟨w.heap.size, 0, none⟩), .int .i64 0, .pointer (some ⟨w.heap.size + 1 + 1, 0, none⟩), .int .u8 40, undef, undef, undef, .pointer (some ⟨w1.heap.size, 0, none⟩), .int .i64 (k1 : Int), .pointer (some ⟨w2.heap.size, 0, none⟩), .int .i64 (k2 : Int), us 11, .slice (some ⟨w.heap.size + 1, 0, none⟩) 0 0, .agg #[.int .u8 46, .int .i64 1, .int .i64 1, .slice (some ⟨w.heap.size + 1, 0, none⟩) 0 0], .int .i64 (at_ : Int), .string (strB L), .int .i64 (L.length : Int), .bool false, undef, .string (strB L), .int .i64 (at_ : Int), .int .u8 40, .int .u8 40, .bool false, undef, undef, undef, undef, undef, .int .u8 40, .bool false, .bool false, .int .u8 40, .bool false, .bool false, .bool false, .int .u8 40, .bool false, .bool false, undef, undef, undef, undef, undef, undef, undef, undef, undef, undef, undef, undef, undef, undef, undef, undef, undef, undef, undef, undef, undef, undef, undef, undef, undef, .int .u8 40, .bool false, undef, .tuple #[.agg #[.int .u8 (ta.sgn.toNat : Int), .int .i64 (da.fst : Int), .int .i64 (da.snd : Int), .slice A na ka], .int .i64 (k1 : Int)], .string (strB L), .int .i64 (at_ : Int), .int .i64 ((at_ : Int) + 1), .tuple #[.agg #[.int .u8 (ta.sgn.toNat : Int), .int .i64 (da.fst : Int), .int .i64 (da.snd : Int), .slice A na ka], .int .i64 (k1 : Int)], .agg #[.int .u8 (ta.sgn.toNat : Int), .int .i64 (da.fst : Int), .int .i64 (da.snd : Int), .slice A na ka], .int .i64 (k1 : Int), .int .i64 (k1 : Int), .bool false, .bool false, .int .i64 (k1 : Int), .string (strB L), .int .i64 (L.length : Int), .bool false, .bool false, .bool false, .string (strB L), .int .i64 (k1 : Int), .int .u8 45, .bool true, .bool true, .string (strB L), .int .i64 (k1 : Int), .int .u8 45, .bool false, .bool false, .bool false, undef, .tuple #[.agg #[.int .u8 (tb.sgn.toNat : Int), .int .i64 (db.fst : Int), .int .i64 (db.snd : Int), .slice B nb kb], .int .i64 (k2 : Int)], .string (strB L), .int .i64 (k1 : Int), .int .i64 ((k1 : Int) + 1), .tuple #[.agg #[.int .u8 (tb.sgn.toNat : Int), .int .i64 (db.fst : Int), .int .i64 (db.snd : Int), .slice B nb kb], .int .i64 (k2 : Int)], .agg #[.int .u8 (tb.sgn.toNat : Int), .int .i64 (db.fst : Int), .int .i64 (db.snd : Int), .slice B nb kb], .int .i64 (k2 : Int), .int .i64 (k2 : Int), .bool false, .bool false, .int .i64 (k2 : Int), .string (strB L), .int .i64 (L.length : Int), .bool (decide (L.length ≤ k2)), .bool (decide (L.length ≤ k2)), .bool (decide (L.length ≤ k2)), .string (strB L), .int .i64 (k2 : Int), .int .u8 41, .bool false, .bool (decide (L.length ≤ k2)), undef, us 0, us 1, us 2, us 3, us 4, us 5, us 6, us 7, us 8, us 9, us 10, undef, undef, undef, undef, undef, undef, undef, undef, undef, undef, undef, undef, undef, undef, undef, undef, undef, undef, undef, undef, undef, undef, undef, undef, undef, undef, undef, undef, undef, undef, undef, undef, undef, undef, undef, undef, undef, undef, undef, undef, undef], defers := [] }) (fun _ => undef) rfl (opRel w1.heap.size L k1 45 #[.int .u8 (ta.sgn.toNat : Int), .int .i64 (da.1 : Int), .int .i64 (da.2 : Int), .slice A na ka] #[.int .u8 (tb.sgn.toNat : Int), .int .i64 (db.1 : Int), .int .i64 (db.2 : Int), .slice B nb kb] da X2.heap.size) opRel_kept (fun i us v hi => ?_) (fun i us W hi hbw hd => ?_) (fun us W hbw hr => ?_)
                · match i, hi with
                  | 0, _ => rfl
                  | 1, _ => rfl
                  | 2, _ => rfl
                  | 3, _ => rfl
                  | 4, _ => rfl
                  | 5, _ => rfl
                  | 6, _ => rfl
                  | 7, _ => rfl
                  | 8, _ => rfl
                  | 9, _ => rfl
                  | 10, _ => rfl
                  | 11, _ => rfl
                · have LA := hid ((hbw.block _ (lt_of_block TA3.out)).trans TA3.out)
                  have LB := hid ((hbw.block _ (lt_of_block TB.out)).trans TB.out)
                  match i, hi with
                  | 0, _ => exact wpOp_val rfl rfl (by go_simp) rfl
                  | 1, _ => exact wpOp_val rfl rfl (by go_simp) rfl
                  | 2, _ =>
                    have h0 : us 0 = _ := hd _ rfl { on := 0, ground := .data } (by simp) rfl
                    have h1 : us 1 = _ := hd _ rfl { on := 1, ground := .data } (by simp) rfl
                    rw [h0, h1]
                    exact wpOp_val rfl rfl (by go_simp) rfl
                  | 3, _ => exact wpOp_val rfl rfl (by go_simp) rfl
                  | 4, _ =>
                    have h0 : us 3 = _ := hd _ rfl { on := 3, ground := .data } (by simp) rfl
                    rw [h0]
                    have hc : W.cell? ⟨w1.heap.size, 1, none⟩ = some (.int .i64 (da.1 : Int)) := by rw [cell_of_row _ _ _ _ _ _ LA.out]; rfl
                    exact wpOp_val rfl rfl (by go_simp) rfl
                  | 5, _ => exact wpOp_val rfl rfl (by go_simp) rfl
                  | 6, _ =>
                    have h0 : us 5 = _ := hd _ rfl { on := 5, ground := .data } (by simp) rfl
                    rw [h0]
                    have hc : W.cell? ⟨w1.heap.size, 2, none⟩ = some (.int .i64 (da.2 : Int)) := by rw [cell_of_row _ _ _ _ _ _ LA.out]; rfl
                    exact wpOp_val rfl rfl (by go_simp) rfl
                  | 7, _ => exact wpOp_val rfl rfl (exec_load_row 72 _ rfl w1.heap.size rfl 72 _ (0, 0) _ LA.out Tryd.underlying72 rfl Tryd.size_tm) rfl
                  | 8, _ => exact wpOp_val rfl rfl (exec_load_row 72 _ rfl w2.heap.size rfl 72 _ (0, 0) _ LB.out Tryd.underlying72 rfl Tryd.size_tm) rfl
                  | 9, _ =>
                    have h7 : us 7 = _ := hd _ rfl { on := 7, ground := .data } (by simp) rfl
                    have h8 : us 8 = _ := hd _ rfl { on := 8, ground := .data } (by simp) rfl
                    rw [h7, h8]
                    exact wpOp_makeR (u := .slice (some ⟨W.heap.size, 0, none⟩) 2 2) (w' := W.alloc (.cells #[.int .u8 (ta.sgn.toNat : Int), .int .i64 (da.1 : Int), .int .i64 (da.2 : Int), .slice A na ka, .int .u8 (tb.sgn.toNat : Int), .int .i64 (db.1 : Int), .int .i64 (db.2 : Int), .slice B nb kb] 72)) rfl rfl (by go_simp) ⟨_, rfl, heap_new0 W _, hbw.size⟩ ((Below.refl _ W).alloc (Nat.le_refl _) _)
                  | 10, _ =>
                    have h2 : us 2 = _ := hd _ rfl { on := 2, ground := .data } (by simp) rfl
                    have h4 : us 4 = _ := hd _ rfl { on := 4, ground := .data } (by simp) rfl
                    have h6 : us 6 = _ := hd _ rfl { on := 6, ground := .data } (by simp) rfl
                    obtain ⟨g, h9, hg1, hg2⟩ : ∃ g, us 9 = _ ∧ _ ∧ _ := hd _ rfl { on := 9, ground := .data } (by simp) rfl
                    rw [h2, h4, h6, h9]
                    exact wpOp_val (u := .agg (tmC 45 da (.slice (some ⟨g, 0, none⟩) 2 2))) rfl rfl (by unfold tmC; go_simp) ⟨g, rfl, hg1, hg2⟩
                  | 11, _ => exact wpOp_makeR (u := .pointer (some ⟨W.heap.size, 0, none⟩)) (w' := W.alloc (.cells zeroTm 72)) rfl rfl (by unfold zeroTm; go_simp) ⟨_, rfl, heap_new0 W _, hbw.size⟩ ((Below.refl _ W).alloc (Nat.le_refl _) _)
                · obtain ⟨g, h10, hg, hgl⟩ : ∃ g, us 10 = _ ∧ _ ∧ _ := hr 10 (by omega)
                  obtain ⟨q, h11, hq, hql⟩ : ∃ g, us 11 = _ ∧ _ ∧ _ := hr 11 (by omega)
                  rw [h10, h11]
                  have HGQ := hid (show g ≠ q from fun e => by subst e; rw [hg] at hq; simp [zeroTm] at hq)
                  have HQL := hid hql
                  have HGL := hid hgl
                  have HX2 := hid TX2.out.lt
                  have KA := hid (lt_of_block TA3.out)
                  have KB := hid (lt_of_block TB.out)
                  have VW := hid (TX2.out.below hbw)
                  have VA := hid ((hbw.block _ (lt_of_block TA3.out)).trans TA3.out)
                  have VB := hid ((hbw.block _ (lt_of_block TB.out)).trans TB.out)
                  have VK := hid (show Keeps (w.heap.size + 1) X2 W from Keeps.of hbw)
                  have VG := hid hg
                  have VQ := hid hq
                  have VS := hid hbw.size
                  clear hbw hr hg hq hql hgl h10 h11
                  generalize us 0 = u0
                  generalize us 1 = u1
                  generalize us 2 = u2
                  generalize us 3 = u3
                  generalize us 4 = u4
                  generalize us 5 = u5
                  generalize us 6 = u6
                  generalize us 7 = u7
                  generalize us 8 = u8
                  generalize us 9 = u9
                  refine wpList_store_row rfl 72 _ _ rfl q (tmC 45 da (.slice (some ⟨g, 0, none⟩) 2 2)) rfl rfl 72 zeroTm VQ.out Tryd.size_tm rfl (tmC_one _ _ _ _ _) ?_
                  have hqw : q ≠ w.heap.size ∧ q ≠ w.heap.size + 1 + 1 ∧ q ≠ w1.heap.size ∧ q ≠ w2.heap.size := by
                    have := HQL.out; have := HX2.out; have := KA.out; have := KB.out
                    omega
                  have ZW := hid (show Two w (W.setRow q (tmC 45 da (.slice (some ⟨g, 0, none⟩) 2 2))) from ⟨(setRow_other _ _ _ _ (fun e => hqw.1 e.symm)).trans VW.out.r, (setRow_other _ _ _ _ (fun e => hqw.2.1 e.symm)).trans VW.out.n, below_setRow' VW.out.b (by have := HQL.out; have := HX2.out; omega) _⟩)
                  have ZA := hid ((setRow_other W q w1.heap.size (tmC 45 da (.slice (some ⟨g, 0, none⟩) 2 2)) (fun e => hqw.2.2.1 e.symm)).trans VA.out)
                  have ZB := hid ((setRow_other W q w2.heap.size (tmC 45 da (.slice (some ⟨g, 0, none⟩) 2 2)) (fun e => hqw.2.2.2 e.symm)).trans VB.out)
                  have ZG := hid ((setRow_other W q g (tmC 45 da (.slice (some ⟨g, 0, none⟩) 2 2)) HGQ.out).trans VG.out)
                  have ZQ := hid (setRow_heap W q zeroTm (tmC 45 da (.slice (some ⟨g, 0, none⟩) 2 2)) 72 (0, 0) VQ.out)
                  have ZK := hid (show Keeps (w.heap.size + 1) X2 (W.setRow q (tmC 45 da (.slice (some ⟨g, 0, none⟩) 2 2))) from VK.out.setRowUp HQL.out _)
                  have ZS := hid (show X2.heap.size ≤ (W.setRow q (tmC 45 da (.slice (some ⟨g, 0, none⟩) 2 2))).heap.size by rw [size_setRow']; exact VS.out)
                  clear VW VA VB VG VQ VK VS
                  generalize W.setRow q _ = Z at ZW ZA ZB ZG ZQ ZK ZS ⊢
                  have YW := hid (show Two w (Z.setCell ⟨q, 1, none⟩ (.int .i64 ((da.1 : Int) + (db.1 : Int)))) from ⟨(Below.heap_setCell _ _ _ _ (fun e => hqw.1 e.symm)).trans ZW.out.r, (Below.heap_setCell _ _ _ _ (fun e => hqw.2.1 e.symm)).trans ZW.out.n, ZW.out.b.setCell (p := ⟨q, 1, none⟩) (by have := HQL.out; have := HX2.out; show _ ≤ q; omega) _⟩)
                  have YA := hid ((Below.heap_setCell Z ⟨q, 1, none⟩ (.int .i64 ((da.1 : Int) + (db.1 : Int))) w1.heap.size (fun e => hqw.2.2.1 e.symm)).trans ZA.out)
                  have YB := hid ((Below.heap_setCell Z ⟨q, 1, none⟩ (.int .i64 ((da.1 : Int) + (db.1 : Int))) w2.heap.size (fun e => hqw.2.2.2 e.symm)).trans ZB.out)
                  have YG := hid ((Below.heap_setCell Z ⟨q, 1, none⟩ (.int .i64 ((da.1 : Int) + (db.1 : Int))) g HGQ.out).trans ZG.out)
                  have YQ := hid (show (Z.setCell ⟨q, 1, none⟩ (.int .i64 ((da.1 : Int) + (db.1 : Int)))).heap[q]? = some (.cells (tmC 45 (da.1 + db.1, da.2) (.slice (some ⟨g, 0, none⟩) 2 2)) 72 (0, 0)) from heap_setCell_same Z q 1 _ _ (.int .i64 ((da.1 : Int) + (db.1 : Int))) ZQ.out)
                  have YK := hid (show Keeps (w.heap.size + 1) X2 (Z.setCell ⟨q, 1, none⟩ (.int .i64 ((da.1 : Int) + (db.1 : Int)))) from fun k h1 h2 => (Below.heap_setCell _ _ _ _ (by have := HQL.out; show k ≠ q; omega)).trans (ZK.out k h1 h2))
                  have ka1 : Z.cell? ⟨w1.heap.size, 1, none⟩ = some (.int .i64 (da.1 : Int)) := by rw [cell_of_row _ _ _ _ _ _ ZA.out]; rfl
                  have ka2 : Z.cell? ⟨w1.heap.size, 2, none⟩ = some (.int .i64 (da.2 : Int)) := by rw [cell_of_row _ _ _ _ _ _ ZA.out]; rfl
                  have kb1 : Z.cell? ⟨w2.heap.size, 1, none⟩ = some (.int .i64 (db.1 : Int)) := by rw [cell_of_row _ _ _ _ _ _ ZB.out]; rfl
                  have kb2 : Z.cell? ⟨w2.heap.size, 2, none⟩ = some (.int .i64 (db.2 : Int)) := by rw [cell_of_row _ _ _ _ _ _ ZB.out]; rfl
                  have kq : Z.cell? ⟨q, 1, none⟩ = some (.int .i64 (da.1 : Int)) := by rw [cell_of_row _ _ _ _ _ _ ZQ.out]; rfl
                  have fq := frozen_of_row _ _ 1 _ _ ZQ.out
                  have ya1 : (Z.setCell ⟨q, 1, none⟩ (.int .i64 ((da.1 : Int) + (db.1 : Int)))).cell? ⟨w1.heap.size, 1, none⟩ = some (.int .i64 (da.1 : Int)) := by rw [cell_of_row _ _ _ _ _ _ YA.out]; rfl
                  have ya2 : (Z.setCell ⟨q, 1, none⟩ (.int .i64 ((da.1 : Int) + (db.1 : Int)))).cell? ⟨w1.heap.size, 2, none⟩ = some (.int .i64 (da.2 : Int)) := by rw [cell_of_row _ _ _ _ _ _ YA.out]; rfl
                  have yb1 : (Z.setCell ⟨q, 1, none⟩ (.int .i64 ((da.1 : Int) + (db.1 : Int)))).cell? ⟨w2.heap.size, 1, none⟩ = some (.int .i64 (db.1 : Int)) := by rw [cell_of_row _ _ _ _ _ _ YB.out]; rfl
                  have yb2 : (Z.setCell ⟨q, 1, none⟩ (.int .i64 ((da.1 : Int) + (db.1 : Int)))).cell? ⟨w2.heap.size, 2, none⟩ = some (.int .i64 (db.2 : Int)) := by rw [cell_of_row _ _ _ _ _ _ YB.out]; rfl
                  have yq : (Z.setCell ⟨q, 1, none⟩ (.int .i64 ((da.1 : Int) + (db.1 : Int)))).cell? ⟨q, 1, none⟩ = some (.int .i64 ((da.1 : Int) + (db.1 : Int))) := by rw [cell_of_row _ _ _ _ _ _ YQ.out]; rfl
                  have HQW := hid hqw
                  clear hqw
                  by_cases hfit : fit2 45 da db = true
                  · have ⟨hf1, hf2⟩ := fit_u hfit
                    have hne : ((da.2 : Int) != (db.2 : Int)) = false := by rw [bne_eq_false_iff_eq]; omega
                    have hs5 : (da.1 : Int) + (db.1 : Int) ≤ 5 := by omega
                    have HFT := hid hfit
                    clear hf1 hf2 hfit
                    go_wp2_with (first
                      | refine wpList_load_row rfl 72 (.tmp 15) rfl q rfl 72 (tmC 45 (da.1 + db.1, da.2) (.slice (some ⟨g, 0, none⟩) 2 2)) (0, 0) _ YQ.out Tryd.underlying72 rfl Tryd.size_tm ?_
                      | refine wpList_store_row rfl 72 _ _ rfl w.heap.size (tmC 45 (da.1 + db.1, da.2) (.slice (some ⟨g, 0, none⟩) 2 2)) rfl rfl 72 zeroTm YW.out.r Tryd.size_tm rfl (tmC_one _ _ _ _ _) ?_)
                    refine bodyPost_ret (results_row_tmp Tryd.results75 _ w.heap.size 72 (tmC 45 (da.1 + db.1, da.2) (.slice (some ⟨g, 0, none⟩) 2 2)) (0, 0) _ (by rfl) (setRow_heap _ _ _ _ _ _ YW.out.r) Tryd.underlying72 rfl Tryd.size_tm) rfl ?_
                    have HKF := hid (show Keeps (w.heap.size + 1) X2 ((Z.setCell ⟨q, 1, none⟩ (.int .i64 ((da.1 : Int) + (db.1 : Int)))).setRow w.heap.size (tmC 45 (da.1 + db.1, da.2) (.slice (some ⟨g, 0, none⟩) 2 2))) from YK.out.setRow (Nat.lt_succ_self _) _)
                    have hfits : (Tm.cpl ta 45 tb).fits = true := by
                      simp only [Tm.fits, HFa.out, HFb.out, HDa.out, HDb.out, HFT.out, Bool.and_self]
                    refine ⟨below_setRow' YW.out.b (Nat.le_refl _) _, .cpl ta 45 tb, _, k2 + 1, rfl, ⟨g, 2, _, _, ?_, by have := HGL.out; have := HX2.out; omega, (setRow_other _ _ _ _ (by have := HGL.out; have := HX2.out; omega)).trans YG.out, (HTa3.out.kept HKF.out).mono (by omega), (HTb3.out.kept HKF.out).mono (by omega)⟩, hfits, .inl ⟨l3, ?_, ?_, by omega⟩⟩
                    · rw [show (Tm.cpl ta 45 tb).dim = (ta.dim.1 + tb.dim.1, ta.dim.2) from rfl, HDa.out, HDb.out]
                    · have hx1 := HR1.out
                      have hx2 := HR2.out
                      rw [HD1.out] at hx1
                      rw [HDR2.out] at hx2
                      rw [HD.out, rd_open]
                      unfold rdP
                      rw [hx1]
                      simp only [show isMid 45 = true from rfl, if_true]
                      rw [hx2]
                      simp only [if_true]
                    · have q1 := HK2.out
                      have q2 := HP2.out
                      rw [List.length_cons] at q1
                      omega
                  · have HFT := hid hfit
                    by_cases hsame : da.2 = db.2
                    · have hne : ((da.2 : Int) != (db.2 : Int)) = false := by rw [bne_eq_false_iff_eq]; omega
                      have hs5 : ¬ ((da.1 : Int) + (db.1 : Int) ≤ 5) := fun h => hfit (fit_u2 hsame (by omega))
                      clear hsame hfit
                      go_wp2_with (first
                              | refine wpList_load_row rfl 72 _ rfl (w.heap.size + 1 + 1) rfl 72 (noneC (w.heap.size + 1)) (0, 0) _ YW.out.n Tryd.underlying72 rfl Tryd.size_tm ?_
                              | refine wpList_store_row rfl 72 _ _ rfl w.heap.size (noneC (w.heap.size + 1)) rfl rfl 72 zeroTm YW.out.r Tryd.size_tm rfl (noneC_one _) ?_)
                      refine bodyPost_ret (results_row_tmp Tryd.results75 _ w.heap.size 72 (noneC (w.heap.size + 1)) (0, 0) _ (by rfl) (setRow_heap _ _ _ _ _ _ YW.out.r) Tryd.underlying72 rfl Tryd.size_tm) rfl ?_
                      refine fail_read YW.out fun t' r hr => ?_
                      rw [HD.out, rd_open] at hr
                      obtain ⟨a, s', l1', b, g1, g2, g3, rfl⟩ := rdP_inv hr
                      rw [← HD1.out] at g1
                      rw [HR1.out] at g1
                      simp only [Option.some.injEq, Prod.mk.injEq, List.cons.injEq] at g1
                      obtain ⟨rfl, rfl, rfl⟩ := g1
                      rw [← HDR2.out, HR2.out] at g3
                      simp only [Option.some.injEq, Prod.mk.injEq, List.cons.injEq] at g3
                      obtain ⟨rfl, _, rfl⟩ := g3
                      rw [← HDa.out, ← HDb.out] at HFT
                      have hff := HFT.out
                      simp only [Bool.not_eq_true] at hff
                      simp only [Tm.fits, hff, Bool.and_false]
                    · have hne : ((da.2 : Int) != (db.2 : Int)) = true := by rw [bne_iff_ne]; omega
                      clear hsame hfit
                      go_wp2_with (first
                              | refine wpList_load_row rfl 72 _ rfl (w.heap.size + 1 + 1) rfl 72 (noneC (w.heap.size + 1)) (0, 0) _ YW.out.n Tryd.underlying72 rfl Tryd.size_tm ?_
                              | refine wpList_store_row rfl 72 _ _ rfl w.heap.size (noneC (w.heap.size + 1)) rfl rfl 72 zeroTm YW.out.r Tryd.size_tm rfl (noneC_one _) ?_)
                      refine bodyPost_ret (results_row_tmp Tryd.results75 _ w.heap.size 72 (noneC (w.heap.size + 1)) (0, 0) _ (by rfl) (setRow_heap _ _ _ _ _ _ YW.out.r) Tryd.underlying72 rfl Tryd.size_tm) rfl ?_
                      refine fail_read YW.out fun t' r hr => ?_
                      rw [HD.out, rd_open] at hr
                      obtain ⟨a, s', l1', b, g1, g2, g3, rfl⟩ := rdP_inv hr
                      rw [← HD1.out] at g1
                      rw [HR1.out] at g1
                      simp only [Option.some.injEq, Prod.mk.injEq, List.cons.injEq] at g1
                      obtain ⟨rfl, rfl, rfl⟩ := g1
                      rw [← HDR2.out, HR2.out] at g3
                      simp only [Option.some.injEq, Prod.mk.injEq, List.cons.injEq] at g3
                      obtain ⟨rfl, _, rfl⟩ := g3
                      rw [← HDa.out, ← HDb.out] at HFT
                      have hff := HFT.out
                      simp only [Bool.not_eq_true] at hff
                      simp only [Tm.fits, hff, Bool.and_false]
              · have hz1 : ((z.toNat : Int) != 41) = true := by rw [bne_iff_ne]; intro e; exact hz (UInt8.toNat_inj.1 (by have : (41 : UInt8).toNat = 41 := rfl; omega))
                have HZ := hid hz
                clear hz
                go_wp2_with (first
                        | refine wpList_load_row rfl 72 _ rfl (w.heap.size + 1 + 1) rfl 72 (noneC (w.heap.size + 1)) (0, 0) _ TX2.out.n Tryd.underlying72 rfl Tryd.size_tm ?_
                        | refine wpList_store_row rfl 72 _ _ rfl w.heap.size (noneC (w.heap.size + 1)) rfl rfl 72 zeroTm TX2.out.r Tryd.size_tm rfl (noneC_one _) ?_)
                refine bodyPost_ret (results_row_tmp Tryd.results75 _ w.heap.size 72 (noneC (w.heap.size + 1)) (0, 0) _ (by rfl) (setRow_heap _ _ _ _ _ _ TX2.out.r) Tryd.underlying72 rfl Tryd.size_tm) rfl ?_
                refine fail_read TX2.out fun t' r hr => ?_
                rw [HD.out, rd_open] at hr
                obtain ⟨a, s', l1', b, g1, g2, g3, rfl⟩ := rdP_inv hr
                rw [← HD1.out] at g1
                rw [HR1.out] at g1
                simp only [Option.some.injEq, Prod.mk.injEq, List.cons.injEq] at g1
                obtain ⟨rfl, rfl, rfl⟩ := g1
                rw [← HDR2.out, HR2.out] at g3
                simp only [Option.some.injEq, Prod.mk.injEq, List.cons.injEq] at g3
                exact absurd g3.2.1 HZ.out
          · have HNO := hid hno
            clear hno
            subst hk0
            go_wp2_with (first
                    | refine wpList_load_row rfl 72 _ rfl (w.heap.size + 1 + 1) rfl 72 (noneC (w.heap.size + 1)) (0, 0) _ TX2.out.n Tryd.underlying72 rfl Tryd.size_tm ?_
                    | refine wpList_store_row rfl 72 _ _ rfl w.heap.size (noneC (w.heap.size + 1)) rfl rfl 72 zeroTm TX2.out.r Tryd.size_tm rfl (noneC_one _) ?_)
            refine bodyPost_ret (results_row_tmp Tryd.results75 _ w.heap.size 72 (noneC (w.heap.size + 1)) (0, 0) _ (by rfl) (setRow_heap _ _ _ _ _ _ TX2.out.r) Tryd.underlying72 rfl Tryd.size_tm) rfl ?_
            refine fail_read TX2.out fun t' r hr => ?_
            rw [HD.out, rd_open] at hr
            obtain ⟨a, s', l1', b, g1, g2, g3, rfl⟩ := rdP_inv hr
            rw [← HD1.out] at g1
            rw [HR1.out] at g1
            simp only [Option.some.injEq, Prod.mk.injEq, List.cons.injEq] at g1
            obtain ⟨rfl, rfl, rfl⟩ := g1
            rw [← HDR2.out] at g3
            have := HNO.out b _ g3
            simp [Tm.fits, this]
      · have hm2 : s ≠ 124 ∧ s ≠ 45 := by
          unfold isMid at hmid
          simpa using hmid
        have hs1 : ((s.toNat : Int) != 124) = true := by rw [bne_iff_ne]; intro e; exact hm2.1 (UInt8.toNat_inj.1 (by have : (124 : UInt8).toNat = 124 := rfl; omega))
        have hs2 : ((s.toNat : Int) != 45) = true := by rw [bne_iff_ne]; intro e; exact hm2.2 (UInt8.toNat_inj.1 (by have : (45 : UInt8).toNat = 45 := rfl; omega))
        have HMID := hid hmid
        clear hmid hm2
        go_wp2_with (first
                | refine wpList_load_row rfl 72 _ rfl (w.heap.size + 1 + 1) rfl 72 (noneC (w.heap.size + 1)) (0, 0) _ TX.out.n Tryd.underlying72 rfl Tryd.size_tm ?_
                | refine wpList_store_row rfl 72 _ _ rfl w.heap.size (noneC (w.heap.size + 1)) rfl rfl 72 zeroTm TX.out.r Tryd.size_tm rfl (noneC_one _) ?_)
        refine bodyPost_ret (results_row_tmp Tryd.results75 _ w.heap.size 72 (noneC (w.heap.size + 1)) (0, 0) _ (by rfl) (setRow_heap _ _ _ _ _ _ TX.out.r) Tryd.underlying72 rfl Tryd.size_tm) rfl ?_
        refine fail_read TX.out fun t' r hr => ?_
        rw [HD.out, rd_open] at hr
        obtain ⟨a, s', l1', b, g1, g2, g3, rfl⟩ := rdP_inv hr
        rw [← HD1.out] at g1
        rw [HR1.out] at g1
        simp only [Option.some.injEq, Prod.mk.injEq, List.cons.injEq] at g1
        obtain ⟨_, rfl, _⟩ := g1
        exact absurd g2 HMID.out
  · have HNO := hid hno
    clear hno
    subst hk0
    go_wp2_with (first
      | refine wpList_load_row rfl 72 _ rfl (w.heap.size + 1 + 1) rfl 72 (noneC (w.heap.size + 1)) (0, 0) _ TX.out.n Tryd.underlying72 rfl Tryd.size_tm ?_
      | refine wpList_store_row rfl 72 _ _ rfl w.heap.size (noneC (w.heap.size + 1)) rfl rfl 72 zeroTm TX.out.r Tryd.size_tm rfl (noneC_one _) ?_)
    refine bodyPost_ret (results_row_tmp Tryd.results75 _ w.heap.size 72 (noneC (w.heap.size + 1)) (0, 0) _ (by rfl) (setRow_heap _ _ _ _ _ _ TX.out.r) Tryd.underlying72 rfl Tryd.size_tm) rfl ?_
    refine fail_read TX.out fun t' r hr => ?_
    rw [HD.out, rd_open] at hr
    obtain ⟨a, s, l1, b, g1, g2, g3, rfl⟩ := rdP_inv hr
    rw [← HD1.out] at g1
    have := HNO.out a _ g1
    simp [Tm.fits, this]

set_option maxRecDepth 100000 in
set_option maxHeartbeats 4000000 in
theorem read_wrong (f : Nat) (at_ : Nat) (L : List UInt8) (c : UInt8) (l : List UInt8) (w : World) (h : L.drop at_ = c :: l) (h40 : c ≠ 40) (hc : isLet c = false) (hs : isSig c = false) (hL : L.length ≤ 60) : Calls Tryd.prog 75 #[.string (strB L), .int .i64 (at_ : Int)] w (ReadS (f + 1) at_ L w) := by
  have hsz : ((strB L).size : Int) = (L.length : Int) := by rw [strB_size]
  obtain ⟨hk, hb⟩ := strB_at L at_ c l h
  have hlt : at_ < L.length := by rw [strB_size] at hk; exact hk
  have h1 : (at_ : Int) < (L.length : Int) := by omega
  have h0 : (L.length : Int) ≤ 60 := by omega
  have hn : c ≠ 62 ∧ c ≠ 94 ∧ c ≠ 42 := ⟨fun e => by subst e; revert hs; decide, fun e => by subst e; revert hs; decide, fun e => by subst e; revert hs; decide⟩
  have e1 : ((c.toNat : Int) == 62) = false := by rw [beq_eq_false_iff_ne]; intro e; exact hn.1 (UInt8.toNat_inj.1 (by have : (62 : UInt8).toNat = 62 := rfl; omega))
  have e2 : ((c.toNat : Int) == 94) = false := by rw [beq_eq_false_iff_ne]; intro e; exact hn.2.1 (UInt8.toNat_inj.1 (by have : (94 : UInt8).toNat = 94 := rfl; omega))
  have e3 : ((c.toNat : Int) == 42) = false := by rw [beq_eq_false_iff_ne]; intro e; exact hn.2.2 (UInt8.toNat_inj.1 (by have : (42 : UInt8).toNat = 42 := rfl; omega))
  have e4 : ((c.toNat : Int) != 40) = true := by rw [bne_iff_ne]; intro e; exact h40 (UInt8.toNat_inj.1 (by have : (40 : UInt8).toNat = 40 := rfl; omega))
  have HNO := hid (show ∀ t' r, rd (f + 1) (L.drop at_) = some (t', r) → t'.fits = false from fun t' r hr => by rw [h, rd_other h40 hc hs] at hr; cases hr)
  have HL := hid (l1Letter_any c)
  rw [hc] at HL
  have T0 := hid (show Two w (((w.alloc (.cells zeroTm 72)).alloc (.cells #[] 72)).alloc (.cells (noneC (w.heap.size + 1)) 72)) from
    ⟨heap_new2 w _ _ _, by have := heap_new0 ((w.alloc (.cells zeroTm 72)).alloc (.cells #[] 72)) (.cells (noneC (w.heap.size + 1)) 72); rw [World.size_alloc, World.size_alloc] at this; exact this,
     (((Below.refl _ w).alloc (Nat.le_refl _) _).alloc (by simp) _).alloc (by simp; omega) _⟩)
  unfold zeroTm noneC at T0
  clear h hL hlt h40 hc hs hn
  go_enter Tryd.func75, Tryd.ntmps75
  go_wp2_with fail
  refine (HL.out _).mono ?_
  rintro e w' ⟨rfl, rfl⟩
  generalize World.alloc (World.alloc (World.alloc w _) _) _ = Y at T0 ⊢
  go_wp2_with (first
    | refine wpList_load_row rfl 72 _ rfl (w.heap.size + 1 + 1) rfl 72 (noneC (w.heap.size + 1)) (0, 0) _ T0.out.n Tryd.underlying72 rfl Tryd.size_tm ?_
    | refine wpList_store_row rfl 72 _ _ rfl w.heap.size (noneC (w.heap.size + 1)) rfl rfl 72 zeroTm T0.out.r Tryd.size_tm rfl (noneC_one _) ?_)
  refine bodyPost_ret (results_row_tmp Tryd.results75 _ w.heap.size 72 (noneC (w.heap.size + 1)) (0, 0) _ (by rfl) (setRow_heap _ _ _ _ _ _ T0.out.r) Tryd.underlying72 rfl Tryd.size_tm) rfl ?_
  exact fail_read T0.out HNO.out
end Go.Proofs.YtongjijkdjagdaaDoor
