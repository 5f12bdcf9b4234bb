/- GridPut of the program, by its contract. -/
import Derived.Test.YtkgjhchgflichaaBunF
namespace Go.Proofs.Ytkgjhchgflichaa
open Go.RowKit Go.Shelf
attribute [local go_sem] Oper.semAt_some

/-- What GridPut takes. -/
def PutIn (ss : List ByteArray) (cell : Int) (t : ByteArray) (n m c : Nat) (b : UInt8) : Prop := IsGrid n m ss ∧ cell = (c : Int) ∧ c < n * m ∧ t = ⟨#[b]⟩ ∧ isLet b = true
def PutOut (ss : List ByteArray) (cell : Int) (t : ByteArray) (ok : Bool) (res : List ByteArray) : Prop :=
  (∃ n m c b, PutIn ss cell t n m c b ∧ ok = true ∧ res = textsOf n m ((pad (flat ss)).set c b)) ∨ ((∀ n m c b, ¬ PutIn ss cell t n m c b) ∧ ok = false ∧ res = [])
theorem PutOut.uniq {ss : List ByteArray} {cell : Int} {t : ByteArray} {ok ok' : Bool} {res res' : List ByteArray} (h : PutOut ss cell t ok res) (h' : PutOut ss cell t ok' res') : ok' = ok ∧ res' = res := by
  rcases h with ⟨n, m, c, b, hg, rfl, rfl⟩ | ⟨hn, rfl, rfl⟩ <;> rcases h' with ⟨n', m', c', b', hg', rfl, rfl⟩ | ⟨hn', rfl, rfl⟩
  · obtain ⟨g1, g2, _, g4, _⟩ := hg
    obtain ⟨k1, k2, _, k4, _⟩ := hg'
    obtain ⟨rfl, rfl⟩ := g1.uniq k1
    obtain rfl : c = c' := by omega
    rw [g4] at k4
    obtain rfl : b = b' := by simpa using k4
    exact ⟨rfl, rfl⟩
  · exact absurd hg (hn' _ _ _ _)
  · exact absurd hg' (hn _ _ _ _)
  · exact ⟨rfl, rfl⟩
theorem PutOut.len {ss : List ByteArray} {cell : Int} {t : ByteArray} {ok : Bool} {res : List ByteArray} (h : PutOut ss cell t ok res) : res.length ≤ 1048576 := by
  rcases h with ⟨n, m, c, b, hg, _, rfl⟩ | ⟨_, _, rfl⟩
  · have h1 := hg.1.2.2.1
    rw [textsOf_length]; omega
  · simp

set_option maxHeartbeats 400000 in
theorem letterIn_other (t : ByteArray) (w : World) (ht : t.size ≠ 1) :
    Calls Try.prog 83 #[.string t] w fun e w' => e = .returned (.bool false) ∧ w = w' := by
  have hne : ((t.size : Int) == 1) = false := by rw [beq_eq_false_iff_ne]; omega
  go_enter Try.func83, Try.ntmps83
  go_wp2_with fail
  go_ret
  exact ⟨rfl, rfl⟩

set_option maxHeartbeats 400000 in
theorem hasCell_any (n m : Nat) (ls : List UInt8) (cell : Int) (w : World) (hl : ls.length = 25) (hn : n ≤ 5) (hm : m ≤ 5) :
    Calls Try.prog 82 #[.agg (gcells n m ls), .int .i64 cell] w fun e w' => e = .returned (.bool (decide (0 ≤ cell ∧ cell < ((n * m : Nat) : Int)))) ∧ Below w.heap.size w w' := by
  have HS := hid (size_any n m ls (w.alloc (.cells (gcells n m ls) 57)) hn hm)
  have HG := hid (show (Try.prog.info? 57).map (·.size) = some (gcells n m ls).size by rw [gcells_size hl]; exact Try.size_grid)
  obtain ⟨Ni, hNi⟩ : ∃ Ni : Int, ((n * m : Nat) : Int) = Ni := ⟨_, rfl⟩
  rw [hNi] at HS ⊢
  clear hNi
  by_cases h0 : 0 ≤ cell
  · have e0 : decide (0 ≤ cell) = true := by simpa using h0
    go_enter Try.func82, Try.ntmps82
    go_wp2_with (refine wpList_load_row_g (by rfl) 57 _ rfl w.heap.size rfl 57 (gcells n m ls) (0, 0) _ (heap_new0 w _) Try.underlying57 rfl HG.out ?_)
    refine HS.out.mono ?_
    rintro e w2 ⟨rfl, hb⟩
    have HB := hid hb
    clear hb
    go_wp2_with fail
    go_ret
    refine ⟨?_, ((Below.refl _ w).alloc (Nat.le_refl _) _).trans (HB.out.mono (by simp))⟩
    simp [h0]
  · have e0 : decide (0 ≤ cell) = false := by simpa using h0
    have h0' : ¬ (0 ≤ cell) := h0
    go_enter Try.func82, Try.ntmps82
    go_wp2_with fail
    go_ret
    refine ⟨?_, (Below.refl _ w).alloc (Nat.le_refl _) _⟩
    simp

theorem one_byte {t : ByteArray} (h : t.size = 1) : ∃ b, t = ⟨#[b]⟩ := by
  obtain ⟨⟨l⟩⟩ := t
  match l, h with
  | [b], _ => exact ⟨b, rfl⟩
section
variable {F : Fence} {m : Nat} {P : Program} {ops : Array Oper} {rest : List Oper} {o : Oper} {a : Act} {w : World} {Q : Exit → Act → World → Prop}
theorem wpListIn_load_row_g (hO : Open F P) (hw : Region.wanted o (yielded ops a.tmps) = true) (ty : TypeId) (x : Operand) (ho : o.op = .load ty x)
    (g : Nat) (hx : a.eval x = .pointer (some ⟨g, 0, none⟩)) (t : TypeId) (cs : Array Value) (fr : Nat × Nat) (d : TypeDesc) (hg : w.heap[g]? = some (.cells cs t fr))
    (hu : P.underlying ty = some d) (hd : (match d with | .struct _ | .array _ _ => true | _ => false) = true) (hi : (P.info? ty).map (·.size) = some cs.size)
    (h : wpListIn F m P ops Q rest (a.put o.dst (.agg cs)) w) : wpListIn F m P ops Q (o :: rest) a w := by
  unfold wpListIn
  rw [if_pos hw]
  refine ⟨fun f _ => hO.fn f, ?_⟩
  rw [Oper.semAt_eq _ _ _ (fun c e => by rw [ho] at e; cases e)]
  unfold execOp
  simp only [ho, hx, Instr.loadAt, Instr.sureAddr, Sem.run_bind, Sem.run_pure, Result.andThen_ok, run_loadVar_row w g t ty cs fr d hg hu hd hi]
  rw [Oper.uponIn_value]
  exact h
end

set_option maxRecDepth 100000 in
set_option maxHeartbeats 2000000 in
theorem implGridPut_any (A : Option Addr) (c : Nat) (ss : List ByteArray) (cell : Int) (t : ByteArray) (w : World) (h : Strs w w.heap.size A ss) (hn : ss.length ≤ 1048576) (hs : ∀ s ∈ ss, s.size ≤ 1048576) :
    Calls Try.prog 40 #[.slice A ss.length c, .int .i64 cell, .string t] w fun e w' => Below w.heap.size w w' ∧ ∃ A res ok, e = .returned (.tuple #[.slice A res.length res.length, .bool ok]) ∧ PutOut ss cell t ok res ∧ Own2 w' w.heap.size A res := by
  have HR := hid (readGrid_any A c ss w h hn hs)
  clear h hs
  refine (callsIn_wide (n := 3)).1 ?_
  refine callsIn_of_wp Try.func40 rfl trivial ?_ rfl
  simp only [Try.ntmps40, List.size_toArray, List.length_cons, List.length_nil, Nat.reduceAdd, Nat.reduceSub, Array.replicate_succ, Array.replicate_zero, List.push_toArray, List.append_toArray, List.nil_append, List.cons_append]
  gi_wp2_with fail
  refine ⟨trivial, callsIn_wide.2 (HR.out.mono ?_)⟩
  rintro e w1 ⟨hbel, ⟨n, m, hg, rfl⟩ | ⟨hno, rfl⟩⟩
  · have HB := hid hbel
    have HGr := hid hg
    have hn5 := hg.2.2.1
    have hm1 := hg.2.2.2.1
    have hm5 := hg.2.2.2.2.1
    have h25 := hg.le25
    have HPL := hid hg.plen
    have HS := hid (show (Try.prog.info? 57).map (·.size) = some (gcells n m (pad (flat ss))).size by rw [hg.csize]; exact Try.size_grid)
    have HZ := hid (show zeroG.size = (gcells n m (pad (flat ss))).size by rw [hg.csize]; rfl)
    have HL := hid (setRow_heap (w1.alloc (.cells zeroG 57)) w1.heap.size zeroG (gcells n m (pad (flat ss))) 57 (0, 0) (heap_new0 w1 _))
    have HW := hid (HB.out.trans (below_setRow' ((Below.refl _ w1).alloc HB.out.size (.cells zeroG 57)) HB.out.size (gcells n m (pad (flat ss)))))
    obtain ⟨ls, hls⟩ : ∃ ls, pad (flat ss) = ls := ⟨_, rfl⟩
    rw [hls] at HPL HS HZ HL HW ⊢
    have HLS := hid hls
    have HHc := hid (fun w => hasCell_any n m ls cell w HPL.out hn5 hm5)
    clear hbel hg hls
    gi_wp2_with (first
      | refine wpListIn_store_row (Open.wide _) rfl 57 _ _ rfl w1.heap.size (gcells n m ls) rfl rfl 57 zeroG (heap_new0 w1 _) HS.out HZ.out (gcells_one _ _ _) ?_
      | refine wpListIn_load_row_g (Open.wide _) (by rfl) 57 _ rfl w1.heap.size rfl 57 (gcells n m ls) (0, 0) _ HL.out Try.underlying57 rfl HS.out ?_)
    generalize World.setRow _ _ _ = W0 at HL HW
    refine ⟨trivial, callsIn_wide.2 ((HHc.out W0).mono ?_)⟩
    rintro e w2 ⟨rfl, hb2⟩
    have HBB := hid (HW.out.trans (hb2.mono HW.out.size))
    have HL2 := hid ((hb2.block _ (lt_of_block HL.out)).trans HL.out)
    clear hb2 HHc
    by_cases hin : 0 ≤ cell ∧ cell < ((n * m : Nat) : Int)
    · rw [show decide (0 ≤ cell ∧ cell < ((n * m : Nat) : Int)) = true by simpa using hin]
      obtain ⟨cc, rfl⟩ : ∃ cc : Nat, cell = cc := ⟨cell.toNat, by omega⟩
      have hcc : cc < n * m := by have := hin.2; omega
      have HC := hid hcc
      clear hin
      by_cases ht : t.size = 1
      · obtain ⟨b, rfl⟩ : ∃ b, t = ⟨#[b]⟩ := one_byte ht
        have hlet := letterIn_one ⟨#[b]⟩ b rfl
        cases hb : isLet b with
        | false =>
          rw [hb] at hlet
          have HLet := hid hlet
          have HNo := hid (show ∀ n m c b', ¬ PutIn ss cc ⟨#[b]⟩ n m c b' from fun n m c b' h => by
            obtain ⟨_, _, _, h4, h5⟩ := h
            obtain rfl : b = b' := by simpa using h4
            rw [hb] at h5; cases h5)
          clear hlet hb ht
          gi_wp2_with fail
          refine ⟨trivial, callsIn_wide.2 ((HLet.out _).mono ?_)⟩
          rintro e w' ⟨rfl, rfl⟩
          gi_wp2_with fail
          refine bodyPost_ret (results_tmp2 rfl _ _ _) rfl ?_
          exact ⟨HBB.out, none, [], false, rfl, .inr ⟨HNo.out, rfl, rfl⟩, .inl ⟨rfl, rfl⟩⟩
        | true =>
          rw [hb] at hlet
          have HLet := hid hlet
          have HYes := hid (show PutIn ss cc ⟨#[b]⟩ n m cc b from ⟨HGr.out, rfl, HC.out, rfl, hb⟩)
          have hq5 : cc / m < 5 := by
            have : cc / m < n := by rw [Nat.div_lt_iff_lt_mul (by omega)]; exact hcc
            omega
          have hdm : cc / m * m + cc % m = cc := by rw [Nat.mul_comm]; exact Nat.div_add_mod cc m
          have hc25 : cc < 25 := by omega
          obtain ⟨qn, hqn⟩ : ∃ qn, cc / m = qn := ⟨_, rfl⟩
          obtain ⟨rn, hrn⟩ : ∃ rn, cc % m = rn := ⟨_, rfl⟩
          rw [hqn, hrn] at hdm
          rw [hqn] at hq5
          have hde : (qn : Int) * (m : Int) + (rn : Int) = (cc : Int) := by rw [← hdm, Int.natCast_add, Int.natCast_mul]
          have HPC := hid (show ∀ w', Cls w2 w' → Calls Try.prog 85 #[.agg (gcells n m ls), .int .i64 cc] w' fun e w'' => e = .returned (.agg #[.int .i64 (qn : Int), .int .i64 (rn : Int)]) ∧ Cls w2 w'' from fun w' hw => by
            have h := place_any n m cc ls w' hm1 hm5 hc25
            rw [hqn, hrn] at h
            exact h.mono fun e w'' ⟨he, hb'⟩ => ⟨he, hw.trans (hb'.mono hw.size)⟩)
          have HWI := hid (show ∀ w', Cls w2 w' → Calls Try.prog 84 #[.agg (gcells n m ls), .agg #[.int .i64 (qn : Int), .int .i64 (rn : Int)], .int .u8 b.toNat] w' fun e w'' => e = .returned (.agg (gcells n m (ls.set cc b))) ∧ Cls w2 w'' from fun w' hw =>
            (with_any n m ls qn rn cc b w' HPL.out hc25 hde ⟨by omega, by omega⟩ hm5).mono fun e w'' ⟨he, hb'⟩ => ⟨he, hw.trans (hb'.mono hw.size)⟩)
          have HRW := hid (show ∀ w', Cls w2 w' → w'.heap[w1.heap.size]? = some (.cells (gcells n m ls) 57 (0, 0)) from fun w' hw => (hw.block _ (lt_of_block HL2.out)).trans HL2.out)
          have HTX := hid (fun w => texts_any n m (ls.set cc b) w (by rw [List.length_set]; exact HPL.out) hn5 hm5)
          clear hlet hb ht hqn hrn hdm hde hcc
          gi_wp2_with fail
          refine ⟨trivial, callsIn_wide.2 ((HLet.out _).mono ?_)⟩
          rintro e w' ⟨rfl, rfl⟩
          gi_wp2_with fail
          refine wpIn_region_quiet_tail (Open.wide _) 7 (Cls w2) (by kernel_rfl) (by kernel_rfl) (Below.refl _ w2).drew ?_
          simp only [List.take_succ_cons, List.take_zero, List.drop_succ_cons, List.drop_zero]
          refine wpQuiet_load_row rfl 57 _ rfl w1.heap.size rfl 57 _ (0, 0) _ HRW.out Try.underlying57 rfl HS.out ?_
          refine wpQuiet_load_row rfl 57 _ rfl w1.heap.size rfl 57 _ (0, 0) _ HRW.out Try.underlying57 rfl HS.out ?_
          quiet_step ((intro _; rfl))
          refine wpQuiet_call rfl 85 #[.agg (gcells n m ls), .int .i64 cc] (.agg #[.int .i64 (qn : Int), .int .i64 (rn : Int)]) (fun w _ => by go_simp) HPC.out ?_
          quiet_step ((intro _; rfl))
          refine wpQuiet_value rfl (.int .u8 b.toNat) (fun w _ => by go_simp; rfl) ?_
          refine wpQuiet_call rfl 84 #[.agg (gcells n m ls), .agg #[.int .i64 (qn : Int), .int .i64 (rn : Int)], .int .u8 b.toNat] (.agg (gcells n m (ls.set cc b))) (fun w _ => by go_simp) HWI.out ?_
          refine wpQuiet_nil ?_
          intro w3 hw3
          have HB3 := hid (HBB.out.trans (hw3.mono HBB.out.size))
          clear hw3
          gi_wp2_with fail
          refine ⟨trivial, callsIn_wide.2 ((HTX.out w3).mono ?_)⟩
          rintro e w4 ⟨rfl, hrow, hb4⟩
          have HB4 := hid (HB3.out.trans (hb4.mono HB3.out.size))
          have HRow := hid hrow
          clear hb4 hrow
          gi_wp2_with fail
          refine bodyPost_ret (results_tmp2 rfl _ _ _) rfl ?_
          have hlen : (textsOf n m (ls.set cc b)).length = n := textsOf_length _ _ _
          exact ⟨HB4.out, some ⟨w3.heap.size + 1, 0, none⟩, textsOf n m (ls.set cc b), true, by rw [hlen]; rfl, .inl ⟨n, m, cc, b, HYes.out, rfl, by rw [HLS.out]⟩, .inr ⟨_, rfl, by have := HB3.out.size; omega, HRow.out⟩⟩
      · have HNo := hid (show ∀ n m c b', ¬ PutIn ss cc t n m c b' from fun n m c b' h => by
          obtain ⟨_, _, _, h4, _⟩ := h
          subst h4
          exact ht rfl)
        have HLet := hid (letterIn_other t · ht)
        clear ht
        gi_wp2_with fail
        refine ⟨trivial, callsIn_wide.2 ((HLet.out _).mono ?_)⟩
        rintro e w' ⟨rfl, rfl⟩
        gi_wp2_with fail
        refine bodyPost_ret (results_tmp2 rfl _ _ _) rfl ?_
        exact ⟨HBB.out, none, [], false, rfl, .inr ⟨HNo.out, rfl, rfl⟩, .inl ⟨rfl, rfl⟩⟩
    · rw [show decide (0 ≤ cell ∧ cell < ((n * m : Nat) : Int)) = false by simpa using hin]
      have HNo := hid (show ∀ n m c b', ¬ PutIn ss cell t n m c b' from fun n' m' c b' h => by
        obtain ⟨h1, h2, h3, _⟩ := h
        obtain ⟨rfl, rfl⟩ := HGr.out.uniq h1
        exact hin ⟨by omega, by omega⟩)
      clear hin
      gi_wp2_with fail
      refine ⟨trivial, ?_⟩
      gi_wp2_with fail
      refine bodyPost_ret (results_tmp2 rfl _ _ _) rfl ?_
      exact ⟨HBB.out, none, [], false, rfl, .inr ⟨HNo.out, rfl, rfl⟩, .inl ⟨rfl, rfl⟩⟩
  · have HNo := hid (show ∀ n m c b', ¬ PutIn ss cell t n m c b' from fun n' m' c b' h => hno n' m' h.1)
    have HBB := hid (hbel.trans (below_setRow' ((Below.refl _ w1).alloc hbel.size (.cells zeroG 57)) hbel.size zeroG))
    clear hbel hno
    gi_wp2_with (refine wpListIn_store_row (Open.wide _) rfl 57 _ _ rfl w1.heap.size zeroG rfl rfl 57 zeroG (heap_new0 w1 _) Try.size_grid rfl (gcells_one 0 0 (pad [])) ?_)
    refine ⟨trivial, ?_⟩
    gi_wp2_with fail
    refine ⟨trivial, ?_⟩
    gi_wp2_with fail
    refine bodyPost_ret (results_tmp2 rfl _ _ _) rfl ?_
    exact ⟨HBB.out, none, [], false, rfl, .inr ⟨HNo.out, rfl, rfl⟩, .inl ⟨rfl, rfl⟩⟩

end Go.Proofs.Ytkgjhchgflichaa
