/- AimGo of the program, by its contract. -/
import Derived.Test.YtminailbhgimkaaAimI
import Derived.Test.YtminailbhgimkaaAimT
import Derived.Laws.EntriesVeiled
namespace Go.Proofs.Ytminailbhgimkaa
open Go.RowKit Go.Shelf

/-- What the operations of the last region hand back. -/
def startRel (fv : Value) (gc : Array Value) (p : Nat) (x : Wy) (i : Nat) (v : Value) (_ : World) : Prop :=
  match i with
  | 0 => v = fv
  | 1 => v = .agg gc
  | 2 => v = .int .i64 (p : Int)
  | 3 => v = wayV x
  | _ => True
theorem below_grownC {B r : Nat} {a b c : World} (h : b.grownBy c (some r)) (hb : Below B a b) (hr : B ≤ r) (hB : B ≤ b.heap.size) : Below B a c :=
  ⟨h.os.trans hb.os, h.tape.trans hb.tape, h.output.trans hb.output, Nat.le_trans hb.size h.size, fun k hk => (h.block k (Nat.lt_of_lt_of_le hk hB) (fun e => by cases e; omega)).trans (hb.block k hk)⟩
/-- A goal at which the walk stops. -/
structure StopC (p : Prop) : Prop where
  out : p
section
variable {P : Program} {ops : Array Oper} {rest : List Oper} {o : Oper} {a : Act} {w : World} {Q : Exit → Act → World → Prop}
/-- To stop at a load. -/
theorem atLoadC (ty : TypeId) (x : Operand) (_ho : o.op = .load ty x) (h : StopC (wpList P ops Q (o :: rest) a w)) : wpList P ops Q (o :: rest) a w := h.out
end

set_option maxRecDepth 100000 in
set_option maxHeartbeats 4000000 in
theorem costAlong_any (n m p q : Nat) (ls : List UInt8) (w : World) (hl : ls.length = 25) (hn1 : 1 ≤ n) (hn5 : n ≤ 5) (hm1 : 1 ≤ m) (hm5 : m ≤ 5) (h9 : n * m ≤ 9) (hp : p < 2 * (n + m)) (hq : q < 2 * (n + m)) :
    Calls Try.prog 72 #[.agg (gcells n m ls), .int .i64 (p : Int), .int .i64 (q : Int)] w fun e w' => e = .returned (.int .i64 ((aimA (n * m + 1) n m q (4 * (n * m) + 1) (ls.take (n * m)) (fun _ => false) (entr n m p) : Nat) : Int)) ∧ Below w.heap.size w w' := by
  have HS := hid (show (Try.prog.info? 57).map (·.size) = some (gcells n m ls).size by rw [gcells_size hl]; exact Try.size_grid)
  have HBO := hid (fun W => board_any n m ls W hl hn1 hn5 hm1 hm5)
  have HSZ := hid (fun W => size_any n m ls W hn5 hm5)
  have HEN := hid (fun W => entry_any n m p ls W hn5 hm5 hp)
  obtain ⟨N, hN⟩ : ∃ N, n * m = N := ⟨_, rfl⟩
  have HN := hid hN
  rw [hN] at HSZ h9
  have hNi : (N : Int) ≤ 9 := by omega
  have H0 := hid (heap_new1 w (.cells (gcells n m ls) 57) (.cells #[.int .i64 (q : Int)] 3))
  have H1 := hid (show Boxed ((w.alloc (.cells (gcells n m ls) 57)).alloc (.cells #[.int .i64 (q : Int)] 3)) (w.heap.size + 1) 3 (.int .i64 (q : Int)) by
    have := Boxed.new (w.alloc (.cells (gcells n m ls) 57)) 3 (.int .i64 (q : Int))
    rwa [World.size_alloc] at this)
  have HB0 := hid (((Below.refl w.heap.size w).alloc (Nat.le_refl _) (.cells (gcells n m ls) 57)).alloc (by simp) (.cells #[.int .i64 (q : Int)] 3))
  have HZ0 := hid (show ((w.alloc (.cells (gcells n m ls) 57)).alloc (.cells #[.int .i64 (q : Int)] 3)).heap.size = w.heap.size + 2 by simp)
  clear hN
  have hmm := @run_makeMap Try.prog
  go_enter Try.func72, Try.ntmps72
  go_wp2_with (refine wpList_load_row rfl 57 _ rfl w.heap.size rfl 57 (gcells n m ls) (0, 0) _ H0.out Try.underlying57 rfl HS.out ?_)
  generalize World.alloc (World.alloc w _) _ = w0 at H0 H1 HB0 HZ0 ⊢
  refine (HBO.out w0).mono ?_
  rintro e w1 ⟨R, L, cap, rfl, hrow, hlet, hne, hR, hLl, hb1⟩
  have G0 := hid ((hb1.block _ (lt_of_block H0.out)).trans H0.out)
  have G1 := hid (show Boxed w1 (w.heap.size + 1) 3 (.int .i64 (q : Int)) from (hb1.block _ H1.out.lt).trans H1.out)
  have GB := hid (HB0.out.trans (hb1.mono HB0.out.size))
  have GZ := hid (Nat.le_trans (Nat.le_of_eq HZ0.out.symm) hb1.size)
  have GR := hid hrow
  have GL := hid hlet
  have GN := hid (And.intro hne (And.intro (Nat.le_trans (Nat.le_of_eq HZ0.out.symm) hR) (Nat.le_trans (Nat.le_of_eq HZ0.out.symm) hLl)))
  clear hrow hlet hne hR hLl hb1 H0 H1 HB0 HZ0 HBO
  go_wp2_with (guard_target =~ wpList _ _ _ _ _ _; refine atLoadC 57 _ rfl ?_)
  refine StopC.mk ?_
  have K0 := hid (show (((w1.alloc (.map #[] 0)).alloc (.cells #[.slice (some ⟨R, 0, none⟩) n cap] 142)).alloc (.cells #[.map (some w1.heap.size)] 144)).heap[w.heap.size]? = some (.cells (gcells n m ls) 57 (0, 0)) from
    ((Below.heap_alloc _ _ _ (by have := lt_of_block G0.out; simp; omega)).trans ((Below.heap_alloc _ _ _ (by have := lt_of_block G0.out; simp; omega)).trans (Below.heap_alloc _ _ _ (lt_of_block G0.out)))).trans G0.out)
  have K1 := hid (show Boxed (((w1.alloc (.map #[] 0)).alloc (.cells #[.slice (some ⟨R, 0, none⟩) n cap] 142)).alloc (.cells #[.map (some w1.heap.size)] 144)) (w.heap.size + 1) 3 (.int .i64 (q : Int)) from ((G1.out.alloc _).alloc _).alloc _)
  have K2 := hid (show Boxed (((w1.alloc (.map #[] 0)).alloc (.cells #[.slice (some ⟨R, 0, none⟩) n cap] 142)).alloc (.cells #[.map (some w1.heap.size)] 144)) (w1.heap.size + 1) 142 (.slice (some ⟨R, 0, none⟩) n cap) by
    have := (Boxed.new (w1.alloc (.map #[] 0)) 142 (.slice (some ⟨R, 0, none⟩) n cap)).alloc (.cells #[.map (some w1.heap.size)] 144)
    rwa [World.size_alloc] at this)
  have K3 := hid (show Boxed (((w1.alloc (.map #[] 0)).alloc (.cells #[.slice (some ⟨R, 0, none⟩) n cap] 142)).alloc (.cells #[.map (some w1.heap.size)] 144)) (w1.heap.size + 1 + 1) 144 (.map (some w1.heap.size)) by
    have := Boxed.new ((w1.alloc (.map #[] 0)).alloc (.cells #[.slice (some ⟨R, 0, none⟩) n cap] 142)) 144 (.map (some w1.heap.size))
    rwa [World.size_alloc, World.size_alloc] at this)
  have KM := hid (((MetAt.made w1 n m).kept (Below.heap_alloc _ (.cells #[.slice (some ⟨R, 0, none⟩) n cap] 142) _ (by simp))).kept (Below.heap_alloc _ (.cells #[.map (some w1.heap.size)] 144) _ (by simp; omega)))
  have KR := hid (((GR.out.kept (Below.heap_alloc _ (.map #[] 0) _ GR.out.lt)).kept (Below.heap_alloc _ (.cells #[.slice (some ⟨R, 0, none⟩) n cap] 142) _ (by have := GR.out.lt; simp; omega))).kept (Below.heap_alloc _ (.cells #[.map (some w1.heap.size)] 144) _ (by have := GR.out.lt; simp; omega)))
  have KL := hid (show LetAt (((w1.alloc (.map #[] 0)).alloc (.cells #[.slice (some ⟨R, 0, none⟩) n cap] 142)).alloc (.cells #[.map (some w1.heap.size)] 144)) L (ls.take (n * m)) from
    ((Below.heap_alloc _ _ _ (by have := lt_of_block GL.out; simp; omega)).trans ((Below.heap_alloc _ _ _ (by have := lt_of_block GL.out; simp; omega)).trans (Below.heap_alloc _ _ _ (lt_of_block GL.out)))).trans GL.out)
  have KB := hid (((GB.out.alloc GB.out.size (.map #[] 0)).alloc (Nat.le_trans GB.out.size (by simp)) (.cells #[.slice (some ⟨R, 0, none⟩) n cap] 142)).alloc (Nat.le_trans GB.out.size (by simp; omega)) (.cells #[.map (some w1.heap.size)] 144))
  have KZ := hid (show (((w1.alloc (.map #[] 0)).alloc (.cells #[.slice (some ⟨R, 0, none⟩) n cap] 142)).alloc (.cells #[.map (some w1.heap.size)] 144)).heap.size = w1.heap.size + 3 by simp)
  have HRL := hid (And.intro GR.out.lt (lt_of_block GL.out))
  clear G0 G1 GR GL GB hmm
  generalize World.alloc (World.alloc (World.alloc w1 _) _) _ = w2 at K0 K1 K2 K3 KM KR KL KB KZ ⊢
  obtain ⟨M0, hM0⟩ : ∃ M0, w1.heap.size = M0 := ⟨_, rfl⟩
  rw [hM0] at K2 K3 KM KZ HRL GZ ⊢
  clear hM0
  go_wp2_with (refine wpList_load_row rfl 57 _ rfl w.heap.size rfl 57 (gcells n m ls) (0, 0) _ K0.out Try.underlying57 rfl HS.out ?_)
  refine (HSZ.out w2).mono ?_
  rintro e w3 ⟨rfl, hb3⟩
  have J0 := hid ((hb3.block _ (lt_of_block K0.out)).trans K0.out)
  have J1 := hid (show Boxed w3 (w.heap.size + 1) 3 (.int .i64 (q : Int)) from (hb3.block _ K1.out.lt).trans K1.out)
  have J2 := hid (show Boxed w3 (M0 + 1) 142 (.slice (some ⟨R, 0, none⟩) n cap) from (hb3.block _ K2.out.lt).trans K2.out)
  have J3 := hid (show Boxed w3 (M0 + 1 + 1) 144 (.map (some M0)) from (hb3.block _ K3.out.lt).trans K3.out)
  have JM := hid (KM.out.kept (hb3.block _ KM.out.lt))
  have JR := hid (KR.out.kept (hb3.block _ KR.out.lt))
  have JL := hid (show LetAt w3 L (ls.take (n * m)) from (hb3.block _ (lt_of_block KL.out)).trans KL.out)
  have JB := hid (KB.out.trans (hb3.mono KB.out.size))
  have JZ := hid (show M0 + 3 ≤ w3.heap.size by rw [← KZ.out]; exact hb3.size)
  clear hb3 K0 K1 K2 K3 KM KR KL KB KZ HSZ
  obtain ⟨fv, hfv⟩ : ∃ fv : Value, (.func (.func 109) #[] #[.pointer (some ⟨w.heap.size, 0, none⟩), .pointer (some ⟨w.heap.size + 1, 0, none⟩), .pointer (some ⟨w3.heap.size, 0, none⟩), .pointer (some ⟨M0 + 1, 0, none⟩), .pointer (some ⟨M0 + 1 + 1, 0, none⟩), .pointer (some ⟨w3.heap.size + 1, 0, none⟩)]) = fv := ⟨_, rfl⟩
  have HYC := hid (show Boxed ((w3.alloc (.cells #[.int .i64 ((N : Int) + 1)] 3)).alloc (.cells #[fv] 119)) (w3.heap.size + 1) 119 fv by
    have := Boxed.new (w3.alloc (.cells #[.int .i64 ((N : Int) + 1)] 3)) 119 fv
    rwa [World.size_alloc] at this)
  have HYA := hid (show Boxed ((w3.alloc (.cells #[.int .i64 ((N : Int) + 1)] 3)).alloc (.cells #[fv] 119)) w3.heap.size 3 (.int .i64 ((N : Int) + 1)) from (Boxed.new w3 3 (.int .i64 ((N : Int) + 1))).alloc _)
  have L0 := hid (show ((w3.alloc (.cells #[.int .i64 ((N : Int) + 1)] 3)).alloc (.cells #[fv] 119)).heap[w.heap.size]? = some (.cells (gcells n m ls) 57 (0, 0)) from ((Below.heap_alloc _ _ _ (by have := lt_of_block J0.out; simp; omega)).trans (Below.heap_alloc _ _ _ (lt_of_block J0.out))).trans J0.out)
  have L1 := hid ((J1.out.alloc (.cells #[.int .i64 ((N : Int) + 1)] 3)).alloc (.cells #[fv] 119))
  have L2 := hid ((J2.out.alloc (.cells #[.int .i64 ((N : Int) + 1)] 3)).alloc (.cells #[fv] 119))
  have L3 := hid ((J3.out.alloc (.cells #[.int .i64 ((N : Int) + 1)] 3)).alloc (.cells #[fv] 119))
  have LM := hid ((JM.out.kept (Below.heap_alloc _ (.cells #[.int .i64 ((N : Int) + 1)] 3) _ JM.out.lt)).kept (Below.heap_alloc _ (.cells #[fv] 119) _ (by have := JM.out.lt; simp; omega)))
  have LR := hid ((JR.out.kept (Below.heap_alloc _ (.cells #[.int .i64 ((N : Int) + 1)] 3) _ JR.out.lt)).kept (Below.heap_alloc _ (.cells #[fv] 119) _ (by have := JR.out.lt; simp; omega)))
  have LL := hid (show LetAt ((w3.alloc (.cells #[.int .i64 ((N : Int) + 1)] 3)).alloc (.cells #[fv] 119)) L (ls.take (n * m)) from ((Below.heap_alloc _ _ _ (by have := lt_of_block JL.out; simp; omega)).trans (Below.heap_alloc _ _ _ (lt_of_block JL.out))).trans JL.out)
  have LB := hid ((JB.out.alloc JB.out.size (.cells #[.int .i64 ((N : Int) + 1)] 3)).alloc (Nat.le_trans JB.out.size (by simp)) (.cells #[fv] 119))
  clear J0 J1 J2 J3 JM JR JL
  have HZW := hid JB.out.size
  have HF0 := hid hfv
  clear hfv
  go_wp2_with fail
  have hfv := HF0.out
  clear HF0
  rw [hfv]
  clear JB
  generalize World.alloc (World.alloc w3 _) _ = y at HYC HYA L0 L1 L2 L3 LM LR LL LB ⊢
  obtain ⟨z3, hz3⟩ : ∃ z3, w3.heap.size = z3 := ⟨_, rfl⟩
  rw [hz3] at HYC HYA JZ HZW hfv ⊢
  clear hz3
  have HFV := hid hfv
  have hN25 : n * m ≤ 9 := by rw [HN.out]; exact h9
  obtain ⟨hR1, hR2⟩ := HRL.out
  obtain ⟨hN1, hN2, hN3⟩ := GN.out
  have hEnv : AimEnv.at_ ⟨n, m, q, N + 1, cap, w.heap.size, w.heap.size + 1, z3, M0 + 1, M0 + 1 + 1, z3 + 1, R, L, M0, ls⟩ y := by
    have hjz := JZ.out
    refine ⟨?_, ?_, ?_, ?_, ?_, ?_, ?_, ?_, ?_, ?_⟩
    · exact L0.out
    · exact L1.out
    · exact HYA.out
    · exact L2.out
    · exact L3.out
    · have h := HYC.out
      rw [← hfv] at h
      exact h
    · exact LR.out
    · have hgz := GZ.out
      show w.heap.size ≠ L ∧ w.heap.size + 1 ≠ L ∧ z3 ≠ L ∧ M0 + 1 ≠ L ∧ M0 + 1 + 1 ≠ L ∧ z3 + 1 ≠ L ∧ R ≠ L
      exact ⟨by omega, by omega, by omega, by omega, by omega, by omega, hN1⟩
    · have hgz := GZ.out
      show w.heap.size ≠ M0 ∧ w.heap.size + 1 ≠ M0 ∧ z3 ≠ M0 ∧ M0 + 1 ≠ M0 ∧ M0 + 1 + 1 ≠ M0 ∧ z3 + 1 ≠ M0 ∧ R ≠ M0
      exact ⟨by omega, by omega, by omega, by omega, by omega, by omega, by omega⟩
    · show L ≠ M0; omega
  have HEV := hid hEnv
  have XL := hid LL.out
  have XM := hid LM.out
  have XB := hid LB.out
  have HPW := hid (show 0 + 3 ^ openN (n * m) (fun _ => false) ≤ 100000 by
    rw [open_all, HN.out]
    have h1 : 3 ^ N ≤ 3 ^ 9 := Nat.pow_le_pow_right (by decide) h9
    have h2 : (3 : Nat) ^ 9 = 19683 := rfl
    omega)
  have HDP := hid (aim_deep (n := n) (m := m) (p := p) hp (4 * (n * m)) 0 (ls.take (n * m)) (fun _ => false) (by omega) (fun i hi => absurd hi (by omega)))
  have HLT := hid (show (ls.take (n * m)).length = n * m by rw [List.length_take]; omega)
  have HED := hid (entr_d n m p)
  have hein := entr_in (n := n) (m := m) (p := p) hn1 hm1 hp
  obtain ⟨e1, e2, e3, e4⟩ := hein
  have HEI := hid (show -1 ≤ (entr n m p).i ∧ (entr n m p).i ≤ n by omega)
  have HEK := hid (show -1 ≤ (entr n m p).k ∧ (entr n m p).k ≤ m by omega)
  clear hEnv hN25 hR1 hR2 hN1 hN2 hN3 e1 e2 e3 e4 HYC HYA L0 L1 L2 L3 LM LR LL LB GN HRL
  clear hfv
  generalize y = W at HEV XL XM XB ⊢
  refine wp_region_rel_tail (by kernel_rfl) 4 (by kernel_rfl) (fun us => { tmps := #[.agg (gcells n m ls), .int .i64 (p : Int), .int .i64 (q : Int), .pointer (some ⟨w.heap.size, 0, none⟩), undef, .pointer (some ⟨w.heap.size + 1, 0, none⟩), .int .i64 0, .pointer (some ⟨M0 + 1, 0, none⟩), .pointer (some ⟨M0 + 1 + 1, 0, none⟩), .pointer (some ⟨z3, 0, none⟩), .pointer (some ⟨z3 + 1, 0, none⟩), .agg (gcells n m ls), .slice (some ⟨R, 0, none⟩) n cap, .map (some M0), .agg (gcells n m ls), .int .i64 (N : Int), .int .i64 ((N : Int) + 1), fv, us 0, us 1, us 2, us 3, undef], defers := [] }) (fun _ => undef) rfl (startRel fv (gcells n m ls) p (entr n m p)) (fun _ v W W' h hb => h) (fun io us v hi => ?_) (fun io us W2 hi hb hd => ?_) (fun us W2 hb hr => ?_)
  · match io, hi with
    | 0, _ => rfl
    | 1, _ => rfl
    | 2, _ => rfl
    | 3, _ => rfl
  · have HE2 := hid (HEV.out.kept (ChgA.below hb))
    have hal := HE2.out.al.cell
    have hfe : AimEnv.fn ⟨n, m, q, N + 1, cap, w.heap.size, w.heap.size + 1, z3, M0 + 1, M0 + 1 + 1, z3 + 1, R, L, M0, ls⟩ = fv := HFV.out
    rw [hfe] at hal
    have hgr := HE2.out.g
    match io, hi with
    | 0, _ => exact wpOp_val rfl rfl (by go_simp) rfl
    | 1, _ => exact wpOp_val rfl rfl (exec_load_row 57 _ rfl w.heap.size rfl 57 (gcells n m ls) (0, 0) _ hgr Try.underlying57 rfl HS.out) rfl
    | 2, _ => exact wpOp_val rfl rfl (by go_simp) rfl
    | 3, _ =>
      have h0 : us 1 = _ := hd _ rfl { on := 1, ground := .data } (by simp) rfl
      have h1 : us 2 = _ := hd _ rfl { on := 2, ground := .data } (by simp) rfl
      rw [h0, h1]
      exact wpOp_call rfl rfl (by go_simp) ((HEN.out W2).mono fun e w'' ⟨he, hb'⟩ => ⟨_, he, rfl, hb'⟩)
  · have h0 : us 0 = _ := hr 0 (by omega)
    have h3 : us 3 = _ := hr 3 (by omega)
    rw [h0, h3, ← HFV.out]
    have HC2 := hid (show ChgA L M0 W W2 from ChgA.below hb)
    have HE2 := hid (HEV.out.kept HC2.out)
    have XL2 := hid (show LetAt W2 L (ls.take (n * m)) from (hb.block _ (lt_of_block XL.out)).trans XL.out)
    have XM2 := hid (XM.out.kept (hb.block _ XM.out.lt))
    have XB2 := hid (XB.out.trans (hb.mono XB.out.size))
    have HCA := hid (along_any ⟨n, m, q, N + 1, cap, w.heap.size, w.heap.size + 1, z3, M0 + 1, M0 + 1 + 1, z3 + 1, R, L, M0, ls⟩ hn1 hn5 hm1 hm5 hl (by show N + 1 ≤ 100; omega) (by show q ≤ 100; omega) (by show n * m ≤ 9; rw [HN.out]; exact h9) (4 * (n * m)) (ls.take (n * m)) (fun _ => false) (entr n m p) 0 W2 HE2.out XL2.out XM2.out HLT.out HDP.out HED.out HEI.out HEK.out HPW.out)
    clear hr hb h0 h3
    simp only [List.drop_succ_cons, List.drop_zero]
    go_wp2_with fail
    refine HCA.out.mono ?_
    rintro e w5 ⟨rfl, hgw, _⟩
    have HB5 := hid (below_grownC hgw XB2.out (show w.heap.size ≤ M0 by have := GZ.out; omega) XB2.out.size)
    clear hgw
    go_wp2_with fail
    go_ret
    exact ⟨by rw [HN.out]; rfl, HB5.out⟩
end Go.Proofs.Ytminailbhgimkaa
