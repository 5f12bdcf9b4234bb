/- The steps of a chart in memory; chart.link, by its contract. -/
import Derived.Test.YtmdgbcepjnfbnaaChart
import Derived.Test.YtmdgbcepjnfbnaaMarks
namespace Go.Proofs.Ytmdgbcepjnfbnaa
open Go.RowKit
attribute [local go_sem] Oper.semAt_some

section
variable {F : Fence} {m : Nat} {P : Program} {ops : Array Oper} {Q : Exit → Act → World → Prop} {a : Act} {w : World} {rest : List Oper} {o : Oper}
/-- A struct out of the middle of a block, in a fence. -/
theorem wpListIn_load_mid (hO : Open F P) (hgd : o.guard = none) (ty : TypeId) (x : Operand) (ho : o.op = .load ty x)
    (b off : Nat) (hx : a.eval x = .pointer (some ⟨b, off, none⟩)) (cs : Array Value) (d : TypeDesc) (hc : w.rangeAt b off cs.toList)
    (hu : P.underlying ty = some d) (hd : d.isRow = true) (hi : (P.info? ty).map (·.size) = some cs.size)
    (h : wpListIn F m P ops Q rest (a.put o.dst (.agg cs)) w) : wpListIn F m P ops Q (o :: rest) a w := by
  unfold wpListIn
  have hw : Region.wanted o (yielded ops a.tmps) = true := by simp [Region.wanted, hgd]
  rw [if_pos hw]
  refine ⟨fun f _ => hO.fn f, ?_⟩
  rw [Oper.semAt_eq _ _ _ (fun c e => by rw [ho] at e; cases e)]
  unfold execOp
  have := run_loadVar_mid (P := P) w b off ty cs.toList d hc hu hd (by simpa using hi)
  simp only [ho, hx, Instr.loadAt, Instr.sureAddr, Sem.run_bind, Sem.run_pure, Result.andThen_ok, this]
  rw [Oper.uponIn_value]
  exact h
/-- A struct into the middle of a block, in a fence. -/
theorem wpListIn_store_mid (hO : Open F P) (hgd : o.guard = none) (ty : TypeId) (x y : Operand) (ho : o.op = .store ty x y)
    (b off : Nat) (cells : Array Value) (hx : a.eval x = .pointer (some ⟨b, off, none⟩)) (hy : a.eval y = .agg cells)
    (ht : w.there b off cells.size) (hi : (P.info? ty).map (·.size) = some cells.size) (h1 : cells.all (·.oneCell') = true)
    (h : wpListIn F m P ops Q rest (a.put o.dst undef) (w.setCells b off cells.toList)) : wpListIn F m P ops Q (o :: rest) a w := by
  unfold wpListIn
  have hw : Region.wanted o (yielded ops a.tmps) = true := by simp [Region.wanted, hgd]
  rw [if_pos hw]
  refine ⟨fun f _ => hO.fn f, ?_⟩
  rw [Oper.semAt_eq _ _ _ (fun c e => by rw [ho] at e; cases e)]
  unfold execOp
  simp only [ho, hx, hy, Instr.storeAt, Instr.sureAddr, Sem.run_bind, Sem.run_pure, Result.andThen_ok, run_storeVar_mid w b off ty cells ht hi h1]
  rw [Oper.uponIn_skip]
  exact h
end

/-- The pointer to the step behind a way. -/
def nextP (g n m : Nat) (t : Int → Int → UInt8) (x : Wy) : Value := if inG n m (nxt t x) then .pointer (some ⟨g, 5 * wcode m (nxt t x), none⟩) else .pointer none
/-- The cells of the step of a way. -/
def stepC (g n m : Nat) (t : Int → Int → UInt8) (x : Wy) : List Value := [.int .i64 x.i, .int .i64 x.k, .int .i64 ((x.d : Nat) : Int), nextP g n m t x, .pointer (some ⟨g, 5 * wcode m (rev t x), none⟩)]
/-- The steps with M stand in block g; the others lead nowhere. -/
def StepsM (w : World) (g n m : Nat) (t : Int → Int → UInt8) (M : Nat → Prop) (N : Nat) : Prop :=
  ∃ cs : Array Value, w.heap[g]? = some (.cells cs 83 (0, 0)) ∧ cs.size = 5 * N ∧ (∀ c, c < N → M c → ∀ (j : Nat) (v : Value), (stepC g n m t (wayN m c))[j]? = some v → cs[5 * c + j]? = some v) ∧ ∀ c, c < N → ¬ M c → cs[5 * c + 3]? = some (.pointer none)
theorem StepsM.lt {w : World} {g n m N : Nat} {t : Int → Int → UInt8} {M : Nat → Prop} (h : StepsM w g n m t M N) : g < w.heap.size := by
  obtain ⟨cs, h, _⟩ := h
  exact lt_of_block h
theorem StepsM.keep {w w' : World} {g n m N : Nat} {t : Int → Int → UInt8} {M : Nat → Prop} (h : StepsM w g n m t M N) (hb : w'.heap[g]? = w.heap[g]?) : StepsM w' g n m t M N := by
  obtain ⟨cs, h, hr⟩ := h
  exact ⟨cs, hb.trans h, hr⟩
theorem StepsM.below {w w' : World} {g n m N : Nat} {t : Int → Int → UInt8} {M : Nat → Prop} (h : StepsM w g n m t M N) (hb : Below w.heap.size w w') : StepsM w' g n m t M N := h.keep (hb.block g h.lt)
theorem StepsM.congr {w : World} {g n m N : Nat} {t : Int → Int → UInt8} {M M' : Nat → Prop} (h : StepsM w g n m t M N) (e : ∀ c, c < N → (M c ↔ M' c)) : StepsM w g n m t M' N := by
  obtain ⟨cs, h1, h2, h3, h4⟩ := h
  exact ⟨cs, h1, h2, fun c hc hm => h3 c hc ((e c hc).2 hm), fun c hc hm => h4 c hc (fun h => hm ((e c hc).1 h))⟩

def put5 (cs : Array Value) (o : Nat) (a0 a1 a2 b4 : Value) : Array Value := (((cs.setIfInBounds o a0).setIfInBounds (o + 1) a1).setIfInBounds (o + 1 + 1) a2).setIfInBounds (o + 4) b4
theorem put5_size (cs : Array Value) (o : Nat) (a0 a1 a2 b4 : Value) : (put5 cs o a0 a1 a2 b4).size = cs.size := by simp [put5]
theorem put5_at {cs : Array Value} {o : Nat} (a0 a1 a2 b4 : Value) (h : o + 4 < cs.size) (i : Nat) :
    (put5 cs o a0 a1 a2 b4)[i]? = if i = o + 4 then some b4 else if i = o + 1 + 1 then some a2 else if i = o + 1 then some a1 else if i = o then some a0 else cs[i]? := by
  unfold put5
  by_cases e4 : i = o + 4
  · subst e4; rw [Array.getElem?_setIfInBounds_self_of_lt (by simp; omega), if_pos rfl]
  rw [Array.getElem?_setIfInBounds_ne (fun e => e4 e.symm), if_neg e4]
  by_cases e2 : i = o + 1 + 1
  · subst e2; rw [Array.getElem?_setIfInBounds_self_of_lt (by simp; omega), if_pos rfl]
  rw [Array.getElem?_setIfInBounds_ne (fun e => e2 e.symm), if_neg e2]
  by_cases e1 : i = o + 1
  · subst e1; rw [Array.getElem?_setIfInBounds_self_of_lt (by simp; omega), if_pos rfl]
  rw [Array.getElem?_setIfInBounds_ne (fun e => e1 e.symm), if_neg e1]
  by_cases e0 : i = o
  · subst e0; rw [Array.getElem?_setIfInBounds_self_of_lt (by omega), if_pos rfl]
  rw [Array.getElem?_setIfInBounds_ne (fun e => e0 e.symm), if_neg e0]

/-- One step more, whose way leaves the grid. -/
theorem steps_more0 {w' : World} {g n m c N : Nat} {t : Int → Int → UInt8} {M : Nat → Prop} {cs : Array Value} (hs : cs.size = 5 * N) (hc : c < N)
    (h1 : ∀ c', c' < N → M c' → ∀ (j : Nat) (v : Value), (stepC g n m t (wayN m c'))[j]? = some v → cs[5 * c' + j]? = some v) (h2 : ∀ c', c' < N → ¬ M c' → cs[5 * c' + 3]? = some (.pointer none))
    (hn : ¬ inG n m (nxt t (wayN m c)))
    (hg : w'.heap[g]? = some (.cells (put5 cs (5 * c) (.int .i64 (wayN m c).i) (.int .i64 (wayN m c).k) (.int .i64 (((wayN m c).d : Nat) : Int)) (.pointer (some ⟨g, 5 * wcode m (rev t (wayN m c)), none⟩))) 83 (0, 0))) : StepsM w' g n m t (fun c' => M c' ∨ c = c') N := by
  refine ⟨_, hg, by rw [put5_size, hs], fun c' hc' hm j v hj => ?_, fun c' h3 h4 => ?_⟩
  · have hj5 : j < 5 := (List.getElem?_eq_some_iff.1 hj).1
    rw [put5_at _ _ _ _ (by omega)]
    by_cases hcc : c = c'
    · subst hcc
      match j, hj, hj5 with
      | 0, hj, _ => rw [if_neg (by omega), if_neg (by omega), if_neg (by omega), if_pos (by omega)]; exact hj
      | 1, hj, _ => rw [if_neg (by omega), if_neg (by omega), if_pos (by omega)]; exact hj
      | 2, hj, _ => rw [if_neg (by omega), if_pos (by omega)]; exact hj
      | 3, hj, _ =>
        rw [if_neg (by omega), if_neg (by omega), if_neg (by omega), if_neg (by omega)]
        have e : cs[5 * c + 3]? = some (.pointer none) := by
          by_cases hM : M c
          · refine h1 c hc hM 3 _ ?_
            simp only [stepC, nextP]
            rw [if_neg hn]; rfl
          · exact h2 c hc hM
        rw [e]
        simp only [stepC, nextP] at hj
        rw [if_neg hn] at hj
        exact hj
      | 4, hj, _ => rw [if_pos (by omega)]; exact hj
    · rw [if_neg (by omega), if_neg (by omega), if_neg (by omega), if_neg (by omega)]
      exact h1 c' hc' (hm.resolve_right hcc) j v hj
  · rw [put5_at _ _ _ _ (by omega), if_neg (by omega), if_neg (by omega), if_neg (by omega), if_neg (by omega)]
    exact h2 c' h3 (fun h => h4 (.inl h))
/-- One step more, whose way goes on. -/
theorem steps_more1 {w' : World} {g n m c N : Nat} {t : Int → Int → UInt8} {M : Nat → Prop} {cs : Array Value} (hs : cs.size = 5 * N) (hc : c < N)
    (h1 : ∀ c', c' < N → M c' → ∀ (j : Nat) (v : Value), (stepC g n m t (wayN m c'))[j]? = some v → cs[5 * c' + j]? = some v) (h2 : ∀ c', c' < N → ¬ M c' → cs[5 * c' + 3]? = some (.pointer none))
    (hn : inG n m (nxt t (wayN m c)))
    (hg : w'.heap[g]? = some (.cells ((put5 cs (5 * c) (.int .i64 (wayN m c).i) (.int .i64 (wayN m c).k) (.int .i64 (((wayN m c).d : Nat) : Int)) (.pointer (some ⟨g, 5 * wcode m (rev t (wayN m c)), none⟩))).setIfInBounds (5 * c + 3) (.pointer (some ⟨g, 5 * wcode m (nxt t (wayN m c)), none⟩))) 83 (0, 0))) : StepsM w' g n m t (fun c' => M c' ∨ c = c') N := by
  refine ⟨_, hg, by rw [Array.size_setIfInBounds, put5_size, hs], fun c' hc' hm j v hj => ?_, fun c' h3 h4 => ?_⟩
  · have hj5 : j < 5 := (List.getElem?_eq_some_iff.1 hj).1
    by_cases e3 : 5 * c + 3 = 5 * c' + j
    · obtain rfl : c' = c := by omega
      obtain rfl : j = 3 := by omega
      rw [Array.getElem?_setIfInBounds_self_of_lt (by rw [put5_size]; omega)]
      simp only [stepC, nextP] at hj
      rw [if_pos hn] at hj
      exact hj
    rw [Array.getElem?_setIfInBounds_ne e3, put5_at _ _ _ _ (by omega)]
    by_cases hcc : c = c'
    · subst hcc
      match j, hj, hj5 with
      | 0, hj, _ => rw [if_neg (by omega), if_neg (by omega), if_neg (by omega), if_pos (by omega)]; exact hj
      | 1, hj, _ => rw [if_neg (by omega), if_neg (by omega), if_pos (by omega)]; exact hj
      | 2, hj, _ => rw [if_neg (by omega), if_pos (by omega)]; exact hj
      | 3, _, _ => exact absurd rfl e3
      | 4, hj, _ => rw [if_pos (by omega)]; exact hj
    · rw [if_neg (by omega), if_neg (by omega), if_neg (by omega), if_neg (by omega)]
      exact h1 c' hc' (hm.resolve_right hcc) j v hj
  · have hne : c ≠ c' := fun e => h4 (.inr e)
    rw [Array.getElem?_setIfInBounds_ne (by omega), put5_at _ _ _ _ (by omega), if_neg (by omega), if_neg (by omega), if_neg (by omega), if_neg (by omega)]
    exact h2 c' h3 (fun h => h4 (.inl h))

set_option maxRecDepth 100000 in
set_option maxHeartbeats 4000000 in
theorem link_any (n m g N c : Nat) (ls : List UInt8) (w : World) (hl : ls.length = 25) (hn : n ≤ 5) (hm : m ≤ 5) (hN : 4 * (n * m) = N) (hc : c < N) {M : Nat → Prop} (hs : StepsM w g n m (lett m ls) M N) :
    Calls Try.prog 115 #[.agg (chartC (gcells n m ls) g N), wayV (wayN m c)] w fun e w' => e = .returned (.tuple #[]) ∧ But g w w' ∧ StepsM w' g n m (lett m ls) (fun c' => M c' ∨ c = c') N := by
  have hc4 : c < 4 * (n * m) := by rw [hN]; exact hc
  have hx := wayN_in (n := n) (m := m) hc4
  have hd := wayN_d (m := m) c
  have hcode := wcode_way (m := m) c
  obtain ⟨cs0, hg0, hz0, hk0, hr0⟩ := hs
  have HK0 := hid hk0
  have HR0 := hid hr0
  have HM0 := hid (fun (w' : World) => steps_more0 (w' := w') hz0 hc hk0 hr0)
  have HM1 := hid (fun (w' : World) => steps_more1 (w' := w') hz0 hc hk0 hr0)
  clear hk0 hr0
  generalize wayN m c = x at hx hd hcode HM0 HM1 ⊢
  have hds := nxt_d (t := lett m ls) hd
  have hrin := rev_in (t := lett m ls).2 hx
  have hrd := rev_d (t := lett m ls) x
  have HSX := hid (fun w' => step_way n m g N ls x w' hl hn hm hx hd hN)
  rw [hcode] at HSX
  have HON := hid (fun w' => onward_any n m ls x w' hl hn hm hx hd)
  have HOP := hid (fun w' => opposite_any (nxt (lett m ls) x).d hds w')
  have HSB := hid (fun w' => step_way n m g N ls (rev (lett m ls) x) w' hl hn hm hrin hrd hN)
  have HHO := hid (fun w' => holds_any n m ls (nxt (lett m ls) x) w')
  have HSN := hid (fun w' (h : inG n m (nxt (lett m ls) x)) => step_way n m g N ls (nxt (lett m ls) x) w' hl hn hm h hds hN)
  have hrev : rev (lett m ls) x = ⟨x.i, x.k, opp (nxt (lett m ls) x).d⟩ := rfl
  have hz := gcells_size (n := n) (m := m) hl
  have HS := hid (show (Try.prog.info? 71).map (·.size) = some (chartC (gcells n m ls) g N).size by rw [chartC_size hz]; exact Try.size_chart)
  have HG := hid (show (Try.prog.info? 57).map (·.size) = some (gcells n m ls).size by rw [hz]; exact Try.size_grid)
  have HCP := hid (chartC_pre (gcells n m ls) g N)
  generalize wcode m (rev (lett m ls) x) = qb at HSB HM0 HM1
  generalize hqn : wcode m (nxt (lett m ls) x) = qn at HSN HM1
  rw [hrev] at HSB
  generalize nxt (lett m ls) x = y at *
  generalize lett m ls = t at *
  generalize chartC (gcells n m ls) g N = cc at *
  generalize gcells n m ls = gc at *
  obtain ⟨xi, xk, xd⟩ := x
  obtain ⟨yi, yk, yd⟩ := y
  simp only [wayV] at *
  obtain ⟨dv, hdv⟩ : ∃ dv : Int, ((xd : Nat) : Int) = dv := ⟨_, rfl⟩
  obtain ⟨ev, hev⟩ : ∃ ev : Int, ((yd : Nat) : Int) = ev := ⟨_, rfl⟩
  obtain ⟨ov, hov⟩ : ∃ ov : Int, ((opp yd : Nat) : Int) = ov := ⟨_, rfl⟩
  rw [hdv] at HSX HON HM0 HM1 ⊢
  rw [hev] at HON HOP HSN
  rw [hov] at HOP HSB
  have h5 : 5 * c + 4 < cs0.size := by rw [hz0]; omega
  have HG0 := hid hg0
  have HGL := hid (lt_of_block hg0)
  clear hx hd hcode hds hrin hrd hrev hz hqn hdv hev hov hc4 hg0 hl
  refine (callsIn_wide (n := 3)).1 ?_
  refine callsIn_of_wp Try.func115 rfl trivial ?_ rfl
  simp only [Try.ntmps115, List.size_toArray, List.length_cons, List.length_nil, Nat.reduceAdd, Nat.reduceSub, Array.replicate_succ, Array.replicate_zero, List.push_toArray, List.append_toArray, List.nil_append, List.cons_append]
  have F0 := heap_new1 w (.cells cc 71) (.cells #[.int .i64 xi, .int .i64 xk, .int .i64 dv] 79)
  have F1 := heap_new0 (w.alloc (.cells cc 71)) (.cells #[.int .i64 xi, .int .i64 xk, .int .i64 dv] 79)
  have FB : Below w.heap.size w ((w.alloc (.cells cc 71)).alloc (.cells #[.int .i64 xi, .int .i64 xk, .int .i64 dv] 79)) := ((Below.refl _ w).alloc (Nat.le_refl _) _).alloc (by simp) _
  simp only [World.size_alloc] at F1
  generalize hW0 : World.alloc (World.alloc w (.cells cc 71)) (.cells #[.int .i64 xi, .int .i64 xk, .int .i64 dv] 79) = W0 at F0 F1 FB
  have HW0 := hid hW0
  have A0 := hid F0
  have A1 := hid F1
  have AB := hid FB
  have AG := hid ((FB.block g HGL.out).trans HG0.out)
  clear hW0 F0 F1 FB
  gi_wp2_with (first
    | (refine wpListIn_load_row (Open.wide _) rfl 71 _ rfl w.heap.size rfl 71 cc (0, 0) _ (by rw [HW0.out]; exact A0.out) Try.underlying71 rfl HS.out ?_; rw [HW0.out])
    | refine wpListIn_load_row (Open.wide _) rfl 79 _ rfl (w.heap.size + 1) rfl 79 #[.int .i64 xi, .int .i64 xk, .int .i64 dv] (0, 0) _ A1.out Try.underlying79 rfl Try.size_way ?_)
  refine ⟨trivial, callsIn_wide.2 ((HSX.out _).mono ?_)⟩
  rintro e w1 ⟨rfl, hb1⟩
  have B0 := hid ((hb1.block _ (lt_of_block A0.out)).trans A0.out)
  have B1 := hid ((hb1.block _ (lt_of_block A1.out)).trans A1.out)
  have BB := hid (AB.out.trans (hb1.mono AB.out.size))
  have BG := hid ((hb1.block _ (lt_of_block AG.out)).trans AG.out)
  clear hb1
  gi_wp2_with (first
    | refine wpListIn_load_mid (Open.wide _) rfl 57 _ rfl w.heap.size 0 rfl gc _ (rangeAt_row B0.out HCP.out) Try.underlying57 rfl HG.out ?_
    | refine wpListIn_load_row (Open.wide _) rfl 79 _ rfl (w.heap.size + 1) rfl 79 #[.int .i64 xi, .int .i64 xk, .int .i64 dv] (0, 0) _ B1.out Try.underlying79 rfl Try.size_way ?_)
  refine ⟨trivial, callsIn_wide.2 ((HON.out _).mono ?_)⟩
  rintro e w2 ⟨rfl, hb2⟩
  have C0 := hid ((hb2.block _ (lt_of_block B0.out)).trans B0.out)
  have C1 := hid ((hb2.block _ (lt_of_block B1.out)).trans B1.out)
  have CB := hid (BB.out.trans (hb2.mono BB.out.size))
  have CG := hid ((hb2.block _ (lt_of_block BG.out)).trans BG.out)
  clear hb2
  -- the way behind lies in a block of its own
  have L2 := hid (show g < w2.heap.size ∧ w.heap.size + 1 < w2.heap.size from ⟨lt_of_block CG.out, lt_of_block C1.out⟩)
  have D0 := hid ((Below.heap_alloc w2 (.cells #[.int .i64 yi, .int .i64 yk, .int .i64 ev] 79) _ (lt_of_block C0.out)).trans C0.out)
  have D1 := hid ((Below.heap_alloc w2 (.cells #[.int .i64 yi, .int .i64 yk, .int .i64 ev] 79) _ (lt_of_block C1.out)).trans C1.out)
  have D2 := hid (heap_new0 w2 (.cells #[.int .i64 yi, .int .i64 yk, .int .i64 ev] 79))
  have DG := hid ((Below.heap_alloc w2 (.cells #[.int .i64 yi, .int .i64 yk, .int .i64 ev] 79) _ (lt_of_block CG.out)).trans CG.out)
  have DB := hid (CB.out.alloc CB.out.size (.cells #[.int .i64 yi, .int .i64 yk, .int .i64 ev] 79))
  have H5 := hid h5
  have HTH := hid (show (w2.alloc (.cells #[.int .i64 yi, .int .i64 yk, .int .i64 ev] 79)).there g (5 * c) 3 from fun j hj => ⟨by rw [cell_of_row _ _ _ _ _ _ DG.out, Array.getElem?_eq_getElem (by omega)]; rfl, frozen_of_row _ _ _ _ _ DG.out⟩)
  have H1C := hid (show (#[.int .i64 xi, .int .i64 xk, .int .i64 dv] : Array Value).all (·.oneCell') = true from all_oneCell_toArray (cs := [.int .i64 xi, .int .i64 xk, .int .i64 dv]) (fun v hv => by simp at hv; rcases hv with rfl | rfl | rfl <;> rfl))
  clear h5
  gi_wp2_with (first
    | refine wpListIn_load_row (Open.wide _) rfl 79 _ rfl (w.heap.size + 1) rfl 79 #[.int .i64 xi, .int .i64 xk, .int .i64 dv] (0, 0) _ D1.out Try.underlying79 rfl Try.size_way ?_
    | refine wpListIn_store_mid (Open.wide _) rfl 79 _ _ rfl g (5 * c) #[.int .i64 xi, .int .i64 xk, .int .i64 dv] rfl rfl HTH.out Try.size_way H1C.out ?_)
  have r0 := heap_setCell_same _ _ (5 * c) _ _ (.int .i64 xi) DG.out
  have r1 := heap_setCell_same _ _ (5 * c + 1) _ _ (.int .i64 xk) r0
  have r2 := heap_setCell_same _ _ (5 * c + 1 + 1) _ _ (.int .i64 dv) r1
  have hbx : But g (w2.alloc (.cells #[.int .i64 yi, .int .i64 yk, .int .i64 ev] 79)) ((w2.alloc (.cells #[.int .i64 yi, .int .i64 yk, .int .i64 ev] 79)).setCells g (5 * c) (#[.int .i64 xi, .int .i64 xk, .int .i64 dv] : Array Value).toList) :=
    ((But.setCell _ (5 * c) (.int .i64 xi)).trans (But.setCell _ (5 * c + 1) (.int .i64 xk))).trans (But.setCell _ (5 * c + 1 + 1) (.int .i64 dv))
  have EG := hid (show ((w2.alloc (.cells #[.int .i64 yi, .int .i64 yk, .int .i64 ev] 79)).setCells g (5 * c) (#[.int .i64 xi, .int .i64 xk, .int .i64 dv] : Array Value).toList).heap[g]? = some (.cells (((cs0.setIfInBounds (5 * c) (.int .i64 xi)).setIfInBounds (5 * c + 1) (.int .i64 xk)).setIfInBounds (5 * c + 1 + 1) (.int .i64 dv)) 83 (0, 0)) from r2)
  have E0 := hid ((hbx.block _ (lt_of_block D0.out) (by have := HGL.out; omega)).trans D0.out)
  have E1 := hid ((hbx.block _ (lt_of_block D1.out) (by have := HGL.out; omega)).trans D1.out)
  have E2 := hid ((hbx.block _ (lt_of_block D2.out) (by have := L2.out; omega)).trans D2.out)
  have EB := hid ((show But g w (w2.alloc (.cells #[.int .i64 yi, .int .i64 yk, .int .i64 ev] 79)) from But.of_below DB.out).trans hbx)
  clear r0 r1 r2 hbx D0 D1 D2 DG DB HTH
  obtain ⟨b2, hb2⟩ : ∃ b2, w2.heap.size = b2 := ⟨_, rfl⟩
  rw [hb2] at L2 E2 ⊢
  generalize World.setCells _ _ _ _ = X at EG E0 E1 E2 EB ⊢
  clear hb2
  have G0 := hid (fun w' (hw : Cls X w') => (hw.block _ (lt_of_block E0.out)).trans E0.out)
  have G1 := hid (fun w' (hw : Cls X w') => (hw.block _ (lt_of_block E1.out)).trans E1.out)
  have G2 := hid (fun w' (hw : Cls X w') => (hw.block _ (lt_of_block E2.out)).trans E2.out)
  have GG := hid (fun w' (hw : Cls X w') => (hw.block _ (lt_of_block EG.out)).trans EG.out)
  have HEV := hid (fun w' (hw : Cls X w') => show w'.cell? ⟨b2, 2, none⟩ = some (.int .i64 ev) by rw [cell_of_row _ _ _ _ _ _ (G2.out w' hw)]; rfl)
  refine wpIn_region_quiet_tail (Open.wide _) 11 (Cls X) (by kernel_rfl) (by kernel_rfl) (Below.refl _ X).drew ?_
  simp only [List.take_succ_cons, List.take_zero, List.drop_succ_cons, List.drop_zero]
  quiet_step ((intro _; rfl))
  refine wpQuiet_load_row rfl 71 _ rfl w.heap.size rfl 71 cc (0, 0) _ G0.out Try.underlying71 rfl HS.out ?_
  quiet_step ((intro _; rfl))
  refine wpQuiet_load_mid rfl 75 _ rfl (w.heap.size + 1) 0 rfl #[.int .i64 xi, .int .i64 xk] _ (fun w' hw => rangeAt_row (G1.out w' hw) (fun j v hv => by
    match j, hv with
    | 0, hv => simpa using hv
    | 1, hv => simpa using hv
    | j + 2, hv => simp at hv)) Try.underlying75 rfl Try.size_place ?_
  quiet_step ((intro _; rfl))
  refine wpQuiet_value rfl (.int .i64 ev) (fun w' hw => by have hc := HEV.out w' hw; go_simp) ?_
  refine wpQuiet_call rfl 135 #[.int .i64 ev] (.int .i64 ov) (fun w _ => by go_simp) (fun w' hw => (HOP.out w').mono fun e w'' ⟨he, hb'⟩ => ⟨he, by rw [← hb']; exact hw⟩) ?_
  quiet_step ((intro _; rfl))
  refine wpQuiet_call rfl 70 #[.agg cc, .agg #[.int .i64 xi, .int .i64 xk, .int .i64 ov]] (.pointer (some ⟨g, 5 * qb, none⟩)) (fun w _ => by go_simp) (fun w' hw => (HSB.out w').mono fun e w'' ⟨he, hb'⟩ => ⟨he, hw.trans (hb'.mono hw.size)⟩) ?_
  quiet_step ((intro _; rfl))
  quiet_step ((intro _; rfl))
  refine wpQuiet_nil ?_
  intro w5 hw5
  have hg5 := GG.out w5 hw5
  have hz5 : 5 * c + 4 < (((cs0.setIfInBounds (5 * c) (.int .i64 xi)).setIfInBounds (5 * c + 1) (.int .i64 xk)).setIfInBounds (5 * c + 1 + 1) (.int .i64 dv)).size := by simp; exact H5.out
  obtain ⟨u4, hu4⟩ : ∃ u, (((cs0.setIfInBounds (5 * c) (.int .i64 xi)).setIfInBounds (5 * c + 1) (.int .i64 xk)).setIfInBounds (5 * c + 1 + 1) (.int .i64 dv))[5 * c + 4]? = some u := ⟨_, Array.getElem?_eq_getElem hz5⟩
  have c4 : w5.cell? ⟨g, 5 * c + 4, none⟩ = some u4 := by rw [cell_of_row _ _ _ _ _ _ hg5]; exact hu4
  have f4 : w5.frozen? ⟨g, 5 * c + 4, none⟩ = false := frozen_of_row _ _ _ _ _ hg5
  have r4 := heap_setCell_same _ _ (5 * c + 4) _ _ (.pointer (some ⟨g, 5 * qb, none⟩)) hg5
  have hb4 := But.setCell (g := g) w5 (5 * c + 4) (.pointer (some ⟨g, 5 * qb, none⟩))
  have I0 := hid ((hb4.block _ (lt_of_block (G0.out w5 hw5)) (by have := HGL.out; omega)).trans (G0.out w5 hw5))
  have I1 := hid ((hb4.block _ (lt_of_block (G1.out w5 hw5)) (by have := HGL.out; omega)).trans (G1.out w5 hw5))
  have I2 := hid ((hb4.block _ (lt_of_block (G2.out w5 hw5)) (by have := L2.out; omega)).trans (G2.out w5 hw5))
  have IG := hid r4
  have IB := hid ((EB.out.trans (But.of_below hw5)).trans hb4)
  clear hg5 hz5 hu4 r4 hb4 hw5 G0 G1 G2 GG HEV E0 E1 E2 EG EB
  gi_wp2_with (first
    | refine wpListIn_load_mid (Open.wide _) rfl 57 _ rfl w.heap.size 0 rfl gc _ (rangeAt_row I0.out HCP.out) Try.underlying57 rfl HG.out ?_
    | refine wpListIn_load_mid (Open.wide _) rfl 75 _ rfl b2 0 rfl #[.int .i64 yi, .int .i64 yk] _ (rangeAt_row I2.out (fun j v hv => by
        match j, hv with
        | 0, hv => simpa using hv
        | 1, hv => simpa using hv
        | j + 2, hv => simp at hv)) Try.underlying75 rfl Try.size_place ?_)
  refine ⟨trivial, callsIn_wide.2 ((HHO.out _).mono ?_)⟩
  rintro e w6 ⟨rfl, hb6⟩
  have J0 := hid ((hb6.block _ (lt_of_block I0.out)).trans I0.out)
  have J2 := hid ((hb6.block _ (lt_of_block I2.out)).trans I2.out)
  have JG := hid ((hb6.block _ (lt_of_block IG.out)).trans IG.out)
  have JB := hid (IB.out.trans (But.of_below hb6))
  clear hb6 I0 I1 I2 IG IB
  by_cases hin : inG n m ⟨yi, yk, yd⟩
  · rw [decide_eq_true hin]
    have HIN := hid hin
    clear hin
    gi_wp2_with (first
      | refine wpListIn_load_row (Open.wide _) rfl 71 _ rfl w.heap.size rfl 71 cc (0, 0) _ J0.out Try.underlying71 rfl HS.out ?_
      | refine wpListIn_load_row (Open.wide _) rfl 79 _ rfl b2 rfl 79 #[.int .i64 yi, .int .i64 yk, .int .i64 ev] (0, 0) _ J2.out Try.underlying79 rfl Try.size_way ?_)
    refine ⟨trivial, callsIn_wide.2 ((HSN.out _ HIN.out).mono ?_)⟩
    rintro e w7 ⟨rfl, hb7⟩
    have KG := (hb7.block _ (lt_of_block JG.out)).trans JG.out
    have KB := hid (JB.out.trans (But.of_below hb7))
    have hz7 : 5 * c + 3 < ((((cs0.setIfInBounds (5 * c) (.int .i64 xi)).setIfInBounds (5 * c + 1) (.int .i64 xk)).setIfInBounds (5 * c + 1 + 1) (.int .i64 dv)).setIfInBounds (5 * c + 4) (.pointer (some ⟨g, 5 * qb, none⟩))).size := by simp; have := H5.out; omega
    obtain ⟨u3, hu3⟩ : ∃ u, ((((cs0.setIfInBounds (5 * c) (.int .i64 xi)).setIfInBounds (5 * c + 1) (.int .i64 xk)).setIfInBounds (5 * c + 1 + 1) (.int .i64 dv)).setIfInBounds (5 * c + 4) (.pointer (some ⟨g, 5 * qb, none⟩)))[5 * c + 3]? = some u := ⟨_, Array.getElem?_eq_getElem hz7⟩
    have c3 : w7.cell? ⟨g, 5 * c + 3, none⟩ = some u3 := by rw [cell_of_row _ _ _ _ _ _ KG]; exact hu3
    have f3 : w7.frozen? ⟨g, 5 * c + 3, none⟩ = false := frozen_of_row _ _ _ _ _ KG
    have LG := hid (heap_setCell_same _ _ (5 * c + 3) _ _ (.pointer (some ⟨g, 5 * qn, none⟩)) KG)
    clear hb7 KG hz7 hu3
    gi_wp2
    refine ⟨rfl, .tuple #[], by simp [results, Try.results115, go_sem], rfl, KB.out.trans (But.setCell _ _ _), HM1.out _ HIN.out LG.out⟩
  · rw [decide_eq_false hin]
    have HIN := hid hin
    clear hin
    gi_wp2
    refine ⟨rfl, .tuple #[], by simp [results, Try.results115, go_sem], rfl, JB.out, HM0.out _ HIN.out JG.out⟩

end Go.Proofs.Ytmdgbcepjnfbnaa
