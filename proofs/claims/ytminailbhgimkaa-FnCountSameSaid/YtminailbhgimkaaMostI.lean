/- RoundMost of the program, by its contract. -/
import Derived.Test.YtminailbhgimkaaFullG
import Derived.Test.YtminailbhgimkaaBunF
import Derived.Test.YtminailbhgimkaaBunH
import Derived.Test.YtminailbhgimkaaRelIn
namespace Go.Proofs.Ytminailbhgimkaa
open Go.RowKit Go.Shelf
attribute [local go_sem] Oper.semAt_some

/-- How many rounds the full grid of a number has. -/
def cntF (n m x : Nat) : Nat := (leads n m (lett m (fullL (n * m) x))).length
theorem cntF_le {n m x : Nat} (h : n * m ≤ 9) : cntF n m x ≤ 36 := by
  have := leadsTo_le (n := n) (m := m) (t := lett m (fullL (n * m) x)) (4 * (n * m))
  rw [leadsTo_all] at this
  unfold cntF
  omega
/-- The most of those that have come. -/
def mostTo (n m : Nat) {M : Nat} (pre : List (Fin M)) : Nat := pre.foldl (fun s x => max s (cntF n m x.val)) 0
theorem mostTo_snoc (n m : Nat) {M : Nat} (pre : List (Fin M)) (x : Fin M) : mostTo n m (pre ++ [x]) = max (mostTo n m pre) (cntF n m x.val) := by simp [mostTo]
theorem mostTo_le {n m M : Nat} (h : n * m ≤ 9) (pre : List (Fin M)) : mostTo n m pre ≤ 36 := by
  unfold mostTo
  have key : ∀ (l : List (Fin M)) (s : Nat), s ≤ 36 → l.foldl (fun s x => max s (cntF n m x.val)) s ≤ 36 := by
    intro l
    induction l with
    | nil => exact fun s h => h
    | cons x l ih =>
      intro s hs
      exact ih _ (Nat.max_le.2 ⟨hs, cntF_le h⟩)
  exact key pre 0 (by omega)
/-- A size of so many cells at most. -/
def TriedIn (c : Nat) (a b : Int) (n m : Nat) : Prop := a = (n : Int) ∧ b = (m : Int) ∧ 1 ≤ n ∧ n ≤ 5 ∧ 1 ≤ m ∧ m ≤ 5 ∧ n * m ≤ c
/-- A size whose full grids are all tried. -/
abbrev MostIn (a b : Int) (n m : Nat) : Prop := TriedIn 9 a b n m
/-- What RoundMost comes to. -/
def MostOut (a b x : Int) (ok : Bool) : Prop :=
  (∃ n m, MostIn a b n m ∧ x = ((mostTo n m (List.finRange (2 ^ (n * m))) : Nat) : Int) ∧ ok = true) ∨ ((∀ n m, ¬ MostIn a b n m) ∧ x = 0 ∧ ok = false)
theorem MostOut.uniq {a b x x' : Int} {ok ok' : Bool} (h : MostOut a b x ok) (h' : MostOut a b x' ok') : x' = x ∧ ok' = ok := by
  rcases h with ⟨n, m, h1, rfl, rfl⟩ | ⟨h1, rfl, rfl⟩ <;> rcases h' with ⟨n', m', h1', rfl, rfl⟩ | ⟨h1', rfl, rfl⟩
  · obtain rfl : n = n' := by have := h1.1; have := h1'.1; omega
    obtain rfl : m = m' := by have := h1.2.1; have := h1'.2.1; omega
    exact ⟨rfl, rfl⟩
  · exact absurd h1 (h1' _ _)
  · exact absurd h1' (h1 _ _)
  · exact ⟨rfl, rfl⟩

set_option maxHeartbeats 1000000 in
theorem tried_any (c : Nat) (a b x : Int) (w : World) (hx : x = (c : Int)) :
    Calls Try.prog 44 #[.int .i64 a, .int .i64 b, .int .i64 x] w fun e w' => (∃ ok : Bool, e = .returned (.bool ok) ∧ ((ok = true ∧ ∃ n m, TriedIn c a b n m) ∨ (ok = false ∧ ∀ n m, ¬ TriedIn c a b n m))) ∧ w = w' := by
  have g1 := hid (sideIn_any a)
  have g2 := hid (sideIn_any b)
  go_enter Try.func44, Try.ntmps44
  go_wp2_with fail
  refine (g1.out _).mono ?_
  rintro e w' ⟨rfl, rfl⟩
  by_cases ha : 1 ≤ a ∧ a ≤ 5
  · rw [show decide (1 ≤ a ∧ a ≤ 5) = true by simpa using ha]
    have HA := hid ha
    clear ha
    go_wp2_with fail
    refine (g2.out _).mono ?_
    rintro e w' ⟨rfl, rfl⟩
    by_cases hb : 1 ≤ b ∧ b ≤ 5
    · rw [show decide (1 ≤ b ∧ b ≤ 5) = true by simpa using hb]
      obtain ⟨n, rfl⟩ : ∃ n : Nat, a = n := ⟨a.toNat, by have := HA.out.1; omega⟩
      obtain ⟨m, rfl⟩ : ∃ m : Nat, b = m := ⟨b.toNat, by omega⟩
      have HBb := hid hb
      obtain ⟨N, hN⟩ : ∃ N, n * m = N := ⟨_, rfl⟩
      have hNi : (n : Int) * (m : Int) = (N : Int) := by rw [← Int.natCast_mul, hN]
      have hn5 : n ≤ 5 := by have := HA.out.2; omega
      have hm5 : m ≤ 5 := by omega
      have hN25 : N ≤ 25 := by rw [← hN]; exact Nat.mul_le_mul hn5 hm5
      have HN := hid hN
      clear hb hN
      by_cases h9 : N ≤ c
      · have h9i : (N : Int) ≤ x := by omega
        have h9d : decide ((N : Int) ≤ x) = true := decide_eq_true h9i
        go_wp2_with fail
        go_ret
        exact ⟨⟨true, rfl, .inl ⟨rfl, n, m, rfl, rfl, by have := HA.out.1; omega, by have := HA.out.2; omega, by have := HBb.out.1; omega, by have := HBb.out.2; omega, by rw [HN.out]; exact h9⟩⟩, rfl⟩
      · have h9i : ¬ (N : Int) ≤ x := by omega
        have h9d : decide ((N : Int) ≤ x) = false := decide_eq_false h9i
        go_wp2_with fail
        go_ret
        refine ⟨⟨false, rfl, .inr ⟨rfl, fun n' m' h => h9 ?_⟩⟩, rfl⟩
        obtain ⟨h1, h2, _, _, _, _, h3⟩ := h
        obtain rfl : n = n' := by omega
        obtain rfl : m = m' := by omega
        rw [HN.out] at h3
        exact h3
    · rw [show decide (1 ≤ b ∧ b ≤ 5) = false by simpa using hb]
      have HBb := hid hb
      clear hb
      go_wp2_with fail
      go_ret
      exact ⟨⟨false, rfl, .inr ⟨rfl, fun n m h => HBb.out (by obtain ⟨_, h2, _, _, h3, h4, _⟩ := h; omega)⟩⟩, rfl⟩
  · rw [show decide (1 ≤ a ∧ a ≤ 5) = false by simpa using ha]
    have HA := hid ha
    clear ha
    go_wp2_with fail
    go_ret
    exact ⟨⟨false, rfl, .inr ⟨rfl, fun n m h => HA.out (by obtain ⟨h1, _, h3, h4, _⟩ := h; omega)⟩⟩, rfl⟩

theorem fullGrids_any (n m : Int) (w : World) :
    Calls Try.prog 50 #[.int .i64 n, .int .i64 m] w fun e w' => e = .returned (.func (.func 82) #[] #[.pointer (some ⟨w.heap.size, 0, none⟩), .pointer (some ⟨w.heap.size + 1, 0, none⟩)]) ∧ w' = (w.alloc (.cells #[.int .i64 n] 3)).alloc (.cells #[.int .i64 m] 3) := by
  go_enter Try.func50, Try.ntmps50
  go_wp2
  go_ret
  exact ⟨rfl, rfl⟩

/-- What the operations of a round hand back. -/
def mostRel (gc : Array Value) (n m N4 K mv : Nat) (t : Int → Int → UInt8) (i : Nat) (v : Value) (W : World) : Prop :=
  match i with
  | 0 => v = .int .i64 (mv : Int)
  | 1 => v = .agg gc
  | 2 => ∃ g, v = .agg (chartC gc g N4) ∧ StepsM W g n m t (fun _ => True) N4
  | 3 => ∃ A c, v = .slice A K c
  | 4 => v = .int .i64 (K : Int)
  | 5 => v = .int .i64 ((max mv K : Nat) : Int)
  | _ => True

set_option maxRecDepth 100000 in
set_option maxHeartbeats 8000000 in
theorem implRoundMost_any (a b : Int) (w : World) :
    Calls Try.prog 18 #[.int .i64 a, .int .i64 b] w fun e w' => Below w.heap.size w w' ∧ ∃ x ok, e = .returned (.tuple #[.int .i64 x, .bool ok]) ∧ MostOut a b x ok := by
  have HT := hid (fun w => tried_any 9 a b 9 w rfl)
  refine (callsIn_wide (n := 3)).1 ?_
  refine callsIn_of_wp_marks Try.func18 rfl trivial ?_ rfl
  simp only [Try.ntmps18, List.size_toArray, List.length_cons, List.length_nil, Nat.reduceAdd, Nat.reduceSub, Array.replicate_succ, Array.replicate_zero, List.push_toArray, List.append_toArray, List.nil_append, List.cons_append]
  gi_wp2_with fail
  refine ⟨trivial, callsIn_wide.2 ((HT.out _).mono ?_)⟩
  rintro e w' ⟨⟨ok, rfl, ⟨rfl, n, m, hin⟩ | ⟨rfl, hno⟩⟩, rfl⟩
  · obtain ⟨rfl, rfl, hn1, hn5, hm1, hm5, hN9⟩ := hin
    have HYES := hid (show MostIn n m n m from ⟨rfl, rfl, hn1, hn5, hm1, hm5, hN9⟩)
    obtain ⟨N, hN⟩ : ∃ N, n * m = N := ⟨_, rfl⟩
    obtain ⟨M, hM⟩ : ∃ M, 2 ^ N = M := ⟨_, rfl⟩
    have HNN := hid hN
    have HMM := hid hM
    have HLE := hid (fun pre : List (Fin M) => mostTo_le (n := n) (m := m) hN9 pre)
    have HCL := hid (fun x => cntF_le (n := n) (m := m) (x := x) hN9)
    have hN9' : N ≤ 9 := by rw [← hN]; exact hN9
    clear hN hM hN9
    gi_wp2_with fail
    refine ⟨trivial, callsIn_wide.2 ((fullGrids_any n m _).mono ?_)⟩
    rintro e w1 ⟨rfl, hw1⟩
    have KT := hid (show Boxed w1 w.heap.size 3 (.int .i64 ((0 : Nat) : Int)) by rw [hw1]; exact ((Boxed.new w 3 (.int .i64 0)).alloc _).alloc _)
    have K1 := hid (show Boxed w1 (w.heap.size + 1) 3 (.int .i64 (n : Int)) by
      rw [hw1]
      have h := (Boxed.new (w.alloc (.cells #[.int .i64 0] 3)) 3 (.int .i64 (n : Int))).alloc (.cells #[.int .i64 (m : Int)] 3)
      rwa [World.size_alloc] at h)
    have K2 := hid (show Boxed w1 (w.heap.size + 1 + 1) 3 (.int .i64 (m : Int)) by
      rw [hw1]
      have h := Boxed.new ((w.alloc (.cells #[.int .i64 0] 3)).alloc (.cells #[.int .i64 (n : Int)] 3)) 3 (.int .i64 (m : Int))
      rwa [World.size_alloc, World.size_alloc] at h)
    have KB := hid (show Below w.heap.size w w1 by rw [hw1]; exact (((Below.refl _ w).alloc (Nat.le_refl _) _).alloc (by simp) _).alloc (by simp; omega) _)
    have KS := hid (show w1.heap.size = w.heap.size + 3 by rw [hw1]; simp)
    have hsz1 : (w.alloc (.cells #[.int .i64 0] 3)).heap.size = w.heap.size + 1 := by simp
    try rw [hsz1]
    clear hw1 hsz1 HT
    gi_wp2
    refine wpIn_rangeFunc_ownH rfl (by omega) (gf := 82) (lb := #[.pointer (some ⟨w.heap.size + 1, 0, none⟩), .pointer (some ⟨w.heap.size + 1 + 1, 0, none⟩)]) rfl trivial (enters_of Try.func82 (by kernel_rfl) rfl)
      (full_stops 2 (w.heap.size + 1) (w.heap.size + 1 + 1) n m N M HNN.out.symm HMM.out.symm hn1 hn5 hm1 hm5 hN9' w1 K1.out K2.out) KeepsTwo.trans (keepsTwo_b K1.out.lt K2.out.lt) (Below.refl _ _) (fun _ => rfl)
      (fun pre W => Boxed W w.heap.size 3 (.int .i64 ((mostTo n m pre : Nat) : Int)) ∧ Below w.heap.size w1 W)
      (fun _ _ _ => False)
      (OwnFrom.and (Own.from (boxed_own _ _ (fun pre => .int .i64 ((mostTo n m pre : Nat) : Int))) _) (ownFrom_below KB.out.size KB.out.size))
      (fun _ _ _ _ _ hs _ _ => hs)
      ⟨KT.out, Below.refl _ _⟩
      (fun x a' W => ∃ Bx, w.heap.size + 3 ≤ Bx ∧ W.heap[Bx]? = some (.cells (gcells n m (fullL (n * m) x.val)) 57 (0, 0)) ∧ ∃ u0 u1 u2 u3 u4 u5 u8 u9 u10 u11 u12 u13 u14 u15 u16 u17 u18 u19 u20 u21 u22 : Value,
        a' = { tmps := #[u0, u1, u2, u3, u4, u5, .pointer (some ⟨w.heap.size, 0, none⟩), .pointer (some ⟨Bx, 0, none⟩), u8, u9, u10, u11, u12, u13, u14, u15, u16, u17, u18, u19, u20, u21, u22], defers := [] })
      (fun x a' _ X Y row hs hg hr => by
        obtain ⟨Bx, h1, h2, h3⟩ := hs
        exact ⟨Bx, h1, ownFrom_heap _ Bx (fun (_ : Unit) => Obj.cells (gcells n m (fullL (n * m) x.val)) 57 (0, 0)) (fun _ => rfl) () X Y row h2 hg hr, h3⟩)
      ?assign ?body ?done ?stop
    case assign =>
      rintro l pre x W Kk ⟨i0, i3⟩ hK
      have J0 := hid i0
      have J3 := hid i3
      have JK := hid hK
      clear i0 i3 hK
      unfold encsF
      have hsz : w.heap.size + 3 ≤ W.heap.size := by rw [← KS.out]; exact J3.out.size
      have HGE := hid (show (Try.prog.info? 57).map (·.size) = some (gcells n m (fullL (n * m) x.val)).size by rw [gcells_size (fullL_length _ _)]; exact Try.size_grid)
      have HGZ := hid (show zeroG.size = (gcells n m (fullL (n * m) x.val)).size by rw [gcells_size (fullL_length _ _)]; rfl)
      gi_wp2_with (first
        | refine wpListIn_store_row (Open.wide _) rfl 57 _ _ rfl W.heap.size (gcells n m (fullL (n * m) x.val)) rfl rfl 57 zeroG (heap_new0 W _) HGE.out HGZ.out (gcells_one _ _ _) ?_
        | refine wpListIn_store_row (Open.round _ l) rfl 57 _ _ rfl W.heap.size (gcells n m (fullL (n * m) x.val)) rfl rfl 57 zeroG (heap_new0 W _) HGE.out HGZ.out (gcells_one _ _ _) ?_)
      have HBW := below_setRow' ((Below.refl _ W).alloc (Nat.le_refl _) (.cells zeroG 57)) (Nat.le_refl _) (gcells n m (fullL (n * m) x.val))
      exact JK.out _ _ ((keeps_below HBW).from _) (KeepsTwo.below HBW (by omega) (by omega))
        ⟨(HBW.block _ J0.out.lt).trans J0.out, J3.out.trans (HBW.mono (by omega))⟩
        ⟨W.heap.size, hsz, setRow_heap _ _ _ _ _ _ (heap_new0 W _), _, _, _, _, _, _, _, _, _, _, _, _, _, _, _, _, _, _, _, _, _, rfl⟩
    case body =>
      rintro l pre x a' W hlw ⟨r, hr⟩ ⟨i0, i3⟩ ⟨Bx, hBx, hX, u0, u1, u2, u3, u4, u5, u8, u9, u10, u11, u12, u13, u14, u15, u16, u17, u18, u19, u20, u21, u22, rfl⟩ hlt
      have hms := mostTo_snoc n m pre x
      have hle := HLE.out pre
      have hck := HCL.out x.val
      obtain ⟨mv, hmv⟩ : ∃ mv, mostTo n m pre = mv := ⟨_, rfl⟩
      have hKd : (leads n m (lett m (fullL (n * m) x.val))).length = cntF n m x.val := rfl
      obtain ⟨K, hK⟩ : ∃ K, cntF n m x.val = K := ⟨_, rfl⟩
      rw [hmv] at i0 hle hms
      rw [hK] at hck hms hKd
      have J0 := hid i0
      have J3 := hid i3
      have JX := hid hX
      have HMS := hid hms
      have HZ := hid (show w.heap.size + 3 ≤ W.heap.size by rw [← KS.out]; exact i3.size)
      have HBX := hid hBx
      have hpl := fullL_length (n * m) x.val
      have HNC := hid (show ∀ w', Calls Try.prog 51 #[.agg (gcells n m (fullL (n * m) x.val))] w' fun e w'' => ∃ v, e = .returned v ∧ mostRel (gcells n m (fullL (n * m) x.val)) n m (4 * (n * m)) K mv (lett m (fullL (n * m) x.val)) 2 v w'' ∧ Below w'.heap.size w' w'' from fun w' => (newChart_any n m (4 * (n * m)) (n * m) (fullL (n * m) x.val) w' hpl hn5 hm1 hm5 rfl rfl).mono fun e w'' ⟨g, _, he, hst, hb⟩ => ⟨_, he, ⟨g, rfl, hst⟩, hb⟩)
      have HRS := hid (show ∀ g w', StepsM w' g n m (lett m (fullL (n * m) x.val)) (fun _ => True) (4 * (n * m)) → Calls Try.prog 52 #[.agg (chartC (gcells n m (fullL (n * m) x.val)) g (4 * (n * m)))] w' fun e w'' => ∃ v, e = .returned v ∧ mostRel (gcells n m (fullL (n * m) x.val)) n m (4 * (n * m)) K mv (lett m (fullL (n * m) x.val)) 3 v w'' ∧ Below w'.heap.size w' w'' from fun g w' hst => (rounds_any n m g (4 * (n * m)) (fullL (n * m) x.val) w' hpl hn5 hm5 rfl hst).mono fun e w'' ⟨v, he, hro, hb⟩ => ⟨v, he, (by obtain ⟨A1, cc, e⟩ := hro.sliceP; rw [leadsTo_all, hKd] at e; exact ⟨A1, cc, e⟩), hb⟩)
      have HGE := hid (show (Try.prog.info? 57).map (·.size) = some (gcells n m (fullL (n * m) x.val)).size by rw [gcells_size hpl]; exact Try.size_grid)
      have hmv36 : (mv : Int) ≤ 36 := by omega
      have hK36 : (K : Int) ≤ 36 := by omega
      have HBW := hid J0.out
      clear i0 i3 hX hms hmv hKd hK hr hlt hBx hpl
      generalize gcells n m (fullL (n * m) x.val) = gc at *
      generalize lett m (fullL (n * m) x.val) = t at *
      gi_wp2_with fail
      refine wpIn_region_rel_tail (by kernel_rfl) 6 (by kernel_rfl) (fun us => { tmps := #[u0, u1, u2, u3, u4, u5, .pointer (some ⟨w.heap.size, 0, none⟩), .pointer (some ⟨Bx, 0, none⟩), u8, u9, u10, u11, u12, u13, u14, u15, us 0, us 1, us 2, us 3, us 4, us 5, u22], defers := [] }) (fun j => ([u16, u17, u18, u19, u20, u21] : List Value).getD j undef) rfl (mostRel gc n m (4 * (n * m)) K mv t) (fun i v W W' h hb => ?_) (fun i us v hi => ?_) (fun i us W2 hi hb hd => ?_) (fun us W2 hb hr => ?_)
      · unfold mostRel at h ⊢
        split at h <;> try exact h
        obtain ⟨g, h1, h2⟩ := h
        exact ⟨g, h1, h2.below hb⟩
      · match i, hi with
        | 0, _ => rfl
        | 1, _ => rfl
        | 2, _ => rfl
        | 3, _ => rfl
        | 4, _ => rfl
        | 5, _ => rfl
      · have hcell := (show Boxed W2 w.heap.size 3 (.int .i64 (mv : Int)) from (hb.block _ J0.out.lt).trans J0.out).cell
        have HXW := hid ((hb.block _ (lt_of_block JX.out)).trans JX.out)
        match i, hi with
        | 0, _ => exact wpOpIn_relval (Open.round _ l) rfl rfl (by intro c e; cases e) (by go_simp) rfl (Below.refl _ _)
        | 1, _ => exact wpOpIn_relval (Open.round _ l) rfl rfl (by intro c e; cases e) (exec_load_row 57 _ rfl Bx rfl 57 gc (0, 0) _ HXW.out Try.underlying57 rfl HGE.out) rfl (Below.refl _ _)
        | 2, _ =>
          have h0 : us 1 = _ := hd _ rfl { on := 1, ground := .data } (by simp) rfl
          rw [h0]
          exact wpOpIn_relcall (Open.round _ l) rfl rfl (by intro c e; cases e) (by go_simp) (HNC.out W2)
        | 3, _ =>
          obtain ⟨g, h0, hst⟩ : ∃ g, us 2 = .agg (chartC gc g (4 * (n * m))) ∧ StepsM W2 g n m t (fun _ => True) (4 * (n * m)) := hd _ rfl { on := 2, ground := .data } (by simp) rfl
          rw [h0]
          exact wpOpIn_relcall (Open.round _ l) rfl rfl (by intro c e; cases e) (by go_simp) (HRS.out g W2 hst)
        | 4, _ =>
          obtain ⟨A1, cc, h0⟩ : ∃ A1 cc, us 3 = .slice A1 K cc := hd _ rfl { on := 3, ground := .data } (by simp) rfl
          rw [h0]
          exact wpOpIn_relval (Open.round _ l) rfl rfl (by intro c e; cases e) (by go_simp) rfl (Below.refl _ _)
        | 5, _ =>
          have h0 : us 0 = _ := hd _ rfl { on := 0, ground := .data } (by simp) rfl
          have h1 : us 4 = _ := hd _ rfl { on := 4, ground := .data } (by simp) rfl
          rw [h0, h1]
          exact wpOpIn_relval (u := .int .i64 ((max mv K : Nat) : Int)) (Open.round _ l) rfl rfl (by intro c e; cases e) (by go_simp; split <;> omega) rfl (Below.refl _ _)
      · have h5 : us 5 = _ := hr 5 (by omega)
        rw [h5]
        have hbx := show Boxed W2 w.heap.size 3 (.int .i64 (mv : Int)) from (hb.block _ J0.out.lt).trans J0.out
        have HB2 := hid hb
        have HX2 := hid hbx
        have hcell := hbx.cell
        have hfr := hbx.frozen
        clear hr hb hbx
        gi_wp2
        have hz := HZ.out
        refine ⟨((keeps_below HB2.out).trans (KeepsOthers.setCell _ _ _)).from _, (KeepsTwo.below HB2.out (by omega) (by omega)).trans ⟨by simp, Below.heap_setCell _ _ _ _ (by show w.heap.size + 1 ≠ w.heap.size; omega), Below.heap_setCell _ _ _ _ (by show w.heap.size + 1 + 1 ≠ w.heap.size; omega)⟩, ?_, ?_⟩
        · show Boxed (W2.setCell ⟨w.heap.size, 0, none⟩ _) w.heap.size 3 (.int .i64 ((mostTo n m (pre ++ [x]) : Nat) : Int))
          rw [HMS.out]
          exact HX2.out.set _
        · exact (J3.out.trans (HB2.out.mono (by omega))).setCell (p := ⟨w.heap.size, 0, none⟩) (Nat.le_refl _) _
    case done =>
      rintro D xs W hD rfl ⟨i0, i3⟩ hK
      have hcell := i0.cell
      have J3 := hid i3
      have JK := hid hK
      clear i0 i3 hK
      gi_wp2
      refine ⟨by simp, .inl ⟨_, _, rfl, run_takeDeferred JK.out, ?_⟩⟩
      refine ⟨_, results_tmp2 rfl _ _ _, ?_, _, true, rfl, .inl ⟨n, m, HYES.out, ?_, rfl⟩⟩
      · exact (KB.out.trans J3.out).trans (belowK_b (w := w) (Nat.le_refl _) _ D _ _ (by have := KS.out; omega) JK.out rfl rfl)
      · rw [HNN.out, HMM.out]
    case stop =>
      rintro D c pre W _ _ h _
      exact h.elim
  · have HNo := hid hno
    clear hno
    gi_wp2_with fail
    refine ⟨_, results_tmp2 rfl _ _ _, ?_, 0, false, rfl, .inr ⟨HNo.out, rfl, rfl⟩⟩
    exact Below.refl _ _
end Go.Proofs.Ytminailbhgimkaa
