/- Settled texts in one file. Each begins with what it holds. -/
import Derived.Test.YtongjijkdjagdaaDoorBunC
import Derived.Test.YtongjijkdjagdaaDoorBunB
import Derived.Test.YtongjijkdjagdaaDoorBunA
import Derived.Deep.MidRow
import Derived.Test.YtongjijkdjagdaaDoorBunD
/- The program's single steps of a beam, each by its contract: behind, next, holds, ports, hasPort, entry, exit, onward. -/
namespace Go.Proofs.YtongjijkdjagdaaDoor
open Go.RowKit

set_option maxRecDepth 100000 in
set_option maxHeartbeats 1000000 in
theorem behind_any (b : UInt8) (d : Nat) (hd : d < 4) (w : World) :
    Calls Tryd.prog 130 #[.int .i64 d, .int .u8 b.toNat] w fun e w' => e = .returned (.int .i64 ((bend b d : Nat) : Int)) ∧ w = w' := by
  by_cases h1 : b = 114
  · subst h1
    rcases four hd with rfl | rfl | rfl | rfl
    · have hx : ∀ W, (Instr.index 217 (.agg #[.int .i64 1, .int .i64 0, .int .i64 3, .int .i64 2]) (.int .i64 0)).run Tryd.prog W = .ok (.int .i64 1) W := fun W => by kernel_rfl
      change Calls Tryd.prog 130 #[.int .i64 0, .int .u8 114] w fun e w' => e = .returned (.int .i64 1) ∧ w = w'
      go_enter Tryd.func130, Tryd.ntmps130
      go_wp2
      go_ret
      exact ⟨rfl, rfl⟩
    · have hx : ∀ W, (Instr.index 217 (.agg #[.int .i64 1, .int .i64 0, .int .i64 3, .int .i64 2]) (.int .i64 1)).run Tryd.prog W = .ok (.int .i64 0) W := fun W => by kernel_rfl
      change Calls Tryd.prog 130 #[.int .i64 1, .int .u8 114] w fun e w' => e = .returned (.int .i64 0) ∧ w = w'
      go_enter Tryd.func130, Tryd.ntmps130
      go_wp2
      go_ret
      exact ⟨rfl, rfl⟩
    · have hx : ∀ W, (Instr.index 217 (.agg #[.int .i64 1, .int .i64 0, .int .i64 3, .int .i64 2]) (.int .i64 2)).run Tryd.prog W = .ok (.int .i64 3) W := fun W => by kernel_rfl
      change Calls Tryd.prog 130 #[.int .i64 2, .int .u8 114] w fun e w' => e = .returned (.int .i64 3) ∧ w = w'
      go_enter Tryd.func130, Tryd.ntmps130
      go_wp2
      go_ret
      exact ⟨rfl, rfl⟩
    · have hx : ∀ W, (Instr.index 217 (.agg #[.int .i64 1, .int .i64 0, .int .i64 3, .int .i64 2]) (.int .i64 3)).run Tryd.prog W = .ok (.int .i64 2) W := fun W => by kernel_rfl
      change Calls Tryd.prog 130 #[.int .i64 3, .int .u8 114] w fun e w' => e = .returned (.int .i64 2) ∧ w = w'
      go_enter Tryd.func130, Tryd.ntmps130
      go_wp2
      go_ret
      exact ⟨rfl, rfl⟩
  by_cases h2 : b = 102
  · subst h2
    rcases four hd with rfl | rfl | rfl | rfl
    · have hx : ∀ W, (Instr.index 217 (.agg #[.int .i64 3, .int .i64 2, .int .i64 1, .int .i64 0]) (.int .i64 0)).run Tryd.prog W = .ok (.int .i64 3) W := fun W => by kernel_rfl
      change Calls Tryd.prog 130 #[.int .i64 0, .int .u8 102] w fun e w' => e = .returned (.int .i64 3) ∧ w = w'
      go_enter Tryd.func130, Tryd.ntmps130
      go_wp2
      go_ret
      exact ⟨rfl, rfl⟩
    · have hx : ∀ W, (Instr.index 217 (.agg #[.int .i64 3, .int .i64 2, .int .i64 1, .int .i64 0]) (.int .i64 1)).run Tryd.prog W = .ok (.int .i64 2) W := fun W => by kernel_rfl
      change Calls Tryd.prog 130 #[.int .i64 1, .int .u8 102] w fun e w' => e = .returned (.int .i64 2) ∧ w = w'
      go_enter Tryd.func130, Tryd.ntmps130
      go_wp2
      go_ret
      exact ⟨rfl, rfl⟩
    · have hx : ∀ W, (Instr.index 217 (.agg #[.int .i64 3, .int .i64 2, .int .i64 1, .int .i64 0]) (.int .i64 2)).run Tryd.prog W = .ok (.int .i64 1) W := fun W => by kernel_rfl
      change Calls Tryd.prog 130 #[.int .i64 2, .int .u8 102] w fun e w' => e = .returned (.int .i64 1) ∧ w = w'
      go_enter Tryd.func130, Tryd.ntmps130
      go_wp2
      go_ret
      exact ⟨rfl, rfl⟩
    · have hx : ∀ W, (Instr.index 217 (.agg #[.int .i64 3, .int .i64 2, .int .i64 1, .int .i64 0]) (.int .i64 3)).run Tryd.prog W = .ok (.int .i64 0) W := fun W => by kernel_rfl
      change Calls Tryd.prog 130 #[.int .i64 3, .int .u8 102] w fun e w' => e = .returned (.int .i64 0) ∧ w = w'
      go_enter Tryd.func130, Tryd.ntmps130
      go_wp2
      go_ret
      exact ⟨rfl, rfl⟩
  rw [bend_e h1 h2]
  have e1 : ((b.toNat : Int) == 114) = false := by
    rw [beq_eq_false_iff_ne]; intro e; exact h1 (UInt8.toNat_inj.1 (by show b.toNat = 114; omega))
  have e2 : ((b.toNat : Int) == 102) = false := by
    rw [beq_eq_false_iff_ne]; intro e; exact h2 (UInt8.toNat_inj.1 (by show b.toNat = 102; omega))
  clear h1 h2
  generalize (b.toNat : Int) = x at e1 e2
  go_enter Tryd.func130, Tryd.ntmps130
  go_wp2
  go_ret
  exact ⟨rfl, rfl⟩

set_option maxRecDepth 100000 in
set_option maxHeartbeats 1000000 in
theorem next_any (i k : Int) (d : Nat) (hd : d < 4) (hi : -100 ≤ i ∧ i ≤ 100) (hk : -100 ≤ k ∧ k ≤ 100) (w : World) :
    Calls Tryd.prog 131 #[.agg #[.int .i64 i, .int .i64 k], .int .i64 d] w fun e w' => e = .returned (.agg #[.int .i64 (stepI i d), .int .i64 (stepK k d)]) ∧ Below w.heap.size w w' := by
  obtain ⟨i1, i2⟩ := hi
  obtain ⟨k1, k2⟩ := hk
  rcases four hd with rfl | rfl | rfl | rfl
  · change Calls Tryd.prog 131 #[.agg #[.int .i64 i, .int .i64 k], .int .i64 0] w fun e w' => e = .returned (.agg #[.int .i64 (i - 1), .int .i64 (k)]) ∧ Below w.heap.size w w'
    go_enter Tryd.func131, Tryd.ntmps131
    go_wp2
    exact bodyPost_ret (v := .agg #[.int .i64 (i - 1), .int .i64 (k)]) (by simp [results, Tryd.results131, go_sem]) rfl ⟨rfl, ((Below.refl _ w).alloc (Nat.le_refl _) _).alloc (by simp) _⟩
  · change Calls Tryd.prog 131 #[.agg #[.int .i64 i, .int .i64 k], .int .i64 1] w fun e w' => e = .returned (.agg #[.int .i64 (i), .int .i64 (k + 1)]) ∧ Below w.heap.size w w'
    go_enter Tryd.func131, Tryd.ntmps131
    go_wp2
    exact bodyPost_ret (v := .agg #[.int .i64 (i), .int .i64 (k + 1)]) (by simp [results, Tryd.results131, go_sem]) rfl ⟨rfl, ((Below.refl _ w).alloc (Nat.le_refl _) _).alloc (by simp) _⟩
  · change Calls Tryd.prog 131 #[.agg #[.int .i64 i, .int .i64 k], .int .i64 2] w fun e w' => e = .returned (.agg #[.int .i64 (i + 1), .int .i64 (k)]) ∧ Below w.heap.size w w'
    go_enter Tryd.func131, Tryd.ntmps131
    go_wp2
    exact bodyPost_ret (v := .agg #[.int .i64 (i + 1), .int .i64 (k)]) (by simp [results, Tryd.results131, go_sem]) rfl ⟨rfl, ((Below.refl _ w).alloc (Nat.le_refl _) _).alloc (by simp) _⟩
  · change Calls Tryd.prog 131 #[.agg #[.int .i64 i, .int .i64 k], .int .i64 3] w fun e w' => e = .returned (.agg #[.int .i64 (i), .int .i64 (k - 1)]) ∧ Below w.heap.size w w'
    go_enter Tryd.func131, Tryd.ntmps131
    go_wp2
    exact bodyPost_ret (v := .agg #[.int .i64 (i), .int .i64 (k - 1)]) (by simp [results, Tryd.results131, go_sem]) rfl ⟨rfl, ((Below.refl _ w).alloc (Nat.le_refl _) _).alloc (by simp) _⟩

set_option maxRecDepth 100000 in
set_option maxHeartbeats 1000000 in
theorem holds_any (n m : Nat) (ls : List UInt8) (x : Wy) (w : World) :
    Calls Tryd.prog 90 #[.agg (gcells n m ls), .agg #[.int .i64 x.i, .int .i64 x.k]] w fun e w' => e = .returned (.bool (decide (inG n m x))) ∧ Below w.heap.size w w' := by
  have h0 := gcells_0 n m ls
  have h1 := gcells_1 n m ls
  have hB : Below w.heap.size w ((w.alloc (.cells (gcells n m ls) 39)).alloc (.cells #[.int .i64 x.i, .int .i64 x.k] 97)) := ((Below.refl _ w).alloc (Nat.le_refl _) _).alloc (by simp) _
  have HB := hid hB
  clear hB
  generalize gcells n m ls = cs at h0 h1 HB
  unfold inG
  obtain ⟨i, k, d⟩ := x
  simp only at *
  by_cases a1 : 0 ≤ i
  · by_cases a2 : i < n
    · by_cases a3 : 0 ≤ k
      · by_cases a4 : k < m
        · rw [decide_eq_true (show 0 ≤ i ∧ i < (n : Int) ∧ 0 ≤ k ∧ k < (m : Int) from ⟨a1, a2, a3, a4⟩)]
          go_enter Tryd.func90, Tryd.ntmps90
          go_wp2
          go_ret
          exact ⟨rfl, HB.out⟩
        · rw [decide_eq_false (show ¬ (0 ≤ i ∧ i < (n : Int) ∧ 0 ≤ k ∧ k < (m : Int)) from fun h => a4 h.2.2.2)]
          go_enter Tryd.func90, Tryd.ntmps90
          go_wp2
          go_ret
          exact ⟨rfl, HB.out⟩
      · rw [decide_eq_false (show ¬ (0 ≤ i ∧ i < (n : Int) ∧ 0 ≤ k ∧ k < (m : Int)) from fun h => a3 h.2.2.1)]
        go_enter Tryd.func90, Tryd.ntmps90
        go_wp2
        go_ret
        exact ⟨rfl, HB.out⟩
    · rw [decide_eq_false (show ¬ (0 ≤ i ∧ i < (n : Int) ∧ 0 ≤ k ∧ k < (m : Int)) from fun h => a2 h.2.1)]
      go_enter Tryd.func90, Tryd.ntmps90
      go_wp2
      go_ret
      exact ⟨rfl, HB.out⟩
  · rw [decide_eq_false (show ¬ (0 ≤ i ∧ i < (n : Int) ∧ 0 ≤ k ∧ k < (m : Int)) from fun h => a1 h.1)]
    go_enter Tryd.func90, Tryd.ntmps90
    go_wp2
    go_ret
    exact ⟨rfl, HB.out⟩

set_option maxHeartbeats 400000 in
theorem ports_any (n m : Nat) (ls : List UInt8) (w : World) (hn : n ≤ 5) (hm : m ≤ 5) :
    Calls Tryd.prog 102 #[.agg (gcells n m ls)] w fun e w' => e = .returned (.int .i64 ((2 * (n + m) : Nat) : Int)) ∧ Below w.heap.size w w' := by
  have h0 := gcells_0 n m ls
  have h1 := gcells_1 n m ls
  generalize gcells n m ls = cs at h0 h1
  have hi : ((2 * (n + m) : Nat) : Int) = 2 * ((n : Int) + (m : Int)) := by omega
  rw [hi]
  clear hi
  go_enter Tryd.func102, Tryd.ntmps102
  go_wp2
  go_ret
  exact ⟨rfl, (Below.refl _ w).alloc (Nat.le_refl _) _⟩

/-- A way as a value. -/
def wayV (x : Wy) : Value := .agg #[.int .i64 x.i, .int .i64 x.k, .int .i64 ((x.d : Nat) : Int)]

end Go.Proofs.YtongjijkdjagdaaDoor

/- The way behind a way, by its contract. -/
namespace Go.Proofs.YtongjijkdjagdaaDoor
open Go.RowKit

theorem Tryd.size_way : (Tryd.prog.info? 105).map (·.size) = some 3 := by kernel_rfl
theorem Tryd.size_place : (Tryd.prog.info? 97).map (·.size) = some 2 := by kernel_rfl
/-- The cells of a way. -/
def wayC (x : Wy) : Array Value := #[.int .i64 x.i, .int .i64 x.k, .int .i64 ((x.d : Nat) : Int)]
theorem wayC_one (x : Wy) : (wayC x).all (·.oneCell') = true := by
  rw [Array.all_eq_true_iff_forall_mem]
  intro u hu
  simp [wayC] at hu
  rcases hu with rfl | rfl | rfl <;> rfl
theorem wayV_eq (x : Wy) : wayV x = .agg (wayC x) := rfl
theorem inG_cell {n m : Nat} {ls : List UInt8} {x : Wy} (hl : ls.length = 25) (hn : n ≤ 5) (hm : m ≤ 5) (hx : inG n m x) :
    ∃ p : Nat, p < 25 ∧ x.i * (m : Int) + x.k = (p : Int) ∧ ls[p]? = some (lett m ls x.i x.k) := by
  have h1 := cellN_int hx
  have h2 := cellN_lt hx
  have h3 : n * m ≤ 5 * 5 := Nat.mul_le_mul hn hm
  refine ⟨cellN m x, by omega, h1, ?_⟩
  unfold lett
  rw [h1, Int.toNat_natCast, List.getD_eq_getElem?_getD, List.getElem?_eq_getElem (by omega)]
  rfl

/-- The way behind a cell with a letter. -/
def nxtB (b : UInt8) (x : Wy) : Wy := ⟨stepI x.i (bend b x.d), stepK x.k (bend b x.d), bend b x.d⟩
theorem nxtB_nxt (t : Int → Int → UInt8) (x : Wy) : nxtB (t x.i x.k) x = nxt t x := rfl

set_option maxRecDepth 100000 in
set_option maxHeartbeats 1000000 in
theorem wayOn_any (b : UInt8) (x : Wy) (w : World) (hd : x.d < 4) (h1 : -90 ≤ x.i ∧ x.i ≤ 90) (h2 : -90 ≤ x.k ∧ x.k ≤ 90) :
    Calls Tryd.prog 115 #[wayV x, .int .u8 b.toNat] w fun e w' => e = .returned (wayV (nxtB b x)) ∧ Below w.heap.size w w' := by
  have hbd := bend_lt b hd
  have HBE := hid (fun w' => behind_any b x.d hd w')
  have HNX := hid (fun w' => next_any x.i x.k (bend b x.d) hbd ⟨by omega, by omega⟩ ⟨by omega, by omega⟩ w')
  unfold nxtB
  rw [wayV_eq, wayV_eq]
  unfold wayC
  simp only
  generalize bend b x.d = d' at HBE HNX hbd ⊢
  generalize hdd : ((x.d : Nat) : Int) = dv at HBE ⊢
  generalize x.i = i at *
  generalize x.k = k at *
  generalize ((b.toNat : Nat) : Int) = bv at *
  clear hbd h1 h2 hd hdd
  go_enter Tryd.func115, Tryd.ntmps115
  go_wp2_with fail
  have F0 := heap_new1 w (.cells #[.int .i64 i, .int .i64 k, .int .i64 dv] 105) (.cells #[.int .i64 0, .int .i64 0, .int .i64 0] 105)
  have F1 := heap_new0 (w.alloc (.cells #[.int .i64 i, .int .i64 k, .int .i64 dv] 105)) (.cells #[.int .i64 0, .int .i64 0, .int .i64 0] 105)
  have FB : Below w.heap.size w ((w.alloc (.cells #[.int .i64 i, .int .i64 k, .int .i64 dv] 105)).alloc (.cells #[.int .i64 0, .int .i64 0, .int .i64 0] 105)) := ((Below.refl _ w).alloc (Nat.le_refl _) _).alloc (by simp) _
  simp only [World.size_alloc] at F0 F1
  generalize World.alloc (World.alloc w _) _ = W at F0 F1 FB ⊢
  refine (HBE.out _).mono ?_
  rintro e w2 ⟨rfl, rfl⟩
  have c0 : W.cell? ⟨w.heap.size, 0, none⟩ = some (.int .i64 i) := by rw [cell_of_row _ _ _ _ _ _ F0]; rfl
  have c1 : W.cell? ⟨w.heap.size, 1, none⟩ = some (.int .i64 k) := by rw [cell_of_row _ _ _ _ _ _ F0]; rfl
  go_wp2_with fail
  refine (HNX.out _).mono ?_
  rintro e w3 ⟨rfl, hb3⟩
  have g3 := (hb3.block _ (lt_of_block F1)).trans F1
  have HB3 := hid (FB.trans (hb3.mono FB.size))
  clear hb3 F0 F1 FB c0 c1
  have k0 : w3.cell? ⟨w.heap.size + 1, 0, none⟩ = some (.int .i64 0) := by rw [cell_of_row _ _ _ _ _ _ g3]; rfl
  have k1 : w3.cell? ⟨w.heap.size + 1, 1, none⟩ = some (.int .i64 0) := by rw [cell_of_row _ _ _ _ _ _ g3]; rfl
  have k2 : w3.cell? ⟨w.heap.size + 1, 2, none⟩ = some (.int .i64 0) := by rw [cell_of_row _ _ _ _ _ _ g3]; rfl
  have f0 : w3.frozen? ⟨w.heap.size + 1, 0, none⟩ = false := frozen_of_row _ _ _ _ _ g3
  have f1 : w3.frozen? ⟨w.heap.size + 1, 1, none⟩ = false := frozen_of_row _ _ _ _ _ g3
  have f2 : w3.frozen? ⟨w.heap.size + 1, 2, none⟩ = false := frozen_of_row _ _ _ _ _ g3
  go_wp2_with fail
  have r0 := heap_setCell_same _ _ 0 _ _ (.int .i64 (stepI i d')) g3
  have r1 := heap_setCell_same _ _ 1 _ _ (.int .i64 (stepK k d')) r0
  have r2 := heap_setCell_same _ _ 2 _ _ (.int .i64 ((d' : Nat) : Int)) r1
  refine bodyPost_ret (results_cell_row Tryd.results115 _ _ (w.heap.size + 1) 105 #[.int .i64 (stepI i d'), .int .i64 (stepK k d'), .int .i64 ((d' : Nat) : Int)] (0, 0) _ (by rfl) r2 Tryd.underlying105 rfl Tryd.size_way) rfl ⟨rfl, ?_⟩
  exact ((HB3.out.setCell (p := ⟨w.heap.size + 1, 0, none⟩) (by simp) _).setCell (p := ⟨w.heap.size + 1, 1, none⟩) (by simp) _).setCell (p := ⟨w.heap.size + 1, 2, none⟩) (by simp) _

def onRel (g : Nat) (cs : Array Value) (x y : Wy) (b : UInt8) (i : Nat) (v : Value) (_ : World) : Prop :=
  match i with
  | 0 => v = .agg (wayC x)
  | 1 => v = .agg cs
  | 2 => v = .pointer (some ⟨g, 0, none⟩)
  | 3 => v = .agg #[.int .i64 x.i, .int .i64 x.k]
  | 4 => v = .int .u8 b.toNat
  | 5 => v = .agg (wayC y)
  | _ => True

set_option maxRecDepth 100000 in
set_option maxHeartbeats 2000000 in
theorem onward_any (n m : Nat) (ls : List UInt8) (x : Wy) (w : World) (hl : ls.length = 25) (hn : n ≤ 5) (hm : m ≤ 5) (hx : inG n m x) (hd : x.d < 4) :
    Calls Tryd.prog 88 #[.agg (gcells n m ls), wayV x] w fun e w' => e = .returned (wayV (nxt (lett m ls) x)) ∧ Below w.heap.size w w' := by
  obtain ⟨p, hp, he, hb⟩ := inG_cell hl hn hm hx
  have hx1 := hx
  obtain ⟨x1, x2, x3, x4⟩ := hx1
  obtain ⟨y, hy⟩ : ∃ y, nxt (lett m ls) x = y := ⟨_, rfl⟩
  have HAT := hid (show ∀ w', Calls Tryd.prog 116 #[.agg (gcells n m ls), .agg #[.int .i64 x.i, .int .i64 x.k]] w' fun e w'' => ∃ v, e = .returned v ∧ onRel (w.heap.size + 1) (gcells n m ls) x y (lett m ls x.i x.k) 4 v w'' ∧ Below w'.heap.size w' w'' from fun w' => (at_any n m ls x.i x.k p (lett m ls x.i x.k) w' hl hp he ⟨x1, by omega⟩ hm hb).mono fun e w'' ⟨h1, h2⟩ => ⟨_, h1, rfl, h2⟩)
  have HON := hid (show ∀ w', Calls Tryd.prog 115 #[.agg (wayC x), .int .u8 (lett m ls x.i x.k).toNat] w' fun e w'' => ∃ v, e = .returned v ∧ onRel (w.heap.size + 1) (gcells n m ls) x y (lett m ls x.i x.k) 5 v w'' ∧ Below w'.heap.size w' w'' from fun w' => (wayOn_any (lett m ls x.i x.k) x w' hd ⟨by omega, by omega⟩ ⟨by omega, by omega⟩).mono fun e w'' ⟨h1, h2⟩ => ⟨_, h1, by rw [nxtB_nxt, hy]; rfl, h2⟩)
  have HG := hid (show (Tryd.prog.info? 39).map (·.size) = some (gcells n m ls).size by rw [gcells_size hl]; exact Tryd.size_grid)
  rw [hy, wayV_eq, wayV_eq]
  generalize lett m ls x.i x.k = b at HAT HON
  generalize hgc : gcells n m ls = cs at *
  clear hb he hp x1 x2 x3 x4 hd hgc hl hy hx
  go_enter Tryd.func88, Tryd.ntmps88
  go_wp2_with fail
  have F0 := heap_new2 w (.cells cs 39) (.cells (wayC x) 105) (.cells #[.int .i64 0, .int .i64 0, .int .i64 0] 105)
  have F1 := heap_new1 (w.alloc (.cells cs 39)) (.cells (wayC x) 105) (.cells #[.int .i64 0, .int .i64 0, .int .i64 0] 105)
  have F2 := heap_new0 ((w.alloc (.cells cs 39)).alloc (.cells (wayC x) 105)) (.cells #[.int .i64 0, .int .i64 0, .int .i64 0] 105)
  have FB : Below w.heap.size w (((w.alloc (.cells cs 39)).alloc (.cells (wayC x) 105)).alloc (.cells #[.int .i64 0, .int .i64 0, .int .i64 0] 105)) := (((Below.refl _ w).alloc (Nat.le_refl _) _).alloc (by simp) _).alloc (by simp; omega) _
  simp only [World.size_alloc] at F1 F2
  have G0 := hid F0
  have G1 := hid F1
  have G2 := hid F2
  have GB := hid FB
  clear F0 F1 F2 FB
  generalize World.alloc (World.alloc (World.alloc w _) _) _ = W0 at *
  refine wp_region_rel_tail (by kernel_rfl) 6 (by kernel_rfl) (fun us => { tmps := #[.agg cs, .agg (wayC x), .pointer (some ⟨w.heap.size, 0, none⟩), .pointer (some ⟨w.heap.size + 1, 0, none⟩), .pointer (some ⟨w.heap.size + 1 + 1, 0, none⟩), us 0, us 1, us 2, us 3, us 4, us 5], defers := [] }) (fun _ => undef) rfl (onRel (w.heap.size + 1) cs x y b) (fun i v W W' h hb => h) (fun i us v hi => ?_) (fun i us W hi hb hd => ?_) (fun us W hb hr => ?_)
  · match i, hi with
    | 0, _ => rfl
    | 1, _ => rfl
    | 2, _ => rfl
    | 3, _ => rfl
    | 4, _ => rfl
    | 5, _ => rfl
  · have L0 := hid ((hb.block _ (lt_of_block G0.out)).trans G0.out)
    have L1 := hid ((hb.block _ (lt_of_block G1.out)).trans G1.out)
    match i, hi with
    | 0, _ => exact wpOp_val rfl rfl (exec_load_row 105 _ rfl (w.heap.size + 1) rfl 105 (wayC x) (0, 0) _ L1.out Tryd.underlying105 rfl Tryd.size_way) rfl
    | 1, _ => exact wpOp_val rfl rfl (exec_load_row 39 _ rfl w.heap.size rfl 39 cs (0, 0) _ L0.out Tryd.underlying39 rfl HG.out) rfl
    | 2, _ => exact wpOp_val rfl rfl (by go_simp) rfl
    | 3, _ =>
      have h0 : us 2 = _ := hd _ rfl { on := 2, ground := .data } (by simp) rfl
      rw [h0]
      have hc : W.cell? ⟨w.heap.size + 1, 0, none⟩ = some (.int .i64 x.i) := by rw [cell_of_row _ _ _ _ _ _ L1.out]; rfl
      have hc1 : W.cell? ⟨w.heap.size + 1, 1, none⟩ = some (.int .i64 x.k) := by rw [cell_of_row _ _ _ _ _ _ L1.out]; rfl
      exact wpOp_val (u := .agg #[.int .i64 x.i, .int .i64 x.k]) rfl rfl (by go_simp) rfl
    | 4, _ =>
      have h0 : us 1 = _ := hd _ rfl { on := 1, ground := .data } (by simp) rfl
      have h1 : us 3 = _ := hd _ rfl { on := 3, ground := .data } (by simp) rfl
      rw [h0, h1]
      exact wpOp_call rfl rfl (by go_simp) (HAT.out W)
    | 5, _ =>
      have h0 : us 0 = _ := hd _ rfl { on := 0, ground := .data } (by simp) rfl
      have h1 : us 4 = _ := hd _ rfl { on := 4, ground := .data } (by simp) rfl
      rw [h0, h1]
      exact wpOp_call rfl rfl (by go_simp) (HON.out W)
  · have h5 : us 5 = .agg (wayC y) := hr 5 (by omega)
    rw [h5]
    have L2 := hid ((hb.block _ (lt_of_block G2.out)).trans G2.out)
    have HB := hid (GB.out.trans (hb.mono GB.out.size))
    clear hr hb
    refine wpList_store_row rfl 105 _ _ rfl (w.heap.size + 1 + 1) (wayC y) rfl rfl 105 #[.int .i64 0, .int .i64 0, .int .i64 0] L2.out Tryd.size_way rfl (wayC_one y) ?_
    have r2 := hid (setRow_heap W (w.heap.size + 1 + 1) #[.int .i64 0, .int .i64 0, .int .i64 0] (wayC y) 105 (0, 0) L2.out)
    have HB2 := hid (below_setRow' HB.out (show w.heap.size ≤ w.heap.size + 1 + 1 by omega) (wayC y))
    go_wp2_with fail
    refine bodyPost_ret (results_cell_row Tryd.results88 _ _ (w.heap.size + 1 + 1) 105 _ (0, 0) _ (by rfl) r2.out Tryd.underlying105 rfl Tryd.size_way) rfl ?_
    exact ⟨rfl, HB2.out⟩

/-- The way that stands in cells. -/
def readWay (cs : Array Value) : Wy := ⟨intOf (cs.getD 0 undef), intOf (cs.getD 1 undef), (intOf (cs.getD 2 undef)).toNat⟩
theorem readWay_wayC (x : Wy) : readWay (wayC x) = x := Wy.eq rfl rfl (by simp [readWay, wayC, intOf])
/-- The place of a way among the first ones. -/
def idxW (W : Nat → Wy) (L : Nat) (x : Wy) : Nat := (List.range (L + 1)).findIdx fun j => sameW (W j) x
theorem idxW_eq {W : Nat → Wy} {L j : Nat} (hj : j ≤ L) (hne : ∀ a b, a < b → b ≤ L → W a ≠ W b) : idxW W L (W j) = j := by
  unfold idxW
  rw [List.findIdx_eq (by simpa using Nat.lt_succ_of_le hj)]
  refine ⟨by simpa using sameW_iff.2 rfl, fun a ha => ?_⟩
  rw [List.getElem_range, Bool.eq_false_iff]
  exact fun e => hne a j ha hj (sameW_iff.1 e)

end Go.Proofs.YtongjijkdjagdaaDoor

/- The chart of a grid: its struct, and number, step, opposite, by their contracts. -/
namespace Go.Proofs.YtongjijkdjagdaaDoor
open Go.RowKit

theorem Tryd.size_chart : (Tryd.prog.info? 53).map (·.size) = some 28 := by kernel_rfl
theorem Tryd.size_step : (Tryd.prog.info? 108).map (·.size) = some 5 := by kernel_rfl

section
variable {P : Program} {ops : Array Oper} {C : World → Prop} {Q : Act → Prop} {a : Act} {o : Oper} {rest : List Oper}
/-- A struct out of the middle of a block, in every world of the class. -/
theorem wpQuiet_load_mid (hw : Region.wanted o (yielded ops a.tmps) = true) (ty : TypeId) (x : Operand) (ho : o.op = .load ty x)
    (b off : Nat) (hx : a.eval x = .pointer (some ⟨b, off, none⟩)) (cs : Array Value) (d : TypeDesc) (hc : ∀ w, C w → w.rangeAt b off cs.toList)
    (hu : P.underlying ty = some d) (hd : d.isRow = true) (hi : (P.info? ty).map (·.size) = some cs.size)
    (h : wpQuiet P ops C Q rest (a.put o.dst (.agg cs))) : wpQuiet P ops C Q (o :: rest) a := by
  refine wpQuiet_valueW hw (.agg cs) (fun w hw' => ?_) h
  unfold execOp
  have := run_loadVar_mid (P := P) w b off ty cs.toList d (hc w hw') hu hd (by simpa using hi)
  simp only [ho, hx, Instr.loadAt, Instr.sureAddr, Sem.run_bind, Sem.run_pure, Result.andThen_ok, this]
end
theorem rangeAt_row {w : World} {b off : Nat} {all : Array Value} {t : TypeId} {fr : Nat × Nat} (hg : w.heap[b]? = some (.cells all t fr)) {cs : Array Value} (h : ∀ j v, cs[j]? = some v → all[off + j]? = some v) : w.rangeAt b off cs.toList := fun j v hv => by
  rw [cell_of_row _ _ _ _ _ _ hg]; exact h j v (by simpa using hv)

/-- The cells of a chart: the grid's, and the steps. -/
def chartC (cs : Array Value) (g N : Nat) : Array Value := cs.push (.slice (some ⟨g, 0, none⟩) N N)
theorem chartC_pre (cs : Array Value) (g N j : Nat) (v : Value) (h : cs[j]? = some v) : (chartC cs g N)[0 + j]? = some v := by
  unfold chartC
  rw [Nat.zero_add, Array.getElem?_push, if_neg (by have := (Array.getElem?_eq_some_iff.1 h).1; omega)]
  exact h
theorem chartC_steps {cs : Array Value} (h : cs.size = 27) (g N : Nat) : (chartC cs g N)[27]? = some (.slice (some ⟨g, 0, none⟩) N N) := by
  unfold chartC
  rw [Array.getElem?_push, if_pos h.symm]
theorem chartC_size {cs : Array Value} (h : cs.size = 27) (g N : Nat) : (chartC cs g N).size = 28 := by simp [chartC, h]
theorem chartC_one {cs : Array Value} (h : cs.all (·.oneCell') = true) (g N : Nat) : (chartC cs g N).all (·.oneCell') = true := by
  rw [Array.all_eq_true_iff_forall_mem] at h ⊢
  intro x hx
  unfold chartC at hx
  rcases Array.mem_push.1 hx with h1 | h1
  · exact h x h1
  · subst h1; rfl

set_option maxRecDepth 100000 in
set_option maxHeartbeats 1000000 in
theorem opposite_any (d : Nat) (hd : d < 4) (w : World) :
    Calls Tryd.prog 89 #[.int .i64 d] w fun e w' => e = .returned (.int .i64 ((opp d : Nat) : Int)) ∧ w = w' := by
  rcases four hd with rfl | rfl | rfl | rfl
  · change Calls Tryd.prog 89 #[.int .i64 0] w fun e w' => e = .returned (.int .i64 2) ∧ w = w'
    go_enter Tryd.func89, Tryd.ntmps89
    go_wp2
    go_ret
    exact ⟨rfl, rfl⟩
  · change Calls Tryd.prog 89 #[.int .i64 1] w fun e w' => e = .returned (.int .i64 3) ∧ w = w'
    go_enter Tryd.func89, Tryd.ntmps89
    go_wp2
    go_ret
    exact ⟨rfl, rfl⟩
  · change Calls Tryd.prog 89 #[.int .i64 2] w fun e w' => e = .returned (.int .i64 0) ∧ w = w'
    go_enter Tryd.func89, Tryd.ntmps89
    go_wp2
    go_ret
    exact ⟨rfl, rfl⟩
  · change Calls Tryd.prog 89 #[.int .i64 3] w fun e w' => e = .returned (.int .i64 1) ∧ w = w'
    go_enter Tryd.func89, Tryd.ntmps89
    go_wp2
    go_ret
    exact ⟨rfl, rfl⟩

set_option maxRecDepth 100000 in
set_option maxHeartbeats 1000000 in
theorem number_way (n m g N : Nat) (ls : List UInt8) (x : Wy) (w : World) (hl : ls.length = 25) (hn : n ≤ 5) (hm : m ≤ 5) (hx : inG n m x) (hd : x.d < 4) :
    Calls Tryd.prog 57 #[.agg (chartC (gcells n m ls) g N), wayV x] w fun e w' => e = .returned (.int .i64 ((wcode m x : Nat) : Int)) ∧ Below w.heap.size w w' := by
  have h1 := cellN_int hx
  have h2 := cellN_lt hx
  have h3 : n * m ≤ 5 * 5 := Nat.mul_le_mul hn hm
  have hwc := wcode_cell (m := m) x
  obtain ⟨x1, x2, x3, x4⟩ := hx
  have HCE := hid (fun w' => cell_cells (gcells n m ls) x.i x.k m (cellN m x) w' (gcells_1 n m ls) (by omega) h1 ⟨x1, by omega⟩ ⟨by omega, by omega⟩)
  have HG := hid (show (Tryd.prog.info? 39).map (·.size) = some (gcells n m ls).size by rw [gcells_size hl]; exact Tryd.size_grid)
  rw [wayV_eq]
  unfold wayC
  generalize wcode m x = q at hwc ⊢
  generalize cellN m x = p at *
  generalize x.i = i at *
  generalize x.k = k at *
  obtain ⟨dv, hdv⟩ : ∃ dv, x.d = dv := ⟨_, rfl⟩
  rw [hdv] at hwc hd ⊢
  have HQ := hid (show (p : Int) * 4 + (dv : Int) = (q : Int) by omega)
  have hw1 : IntKind.i64.wrap ((p : Int) * 4) = (p : Int) * 4 := IntWalk.i64_in _ (by omega)
  have hw2 : IntKind.i64.wrap ((p : Int) * 4 + (dv : Int)) = (p : Int) * 4 + (dv : Int) := IntWalk.i64_in _ (by omega)
  generalize gcells n m ls = cs at *
  clear h1 h2 h3 hwc x1 x2 x3 x4 hl hdv
  go_enter Tryd.func57, Tryd.ntmps57
  go_wp2
  have F0 := heap_new1 w (.cells (chartC cs g N) 53) (.cells #[.int .i64 i, .int .i64 k, .int .i64 dv] 105)
  have F1 := heap_new0 (w.alloc (.cells (chartC cs g N) 53)) (.cells #[.int .i64 i, .int .i64 k, .int .i64 dv] 105)
  have FB : Below w.heap.size w ((w.alloc (.cells (chartC cs g N) 53)).alloc (.cells #[.int .i64 i, .int .i64 k, .int .i64 dv] 105)) := ((Below.refl _ w).alloc (Nat.le_refl _) _).alloc (by simp) _
  simp only [World.size_alloc] at F1
  generalize World.alloc (World.alloc w _) _ = W at F0 F1 FB ⊢
  have G0 := hid (show ∀ w', Cls W w' → w'.heap[w.heap.size]? = some (.cells (chartC cs g N) 53 (0, 0)) from fun w' hw => (hw.block _ (lt_of_block F0)).trans F0)
  have G1 := hid (show ∀ w', Cls W w' → w'.heap[w.heap.size + 1]? = some (.cells #[.int .i64 i, .int .i64 k, .int .i64 dv] 105 (0, 0)) from fun w' hw => (hw.block _ (lt_of_block F1)).trans F1)
  have GB := hid FB
  have C2 := hid (show ∀ w', Cls W w' → w'.cell? ⟨w.heap.size + 1, 2, none⟩ = some (.int .i64 dv) from fun w' hw => by rw [cell_of_row _ _ _ _ _ _ (G1.out w' hw)]; rfl)
  clear F0 F1 FB
  refine wp_region_quiet (C := Cls W) (by kernel_rfl) (by kernel_rfl) (Below.refl _ W).drew ?_
  quiet_step ((intro _; rfl))
  refine wpQuiet_load_mid rfl 39 _ rfl w.heap.size 0 rfl cs _ (fun w' hw => rangeAt_row (G0.out w' hw) (chartC_pre cs g N)) Tryd.underlying39 rfl HG.out ?_
  quiet_step ((intro _; rfl))
  refine wpQuiet_load_mid rfl 97 _ rfl (w.heap.size + 1) 0 rfl #[.int .i64 i, .int .i64 k] _ (fun w' hw => rangeAt_row (G1.out w' hw) (fun j v hv => by
    match j, hv with
    | 0, hv => simpa using hv
    | 1, hv => simpa using hv
    | j + 2, hv => simp at hv)) Tryd.underlying97 rfl Tryd.size_place ?_
  refine wpQuiet_call rfl 58 #[.agg cs, .agg #[.int .i64 i, .int .i64 k]] (.int .i64 (p : Int)) (fun w _ => by go_simp) (fun w' hw => (HCE.out w').mono fun e w'' ⟨he, hb'⟩ => ⟨he, hw.trans (hb'.mono hw.size)⟩) ?_
  quiet_step ((intro _; rfl))
  quiet_step ((intro _; rfl))
  refine wpQuiet_value rfl (.int .i64 (dv : Int)) (fun w' hw => by have hc := C2.out w' hw; go_simp) ?_
  quiet_step ((intro _; rfl))
  quiet_step ((intro _; rfl))
  refine wpQuiet_nil ?_
  intro w2 hw2
  go_wp2_with fail
  go_ret
  exact ⟨by rw [← HQ.out]; rfl, GB.out.trans (hw2.mono GB.out.size)⟩

set_option maxRecDepth 100000 in
set_option maxHeartbeats 1000000 in
theorem step_way (n m g N : Nat) (ls : List UInt8) (x : Wy) (w : World) (hl : ls.length = 25) (hn : n ≤ 5) (hm : m ≤ 5) (hx : inG n m x) (hd : x.d < 4) (hN : 4 * (n * m) = N) :
    Calls Tryd.prog 69 #[.agg (chartC (gcells n m ls) g N), wayV x] w fun e w' => e = .returned (.pointer (some ⟨g, 5 * wcode m x, none⟩)) ∧ Below w.heap.size w w' := by
  have hlt := wcode_lt hx hd
  rw [hN] at hlt
  have HNB := hid (fun w' => number_way n m g N ls x w' hl hn hm hx hd)
  have hz := gcells_size (n := n) (m := m) hl
  have HS := hid (show (Tryd.prog.info? 53).map (·.size) = some (chartC (gcells n m ls) g N).size by rw [chartC_size hz]; exact Tryd.size_chart)
  have HC := hid (chartC_steps hz g N)
  generalize hwv : wayV x = wv at *
  rw [wayV_eq] at hwv
  subst hwv
  have hwz : (wayC x).size = 3 := rfl
  generalize wayC x = ws at *
  generalize wcode m x = q at *
  generalize chartC (gcells n m ls) g N = cs at *
  have hqi : (q : Int) < (N : Int) := by omega
  have hq0 : 0 ≤ (q : Int) := by omega
  clear hx hd hl hn hm hz hN
  go_enter Tryd.func69, Tryd.ntmps69
  go_wp2
  have F0 := heap_new1 w (.cells cs 53) (.cells ws 105)
  have F1 := heap_new0 (w.alloc (.cells cs 53)) (.cells ws 105)
  have FB : Below w.heap.size w ((w.alloc (.cells cs 53)).alloc (.cells ws 105)) := ((Below.refl _ w).alloc (Nat.le_refl _) _).alloc (by simp) _
  simp only [World.size_alloc] at F1
  generalize World.alloc (World.alloc w _) _ = W at F0 F1 FB ⊢
  have G0 := hid (show ∀ w', Cls W w' → w'.heap[w.heap.size]? = some (.cells cs 53 (0, 0)) from fun w' hw => (hw.block _ (lt_of_block F0)).trans F0)
  have G1 := hid (show ∀ w', Cls W w' → w'.heap[w.heap.size + 1]? = some (.cells ws 105 (0, 0)) from fun w' hw => (hw.block _ (lt_of_block F1)).trans F1)
  have GB := hid FB
  have C2 := hid (show ∀ w', Cls W w' → w'.cell? ⟨w.heap.size, 27, none⟩ = some (.slice (some ⟨g, 0, none⟩) N N) from fun w' hw => by rw [cell_of_row _ _ _ _ _ _ (G0.out w' hw)]; exact HC.out)
  have HWZ := hid (show (Tryd.prog.info? 105).map (·.size) = some ws.size by rw [hwz]; exact Tryd.size_way)
  clear F0 F1 FB hwz
  refine wp_region_quiet (C := Cls W) (by kernel_rfl) (by kernel_rfl) (Below.refl _ W).drew ?_
  quiet_step ((intro _; rfl))
  refine wpQuiet_value rfl (.slice (some ⟨g, 0, none⟩) N N) (fun w' hw => by have hc := C2.out w' hw; go_simp) ?_
  refine wpQuiet_load_row rfl 53 _ rfl w.heap.size rfl 53 cs (0, 0) _ G0.out Tryd.underlying53 rfl HS.out ?_
  refine wpQuiet_load_row rfl 105 _ rfl (w.heap.size + 1) rfl 105 ws (0, 0) _ G1.out Tryd.underlying105 rfl HWZ.out ?_
  refine wpQuiet_call rfl 57 #[.agg cs, .agg ws] (.int .i64 (q : Int)) (fun w _ => by go_simp) (fun w' hw => (HNB.out w').mono fun e w'' ⟨he, hb'⟩ => ⟨he, hw.trans (hb'.mono hw.size)⟩) ?_
  quiet_step ((intro _; rfl))
  quiet_step ((intro _; rfl))
  refine wpQuiet_nil ?_
  intro w2 hw2
  go_wp2_with fail
  go_ret
  exact ⟨by simp [Nat.mul_comm], GB.out.trans (hw2.mono GB.out.size)⟩

end Go.Proofs.YtongjijkdjagdaaDoor

/- The steps of a chart in memory; chart.link, by its contract. -/
namespace Go.Proofs.YtongjijkdjagdaaDoor
open Go.RowKit
attribute [local go_sem] Oper.semAt_some

section
variable {F : Fence} {m : Nat} {P : Program} {ops : Array Oper} {Q : Exit → Act → World → Prop} {a : Act} {w : World} {rest : List Oper} {o : Oper}
/-- A struct out of the middle of a block, in a fence. -/
theorem wpListIn_load_mid (hO : Open F P) (hgd : o.guard = none) (ty : TypeId) (x : Operand) (ho : o.op = .load ty x)
    (b off : Nat) (hx : a.eval x = .pointer (some ⟨b, off, none⟩)) (cs : Array Value) (d : TypeDesc) (hc : w.rangeAt b off cs.toList)
    (hu : P.underlying ty = some d) (hd : d.isRow = true) (hi : (P.info? ty).map (·.size) = some cs.size)
    (h : wpListIn F m P ops Q rest (a.put o.dst (.agg cs)) w) : wpListIn F m P ops Q (o :: rest) a w := by
  unfold wpListIn
  have hw : Region.wanted o (yielded ops a.tmps) = true := by simp [Region.wanted, hgd]
  rw [if_pos hw]
  refine ⟨fun f _ => hO.fn f, ?_⟩
  rw [Oper.semAt_eq _ _ _ (fun c e => by rw [ho] at e; cases e)]
  unfold execOp
  have := run_loadVar_mid (P := P) w b off ty cs.toList d hc hu hd (by simpa using hi)
  simp only [ho, hx, Instr.loadAt, Instr.sureAddr, Sem.run_bind, Sem.run_pure, Result.andThen_ok, this]
  rw [Oper.uponIn_value]
  exact h
/-- A struct into the middle of a block, in a fence. -/
theorem wpListIn_store_mid (hO : Open F P) (hgd : o.guard = none) (ty : TypeId) (x y : Operand) (ho : o.op = .store ty x y)
    (b off : Nat) (cells : Array Value) (hx : a.eval x = .pointer (some ⟨b, off, none⟩)) (hy : a.eval y = .agg cells)
    (ht : w.there b off cells.size) (hi : (P.info? ty).map (·.size) = some cells.size) (h1 : cells.all (·.oneCell') = true)
    (h : wpListIn F m P ops Q rest (a.put o.dst undef) (w.setCells b off cells.toList)) : wpListIn F m P ops Q (o :: rest) a w := by
  unfold wpListIn
  have hw : Region.wanted o (yielded ops a.tmps) = true := by simp [Region.wanted, hgd]
  rw [if_pos hw]
  refine ⟨fun f _ => hO.fn f, ?_⟩
  rw [Oper.semAt_eq _ _ _ (fun c e => by rw [ho] at e; cases e)]
  unfold execOp
  simp only [ho, hx, hy, Instr.storeAt, Instr.sureAddr, Sem.run_bind, Sem.run_pure, Result.andThen_ok, run_storeVar_mid w b off ty cells ht hi h1]
  rw [Oper.uponIn_skip]
  exact h
end

/-- The pointer to the step behind a way. -/
def nextP (g n m : Nat) (t : Int → Int → UInt8) (x : Wy) : Value := if inG n m (nxt t x) then .pointer (some ⟨g, 5 * wcode m (nxt t x), none⟩) else .pointer none
/-- The cells of the step of a way. -/
def stepC (g n m : Nat) (t : Int → Int → UInt8) (x : Wy) : List Value := [.int .i64 x.i, .int .i64 x.k, .int .i64 ((x.d : Nat) : Int), nextP g n m t x, .pointer (some ⟨g, 5 * wcode m (rev t x), none⟩)]
/-- The steps with M stand in block g; the others lead nowhere. -/
def StepsM (w : World) (g n m : Nat) (t : Int → Int → UInt8) (M : Nat → Prop) (N : Nat) : Prop :=
  ∃ cs : Array Value, w.heap[g]? = some (.cells cs 108 (0, 0)) ∧ cs.size = 5 * N ∧ (∀ c, c < N → M c → ∀ (j : Nat) (v : Value), (stepC g n m t (wayN m c))[j]? = some v → cs[5 * c + j]? = some v) ∧ ∀ c, c < N → ¬ M c → cs[5 * c + 3]? = some (.pointer none)
theorem StepsM.lt {w : World} {g n m N : Nat} {t : Int → Int → UInt8} {M : Nat → Prop} (h : StepsM w g n m t M N) : g < w.heap.size := by
  obtain ⟨cs, h, _⟩ := h
  exact lt_of_block h
theorem StepsM.keep {w w' : World} {g n m N : Nat} {t : Int → Int → UInt8} {M : Nat → Prop} (h : StepsM w g n m t M N) (hb : w'.heap[g]? = w.heap[g]?) : StepsM w' g n m t M N := by
  obtain ⟨cs, h, hr⟩ := h
  exact ⟨cs, hb.trans h, hr⟩
theorem StepsM.below {w w' : World} {g n m N : Nat} {t : Int → Int → UInt8} {M : Nat → Prop} (h : StepsM w g n m t M N) (hb : Below w.heap.size w w') : StepsM w' g n m t M N := h.keep (hb.block g h.lt)
theorem StepsM.congr {w : World} {g n m N : Nat} {t : Int → Int → UInt8} {M M' : Nat → Prop} (h : StepsM w g n m t M N) (e : ∀ c, c < N → (M c ↔ M' c)) : StepsM w g n m t M' N := by
  obtain ⟨cs, h1, h2, h3, h4⟩ := h
  exact ⟨cs, h1, h2, fun c hc hm => h3 c hc ((e c hc).2 hm), fun c hc hm => h4 c hc (fun h => hm ((e c hc).1 h))⟩

def put5 (cs : Array Value) (o : Nat) (a0 a1 a2 b4 : Value) : Array Value := (((cs.setIfInBounds o a0).setIfInBounds (o + 1) a1).setIfInBounds (o + 1 + 1) a2).setIfInBounds (o + 4) b4
theorem put5_size (cs : Array Value) (o : Nat) (a0 a1 a2 b4 : Value) : (put5 cs o a0 a1 a2 b4).size = cs.size := by simp [put5]
theorem put5_at {cs : Array Value} {o : Nat} (a0 a1 a2 b4 : Value) (h : o + 4 < cs.size) (i : Nat) :
    (put5 cs o a0 a1 a2 b4)[i]? = if i = o + 4 then some b4 else if i = o + 1 + 1 then some a2 else if i = o + 1 then some a1 else if i = o then some a0 else cs[i]? := by
  unfold put5
  by_cases e4 : i = o + 4
  · subst e4; rw [Array.getElem?_setIfInBounds_self_of_lt (by simp; omega), if_pos rfl]
  rw [Array.getElem?_setIfInBounds_ne (fun e => e4 e.symm), if_neg e4]
  by_cases e2 : i = o + 1 + 1
  · subst e2; rw [Array.getElem?_setIfInBounds_self_of_lt (by simp; omega), if_pos rfl]
  rw [Array.getElem?_setIfInBounds_ne (fun e => e2 e.symm), if_neg e2]
  by_cases e1 : i = o + 1
  · subst e1; rw [Array.getElem?_setIfInBounds_self_of_lt (by simp; omega), if_pos rfl]
  rw [Array.getElem?_setIfInBounds_ne (fun e => e1 e.symm), if_neg e1]
  by_cases e0 : i = o
  · subst e0; rw [Array.getElem?_setIfInBounds_self_of_lt (by omega), if_pos rfl]
  rw [Array.getElem?_setIfInBounds_ne (fun e => e0 e.symm), if_neg e0]

/-- One step more, whose way leaves the grid. -/
theorem steps_more0 {w' : World} {g n m c N : Nat} {t : Int → Int → UInt8} {M : Nat → Prop} {cs : Array Value} (hs : cs.size = 5 * N) (hc : c < N)
    (h1 : ∀ c', c' < N → M c' → ∀ (j : Nat) (v : Value), (stepC g n m t (wayN m c'))[j]? = some v → cs[5 * c' + j]? = some v) (h2 : ∀ c', c' < N → ¬ M c' → cs[5 * c' + 3]? = some (.pointer none))
    (hn : ¬ inG n m (nxt t (wayN m c)))
    (hg : w'.heap[g]? = some (.cells (put5 cs (5 * c) (.int .i64 (wayN m c).i) (.int .i64 (wayN m c).k) (.int .i64 (((wayN m c).d : Nat) : Int)) (.pointer (some ⟨g, 5 * wcode m (rev t (wayN m c)), none⟩))) 108 (0, 0))) : StepsM w' g n m t (fun c' => M c' ∨ c = c') N := by
  refine ⟨_, hg, by rw [put5_size, hs], fun c' hc' hm j v hj => ?_, fun c' h3 h4 => ?_⟩
  · have hj5 : j < 5 := (List.getElem?_eq_some_iff.1 hj).1
    rw [put5_at _ _ _ _ (by omega)]
    by_cases hcc : c = c'
    · subst hcc
      match j, hj, hj5 with
      | 0, hj, _ => rw [if_neg (by omega), if_neg (by omega), if_neg (by omega), if_pos (by omega)]; exact hj
      | 1, hj, _ => rw [if_neg (by omega), if_neg (by omega), if_pos (by omega)]; exact hj
      | 2, hj, _ => rw [if_neg (by omega), if_pos (by omega)]; exact hj
      | 3, hj, _ =>
        rw [if_neg (by omega), if_neg (by omega), if_neg (by omega), if_neg (by omega)]
        have e : cs[5 * c + 3]? = some (.pointer none) := by
          by_cases hM : M c
          · refine h1 c hc hM 3 _ ?_
            simp only [stepC, nextP]
            rw [if_neg hn]; rfl
          · exact h2 c hc hM
        rw [e]
        simp only [stepC, nextP] at hj
        rw [if_neg hn] at hj
        exact hj
      | 4, hj, _ => rw [if_pos (by omega)]; exact hj
    · rw [if_neg (by omega), if_neg (by omega), if_neg (by omega), if_neg (by omega)]
      exact h1 c' hc' (hm.resolve_right hcc) j v hj
  · rw [put5_at _ _ _ _ (by omega), if_neg (by omega), if_neg (by omega), if_neg (by omega), if_neg (by omega)]
    exact h2 c' h3 (fun h => h4 (.inl h))
/-- One step more, whose way goes on. -/
theorem steps_more1 {w' : World} {g n m c N : Nat} {t : Int → Int → UInt8} {M : Nat → Prop} {cs : Array Value} (hs : cs.size = 5 * N) (hc : c < N)
    (h1 : ∀ c', c' < N → M c' → ∀ (j : Nat) (v : Value), (stepC g n m t (wayN m c'))[j]? = some v → cs[5 * c' + j]? = some v) (h2 : ∀ c', c' < N → ¬ M c' → cs[5 * c' + 3]? = some (.pointer none))
    (hn : inG n m (nxt t (wayN m c)))
    (hg : w'.heap[g]? = some (.cells ((put5 cs (5 * c) (.int .i64 (wayN m c).i) (.int .i64 (wayN m c).k) (.int .i64 (((wayN m c).d : Nat) : Int)) (.pointer (some ⟨g, 5 * wcode m (rev t (wayN m c)), none⟩))).setIfInBounds (5 * c + 3) (.pointer (some ⟨g, 5 * wcode m (nxt t (wayN m c)), none⟩))) 108 (0, 0))) : StepsM w' g n m t (fun c' => M c' ∨ c = c') N := by
  refine ⟨_, hg, by rw [Array.size_setIfInBounds, put5_size, hs], fun c' hc' hm j v hj => ?_, fun c' h3 h4 => ?_⟩
  · have hj5 : j < 5 := (List.getElem?_eq_some_iff.1 hj).1
    by_cases e3 : 5 * c + 3 = 5 * c' + j
    · obtain rfl : c' = c := by omega
      obtain rfl : j = 3 := by omega
      rw [Array.getElem?_setIfInBounds_self_of_lt (by rw [put5_size]; omega)]
      simp only [stepC, nextP] at hj
      rw [if_pos hn] at hj
      exact hj
    rw [Array.getElem?_setIfInBounds_ne e3, put5_at _ _ _ _ (by omega)]
    by_cases hcc : c = c'
    · subst hcc
      match j, hj, hj5 with
      | 0, hj, _ => rw [if_neg (by omega), if_neg (by omega), if_neg (by omega), if_pos (by omega)]; exact hj
      | 1, hj, _ => rw [if_neg (by omega), if_neg (by omega), if_pos (by omega)]; exact hj
      | 2, hj, _ => rw [if_neg (by omega), if_pos (by omega)]; exact hj
      | 3, _, _ => exact absurd rfl e3
      | 4, hj, _ => rw [if_pos (by omega)]; exact hj
    · rw [if_neg (by omega), if_neg (by omega), if_neg (by omega), if_neg (by omega)]
      exact h1 c' hc' (hm.resolve_right hcc) j v hj
  · have hne : c ≠ c' := fun e => h4 (.inr e)
    rw [Array.getElem?_setIfInBounds_ne (by omega), put5_at _ _ _ _ (by omega), if_neg (by omega), if_neg (by omega), if_neg (by omega), if_neg (by omega)]
    exact h2 c' h3 (fun h => h4 (.inl h))

set_option maxRecDepth 100000 in
set_option maxHeartbeats 4000000 in
theorem link_any (n m g N c : Nat) (ls : List UInt8) (w : World) (hl : ls.length = 25) (hn : n ≤ 5) (hm : m ≤ 5) (hN : 4 * (n * m) = N) (hc : c < N) {M : Nat → Prop} (hs : StepsM w g n m (lett m ls) M N) :
    Calls Tryd.prog 55 #[.agg (chartC (gcells n m ls) g N), wayV (wayN m c)] w fun e w' => e = .returned (.tuple #[]) ∧ But g w w' ∧ StepsM w' g n m (lett m ls) (fun c' => M c' ∨ c = c') N := by
  have hc4 : c < 4 * (n * m) := by rw [hN]; exact hc
  have hx := wayN_in (n := n) (m := m) hc4
  have hd := wayN_d (m := m) c
  have hcode := wcode_way (m := m) c
  obtain ⟨cs0, hg0, hz0, hk0, hr0⟩ := hs
  have HK0 := hid hk0
  have HR0 := hid hr0
  have HM0 := hid (fun (w' : World) => steps_more0 (w' := w') hz0 hc hk0 hr0)
  have HM1 := hid (fun (w' : World) => steps_more1 (w' := w') hz0 hc hk0 hr0)
  clear hk0 hr0
  generalize wayN m c = x at hx hd hcode HM0 HM1 ⊢
  have hds := nxt_d (t := lett m ls) hd
  have hrin := rev_in (t := lett m ls).2 hx
  have hrd := rev_d (t := lett m ls) x
  have HSX := hid (fun w' => step_way n m g N ls x w' hl hn hm hx hd hN)
  rw [hcode] at HSX
  have HON := hid (fun w' => onward_any n m ls x w' hl hn hm hx hd)
  have HOP := hid (fun w' => opposite_any (nxt (lett m ls) x).d hds w')
  have HSB := hid (fun w' => step_way n m g N ls (rev (lett m ls) x) w' hl hn hm hrin hrd hN)
  have HHO := hid (fun w' => holds_any n m ls (nxt (lett m ls) x) w')
  have HSN := hid (fun w' (h : inG n m (nxt (lett m ls) x)) => step_way n m g N ls (nxt (lett m ls) x) w' hl hn hm h hds hN)
  have hrev : rev (lett m ls) x = ⟨x.i, x.k, opp (nxt (lett m ls) x).d⟩ := rfl
  have hz := gcells_size (n := n) (m := m) hl
  have HS := hid (show (Tryd.prog.info? 53).map (·.size) = some (chartC (gcells n m ls) g N).size by rw [chartC_size hz]; exact Tryd.size_chart)
  have HG := hid (show (Tryd.prog.info? 39).map (·.size) = some (gcells n m ls).size by rw [hz]; exact Tryd.size_grid)
  have HCP := hid (chartC_pre (gcells n m ls) g N)
  generalize wcode m (rev (lett m ls) x) = qb at HSB HM0 HM1
  generalize hqn : wcode m (nxt (lett m ls) x) = qn at HSN HM1
  rw [hrev] at HSB
  generalize nxt (lett m ls) x = y at *
  generalize lett m ls = t at *
  generalize chartC (gcells n m ls) g N = cc at *
  generalize gcells n m ls = gc at *
  obtain ⟨xi, xk, xd⟩ := x
  obtain ⟨yi, yk, yd⟩ := y
  simp only [wayV] at *
  obtain ⟨dv, hdv⟩ : ∃ dv : Int, ((xd : Nat) : Int) = dv := ⟨_, rfl⟩
  obtain ⟨ev, hev⟩ : ∃ ev : Int, ((yd : Nat) : Int) = ev := ⟨_, rfl⟩
  obtain ⟨ov, hov⟩ : ∃ ov : Int, ((opp yd : Nat) : Int) = ov := ⟨_, rfl⟩
  rw [hdv] at HSX HON HM0 HM1 ⊢
  rw [hev] at HON HOP HSN
  rw [hov] at HOP HSB
  have h5 : 5 * c + 4 < cs0.size := by rw [hz0]; omega
  have HG0 := hid hg0
  have HGL := hid (lt_of_block hg0)
  clear hx hd hcode hds hrin hrd hrev hz hqn hdv hev hov hc4 hg0 hl
  refine (callsIn_wide (n := 3)).1 ?_
  refine callsIn_of_wp Tryd.func55 rfl trivial ?_ rfl
  simp only [Tryd.ntmps55, List.size_toArray, List.length_cons, List.length_nil, Nat.reduceAdd, Nat.reduceSub, Array.replicate_succ, Array.replicate_zero, List.push_toArray, List.append_toArray, List.nil_append, List.cons_append]
  have F0 := heap_new1 w (.cells cc 53) (.cells #[.int .i64 xi, .int .i64 xk, .int .i64 dv] 105)
  have F1 := heap_new0 (w.alloc (.cells cc 53)) (.cells #[.int .i64 xi, .int .i64 xk, .int .i64 dv] 105)
  have FB : Below w.heap.size w ((w.alloc (.cells cc 53)).alloc (.cells #[.int .i64 xi, .int .i64 xk, .int .i64 dv] 105)) := ((Below.refl _ w).alloc (Nat.le_refl _) _).alloc (by simp) _
  simp only [World.size_alloc] at F1
  generalize hW0 : World.alloc (World.alloc w (.cells cc 53)) (.cells #[.int .i64 xi, .int .i64 xk, .int .i64 dv] 105) = W0 at F0 F1 FB
  have HW0 := hid hW0
  have A0 := hid F0
  have A1 := hid F1
  have AB := hid FB
  have AG := hid ((FB.block g HGL.out).trans HG0.out)
  clear hW0 F0 F1 FB
  gi_wp2_with (first
    | (refine wpListIn_load_row (Open.wide _) rfl 53 _ rfl w.heap.size rfl 53 cc (0, 0) _ (by rw [HW0.out]; exact A0.out) Tryd.underlying53 rfl HS.out ?_; rw [HW0.out])
    | refine wpListIn_load_row (Open.wide _) rfl 105 _ rfl (w.heap.size + 1) rfl 105 #[.int .i64 xi, .int .i64 xk, .int .i64 dv] (0, 0) _ A1.out Tryd.underlying105 rfl Tryd.size_way ?_)
  refine ⟨trivial, callsIn_wide.2 ((HSX.out _).mono ?_)⟩
  rintro e w1 ⟨rfl, hb1⟩
  have B0 := hid ((hb1.block _ (lt_of_block A0.out)).trans A0.out)
  have B1 := hid ((hb1.block _ (lt_of_block A1.out)).trans A1.out)
  have BB := hid (AB.out.trans (hb1.mono AB.out.size))
  have BG := hid ((hb1.block _ (lt_of_block AG.out)).trans AG.out)
  clear hb1
  gi_wp2_with (first
    | refine wpListIn_load_mid (Open.wide _) rfl 39 _ rfl w.heap.size 0 rfl gc _ (rangeAt_row B0.out HCP.out) Tryd.underlying39 rfl HG.out ?_
    | refine wpListIn_load_row (Open.wide _) rfl 105 _ rfl (w.heap.size + 1) rfl 105 #[.int .i64 xi, .int .i64 xk, .int .i64 dv] (0, 0) _ B1.out Tryd.underlying105 rfl Tryd.size_way ?_)
  refine ⟨trivial, callsIn_wide.2 ((HON.out _).mono ?_)⟩
  rintro e w2 ⟨rfl, hb2⟩
  have C0 := hid ((hb2.block _ (lt_of_block B0.out)).trans B0.out)
  have C1 := hid ((hb2.block _ (lt_of_block B1.out)).trans B1.out)
  have CB := hid (BB.out.trans (hb2.mono BB.out.size))
  have CG := hid ((hb2.block _ (lt_of_block BG.out)).trans BG.out)
  clear hb2
  -- the way behind lies in a block of its own
  have L2 := hid (show g < w2.heap.size ∧ w.heap.size + 1 < w2.heap.size from ⟨lt_of_block CG.out, lt_of_block C1.out⟩)
  have D0 := hid ((Below.heap_alloc w2 (.cells #[.int .i64 yi, .int .i64 yk, .int .i64 ev] 105) _ (lt_of_block C0.out)).trans C0.out)
  have D1 := hid ((Below.heap_alloc w2 (.cells #[.int .i64 yi, .int .i64 yk, .int .i64 ev] 105) _ (lt_of_block C1.out)).trans C1.out)
  have D2 := hid (heap_new0 w2 (.cells #[.int .i64 yi, .int .i64 yk, .int .i64 ev] 105))
  have DG := hid ((Below.heap_alloc w2 (.cells #[.int .i64 yi, .int .i64 yk, .int .i64 ev] 105) _ (lt_of_block CG.out)).trans CG.out)
  have DB := hid (CB.out.alloc CB.out.size (.cells #[.int .i64 yi, .int .i64 yk, .int .i64 ev] 105))
  have H5 := hid h5
  have HTH := hid (show (w2.alloc (.cells #[.int .i64 yi, .int .i64 yk, .int .i64 ev] 105)).there g (5 * c) 3 from fun j hj => ⟨by rw [cell_of_row _ _ _ _ _ _ DG.out, Array.getElem?_eq_getElem (by omega)]; rfl, frozen_of_row _ _ _ _ _ DG.out⟩)
  have H1C := hid (show (#[.int .i64 xi, .int .i64 xk, .int .i64 dv] : Array Value).all (·.oneCell') = true from all_oneCell_toArray (cs := [.int .i64 xi, .int .i64 xk, .int .i64 dv]) (fun v hv => by simp at hv; rcases hv with rfl | rfl | rfl <;> rfl))
  clear h5
  gi_wp2_with (first
    | refine wpListIn_load_row (Open.wide _) rfl 105 _ rfl (w.heap.size + 1) rfl 105 #[.int .i64 xi, .int .i64 xk, .int .i64 dv] (0, 0) _ D1.out Tryd.underlying105 rfl Tryd.size_way ?_
    | refine wpListIn_store_mid (Open.wide _) rfl 105 _ _ rfl g (5 * c) #[.int .i64 xi, .int .i64 xk, .int .i64 dv] rfl rfl HTH.out Tryd.size_way H1C.out ?_)
  have r0 := heap_setCell_same _ _ (5 * c) _ _ (.int .i64 xi) DG.out
  have r1 := heap_setCell_same _ _ (5 * c + 1) _ _ (.int .i64 xk) r0
  have r2 := heap_setCell_same _ _ (5 * c + 1 + 1) _ _ (.int .i64 dv) r1
  have hbx : But g (w2.alloc (.cells #[.int .i64 yi, .int .i64 yk, .int .i64 ev] 105)) ((w2.alloc (.cells #[.int .i64 yi, .int .i64 yk, .int .i64 ev] 105)).setCells g (5 * c) (#[.int .i64 xi, .int .i64 xk, .int .i64 dv] : Array Value).toList) :=
    ((But.setCell _ (5 * c) (.int .i64 xi)).trans (But.setCell _ (5 * c + 1) (.int .i64 xk))).trans (But.setCell _ (5 * c + 1 + 1) (.int .i64 dv))
  have EG := hid (show ((w2.alloc (.cells #[.int .i64 yi, .int .i64 yk, .int .i64 ev] 105)).setCells g (5 * c) (#[.int .i64 xi, .int .i64 xk, .int .i64 dv] : Array Value).toList).heap[g]? = some (.cells (((cs0.setIfInBounds (5 * c) (.int .i64 xi)).setIfInBounds (5 * c + 1) (.int .i64 xk)).setIfInBounds (5 * c + 1 + 1) (.int .i64 dv)) 108 (0, 0)) from r2)
  have E0 := hid ((hbx.block _ (lt_of_block D0.out) (by have := HGL.out; omega)).trans D0.out)
  have E1 := hid ((hbx.block _ (lt_of_block D1.out) (by have := HGL.out; omega)).trans D1.out)
  have E2 := hid ((hbx.block _ (lt_of_block D2.out) (by have := L2.out; omega)).trans D2.out)
  have EB := hid ((show But g w (w2.alloc (.cells #[.int .i64 yi, .int .i64 yk, .int .i64 ev] 105)) from But.of_below DB.out).trans hbx)
  clear r0 r1 r2 hbx D0 D1 D2 DG DB HTH
  obtain ⟨b2, hb2⟩ : ∃ b2, w2.heap.size = b2 := ⟨_, rfl⟩
  rw [hb2] at L2 E2 ⊢
  generalize World.setCells _ _ _ _ = X at EG E0 E1 E2 EB ⊢
  clear hb2
  have G0 := hid (fun w' (hw : Cls X w') => (hw.block _ (lt_of_block E0.out)).trans E0.out)
  have G1 := hid (fun w' (hw : Cls X w') => (hw.block _ (lt_of_block E1.out)).trans E1.out)
  have G2 := hid (fun w' (hw : Cls X w') => (hw.block _ (lt_of_block E2.out)).trans E2.out)
  have GG := hid (fun w' (hw : Cls X w') => (hw.block _ (lt_of_block EG.out)).trans EG.out)
  have HEV := hid (fun w' (hw : Cls X w') => show w'.cell? ⟨b2, 2, none⟩ = some (.int .i64 ev) by rw [cell_of_row _ _ _ _ _ _ (G2.out w' hw)]; rfl)
  refine wpIn_region_quiet_tail (Open.wide _) 11 (Cls X) (by kernel_rfl) (by kernel_rfl) (Below.refl _ X).drew ?_
  simp only [List.take_succ_cons, List.take_zero, List.drop_succ_cons, List.drop_zero]
  quiet_step ((intro _; rfl))
  refine wpQuiet_load_row rfl 53 _ rfl w.heap.size rfl 53 cc (0, 0) _ G0.out Tryd.underlying53 rfl HS.out ?_
  quiet_step ((intro _; rfl))
  refine wpQuiet_load_mid rfl 97 _ rfl (w.heap.size + 1) 0 rfl #[.int .i64 xi, .int .i64 xk] _ (fun w' hw => rangeAt_row (G1.out w' hw) (fun j v hv => by
    match j, hv with
    | 0, hv => simpa using hv
    | 1, hv => simpa using hv
    | j + 2, hv => simp at hv)) Tryd.underlying97 rfl Tryd.size_place ?_
  quiet_step ((intro _; rfl))
  refine wpQuiet_value rfl (.int .i64 ev) (fun w' hw => by have hc := HEV.out w' hw; go_simp) ?_
  refine wpQuiet_call rfl 89 #[.int .i64 ev] (.int .i64 ov) (fun w _ => by go_simp) (fun w' hw => (HOP.out w').mono fun e w'' ⟨he, hb'⟩ => ⟨he, by rw [← hb']; exact hw⟩) ?_
  quiet_step ((intro _; rfl))
  refine wpQuiet_call rfl 69 #[.agg cc, .agg #[.int .i64 xi, .int .i64 xk, .int .i64 ov]] (.pointer (some ⟨g, 5 * qb, none⟩)) (fun w _ => by go_simp) (fun w' hw => (HSB.out w').mono fun e w'' ⟨he, hb'⟩ => ⟨he, hw.trans (hb'.mono hw.size)⟩) ?_
  quiet_step ((intro _; rfl))
  quiet_step ((intro _; rfl))
  refine wpQuiet_nil ?_
  intro w5 hw5
  have hg5 := GG.out w5 hw5
  have hz5 : 5 * c + 4 < (((cs0.setIfInBounds (5 * c) (.int .i64 xi)).setIfInBounds (5 * c + 1) (.int .i64 xk)).setIfInBounds (5 * c + 1 + 1) (.int .i64 dv)).size := by simp; exact H5.out
  obtain ⟨u4, hu4⟩ : ∃ u, (((cs0.setIfInBounds (5 * c) (.int .i64 xi)).setIfInBounds (5 * c + 1) (.int .i64 xk)).setIfInBounds (5 * c + 1 + 1) (.int .i64 dv))[5 * c + 4]? = some u := ⟨_, Array.getElem?_eq_getElem hz5⟩
  have c4 : w5.cell? ⟨g, 5 * c + 4, none⟩ = some u4 := by rw [cell_of_row _ _ _ _ _ _ hg5]; exact hu4
  have f4 : w5.frozen? ⟨g, 5 * c + 4, none⟩ = false := frozen_of_row _ _ _ _ _ hg5
  have r4 := heap_setCell_same _ _ (5 * c + 4) _ _ (.pointer (some ⟨g, 5 * qb, none⟩)) hg5
  have hb4 := But.setCell (g := g) w5 (5 * c + 4) (.pointer (some ⟨g, 5 * qb, none⟩))
  have I0 := hid ((hb4.block _ (lt_of_block (G0.out w5 hw5)) (by have := HGL.out; omega)).trans (G0.out w5 hw5))
  have I1 := hid ((hb4.block _ (lt_of_block (G1.out w5 hw5)) (by have := HGL.out; omega)).trans (G1.out w5 hw5))
  have I2 := hid ((hb4.block _ (lt_of_block (G2.out w5 hw5)) (by have := L2.out; omega)).trans (G2.out w5 hw5))
  have IG := hid r4
  have IB := hid ((EB.out.trans (But.of_below hw5)).trans hb4)
  clear hg5 hz5 hu4 r4 hb4 hw5 G0 G1 G2 GG HEV E0 E1 E2 EG EB
  gi_wp2_with (first
    | refine wpListIn_load_mid (Open.wide _) rfl 39 _ rfl w.heap.size 0 rfl gc _ (rangeAt_row I0.out HCP.out) Tryd.underlying39 rfl HG.out ?_
    | refine wpListIn_load_mid (Open.wide _) rfl 97 _ rfl b2 0 rfl #[.int .i64 yi, .int .i64 yk] _ (rangeAt_row I2.out (fun j v hv => by
        match j, hv with
        | 0, hv => simpa using hv
        | 1, hv => simpa using hv
        | j + 2, hv => simp at hv)) Tryd.underlying97 rfl Tryd.size_place ?_)
  refine ⟨trivial, callsIn_wide.2 ((HHO.out _).mono ?_)⟩
  rintro e w6 ⟨rfl, hb6⟩
  have J0 := hid ((hb6.block _ (lt_of_block I0.out)).trans I0.out)
  have J2 := hid ((hb6.block _ (lt_of_block I2.out)).trans I2.out)
  have JG := hid ((hb6.block _ (lt_of_block IG.out)).trans IG.out)
  have JB := hid (IB.out.trans (But.of_below hb6))
  clear hb6 I0 I1 I2 IG IB
  by_cases hin : inG n m ⟨yi, yk, yd⟩
  · rw [decide_eq_true hin]
    have HIN := hid hin
    clear hin
    gi_wp2_with (first
      | refine wpListIn_load_row (Open.wide _) rfl 53 _ rfl w.heap.size rfl 53 cc (0, 0) _ J0.out Tryd.underlying53 rfl HS.out ?_
      | refine wpListIn_load_row (Open.wide _) rfl 105 _ rfl b2 rfl 105 #[.int .i64 yi, .int .i64 yk, .int .i64 ev] (0, 0) _ J2.out Tryd.underlying105 rfl Tryd.size_way ?_)
    refine ⟨trivial, callsIn_wide.2 ((HSN.out _ HIN.out).mono ?_)⟩
    rintro e w7 ⟨rfl, hb7⟩
    have KG := (hb7.block _ (lt_of_block JG.out)).trans JG.out
    have KB := hid (JB.out.trans (But.of_below hb7))
    have hz7 : 5 * c + 3 < ((((cs0.setIfInBounds (5 * c) (.int .i64 xi)).setIfInBounds (5 * c + 1) (.int .i64 xk)).setIfInBounds (5 * c + 1 + 1) (.int .i64 dv)).setIfInBounds (5 * c + 4) (.pointer (some ⟨g, 5 * qb, none⟩))).size := by simp; have := H5.out; omega
    obtain ⟨u3, hu3⟩ : ∃ u, ((((cs0.setIfInBounds (5 * c) (.int .i64 xi)).setIfInBounds (5 * c + 1) (.int .i64 xk)).setIfInBounds (5 * c + 1 + 1) (.int .i64 dv)).setIfInBounds (5 * c + 4) (.pointer (some ⟨g, 5 * qb, none⟩)))[5 * c + 3]? = some u := ⟨_, Array.getElem?_eq_getElem hz7⟩
    have c3 : w7.cell? ⟨g, 5 * c + 3, none⟩ = some u3 := by rw [cell_of_row _ _ _ _ _ _ KG]; exact hu3
    have f3 : w7.frozen? ⟨g, 5 * c + 3, none⟩ = false := frozen_of_row _ _ _ _ _ KG
    have LG := hid (heap_setCell_same _ _ (5 * c + 3) _ _ (.pointer (some ⟨g, 5 * qn, none⟩)) KG)
    clear hb7 KG hz7 hu3
    gi_wp2
    refine ⟨rfl, .tuple #[], by simp [results, Tryd.results55, go_sem], rfl, KB.out.trans (But.setCell _ _ _), HM1.out _ HIN.out LG.out⟩
  · rw [decide_eq_false hin]
    have HIN := hid hin
    clear hin
    gi_wp2
    refine ⟨rfl, .tuple #[], by simp [results, Tryd.results55, go_sem], rfl, JB.out, HM0.out _ HIN.out JG.out⟩

end Go.Proofs.YtongjijkdjagdaaDoor

/- newChart, by its contract. -/
namespace Go.Proofs.YtongjijkdjagdaaDoor
open Go.RowKit
attribute [local go_sem] Oper.semAt_some

theorem lits27c {cs : Array Value} (h : cs.size = 27) : ∃ c0 c1 c2 c3 c4 c5 c6 c7 c8 c9 c10 c11 c12 c13 c14 c15 c16 c17 c18 c19 c20 c21 c22 c23 c24 c25 c26 : Value, cs = #[c0, c1, c2, c3, c4, c5, c6, c7, c8, c9, c10, c11, c12, c13, c14, c15, c16, c17, c18, c19, c20, c21, c22, c23, c24, c25, c26] := by
  refine ⟨cs[0], cs[1], cs[2], cs[3], cs[4], cs[5], cs[6], cs[7], cs[8], cs[9], cs[10], cs[11], cs[12], cs[13], cs[14], cs[15], cs[16], cs[17], cs[18], cs[19], cs[20], cs[21], cs[22], cs[23], cs[24], cs[25], cs[26], ?_⟩
  refine Array.ext (by simp [h]) (fun i h1 h2 => ?_)
  rw [h] at h1
  have : i = 0 ∨ i = 1 ∨ i = 2 ∨ i = 3 ∨ i = 4 ∨ i = 5 ∨ i = 6 ∨ i = 7 ∨ i = 8 ∨ i = 9 ∨ i = 10 ∨ i = 11 ∨ i = 12 ∨ i = 13 ∨ i = 14 ∨ i = 15 ∨ i = 16 ∨ i = 17 ∨ i = 18 ∨ i = 19 ∨ i = 20 ∨ i = 21 ∨ i = 22 ∨ i = 23 ∨ i = 24 ∨ i = 25 ∨ i = 26 := by omega
  rcases this with rfl | rfl | rfl | rfl | rfl | rfl | rfl | rfl | rfl | rfl | rfl | rfl | rfl | rfl | rfl | rfl | rfl | rfl | rfl | rfl | rfl | rfl | rfl | rfl | rfl | rfl | rfl <;> rfl
/-- The cells of the zero chart, of the zero step. -/
abbrev zeroK : Array Value := #[.int .i64 0, .int .i64 0, .int .u8 0, .int .u8 0, .int .u8 0, .int .u8 0, .int .u8 0, .int .u8 0, .int .u8 0, .int .u8 0, .int .u8 0, .int .u8 0, .int .u8 0, .int .u8 0, .int .u8 0, .int .u8 0, .int .u8 0, .int .u8 0, .int .u8 0, .int .u8 0, .int .u8 0, .int .u8 0, .int .u8 0, .int .u8 0, .int .u8 0, .int .u8 0, .int .u8 0, .slice none 0 0]
abbrev zeroS : Array Value := #[.int .i64 0, .int .i64 0, .int .i64 0, .pointer none, .pointer none]
theorem Tryd.info_step : (Tryd.prog.info? 108).map (fun i => (i.zero, i.size, i.bytes)) = some (some (.agg zeroS), 5, 40) := by kernel_rfl
theorem run_build_chart {cs : Array Value} (h : cs.size = 27) (g N : Nat) (w : World) : (Instr.build 53 #[(0, .agg cs), (1, .slice (some ⟨g, 0, none⟩) N N)]).run Tryd.prog w = .ok (.agg (chartC cs g N)) w := by
  obtain ⟨c0, c1, c2, c3, c4, c5, c6, c7, c8, c9, c10, c11, c12, c13, c14, c15, c16, c17, c18, c19, c20, c21, c22, c23, c24, c25, c26, rfl⟩ := lits27c h
  kernel_rfl
theorem exec_build_chart {o : Oper} {a : Act} {w : World} {gc : Array Value} {g N : Nat} (x y : Operand) (ho : o.op = Op.build 53 #[(0, x), (1, y)])
    (hrun : (Instr.build 53 #[(0, .agg gc), (1, .slice (some ⟨g, 0, none⟩) N N)]).run Tryd.prog w = .ok (.agg (chartC gc g N)) w) (hx : a.eval x = .agg gc) (hy : a.eval y = .slice (some ⟨g, 0, none⟩) N N) :
    (execOp a.eval o).run Tryd.prog w = .ok (.value (.agg (chartC gc g N))) w := by
  unfold execOp
  simp only [ho]
  have : (#[(0, x), (1, y)] : Array (Nat × Operand)).map (fun p => (p.1, a.eval p.2)) = #[(0, .agg gc), (1, .slice (some ⟨g, 0, none⟩) N N)] := by simp [hx, hy]
  rw [this]
  simp only [Sem.run_bind, hrun, Result.andThen_ok, Sem.run_pure]

/-- What stands while the chart is put together, in whatever order. -/
def NCInv (gc : Array Value) (w : World) (N nm : Nat) (listed : Array Bool) (a : Act) (W : World) : Prop :=
  ∃ (l0 l1 l2 l3 l4 l5 l6 l7 : Bool) (u3 u6 u7 u8 u9 u10 u11 : Value) (g b3 : Nat),
    listed = #[l0, l1, l2, l3, l4, l5, l6, l7] ∧
    a = { tmps := #[.agg gc, .pointer (some ⟨w.heap.size, 0, none⟩), .pointer (some ⟨w.heap.size + 1, 0, none⟩), u3, undef, undef, u6, u7, u8, u9, u10, u11, undef, undef, undef, undef, undef, undef, undef, undef, undef, undef, undef, undef, undef, undef], defers := [] } ∧
    W.heap[w.heap.size]? = some (.cells gc 39 (0, 0)) ∧ W.heap[w.heap.size + 1]? = some (.cells zeroK 53 (0, 0)) ∧ Below w.heap.size w W ∧ w.heap.size + 2 ≤ W.heap.size ∧
    (l0 = true → u6 = .agg gc) ∧ (l1 = true → u7 = .agg gc) ∧ (l2 = true → u8 = .int .i64 (nm : Int)) ∧ (l3 = true → u9 = .int .i64 (N : Int)) ∧
    (l4 = true → u10 = .slice (some ⟨g, 0, none⟩) N N ∧ w.heap.size + 2 ≤ g ∧ W.heap[g]? = some (.cells (madeCells zeroS (N * 5)) 108 (0, 0))) ∧
    (l5 = true → l4 = true ∧ u11 = .agg (chartC gc g N)) ∧
    (l6 = true → u3 = .pointer (some ⟨b3, 0, none⟩) ∧ w.heap.size + 2 ≤ b3 ∧ ∃ cs : Array Value, W.heap[b3]? = some (.cells cs 53 (0, 0)) ∧ cs.size = 28 ∧ (l7 = true → cs = chartC gc g N)) ∧ (l7 = true → l6 = true ∧ l5 = true)

theorem made_steps {w : World} {g n m N : Nat} {t : Int → Int → UInt8} (h : w.heap[g]? = some (.cells (madeCells zeroS (N * 5)) 108 (0, 0))) (M : Nat → Prop) (hM : ∀ c, ¬ M c) : StepsM w g n m t M N := by
  refine ⟨_, h, by rw [size_madeCells, Nat.mul_comm], fun c _ hm => absurd hm (hM c), fun c hc _ => ?_⟩
  have h1 : 5 * c + 3 < N * 5 := by omega
  have h2 : (5 * c + 3) % 5 = 3 := by omega
  simp [madeCells, h1, h2]

theorem ownFrom_steps {β : Type} (B g n m : Nat) (t : Int → Int → UInt8) (M : β → Nat → Prop) (N : Nat) : OwnFrom B (fun s W => StepsM W g n m t (M s) N) := fun s W W' row hs hg hr => hs.keep (hg.block g hs.lt (fun e => by
  obtain ⟨_, o', ho', hc⟩ := hr g e.symm
  obtain ⟨cs, h, _⟩ := hs
  rw [h] at ho'
  cases ho'
  cases hc))
theorem but_grownN {g : Nat} {w w' : World} (h : But g w w') : w.grownBy w' (some g) := ⟨h.os, h.tape, h.output, h.size, fun k hk hne => h.block k hk (fun e => hne (by rw [e]))⟩
/-- So many headings of a cell have been linked. -/
def LinkRel (g n m : Nat) (t : Int → Int → UInt8) (M : Nat → Prop) (x N : Nat) (w : World) (i : Value) (wr : World) : Prop :=
  ∃ h : Nat, h ≤ 4 ∧ i = .int .i64 h ∧ StepsM wr g n m t (fun c => M c ∨ (c / 4 = x ∧ c % 4 < h)) N ∧ But g w wr

set_option maxRecDepth 100000 in
set_option maxHeartbeats 8000000 in
theorem newChart_any (n m N nm : Nat) (ls : List UInt8) (w : World) (hl : ls.length = 25) (hn : n ≤ 5) (hm1 : 1 ≤ m) (hm : m ≤ 5) (hnm : n * m = nm) (hN : 4 * nm = N) :
    Calls Tryd.prog 29 #[.agg (gcells n m ls)] w fun e w' => ∃ g, w.heap.size ≤ g ∧ e = .returned (.agg (chartC (gcells n m ls) g N)) ∧ StepsM w' g n m (lett m ls) (fun _ => True) N ∧ Below w.heap.size w w' := by
  refine (callsIn_wide (n := 3)).1 ?_
  have hz := gcells_size (n := n) (m := m) hl
  have hnm25 : nm ≤ 25 := by rw [← hnm]; exact Nat.mul_le_mul hn hm
  have HZ := hid hz
  have HG := hid (show (Tryd.prog.info? 39).map (·.size) = some (gcells n m ls).size by rw [hz]; exact Tryd.size_grid)
  have HCS := hid (fun g => show (Tryd.prog.info? 53).map (·.size) = some (chartC (gcells n m ls) g N).size by rw [chartC_size hz]; exact Tryd.size_chart)
  have HCO := hid (fun g => chartC_one (gcells_one n m ls) g N)
  have HSZ := hid (fun w' => size_any n m ls w' hn hm)
  rw [hnm] at HSZ
  have hw1 : IntKind.i64.wrap ((nm : Int) * 4) = (N : Int) := by rw [show (nm : Int) * 4 = (N : Int) by omega]; exact IntWalk.i64_in _ (by omega)
  obtain ⟨si, hsi, hs0, hs1, hs2⟩ := info_parts Tryd.info_step
  have HMK := hid (fun (W : World) => run_make (P := Tryd.prog) W 51 108 si (.agg zeroS) Tryd.underlying51 hsi hs0 .i64 .i64 (N : Int) (N : Int) (by omega) (by omega) (by rw [hs2]; omega) (by omega))
  rw [hs1] at HMK
  have hNt : ((N : Nat) : Int).toNat = N := Int.toNat_natCast N
  rw [hNt] at HMK
  have HW1 := hid hw1
  refine callsIn_of_wp_marks Tryd.func29 rfl trivial ?_ rfl
  simp only [Tryd.ntmps29, List.size_toArray, List.length_cons, List.length_nil, Nat.reduceAdd, Nat.reduceSub, Array.replicate_succ, Array.replicate_zero, List.push_toArray, List.append_toArray, List.nil_append, List.cons_append]
  clear hsi hs0 hs1 hs2 hNt hw1 hz
  obtain ⟨gc, hgc⟩ : ∃ gc, gcells n m ls = gc := ⟨_, rfl⟩
  rw [hgc] at HZ HG HCS HCO HSZ ⊢
  have HGC := hid hgc
  clear hgc
  gi_wp2
  refine wpIn_region_inv (by kernel_rfl) (by kernel_rfl) (NCInv gc w N nm) ?h0 (fun listed a W h => by obtain ⟨l0, l1, l2, l3, l4, l5, l6, l7, u3, u6, u7, u8, u9, u10, u11, g, b3, rfl, _⟩ := h; rfl) ?hstep ?hdone
  case h0 =>
    refine ⟨false, false, false, false, false, false, false, false, undef, undef, undef, undef, undef, undef, undef, 0, 0, rfl, rfl, heap_new1 w _ _, ?_, (((Below.refl _ w).alloc (Nat.le_refl _) _).alloc (by simp) _).drew, by simp, by simp, by simp, by simp, by simp, by simp, by simp, by simp, by simp⟩
    have := heap_new0 (w.alloc (.cells gc 39)) (.cells zeroK 53)
    rw [World.size_alloc] at this
    exact this
  case hstep =>
    rintro listed a W i ⟨l0, l1, l2, l3, l4, l5, l6, l7, u3, u6, u7, u8, u9, u10, u11, g, b3, rfl, rfl, k0, k1, kb, ks, h0, h1, h2, h3, h4, h5, h6, h7⟩ hi
    obtain ⟨hun, o, ho, hall⟩ := mem_ready.1 hi
    have hi8 : i < 8 := (Array.getElem?_eq_some_iff.1 ho).1
    match i, hun, ho, hall, hi8 with
    | 0, hun, ho, hall, _ =>
      refine wpOpIn_val (Open.wide _) rfl rfl (fun c e => by cases e) (exec_load_row 39 _ rfl w.heap.size rfl 39 gc (0, 0) _ k0 Tryd.underlying39 rfl HG.out) ?_
      exact ⟨true, l1, l2, l3, l4, l5, l6, l7, u3, _, u7, u8, u9, u10, u11, g, b3, rfl, rfl, k0, k1, kb, ks, fun _ => rfl, h1, h2, h3, h4, h5, h6, h7⟩
    | 1, hun, ho, hall, _ =>
      refine wpOpIn_val (Open.wide _) rfl rfl (fun c e => by cases e) (exec_load_row 39 _ rfl w.heap.size rfl 39 gc (0, 0) _ k0 Tryd.underlying39 rfl HG.out) ?_
      exact ⟨l0, true, l2, l3, l4, l5, l6, l7, u3, u6, _, u8, u9, u10, u11, g, b3, rfl, rfl, k0, k1, kb, ks, h0, fun _ => rfl, h2, h3, h4, h5, h6, h7⟩
    | 2, hun, ho, hall, _ =>
      cases ho
      obtain rfl : l1 = true := hall { on := 1, ground := .data } (by simp) rfl
      obtain rfl := h1 rfl
      refine wpOpIn_call (Open.wide _) rfl rfl (fun c e => by cases e) (f := 53) (args := #[.agg gc]) (by go_simp) (HSZ.out W) ?_
      intro W' hb
      refine ⟨l0, true, true, l3, l4, l5, l6, l7, u3, u6, _, _, u9, u10, u11, g, b3, rfl, rfl, (hb.block _ (lt_of_block k0)).trans k0, (hb.block _ (lt_of_block k1)).trans k1, kb.trans (hb.mono kb.size), Nat.le_trans ks hb.size, h0, h1, fun _ => rfl, h3, fun e => ?_, h5, fun e => ?_, h7⟩
      · obtain ⟨e1, e2, e3⟩ := h4 e
        exact ⟨e1, e2, (hb.block _ (lt_of_block e3)).trans e3⟩
      · obtain ⟨e1, e2, cs, e3, e4⟩ := h6 e
        exact ⟨e1, e2, cs, (hb.block _ (lt_of_block e3)).trans e3, e4⟩
    | 3, hun, ho, hall, _ =>
      cases ho
      obtain rfl : l2 = true := hall { on := 2, ground := .data } (by simp) rfl
      obtain rfl := h2 rfl
      have hw := HW1.out
      refine wpOpIn_val (Open.wide _) rfl rfl (fun c e => by cases e) (u := .int .i64 (N : Int)) (w' := W) (by go_simp) ?_
      exact ⟨l0, l1, true, true, l4, l5, l6, l7, u3, u6, u7, _, _, u10, u11, g, b3, rfl, rfl, k0, k1, kb, ks, h0, h1, h2, fun _ => rfl, h4, h5, h6, h7⟩
    | 4, hun, ho, hall, _ =>
      cases ho
      obtain rfl : l3 = true := hall { on := 3, ground := .data } (by simp) rfl
      obtain rfl : l4 = false := hun
      obtain rfl := h3 rfl
      obtain rfl : l5 = false := by
        cases l5 with
        | false => rfl
        | true => exact absurd (h5 rfl).1 (by simp)
      obtain rfl : l7 = false := by
        cases l7 with
        | false => rfl
        | true => exact absurd (h7 rfl).2 (by simp)
      have hmk := HMK.out W
      refine wpOpIn_val (Open.wide _) rfl rfl (fun c e => by cases e) (u := .slice (some ⟨W.heap.size, 0, none⟩) N N) (w' := W.alloc (.cells (madeCells zeroS (N * 5)) 108)) (by go_simp) ?_
      refine ⟨l0, l1, l2, true, true, false, l6, false, u3, u6, u7, u8, _, _, u11, W.heap.size, b3, rfl, rfl, (Below.heap_alloc _ _ _ (lt_of_block k0)).trans k0, (Below.heap_alloc _ _ _ (lt_of_block k1)).trans k1, kb.alloc kb.size _, by simp; omega, h0, h1, h2, h3, fun _ => ⟨rfl, ks, heap_new0 W _⟩, (fun e => by cases e), fun e => ?_, (fun e => by cases e)⟩
      obtain ⟨e1, e2, cs, e3, e4, _⟩ := h6 e
      exact ⟨e1, e2, cs, (Below.heap_alloc _ _ _ (lt_of_block e3)).trans e3, e4, fun e => by cases e⟩
    | 5, hun, ho, hall, _ =>
      cases ho
      obtain rfl : l0 = true := hall { on := 0, ground := .data } (by simp) rfl
      obtain rfl : l4 = true := hall { on := 4, ground := .data } (by simp) rfl
      obtain rfl := h0 rfl
      obtain ⟨rfl, hg1, hg2⟩ := h4 rfl
      have hbl := run_build_chart HZ.out g N W
      obtain rfl : l5 = false := hun
      obtain rfl : l7 = false := by
        cases l7 with
        | false => rfl
        | true => exact absurd (h7 rfl).2 (by simp)
      refine wpOpIn_val (Open.wide _) rfl rfl (fun c e => by cases e) (u := .agg (chartC gc g N)) (w' := W) ?_ ?_
      · exact exec_build_chart _ _ rfl hbl rfl rfl
      · exact ⟨true, l1, l2, l3, true, true, l6, false, u3, _, u7, u8, u9, _, _, g, b3, rfl, rfl, k0, k1, kb, ks, h0, h1, h2, h3, fun _ => ⟨rfl, hg1, hg2⟩, fun _ => ⟨rfl, rfl⟩, h6, fun e => by cases e⟩
    | 6, hun, ho, hall, _ =>
      obtain rfl : l6 = false := hun
      obtain rfl : l7 = false := by
        cases l7 with
        | false => rfl
        | true => exact absurd (h7 rfl).1 (by simp)
      refine wpOpIn_val (Open.wide _) rfl rfl (fun c e => by cases e) (u := .pointer (some ⟨W.heap.size, 0, none⟩)) (w' := W.alloc (.cells zeroK 53)) (by go_simp) ?_
      refine ⟨l0, l1, l2, l3, l4, l5, true, false, _, u6, u7, u8, u9, u10, u11, g, W.heap.size, rfl, rfl, (Below.heap_alloc _ _ _ (lt_of_block k0)).trans k0, (Below.heap_alloc _ _ _ (lt_of_block k1)).trans k1, kb.alloc kb.size _, by simp; omega, h0, h1, h2, h3, fun e => ?_, h5, fun _ => ⟨rfl, ks, zeroK, heap_new0 W _, rfl, (fun e => by cases e)⟩, fun e => by cases e⟩
      obtain ⟨e1, e2, e3⟩ := h4 e
      exact ⟨e1, e2, (Below.heap_alloc _ _ _ (lt_of_block e3)).trans e3⟩
    | 7, hun, ho, hall, _ =>
      cases ho
      obtain rfl : l6 = true := hall { on := 6, ground := .data } (by simp) rfl
      obtain rfl : l5 = true := hall { on := 5, ground := .data } (by simp) rfl
      obtain ⟨rfl, hb1, cs, hb2, hb3, _⟩ := h6 rfl
      obtain ⟨rfl, rfl⟩ := h5 rfl
      obtain ⟨rfl, hg1, hg2⟩ := h4 rfl
      have hne : g ≠ b3 := by
        rintro rfl
        rw [hb2] at hg2
        simp at hg2
      refine wpOpIn_skip (Open.wide _) rfl rfl (fun c e => by cases e) (w' := W.setRow b3 (chartC gc g N)) ?_ ?_
      · unfold execOp
        have := run_storeVar_row (P := Tryd.prog) W b3 53 53 cs (chartC gc g N) hb2 (HCS.out g) (by rw [hb3, chartC_size HZ.out]) (HCO.out g)
        simp [Act.eval, Instr.storeAt, Instr.sureAddr, this, Result.andThen]
      · refine ⟨l0, l1, l2, l3, true, true, true, true, _, u6, u7, u8, u9, _, _, g, b3, rfl, rfl, (setRow_other _ _ _ _ (by omega)).trans k0, (setRow_other _ _ _ _ (by omega)).trans k1, below_setRow' kb (by omega) _, by simpa using ks, h0, h1, h2, h3, fun _ => ⟨rfl, hg1, (setRow_other _ _ _ _ hne).trans hg2⟩, fun _ => ⟨rfl, rfl⟩, fun _ => ⟨rfl, hb1, _, setRow_heap _ _ _ _ _ _ hb2, chartC_size HZ.out g N, fun _ => rfl⟩, fun _ => ⟨rfl, rfl⟩⟩
  case hdone =>
    rintro listed a W ⟨l0, l1, l2, l3, l4, l5, l6, l7, u3, u6, u7, u8, u9, u10, u11, g, b3, rfl, rfl, k0, k1, kb, ks, h0, h1, h2, h3, h4, h5, h6, h7⟩ hall
    obtain rfl : l7 = true := hall 7 (by simp)
    obtain ⟨rfl, rfl⟩ := h7 rfl
    obtain ⟨rfl, rfl⟩ := h5 rfl
    obtain ⟨rfl, hg1, hg2⟩ := h4 rfl
    obtain ⟨rfl, hb1, cs, hb2, _, hb4⟩ := h6 rfl
    obtain rfl := hb4 rfl
    have L0 := hid k0
    have L1 := hid k1
    have L2 := hid hb2
    have L3 := hid (made_steps (n := n) (m := m) (t := lett m ls) hg2 (fun c => ∃ y ∈ ([] : List (Fin nm)), y.val = c / 4) (fun c hc => by obtain ⟨y, hy, _⟩ := hc; cases hy))
    have LB := hid kb
    have LG := hid hg1
    have L3B := hid hb1
    have LS := hid ks
    have LNE := hid (show b3 ≠ g from by
      rintro rfl
      rw [hb2] at hg2
      simp at hg2)
    have HLK := hid (fun c M w' (hc : c < N) hs => link_any n m g N c ls w' hl hn hm (by rw [hnm]; exact hN) hc (M := M) hs)
    have HCST := hid (fun Bg w' h => cells_stops 2 Bg n m nm hnm.symm ls hl hn hm1 hm w' h)
    rw [HGC.out] at HLK HCST
    generalize hlet : lett m ls = t at *
    have HLET := hid hlet
    clear hlet k0 k1 hb2 hb4 hg2 kb hg1 hb1 ks h0 h1 h2 h3 h4 h5 h6 h7 hall
    gi_wp2_with (refine wpListIn_load_row (Open.wide _) rfl 39 _ rfl w.heap.size rfl 39 gc (0, 0) _ L0.out Tryd.underlying39 rfl HG.out ?_)
    refine ⟨trivial, callsIn_wide.2 ((cells_any gc W).mono ?_)⟩
    rintro e w1 ⟨rfl, hw1⟩
    have K1 := hid (show w1.heap[w.heap.size + 1]? = some (.cells zeroK 53 (0, 0)) by rw [hw1]; exact (Below.heap_alloc _ _ _ (lt_of_block L1.out)).trans L1.out)
    have K2 := hid (show w1.heap[b3]? = some (.cells (chartC gc g N) 53 (0, 0)) by rw [hw1]; exact (Below.heap_alloc _ _ _ (lt_of_block L2.out)).trans L2.out)
    have K3 := hid (show w1.heap[W.heap.size]? = some (.cells gc 39 (0, 0)) by rw [hw1]; exact heap_new0 W _)
    have K4 := hid (show StepsM w1 g n m t (fun c => ∃ y ∈ ([] : List (Fin nm)), y.val = c / 4) N by rw [hw1]; exact L3.out.below ((Below.refl _ _).alloc (Nat.le_refl _) _))
    have KB := hid (show Below w.heap.size w w1 by rw [hw1]; exact LB.out.alloc LB.out.size _)
    have KS := hid (show w1.heap.size = W.heap.size + 1 by rw [hw1, World.size_alloc])
    have KG := hid (show g < W.heap.size from L3.out.lt)
    clear hw1
    gi_wp2
    refine wpIn_rangeFunc_ownH rfl (by omega) (gf := 87) (lb := #[.pointer (some ⟨W.heap.size, 0, none⟩)]) rfl trivial (enters_of Tryd.func87 (by kernel_rfl) rfl)
      (HCST.out W.heap.size w1 K3.out) KeepsAt.trans (keepsAt_b (lt_of_block K3.out)) (Below.refl _ _) (fun _ => rfl)
      (fun pre X => ((X.heap[w.heap.size + 1]? = some (.cells zeroK 53 (0, 0)) ∧ X.heap[b3]? = some (.cells (chartC gc g N) 53 (0, 0))) ∧ StepsM X g n m t (fun c => ∃ y ∈ pre, y.val = c / 4) N) ∧ Below w.heap.size w1 X)
      (fun _ _ _ => False)
      (OwnFrom.and (OwnFrom.and (OwnFrom.and (ownFrom_heap _ _ (fun _ => _) (fun _ => rfl)) (ownFrom_heap _ _ (fun _ => _) (fun _ => rfl))) (ownFrom_steps _ g n m t (fun (pre : List (Fin nm)) c => ∃ y ∈ pre, y.val = c / 4) N)) (ownFrom_below KB.out.size KB.out.size))
      (fun _ _ _ _ _ hs _ _ => hs)
      ⟨⟨⟨K1.out, K2.out⟩, K4.out⟩, Below.refl _ _⟩
      (fun x a' X => ∃ Bx, W.heap.size + 1 ≤ Bx ∧ X.heap[Bx]? = some (.cells #[.int .i64 ((x.val / m : Nat) : Int), .int .i64 ((x.val % m : Nat) : Int)] 97 (0, 0)) ∧ ∃ u0 u1 u2 u5 u6 u7 u8 u9 u10 u11 u12 u13 u14 u15 u16 u17 u18 u19 u20 u21 u22 u23 u24 u25 : Value,
        a' = { tmps := #[u0, u1, u2, .pointer (some ⟨b3, 0, none⟩), .pointer (some ⟨Bx, 0, none⟩), u5, u6, u7, u8, u9, u10, u11, u12, u13, u14, u15, u16, u17, u18, u19, u20, u21, u22, u23, u24, u25], defers := [] })
      (fun x a' _ X Y row hs hg hr => by
        obtain ⟨Bx, h1, h2, h3⟩ := hs
        exact ⟨Bx, h1, ownFrom_heap _ Bx (fun (_ : Unit) => Obj.cells #[.int .i64 ((x.val / m : Nat) : Int), .int .i64 ((x.val % m : Nat) : Int)] 97 (0, 0)) (fun _ => rfl) () X Y row h2 hg hr, h3⟩)
      ?assign ?body ?done ?stop
    case assign =>
      rintro l pre x X K ⟨⟨⟨i0, i1⟩, i2⟩, i3⟩ hK
      have J0 := hid i0
      have J1 := hid i1
      have J2 := hid i2
      have J3 := hid i3
      have JK := hid hK
      clear i0 i1 i2 i3 hK
      unfold encs
      obtain ⟨qv, hqv⟩ : ∃ qv : Int, ((x.val / m : Nat) : Int) = qv := ⟨_, rfl⟩
      obtain ⟨rv, hrv⟩ : ∃ rv : Int, ((x.val % m : Nat) : Int) = rv := ⟨_, rfl⟩
      rw [hqv, hrv] at JK ⊢
      have hsz : W.heap.size + 1 ≤ X.heap.size := by rw [← KS.out]; exact J3.out.size
      gi_wp2
      exact JK.out _ _ ((KeepsOthers.alloc _ _).from _) ⟨by simp, Below.heap_alloc _ _ _ (by omega)⟩
        ⟨⟨⟨(Below.heap_alloc _ _ _ (lt_of_block J0.out)).trans J0.out, (Below.heap_alloc _ _ _ (lt_of_block J1.out)).trans J1.out⟩, J2.out.below ((Below.refl _ _).alloc (Nat.le_refl _) _)⟩, J3.out.alloc (by have := LB.out.size; omega) _⟩
        ⟨X.heap.size, hsz, heap_new0 X _, _, _, _, _, _, _, _, _, _, _, _, _, _, _, _, _, _, _, _, _, _, _, _, _, rfl⟩
    case body =>
      rintro l pre x a' X hlw ⟨r, hr⟩ ⟨⟨⟨i0, i1⟩, i2⟩, i3⟩ ⟨Bx, hBx, hX, u0, u1, u2, u5, u6, u7, u8, u9, u10, u11, u12, u13, u14, u15, u16, u17, u18, u19, u20, u21, u22, u23, u24, u25, rfl⟩ hlt
      have hxk := x.isLt
      have HWY := hid (fun d (hd : d < 4) => wayN_cell (m := m) (c := x.val) hd)
      obtain ⟨xv, hxv⟩ : ∃ xv, x.val = xv := ⟨_, rfl⟩
      have HXV := hid hxv
      rw [hxv] at hX hxk HWY
      obtain ⟨qv, hqv⟩ : ∃ qv : Int, ((xv / m : Nat) : Int) = qv := ⟨_, rfl⟩
      obtain ⟨rv, hrv⟩ : ∃ rv : Int, ((xv % m : Nat) : Int) = rv := ⟨_, rfl⟩
      rw [hqv, hrv] at hX HWY
      have J0 := hid i0
      have J1 := hid i1
      have J2 := hid i2
      have J3 := hid i3
      have JX := hid hX
      have HX4 := hid (show 4 * xv + 3 < N by omega)
      have JSZ := hid (show W.heap.size + 1 ≤ X.heap.size by rw [← KS.out]; exact i3.size)
      clear i0 i1 i2 i3 hX hqv hrv hxv hr hlt hxk
      gi_wp2
      gi_loopw [16] (LinkRel g n m t (fun c => ∃ y ∈ pre, y.val = c / 4) xv N X) (fun i _ => 4 - (intOf i).toNat)
      case atStart => exact ⟨0, by omega, rfl, J2.out.congr fun c _ => ⟨.inl, fun h => h.resolve_right (fun h => by omega)⟩, But.refl _ _⟩
      case round =>
        obtain ⟨h, hh, rfl, hst, hbut⟩ := hrel
        have HST := hid hst
        have HBT := hid hbut
        clear hst hbut
        by_cases h4 : h < 4
        · have R3 := hid ((HBT.out.block _ (lt_of_block J1.out) LNE.out).trans J1.out)
          have RX := hid ((HBT.out.block _ (lt_of_block JX.out) (by have := KG.out; omega)).trans JX.out)
          have hlk := hid (HLK.out (4 * xv + h) _ wr (by have := HX4.out; omega) HST.out)
          rw [HWY.out h h4] at hlk
          unfold wayV at hlk
          have hhi : (h : Int) < 4 := by omega
          gi_wp2_with (first
            | refine wpListIn_load_row (Open.round _ l) rfl 53 _ rfl b3 rfl 53 (chartC gc g N) (0, 0) _ R3.out Tryd.underlying53 rfl (HCS.out g) ?_
            | refine wpListIn_load_row (Open.round _ l) rfl 97 _ rfl Bx rfl 97 #[.int .i64 qv, .int .i64 rv] (0, 0) _ RX.out Tryd.underlying97 rfl Tryd.size_place ?_)
          refine ⟨trivial, CallsIn.inRound l (callsIn_wide.2 (hlk.out.mono ?_))⟩
          rintro e w3 ⟨rfl, hb3, hs3⟩
          have HB3 := hid (HBT.out.trans hb3)
          have HS3 := hid hs3
          clear hb3 hs3
          gi_wp2
          go_roundw
          case rel =>
            refine ⟨h + 1, by omega, by go_num, HS3.out.congr fun c _ => ?_, HB3.out⟩
            constructor
            · rintro ((h1 | ⟨h1, h2⟩) | h1)
              · exact .inl h1
              · exact .inr ⟨h1, by omega⟩
              · exact .inr ⟨by omega, by omega⟩
            · rintro (h1 | ⟨h1, h2⟩)
              · exact .inl (.inl h1)
              · rcases Nat.lt_or_ge (c % 4) h with h3 | h3
                · exact .inl (.inr ⟨h1, h3⟩)
                · exact .inr (by omega)
          case measure => simp [intOf]; omega
        · obtain rfl : h = 4 := by omega
          gi_wp2
          refine ⟨KeepsFrom.of_grownBy (but_grownN HBT.out) (fun j e => by cases e; rw [KS.out]; have := KG.out; omega), ⟨HBT.out.size, HBT.out.block _ (by have := JSZ.out; omega) (by have := KG.out; omega)⟩, ⟨⟨?_, ?_⟩, ?_⟩, ?_⟩
          · exact (HBT.out.block _ (lt_of_block J0.out) (by have := LG.out; omega)).trans J0.out
          · exact (HBT.out.block _ (lt_of_block J1.out) LNE.out).trans J1.out
          · refine HST.out.congr fun c _ => ?_
            constructor
            · rintro (⟨y, hy, h1⟩ | ⟨h1, _⟩)
              · exact ⟨y, by simp [hy], h1⟩
              · exact ⟨x, by simp, by rw [HXV.out]; exact h1.symm⟩
            · rintro ⟨y, hy, h1⟩
              simp only [List.mem_append, List.mem_singleton] at hy
              rcases hy with hy | rfl
              · exact .inl ⟨y, hy, h1⟩
              · exact .inr ⟨by rw [← HXV.out]; exact h1.symm, Nat.mod_lt _ (by decide)⟩
          · exact J3.out.trans (HBT.out.below (by have := LG.out; omega) (by have := J3.out.size; have := KB.out.size; omega))
    case done =>
      rintro D xs X hD rfl ⟨⟨⟨i0, i1⟩, i2⟩, i3⟩ hK
      have J0 := hid i0
      have J1 := hid i1
      have J2 := hid i2
      have J3 := hid i3
      have JK := hid hK
      clear i0 i1 i2 i3 hK
      gi_wp2_with (first
        | refine wpListIn_load_row (Open.wide _) rfl 53 _ rfl b3 rfl 53 (chartC gc g N) (0, 0) _ J1.out Tryd.underlying53 rfl (HCS.out g) ?_
        | refine wpListIn_store_row (Open.wide _) rfl 53 _ _ rfl (w.heap.size + 1) (chartC gc g N) rfl rfl 53 zeroK J0.out (HCS.out g) (by rw [chartC_size HZ.out]; rfl) (HCO.out g) ?_)
      have hne : w.heap.size + 1 ≠ D := by have := LS.out; rw [KS.out] at hD; omega
      have hgD : g ≠ D := by have := KG.out; rw [KS.out] at hD; omega
      have hK' : (X.setRow (w.heap.size + 1) (chartC gc g N)).heap[D]? = some (.deferred (some [])) := by
        rw [setRow_other _ _ _ _ (fun e => hne e.symm)]; exact JK.out
      refine ⟨by simp, .inl ⟨_, _, rfl, run_takeDeferred hK', ?_⟩⟩
      refine ⟨_, results_cell_row Tryd.results29 _ _ (w.heap.size + 1) 53 _ (0, 0) _ (by rfl) ((World.putObj_heap_other hne).trans (setRow_heap _ _ _ _ _ _ J0.out)) Tryd.underlying53 rfl (HCS.out g), ?_⟩
      refine ⟨g, by have := LG.out; omega, rfl, ?_, ?_⟩
      · rw [HLET.out]
        refine (J2.out.congr (M' := fun _ => True) fun c hc => ⟨fun _ => trivial, fun _ => ?_⟩).keep ((World.putObj_heap_other hgD).trans (setRow_other X _ g _ (by have := LG.out; omega)))
        exact ⟨⟨c / 4, by omega⟩, List.mem_finRange _, rfl⟩
      · exact (KB.out.trans (below_setRow' J3.out (by omega) _)).trans (belowK_b (w := w) (Nat.le_refl _) _ D _ _ (by have := LB.out.size; rw [KS.out] at hD; omega) hK' rfl rfl)
    case stop =>
      rintro D c pre X _ _ h _
      exact h.elim

end Go.Proofs.YtongjijkdjagdaaDoor
