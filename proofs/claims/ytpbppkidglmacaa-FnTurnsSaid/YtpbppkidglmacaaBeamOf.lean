/- The beam of a port, as its two ports; two beams compared; a region that draws its order and holds guarded operations. -/
import Derived.Test.YtpbppkidglmacaaTimes
import Derived.Test.YtpbppkidglmacaaPort
import Derived.Test.YtpbppkidglmacaaBunG
namespace Go.Proofs.Ytpbppkidglmacaa
open Go.RowKit Go.Shelf

theorem Try.size_beam : (Try.prog.info? 106).map (·.size) = some 2 := by kernel_rfl
def beamC (p b : Nat) : Array Value := #[.int .i64 (if (p : Int) < (b : Int) then (p : Int) else (b : Int)), .int .i64 (if (p : Int) < (b : Int) then (b : Int) else (p : Int))]

set_option maxRecDepth 100000 in
set_option maxHeartbeats 2000000 in
theorem beam_any (n m p : Nat) (ls : List UInt8) (w : World) (hl : ls.length = 25) (hn1 : 1 ≤ n) (hn : n ≤ 5) (hm1 : 1 ≤ m) (hm : m ≤ 5) (hp : p < 2 * (n + m)) :
    Calls Try.prog 96 #[.agg (gcells n m ls), .int .i64 p] w fun e w' => e = .returned (.agg (beamC p (bend_ n m (lett m ls) p))) ∧ Below w.heap.size w w' := by
  have HP := hid (fun w' => partner_any n m p ls w' hl hn1 hn hm1 hm hp)
  have HG := hid (show (Try.prog.info? 44).map (·.size) = some (gcells n m ls).size by rw [gcells_size hl]; exact Try.size_grid)
  have H0 := hid (fun o => heap_new1 w (.cells (gcells n m ls) 44) o)
  generalize gcells n m ls = cs at *
  generalize bend_ n m (lett m ls) p = bp at *
  clear hl hn1 hn hm1 hm hp
  go_enter Try.func96, Try.ntmps96
  go_wp2_with (refine wpList_load_row rfl 44 _ rfl w.heap.size rfl 44 cs (0, 0) _ (H0.out _) Try.underlying44 rfl HG.out ?_)
  refine (HP.out _).mono ?_
  rintro e w1 ⟨rfl, hb⟩
  have HB := hid (show Below w.heap.size w w1 from (((Below.refl _ w).alloc (Nat.le_refl _) _).alloc (by simp) _).trans (hb.mono (by simp; omega)))
  have HR := hid (show w1.heap[w.heap.size + 1]? = some (.cells #[.int .i64 0, .int .i64 0] 106 (0, 0)) from (hb.block _ (by simp)).trans (by simpa using heap_new0 (w.alloc (.cells cs 44)) (.cells #[.int .i64 0, .int .i64 0] 106)))
  clear hb
  have fin : ∀ x y : Int, (#[.int .i64 x, .int .i64 y] : Array Value) = beamC p bp → ∀ tmps : Array Value, tmps.getD 4 undef = .pointer (some ⟨w.heap.size + 1, 0, none⟩) →
      bodyPost Try.prog Try.f96 (fun e w' => e = .returned (.agg (beamC p bp)) ∧ Below w.heap.size w w') .ret { tmps := tmps, defers := [] } ((w1.setCell ⟨w.heap.size + 1, 0, none⟩ (.int .i64 x)).setCell ⟨w.heap.size + 1, 1, none⟩ (.int .i64 y)) := fun x y hxy tmps ht => by
    have r1 := heap_setCell_same _ _ 1 _ _ (.int .i64 y) (heap_setCell_same _ _ 0 _ _ (.int .i64 x) HR.out)
    refine bodyPost_ret (results_cell_row Try.results96 _ _ (w.heap.size + 1) 106 #[.int .i64 x, .int .i64 y] (0, 0) _ ht r1 Try.underlying106 rfl Try.size_beam) rfl ?_
    exact ⟨by rw [hxy], (HB.out.setCell (by show w.heap.size ≤ w.heap.size + 1; omega) _).setCell (by show w.heap.size ≤ w.heap.size + 1; omega) _⟩
  have k0 : w1.cell? ⟨w.heap.size + 1, 0, none⟩ = some (.int .i64 0) := by rw [cell_of_row _ _ _ _ _ _ HR.out]; rfl
  have k1 : w1.cell? ⟨w.heap.size + 1, 1, none⟩ = some (.int .i64 0) := by rw [cell_of_row _ _ _ _ _ _ HR.out]; rfl
  have f0 : w1.frozen? ⟨w.heap.size + 1, 0, none⟩ = false := frozen_of_row _ _ _ _ _ HR.out
  have f1 : w1.frozen? ⟨w.heap.size + 1, 1, none⟩ = false := frozen_of_row _ _ _ _ _ HR.out
  by_cases hlt : (p : Int) < (bp : Int)
  · have hE := hid (show (#[.int .i64 (p : Int), .int .i64 (bp : Int)] : Array Value) = beamC p bp by unfold beamC; rw [if_pos hlt, if_pos hlt])
    go_wp2_with fail
    refine fin _ _ hE.out _ ?_; rfl
  · have hE := hid (show (#[.int .i64 (bp : Int), .int .i64 (p : Int)] : Array Value) = beamC p bp by unfold beamC; rw [if_neg hlt, if_neg hlt])
    have hle : (bp : Int) ≤ (p : Int) := by omega
    by_cases hl2 : (bp : Int) < (p : Int)
    · go_wp2_with fail
      refine fin _ _ hE.out _ ?_; rfl
    · obtain rfl : bp = p := by omega
      go_wp2_with fail
      refine fin _ _ hE.out _ ?_; rfl

/-- Two beams are the same just if they have an end in common. -/
def loC (p b : Nat) : Int := if (p : Int) < (b : Int) then (p : Int) else (b : Int)
def hiC (p b : Nat) : Int := if (p : Int) < (b : Int) then (b : Int) else (p : Int)
theorem beamC_eq (p b : Nat) : beamC p b = #[.int .i64 (loC p b), .int .i64 (hiC p b)] := rfl
theorem beam_same {p q P Q : Nat} (h : p = q → P = Q) (h1 : P = q → Q = p) : decide (loC p P = loC q Q ∧ hiC p P = hiC q Q) = decide (p = q ∨ P = q) := by
  rw [decide_eq_decide]
  unfold loC hiC
  constructor
  · rintro ⟨a, b⟩
    split at a <;> split at a <;> simp_all <;> omega
  · rintro (e | e)
    · have := h e
      subst e
      subst this
      exact ⟨rfl, rfl⟩
    · have := h1 e
      subst e
      subst this
      constructor <;> split <;> split <;> omega

theorem run_eq_beam (ac : Act) (x y : Operand) (a b c d : Int) (w : World) (hx : ac.eval x = .agg #[.int .i64 a, .int .i64 b]) (hy : ac.eval y = .agg #[.int .i64 c, .int .i64 d]) (o : Oper) (ho : o.op = Op.binOp .eql 106 x y 106) :
    (execOp ac.eval o).run Try.prog w = .ok (.value (.bool (decide (a = c ∧ b = d)))) w := by
  unfold execOp
  simp only [ho, hx, hy]
  go_simp
  by_cases h1 : a = c <;> by_cases h2 : b = d <;> simp [h1, h2]
end Go.Proofs.Ytpbppkidglmacaa
