/- The iterator over the cells of a grid: all cells in the order of their numbers, or a part where a round has said no more. -/
import Derived.Test.YtmdgbcepjnfbnaaCells1
import Derived.RangeFuncNested
import Derived.RangeFuncBound
import Derived.RangeFuncLeaves
import Derived.RangeFuncBox
import Derived.Shelf.Abstract
import Derived.Shelf.RegionOpen
import Derived.OwnWalkIn
import Derived.TacticsInMore
import Derived.LoopNIn
import Derived.LoopIn
namespace Go.Proofs.Ytmdgbcepjnfbnaa
open Go.RowKit Go.Shelf
attribute [local go_sem] Oper.semAt_some

/-- What yield is handed for a cell. -/
def encs (N m : Nat) (ls : List UInt8) (x : Fin N) : Array Value := #[.agg #[.int .i64 ((x.val / m : Nat) : Int), .int .i64 ((x.val % m : Nat) : Int)], .int .u8 ((ls.getD x.val 0).toNat : Int)]
/-- The first k cells. -/
def upto (N k : Nat) : List (Fin N) := (List.finRange N).take k
theorem upto_zero (N : Nat) : upto N 0 = [] := by simp [upto]
theorem upto_all (N : Nat) : upto N N = List.finRange N := List.take_of_length_le (by simp)
theorem upto_succ {N k : Nat} (h : k < N) : upto N (k + 1) = upto N k ++ [⟨k, h⟩] := by
  unfold upto
  rw [List.take_succ_eq_append_getElem (by simpa using h)]
  simp
theorem upto_length {N k : Nat} (h : k ≤ N) : (upto N k).length = k := by simp [upto]; omega
theorem upto_val {N k : Nat} (h : k ≤ N) : (upto N k).map (·.val) = List.range k := by
  apply List.ext_getElem
  · simp [upto_length h]
  · intro i h1 h2
    simp [upto]
/-- The worlds that are as wr was, with new blocks. -/
def Cls (wr w' : World) : Prop := Below wr.heap.size wr w'
theorem Cls.grown {wr w' : World} (h : Cls wr w') : wr.grownBy w' none := ⟨h.os, h.tape, h.output, h.size, fun i hi _ => h.block i hi⟩

/-- What a round must keep for the iterator: the block in which its grid lies. -/
def KeepsAt (g : Nat) (W W' : World) : Prop := W.heap.size ≤ W'.heap.size ∧ W'.heap[g]? = W.heap[g]?
theorem KeepsAt.trans {g : Nat} {A B C : World} (h : KeepsAt g A B) (k : KeepsAt g B C) : KeepsAt g A C := ⟨Nat.le_trans h.1 k.1, k.2.trans h.2⟩
theorem KeepsAt.below {g n : Nat} {A B : World} (h : Below n A B) (hg : g < n) : KeepsAt g A B := ⟨h.size, h.block g hg⟩
theorem keepsAt_b {g : Nat} {w : World} (hg : g < w.heap.size) (W : World) (l : Nat) (o o' : Obj) (hl : w.heap.size ≤ l) (_ : W.heap[l]? = some o) (_ : o.isCells = false) (_ : o.isWalk = false) : KeepsAt g W (W.putObj l o') :=
  ⟨by simp, World.putObj_heap_other (by omega)⟩
def IterRel (N g : Nat) (J : List (Fin N) → World → Prop) (W : World) (i : Value) (wr : World) : Prop :=
  ∃ k : Nat, k ≤ N ∧ i = .int .i64 k ∧ J (upto N k) wr ∧ KeepsAt g W wr
theorem abide_below {α : Type} {J : List α → World → Prop} {B : Nat} (hJ : AbidesFrom B J) {pre : List α} {A A' : World} (h : J pre A) (hb : Below A.heap.size A A') : J pre A' :=
  hJ pre A A' none h ⟨hb.os, hb.tape, hb.output, hb.size, fun i hi _ => hb.block i hi⟩ (fun r e => by cases e)

set_option maxRecDepth 100000 in
set_option maxHeartbeats 2000000 in
theorem cells1_in (d l Bg n m N : Nat) (hN : N = n * m) (ls : List UInt8) (hl : ls.length = 25) (hn : n ≤ 5) (hm : 1 ≤ m) (hm5 : m ≤ 5) (J Jx : List (Fin N) → World → Prop) (W : World) (hb : Bg < W.heap.size)
    (hJ : AbidesFrom W.heap.size J)
    (hY : ∀ pre x W1, J pre W1 → pre.length < N → YieldAt Fence.wide (d - 1) Try.prog l (encs N m ls x) W1 fun e W' =>
      (e = .returned (.bool true) ∧ J (pre ++ [x]) W' ∧ KeepsAt Bg W1 W') ∨ (e = .returned (.bool false) ∧ Jx (pre ++ [x]) W'))
    (hBg : W.heap[Bg]? = some (.cells (gcells n m ls) 57 (0, 0))) (h0 : J [] W) :
    CallsIn Fence.wide d Try.prog 132 #[.func (.yield l) #[] #[], .pointer (some ⟨Bg, 0, none⟩)] W fun e W' => (∃ v, e = .returned v) ∧
      ((∃ ys, ys = List.finRange N ∧ J ys W') ∨ (∃ pre, (∃ k, k ≤ N ∧ pre = upto N k) ∧ Jx pre W')) := by
  have hnm : N ≤ 5 * 5 := by rw [hN]; exact Nat.mul_le_mul hn hm5
  have HS := hid (size_any n m ls)
  have HG := hid (show (Try.prog.info? 57).map (·.size) = some (gcells n m ls).size by rw [gcells_size hl]; exact Try.size_grid)
  have HB := hid hBg
  clear hBg
  refine callsIn_of_wp Try.func132 rfl trivial ?_ rfl
  simp only [Try.ntmps132, List.size_toArray, List.length_cons, List.length_nil, Nat.reduceAdd, Nat.reduceSub, Array.replicate_succ, Array.replicate_zero, List.push_toArray, List.append_toArray, List.nil_append, List.cons_append]
  gi_wp2_with (refine wpListIn_load_row (Open.wide _) rfl 57 _ rfl Bg rfl 57 (gcells n m ls) (0, 0) _ HB.out Try.underlying57 rfl HG.out ?_)
  refine ⟨trivial, (fun h => by cases h), callsIn_wide.2 ((HS.out W hn hm5).mono ?_)⟩
  rintro e w1 ⟨rfl, hbel⟩
  have HL := hid hbel
  have hJ1 := hid (abide_below hJ h0 hbel)
  have HJ := hid hJ
  have HY := hid hY
  clear hbel h0 hJ hY
  have HN := hid hN
  have hNi : ((n * m : Nat) : Int) = (N : Int) := by rw [hN]
  rw [hNi]
  clear hN hNi
  gi_wp2
  gi_loopw [6] (IterRel N Bg J W) (fun i _ => N - (intOf i).toNat)
  case atStart => exact ⟨0, Nat.zero_le _, rfl, by rw [upto_zero]; exact hJ1.out, KeepsAt.below HL.out hb⟩
  case round =>
    obtain ⟨k, hk, rfl, hJk, hbk⟩ := hrel
    have HK := hid hJk
    have HB2 := hid hbk
    clear hJk hbk
    by_cases hlt : k < N
    · gi_wp2
      refine wpIn_region_quiet_tail (Open.wide _) 8 (Cls wr) (by kernel_rfl) (by kernel_rfl) (Below.refl _ wr).drew ?_
      simp only [List.take_succ_cons, List.take_zero, List.drop_succ_cons, List.drop_zero]
      have hk25 : k < 25 := by omega
      have hki : (k : Int) < 25 := by omega
      have hki0 : 0 ≤ (k : Int) := by omega
      have hrow : ∀ w', Cls wr w' → w'.heap[Bg]? = some (.cells (gcells n m ls) 57 (0, 0)) := fun w' hw => by
        have hlt : Bg < wr.heap.size := Nat.lt_of_lt_of_le hb HB2.out.1
        exact (hw.block Bg hlt).trans (HB2.out.2.trans HB.out)
      have hcell : ∀ w', Cls wr w' → w'.cell? ⟨Bg, 2 + k, none⟩ = some (.int .u8 ((ls.getD k 0).toNat : Int)) := fun w' hw => by
        rw [cell_of_row _ _ _ _ _ _ (hrow w' hw)]
        refine gcells_at ?_
        rw [List.getD_eq_getElem?_getD, List.getElem?_eq_getElem (by omega)]; rfl
      have hpl : ∀ w', Cls wr w' → Calls Try.prog 71 #[.agg (gcells n m ls), .int .i64 k] w' fun e w'' => e = .returned (.agg #[.int .i64 ((k / m : Nat) : Int), .int .i64 ((k % m : Nat) : Int)]) ∧ Cls wr w'' := fun w' hw =>
        (place_any n m k ls w' hm hm5 hk25).mono fun e w'' ⟨he, hb'⟩ => ⟨he, hw.trans (hb'.mono hw.size)⟩
      obtain ⟨bv, hbv⟩ : ∃ bv : Int, ((ls.getD k 0).toNat : Int) = bv := ⟨_, rfl⟩
      obtain ⟨qv, hqv⟩ : ∃ qv : Int, ((k / m : Nat) : Int) = qv := ⟨_, rfl⟩
      obtain ⟨rv, hrv⟩ : ∃ rv : Int, ((k % m : Nat) : Int) = rv := ⟨_, rfl⟩
      have hen : encs N m ls ⟨k, hlt⟩ = #[.agg #[.int .i64 qv, .int .i64 rv], .int .u8 bv] := by unfold encs; rw [hbv, hqv, hrv]
      rw [hbv] at hcell
      rw [hqv, hrv] at hpl
      have HEN := hid hen
      clear hbv hqv hrv hen
      have HR := hid hrow
      have HC := hid hcell
      have HP := hid hpl
      clear hrow hcell hpl
      quiet_step ((intro _; rfl))
      refine wpQuiet_load_row rfl 57 _ rfl Bg rfl 57 (gcells n m ls) (0, 0) _ HR.out Try.underlying57 rfl HG.out ?_
      quiet_step ((intro _; rfl))
      refine wpQuiet_call rfl 71 #[.agg (gcells n m ls), .int .i64 k] (.agg #[.int .i64 qv, .int .i64 rv]) (fun w _ => by go_simp) HP.out ?_
      quiet_step ((intro _; rfl))
      quiet_step ((intro _; rfl))
      quiet_step ((intro _; rfl))
      refine wpQuiet_value rfl (.int .u8 bv) (fun w hw => by have hc := HC.out w hw; go_simp) ?_
      refine wpQuiet_nil ?_
      intro w2 hw2
      obtain ⟨fn, tmps, assign, body, hy, hyR⟩ := HY.out (upto N k) ⟨k, hlt⟩ w2 (abide_below HJ.out HK.out hw2) (by rw [upto_length hk]; exact hlt)
      rw [HEN.out] at hy
      have HW := hid hw2
      clear hw2
      gi_wp2
      refine ⟨(fun h => by cases h), hyR.mono ?_⟩
      rintro e W3 (⟨rfl, hJ3, hk3⟩ | ⟨rfl, hJx3⟩)
      · have H3 := hid hJ3
        have H4 := hid (HB2.out.trans ((KeepsAt.below HW.out (Nat.lt_of_lt_of_le hb HB2.out.1)).trans hk3))
        clear hJ3 hk3
        gi_wp2
        go_roundw
        case rel => exact ⟨k + 1, by omega, by go_num, by rw [upto_succ hlt]; exact H3.out, H4.out⟩
        case measure => simp [intOf]; omega
      · have H3 := hid hJx3
        clear hJx3
        gi_wp2
        refine bodyPost_ret (results_none rfl _ _ _) rfl ?_
        exact ⟨⟨_, rfl⟩, .inr ⟨_, ⟨k + 1, by omega, rfl⟩, by rw [upto_succ hlt]; exact H3.out⟩⟩
    · obtain rfl : k = N := by omega
      gi_wp2
      go_end0
      exact ⟨⟨_, rfl⟩, .inl ⟨_, rfl, by rw [← upto_all]; exact HK.out⟩⟩

/-- The iterator's contract, for the law on loops over iterators. -/
theorem cells_stops (d Bg n m N : Nat) (hN : N = n * m) (ls : List UInt8) (hl : ls.length = 25) (hn : n ≤ 5) (hm : 1 ≤ m) (hm5 : m ≤ 5) (w : World) (hBg : w.heap[Bg]? = some (.cells (gcells n m ls) 57 (0, 0))) :
    SeqStopsK Fence.wide d Try.prog 132 #[.pointer (some ⟨Bg, 0, none⟩)] (encs N m ls) (KeepsAt Bg) (fun xs => xs = List.finRange N) (fun pre => ∃ k, k ≤ N ∧ pre = upto N k) N w := fun l J Jx W hW hJ _ hY h0 => by
  have hb := lt_of_block hBg
  exact cells1_in d l Bg n m N hN ls hl hn hm hm5 J Jx W (Nat.lt_of_lt_of_le hb hW.size) hJ hY ((hW.block Bg hb).trans hBg) h0

/-- What is put at which place, cell by cell. -/
def putAll {N : Nat} (pos : Nat → Nat) (val : Nat → UInt8) (ks : List (Fin N)) (acc : List UInt8) : List UInt8 := ks.foldl (fun a k => a.set (pos k.val) (val k.val)) acc
theorem putAll_nil {N : Nat} (pos : Nat → Nat) (val : Nat → UInt8) (acc : List UInt8) : putAll (N := N) pos val [] acc = acc := rfl
theorem putAll_snoc {N : Nat} (pos : Nat → Nat) (val : Nat → UInt8) (ks : List (Fin N)) (k : Fin N) (acc : List UInt8) : putAll pos val (ks ++ [k]) acc = (putAll pos val ks acc).set (pos k.val) (val k.val) := by simp [putAll]
theorem putAll_length {N : Nat} (pos : Nat → Nat) (val : Nat → UInt8) (ks : List (Fin N)) (acc : List UInt8) : (putAll pos val ks acc).length = acc.length := by
  unfold putAll
  induction ks generalizing acc with
  | nil => rfl
  | cons k ks ih => rw [List.foldl_cons, ih, List.length_set]

/-- A block of cells lies as it lay while other objects are turned. -/
theorem ownFrom_heap {β : Type} (B b : Nat) (o : β → Obj) (ho : ∀ s, (o s).isCells = true) : OwnFrom B (fun s W => W.heap[b]? = some (o s)) := fun s W W' row hs hg hr => by
  refine (hg.block b (lt_of_block hs) (fun e => ?_)).trans hs
  obtain ⟨_, o', ho', hc⟩ := hr b e.symm
  rw [hs] at ho'
  cases ho'
  rw [ho s] at hc
  cases hc

/-- A loop's book-keeping over what a round does: new blocks, whole structs written. -/
theorem keeps_below {W W' : World} (h : Below W.heap.size W W') : KeepsOthers W W' := ⟨h.size, fun _ _ hk _ => (h.block _ (lt_of_block hk)).trans hk⟩
theorem keeps_setRow (W : World) (g : Nat) (cs : Array Value) : KeepsOthers W (W.setRow g cs) := by
  refine ⟨by simp, fun k o hk ho => ?_⟩
  by_cases e : k = g
  · subst e
    simp only [World.setRow, Array.getElem?_modify]
    rw [hk]
    cases o <;> simp_all [Obj.isCells]
  · rw [setRow_other _ _ _ _ e]; exact hk

end Go.Proofs.Ytmdgbcepjnfbnaa
