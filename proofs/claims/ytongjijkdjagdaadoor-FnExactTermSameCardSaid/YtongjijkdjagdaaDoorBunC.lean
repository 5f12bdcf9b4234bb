/- Settled texts in one file. Each begins with what it holds. -/
import Derived.Test.YtongjijkdjagdaaDoorBunA
import Derived.RegionTactic
import Derived.RangeFuncNested
import Derived.RangeFuncBound
import Derived.RangeFuncLeaves
import Derived.RangeFuncBox
import Derived.Shelf.Abstract
import Derived.Shelf.RegionOpen
import Derived.OwnWalkIn
import Derived.TacticsInMore
import Derived.LoopNIn
import Derived.LoopIn
import Derived.Laws.BytesArg
import Derived.RangeFuncFrom
import Derived.Deep.LoopGhost
/- The grid's small methods: size, place, and cells, which hands back the iterator. -/
namespace Go.Proofs.YtongjijkdjagdaaDoor
open Go.RowKit

set_option maxHeartbeats 400000 in
theorem size_any (n m : Nat) (ls : List UInt8) (w : World) (hn : n ≤ 5) (hm : m ≤ 5) :
    Calls Tryd.prog 53 #[.agg (gcells n m ls)] w fun e w' => e = .returned (.int .i64 ((n * m : Nat) : Int)) ∧ Below w.heap.size w w' := by
  have h0 := gcells_0 n m ls
  have h1 := gcells_1 n m ls
  have hnm : n * m ≤ 5 * 5 := Nat.mul_le_mul hn hm
  have hi : (n : Int) * (m : Int) = ((n * m : Nat) : Int) := by simp
  have hi1 : 0 ≤ (n : Int) * (m : Int) := by rw [hi]; omega
  have hi2 : (n : Int) * (m : Int) ≤ 25 := by rw [hi]; omega
  have HI := hid hi
  clear hi hnm
  generalize gcells n m ls = cs at h0 h1
  go_enter Tryd.func53, Tryd.ntmps53
  go_wp2
  go_ret
  exact ⟨by rw [← HI.out]; rfl, (Below.refl _ w).alloc (Nat.le_refl _) _⟩

set_option maxHeartbeats 400000 in
theorem place_any (n m k : Nat) (ls : List UInt8) (w : World) (hm : 1 ≤ m) (hm5 : m ≤ 5) (hk : k < 25) :
    Calls Tryd.prog 70 #[.agg (gcells n m ls), .int .i64 k] w fun e w' => e = .returned (.agg #[.int .i64 ((k / m : Nat) : Int), .int .i64 ((k % m : Nat) : Int)]) ∧ Below w.heap.size w w' := by
  have h1 := gcells_1 n m ls
  have hm0 : (0 : Int) < (m : Int) := by omega
  have hmz : ((m : Int) == 0) = false := by simp; omega
  have q1 : 0 ≤ (k : Int) / (m : Int) := by rw [← Int.natCast_ediv]; exact Int.natCast_nonneg _
  have q2 : (k : Int) / (m : Int) < 25 := by
    rw [← Int.natCast_ediv]
    exact Int.ofNat_lt.2 (Nat.lt_of_le_of_lt (Nat.div_le_self k m) hk)
  generalize gcells n m ls = cs at h1
  go_enter Tryd.func70, Tryd.ntmps70
  go_wp2
  go_region
  go_wp2
  exact bodyPost_ret (v := .agg #[.int .i64 ((k / m : Nat) : Int), .int .i64 ((k % m : Nat) : Int)]) (by simp [results, Tryd.results70, go_sem]) rfl ⟨rfl, (((Below.refl _ w).alloc (Nat.le_refl _) _).alloc (by simp) _).drew⟩

set_option maxHeartbeats 400000 in
theorem cells_any (cs : Array Value) (w : World) :
    Calls Tryd.prog 54 #[.agg cs] w fun e w' => e = .returned (.func (.func 87) #[] #[.pointer (some ⟨w.heap.size, 0, none⟩)]) ∧ w' = w.alloc (.cells cs 39) := by
  go_enter Tryd.func54, Tryd.ntmps54
  go_wp2
  go_ret
  exact ⟨rfl, rfl⟩

end Go.Proofs.YtongjijkdjagdaaDoor

/- The iterator over the cells of a grid: all cells in the order of their numbers, or a part where a round has said no more. -/
namespace Go.Proofs.YtongjijkdjagdaaDoor
open Go.RowKit Go.Shelf
attribute [local go_sem] Oper.semAt_some

/-- What yield is handed for a cell. -/
def encs (N m : Nat) (ls : List UInt8) (x : Fin N) : Array Value := #[.agg #[.int .i64 ((x.val / m : Nat) : Int), .int .i64 ((x.val % m : Nat) : Int)], .int .u8 ((ls.getD x.val 0).toNat : Int)]
/-- The first k cells. -/
def upto (N k : Nat) : List (Fin N) := (List.finRange N).take k
theorem upto_zero (N : Nat) : upto N 0 = [] := by simp [upto]
theorem upto_all (N : Nat) : upto N N = List.finRange N := List.take_of_length_le (by simp)
theorem upto_succ {N k : Nat} (h : k < N) : upto N (k + 1) = upto N k ++ [⟨k, h⟩] := by
  unfold upto
  rw [List.take_succ_eq_append_getElem (by simpa using h)]
  simp
theorem upto_length {N k : Nat} (h : k ≤ N) : (upto N k).length = k := by simp [upto]; omega
theorem upto_val {N k : Nat} (h : k ≤ N) : (upto N k).map (·.val) = List.range k := by
  apply List.ext_getElem
  · simp [upto_length h]
  · intro i h1 h2
    simp [upto]
/-- The worlds that are as wr was, with new blocks. -/
def Cls (wr w' : World) : Prop := Below wr.heap.size wr w'
theorem Cls.grown {wr w' : World} (h : Cls wr w') : wr.grownBy w' none := ⟨h.os, h.tape, h.output, h.size, fun i hi _ => h.block i hi⟩

/-- What a round must keep for the iterator: the block in which its grid lies. -/
def KeepsAt (g : Nat) (W W' : World) : Prop := W.heap.size ≤ W'.heap.size ∧ W'.heap[g]? = W.heap[g]?
theorem KeepsAt.trans {g : Nat} {A B C : World} (h : KeepsAt g A B) (k : KeepsAt g B C) : KeepsAt g A C := ⟨Nat.le_trans h.1 k.1, k.2.trans h.2⟩
theorem KeepsAt.below {g n : Nat} {A B : World} (h : Below n A B) (hg : g < n) : KeepsAt g A B := ⟨h.size, h.block g hg⟩
theorem keepsAt_b {g : Nat} {w : World} (hg : g < w.heap.size) (W : World) (l : Nat) (o o' : Obj) (hl : w.heap.size ≤ l) (_ : W.heap[l]? = some o) (_ : o.isCells = false) (_ : o.isWalk = false) : KeepsAt g W (W.putObj l o') :=
  ⟨by simp, World.putObj_heap_other (by omega)⟩
def IterRel (N g : Nat) (J : List (Fin N) → World → Prop) (W : World) (i : Value) (wr : World) : Prop :=
  ∃ k : Nat, k ≤ N ∧ i = .int .i64 k ∧ J (upto N k) wr ∧ KeepsAt g W wr
theorem abide_below {α : Type} {J : List α → World → Prop} {B : Nat} (hJ : AbidesFrom B J) {pre : List α} {A A' : World} (h : J pre A) (hb : Below A.heap.size A A') : J pre A' :=
  hJ pre A A' none h ⟨hb.os, hb.tape, hb.output, hb.size, fun i hi _ => hb.block i hi⟩ (fun r e => by cases e)

set_option maxRecDepth 100000 in
set_option maxHeartbeats 2000000 in
theorem cells1_in (d l Bg n m N : Nat) (hN : N = n * m) (ls : List UInt8) (hl : ls.length = 25) (hn : n ≤ 5) (hm : 1 ≤ m) (hm5 : m ≤ 5) (J Jx : List (Fin N) → World → Prop) (W : World) (hb : Bg < W.heap.size)
    (hJ : AbidesFrom W.heap.size J)
    (hY : ∀ pre x W1, J pre W1 → pre.length < N → YieldAt Fence.wide (d - 1) Tryd.prog l (encs N m ls x) W1 fun e W' =>
      (e = .returned (.bool true) ∧ J (pre ++ [x]) W' ∧ KeepsAt Bg W1 W') ∨ (e = .returned (.bool false) ∧ Jx (pre ++ [x]) W'))
    (hBg : W.heap[Bg]? = some (.cells (gcells n m ls) 39 (0, 0))) (h0 : J [] W) :
    CallsIn Fence.wide d Tryd.prog 87 #[.func (.yield l) #[] #[], .pointer (some ⟨Bg, 0, none⟩)] W fun e W' => (∃ v, e = .returned v) ∧
      ((∃ ys, ys = List.finRange N ∧ J ys W') ∨ (∃ pre, (∃ k, k ≤ N ∧ pre = upto N k) ∧ Jx pre W')) := by
  have hnm : N ≤ 5 * 5 := by rw [hN]; exact Nat.mul_le_mul hn hm5
  have HS := hid (size_any n m ls)
  have HG := hid (show (Tryd.prog.info? 39).map (·.size) = some (gcells n m ls).size by rw [gcells_size hl]; exact Tryd.size_grid)
  have HB := hid hBg
  clear hBg
  refine callsIn_of_wp Tryd.func87 rfl trivial ?_ rfl
  simp only [Tryd.ntmps87, List.size_toArray, List.length_cons, List.length_nil, Nat.reduceAdd, Nat.reduceSub, Array.replicate_succ, Array.replicate_zero, List.push_toArray, List.append_toArray, List.nil_append, List.cons_append]
  gi_wp2_with (refine wpListIn_load_row (Open.wide _) rfl 39 _ rfl Bg rfl 39 (gcells n m ls) (0, 0) _ HB.out Tryd.underlying39 rfl HG.out ?_)
  refine ⟨trivial, (fun h => by cases h), callsIn_wide.2 ((HS.out W hn hm5).mono ?_)⟩
  rintro e w1 ⟨rfl, hbel⟩
  have HL := hid hbel
  have hJ1 := hid (abide_below hJ h0 hbel)
  have HJ := hid hJ
  have HY := hid hY
  clear hbel h0 hJ hY
  have HN := hid hN
  have hNi : ((n * m : Nat) : Int) = (N : Int) := by rw [hN]
  rw [hNi]
  clear hN hNi
  gi_wp2
  gi_loopw [6] (IterRel N Bg J W) (fun i _ => N - (intOf i).toNat)
  case atStart => exact ⟨0, Nat.zero_le _, rfl, by rw [upto_zero]; exact hJ1.out, KeepsAt.below HL.out hb⟩
  case round =>
    obtain ⟨k, hk, rfl, hJk, hbk⟩ := hrel
    have HK := hid hJk
    have HB2 := hid hbk
    clear hJk hbk
    by_cases hlt : k < N
    · gi_wp2
      refine wpIn_region_quiet_tail (Open.wide _) 8 (Cls wr) (by kernel_rfl) (by kernel_rfl) (Below.refl _ wr).drew ?_
      simp only [List.take_succ_cons, List.take_zero, List.drop_succ_cons, List.drop_zero]
      have hk25 : k < 25 := by omega
      have hki : (k : Int) < 25 := by omega
      have hki0 : 0 ≤ (k : Int) := by omega
      have hrow : ∀ w', Cls wr w' → w'.heap[Bg]? = some (.cells (gcells n m ls) 39 (0, 0)) := fun w' hw => by
        have hlt : Bg < wr.heap.size := Nat.lt_of_lt_of_le hb HB2.out.1
        exact (hw.block Bg hlt).trans (HB2.out.2.trans HB.out)
      have hcell : ∀ w', Cls wr w' → w'.cell? ⟨Bg, 2 + k, none⟩ = some (.int .u8 ((ls.getD k 0).toNat : Int)) := fun w' hw => by
        rw [cell_of_row _ _ _ _ _ _ (hrow w' hw)]
        refine gcells_at ?_
        rw [List.getD_eq_getElem?_getD, List.getElem?_eq_getElem (by omega)]; rfl
      have hpl : ∀ w', Cls wr w' → Calls Tryd.prog 70 #[.agg (gcells n m ls), .int .i64 k] w' fun e w'' => e = .returned (.agg #[.int .i64 ((k / m : Nat) : Int), .int .i64 ((k % m : Nat) : Int)]) ∧ Cls wr w'' := fun w' hw =>
        (place_any n m k ls w' hm hm5 hk25).mono fun e w'' ⟨he, hb'⟩ => ⟨he, hw.trans (hb'.mono hw.size)⟩
      obtain ⟨bv, hbv⟩ : ∃ bv : Int, ((ls.getD k 0).toNat : Int) = bv := ⟨_, rfl⟩
      obtain ⟨qv, hqv⟩ : ∃ qv : Int, ((k / m : Nat) : Int) = qv := ⟨_, rfl⟩
      obtain ⟨rv, hrv⟩ : ∃ rv : Int, ((k % m : Nat) : Int) = rv := ⟨_, rfl⟩
      have hen : encs N m ls ⟨k, hlt⟩ = #[.agg #[.int .i64 qv, .int .i64 rv], .int .u8 bv] := by unfold encs; rw [hbv, hqv, hrv]
      rw [hbv] at hcell
      rw [hqv, hrv] at hpl
      have HEN := hid hen
      clear hbv hqv hrv hen
      have HR := hid hrow
      have HC := hid hcell
      have HP := hid hpl
      clear hrow hcell hpl
      quiet_step ((intro _; rfl))
      refine wpQuiet_load_row rfl 39 _ rfl Bg rfl 39 (gcells n m ls) (0, 0) _ HR.out Tryd.underlying39 rfl HG.out ?_
      quiet_step ((intro _; rfl))
      refine wpQuiet_call rfl 70 #[.agg (gcells n m ls), .int .i64 k] (.agg #[.int .i64 qv, .int .i64 rv]) (fun w _ => by go_simp) HP.out ?_
      quiet_step ((intro _; rfl))
      quiet_step ((intro _; rfl))
      quiet_step ((intro _; rfl))
      refine wpQuiet_value rfl (.int .u8 bv) (fun w hw => by have hc := HC.out w hw; go_simp) ?_
      refine wpQuiet_nil ?_
      intro w2 hw2
      obtain ⟨fn, tmps, assign, body, hy, hyR⟩ := HY.out (upto N k) ⟨k, hlt⟩ w2 (abide_below HJ.out HK.out hw2) (by rw [upto_length hk]; exact hlt)
      rw [HEN.out] at hy
      have HW := hid hw2
      clear hw2
      gi_wp2
      refine ⟨(fun h => by cases h), hyR.mono ?_⟩
      rintro e W3 (⟨rfl, hJ3, hk3⟩ | ⟨rfl, hJx3⟩)
      · have H3 := hid hJ3
        have H4 := hid (HB2.out.trans ((KeepsAt.below HW.out (Nat.lt_of_lt_of_le hb HB2.out.1)).trans hk3))
        clear hJ3 hk3
        gi_wp2
        go_roundw
        case rel => exact ⟨k + 1, by omega, by go_num, by rw [upto_succ hlt]; exact H3.out, H4.out⟩
        case measure => simp [intOf]; omega
      · have H3 := hid hJx3
        clear hJx3
        gi_wp2
        refine bodyPost_ret (results_none rfl _ _ _) rfl ?_
        exact ⟨⟨_, rfl⟩, .inr ⟨_, ⟨k + 1, by omega, rfl⟩, by rw [upto_succ hlt]; exact H3.out⟩⟩
    · obtain rfl : k = N := by omega
      gi_wp2
      go_end0
      exact ⟨⟨_, rfl⟩, .inl ⟨_, rfl, by rw [← upto_all]; exact HK.out⟩⟩

/-- The iterator's contract, for the law on loops over iterators. -/
theorem cells_stops (d Bg n m N : Nat) (hN : N = n * m) (ls : List UInt8) (hl : ls.length = 25) (hn : n ≤ 5) (hm : 1 ≤ m) (hm5 : m ≤ 5) (w : World) (hBg : w.heap[Bg]? = some (.cells (gcells n m ls) 39 (0, 0))) :
    SeqStopsK Fence.wide d Tryd.prog 87 #[.pointer (some ⟨Bg, 0, none⟩)] (encs N m ls) (KeepsAt Bg) (fun xs => xs = List.finRange N) (fun pre => ∃ k, k ≤ N ∧ pre = upto N k) N w := fun l J Jx W hW hJ _ hY h0 => by
  have hb := lt_of_block hBg
  exact cells1_in d l Bg n m N hN ls hl hn hm hm5 J Jx W (Nat.lt_of_lt_of_le hb hW.size) hJ hY ((hW.block Bg hb).trans hBg) h0

/-- What is put at which place, cell by cell. -/
def putAll {N : Nat} (pos : Nat → Nat) (val : Nat → UInt8) (ks : List (Fin N)) (acc : List UInt8) : List UInt8 := ks.foldl (fun a k => a.set (pos k.val) (val k.val)) acc
theorem putAll_nil {N : Nat} (pos : Nat → Nat) (val : Nat → UInt8) (acc : List UInt8) : putAll (N := N) pos val [] acc = acc := rfl
theorem putAll_snoc {N : Nat} (pos : Nat → Nat) (val : Nat → UInt8) (ks : List (Fin N)) (k : Fin N) (acc : List UInt8) : putAll pos val (ks ++ [k]) acc = (putAll pos val ks acc).set (pos k.val) (val k.val) := by simp [putAll]
theorem putAll_length {N : Nat} (pos : Nat → Nat) (val : Nat → UInt8) (ks : List (Fin N)) (acc : List UInt8) : (putAll pos val ks acc).length = acc.length := by
  unfold putAll
  induction ks generalizing acc with
  | nil => rfl
  | cons k ks ih => rw [List.foldl_cons, ih, List.length_set]

/-- A block of cells lies as it lay while other objects are turned. -/
theorem ownFrom_heap {β : Type} (B b : Nat) (o : β → Obj) (ho : ∀ s, (o s).isCells = true) : OwnFrom B (fun s W => W.heap[b]? = some (o s)) := fun s W W' row hs hg hr => by
  refine (hg.block b (lt_of_block hs) (fun e => ?_)).trans hs
  obtain ⟨_, o', ho', hc⟩ := hr b e.symm
  rw [hs] at ho'
  cases ho'
  rw [ho s] at hc
  cases hc

/-- A loop's book-keeping over what a round does: new blocks, whole structs written. -/
theorem keeps_below {W W' : World} (h : Below W.heap.size W W') : KeepsOthers W W' := ⟨h.size, fun _ _ hk _ => (h.block _ (lt_of_block hk)).trans hk⟩
theorem keeps_setRow (W : World) (g : Nat) (cs : Array Value) : KeepsOthers W (W.setRow g cs) := by
  refine ⟨by simp, fun k o hk ho => ?_⟩
  by_cases e : k = g
  · subst e
    simp only [World.setRow, Array.getElem?_modify]
    rw [hk]
    cases o <;> simp_all [Obj.isCells]
  · rw [setRow_other _ _ _ _ e]; exact hk

end Go.Proofs.YtongjijkdjagdaaDoor

/- The grid turned, by its contract. -/
namespace Go.Proofs.YtongjijkdjagdaaDoor
open Go.RowKit Go.Shelf
attribute [local go_sem] Oper.semAt_some

/-- The other letter. -/
def oth (b : UInt8) : UInt8 := if b = 114 then 102 else if b = 102 then 114 else b

set_option maxHeartbeats 400000 in
theorem exchanged_any (b : UInt8) (w : World) :
    Calls Tryd.prog 184 #[.int .u8 b.toNat] w fun e w' => e = .returned (.int .u8 (oth b).toNat) ∧ w = w' := by
  by_cases h1 : b = 114
  · subst h1
    change Calls Tryd.prog 184 #[.int .u8 114] w fun e w' => e = .returned (.int .u8 102) ∧ w = w'
    go_enter Tryd.func184, Tryd.ntmps184
    go_wp2
    go_ret
    exact ⟨rfl, rfl⟩
  by_cases h2 : b = 102
  · subst h2
    change Calls Tryd.prog 184 #[.int .u8 102] w fun e w' => e = .returned (.int .u8 114) ∧ w = w'
    go_enter Tryd.func184, Tryd.ntmps184
    go_wp2
    go_ret
    exact ⟨rfl, rfl⟩
  have e : oth b = b := by unfold oth; rw [if_neg h1, if_neg h2]
  have e1 : ((b.toNat : Int) == 114) = false := by
    rw [beq_eq_false_iff_ne]; intro e; exact h1 (UInt8.toNat_inj.1 (by have : (114 : UInt8).toNat = 114 := rfl; omega))
  have e2 : ((b.toNat : Int) == 102) = false := by
    rw [beq_eq_false_iff_ne]; intro e; exact h2 (UInt8.toNat_inj.1 (by have : (102 : UInt8).toNat = 102 := rfl; omega))
  rw [e]
  clear e h1 h2
  generalize (b.toNat : Int) = x at e1 e2
  go_enter Tryd.func184, Tryd.ntmps184
  go_wp2
  go_ret
  exact ⟨rfl, rfl⟩

/-- The letters of the grid turned. -/
def turnPos (n m k : Nat) : Nat := (k % m) * n + (n - 1 - k / m)
def turnVal (ls : List UInt8) (k : Nat) : UInt8 := oth (ls.getD k 0)

set_option maxRecDepth 100000 in
set_option maxHeartbeats 2000000 in
theorem turned_any (n m : Nat) (ls : List UInt8) (w : World) (hl : ls.length = 25) (hn : 1 ≤ n) (hn5 : n ≤ 5) (hm : 1 ≤ m) (hm5 : m ≤ 5) :
    Calls Tryd.prog 181 #[.agg (gcells n m ls)] w fun e w' => e = .returned (.agg (gcells m n (putAll (turnPos n m) (turnVal ls) (List.finRange (n * m)) (pad [])))) ∧ Below w.heap.size w w' := by
  refine (callsIn_wide (n := 3)).1 ?_
  have HG := hid (show (Tryd.prog.info? 39).map (·.size) = some (gcells n m ls).size by rw [gcells_size hl]; exact Tryd.size_grid)
  have HT := hid (show (Tryd.prog.info? 39).map (·.size) = some (gcells m n (pad [])).size by rw [gcells_size (by rfl)]; exact Tryd.size_grid)
  have g0 := gcells_0 n m ls
  have g1 := gcells_1 n m ls
  have F0 : ((((w.alloc (.cells (gcells n m ls) 39)).alloc (.cells zeroG 39)).alloc (.cells zeroG 39)).setRow (w.heap.size + 1 + 1) (gcells m n (pad []))).heap[w.heap.size]? = some (.cells (gcells n m ls) 39 (0, 0)) := by
    rw [setRow_other _ _ _ _ (by omega)]; exact heap_new2 w _ _ _
  have F1 : ((((w.alloc (.cells (gcells n m ls) 39)).alloc (.cells zeroG 39)).alloc (.cells zeroG 39)).setRow (w.heap.size + 1 + 1) (gcells m n (pad []))).heap[w.heap.size + 1]? = some (.cells zeroG 39 (0, 0)) := by
    rw [setRow_other _ _ _ _ (by omega)]; simpa using heap_new1 (w.alloc _) _ _
  have F2 : ((((w.alloc (.cells (gcells n m ls) 39)).alloc (.cells zeroG 39)).alloc (.cells zeroG 39)).setRow (w.heap.size + 1 + 1) (gcells m n (pad []))).heap[w.heap.size + 1 + 1]? = some (.cells (gcells m n (pad [])) 39 (0, 0)) :=
    setRow_heap _ _ zeroG _ _ _ (by simpa using heap_new0 ((w.alloc _).alloc _) _)
  have F3 : Below w.heap.size w ((((w.alloc (.cells (gcells n m ls) 39)).alloc (.cells zeroG 39)).alloc (.cells zeroG 39)).setRow (w.heap.size + 1 + 1) (gcells m n (pad []))) :=
    below_setRow' ((((Below.refl _ w).alloc (Nat.le_refl _) _).alloc (by simp) _).alloc (by simp; omega) _) (by omega) _
  have F4 : ((((w.alloc (.cells (gcells n m ls) 39)).alloc (.cells zeroG 39)).alloc (.cells zeroG 39)).setRow (w.heap.size + 1 + 1) (gcells m n (pad []))).heap.size = w.heap.size + 3 := by simp
  have H0 := hid F0
  have H1 := hid F1
  have H2 := hid F2
  have H3 := hid F3
  have H4 := hid F4
  clear F0 F1 F2 F3 F4
  refine callsIn_of_wp_marks Tryd.func181 rfl trivial ?_ rfl
  simp only [Tryd.ntmps181, List.size_toArray, List.length_cons, List.length_nil, Nat.reduceAdd, Nat.reduceSub, Array.replicate_succ, Array.replicate_zero, List.push_toArray, List.append_toArray, List.nil_append, List.cons_append]
  gi_wp2_with (first
    | refine wpListIn_store_row (Open.wide _) rfl 39 _ _ rfl (w.heap.size + 1 + 1) (gcells m n (pad [])) rfl rfl 39 zeroG (by simpa using heap_new0 ((w.alloc _).alloc _) _) HT.out (gcells_size (by rfl)).symm (gcells_one _ _ _) ?_
    | refine wpListIn_load_row (Open.wide _) rfl 39 _ rfl w.heap.size rfl 39 (gcells n m ls) (0, 0) _ H0.out Tryd.underlying39 rfl HG.out ?_)
  generalize World.setRow _ _ _ = W0 at H0 H1 H2 H3 H4
  refine ⟨trivial, callsIn_wide.2 ((cells_any (gcells n m ls) W0).mono ?_)⟩
  rintro e w1 ⟨rfl, hw1⟩
  have K0 := hid (show w1.heap[w.heap.size]? = some (.cells (gcells n m ls) 39 (0, 0)) by rw [hw1]; exact (Below.heap_alloc _ _ _ (lt_of_block H0.out)).trans H0.out)
  have K1 := hid (show w1.heap[w.heap.size + 1]? = some (.cells zeroG 39 (0, 0)) by rw [hw1]; exact (Below.heap_alloc _ _ _ (lt_of_block H1.out)).trans H1.out)
  have K2 := hid (show w1.heap[w.heap.size + 1 + 1]? = some (.cells (gcells m n (pad [])) 39 (0, 0)) by rw [hw1]; exact (Below.heap_alloc _ _ _ (lt_of_block H2.out)).trans H2.out)
  have K3 := hid (show w1.heap[W0.heap.size]? = some (.cells (gcells n m ls) 39 (0, 0)) by rw [hw1]; exact heap_new0 W0 _)
  have KB := hid (show Below w.heap.size w w1 by rw [hw1]; exact H3.out.alloc H3.out.size _)
  have KS := hid (show w1.heap.size = w.heap.size + 4 by rw [hw1, World.size_alloc, H4.out])
  have KW := hid H4.out
  clear hw1
  gi_wp2
  have hlen : ∀ pre : List (Fin (n * m)), (putAll (turnPos n m) (turnVal ls) pre (pad [])).length = 25 := fun pre => by rw [putAll_length]; rfl
  have HLEN := hid hlen
  clear hlen
  refine wpIn_rangeFunc_ownH rfl (by omega) (gf := 87) (lb := #[.pointer (some ⟨W0.heap.size, 0, none⟩)]) rfl trivial (enters_of Tryd.func87 (by kernel_rfl) rfl)
    (cells_stops 2 W0.heap.size n m (n * m) rfl ls hl hn5 hm hm5 w1 K3.out) KeepsAt.trans (keepsAt_b (lt_of_block K3.out)) (Below.refl _ _) (fun _ => rfl)
    (fun pre W => ((W.heap[w.heap.size]? = some (.cells (gcells n m ls) 39 (0, 0)) ∧ W.heap[w.heap.size + 1]? = some (.cells zeroG 39 (0, 0))) ∧ W.heap[w.heap.size + 1 + 1]? = some (.cells (gcells m n (putAll (turnPos n m) (turnVal ls) pre (pad []))) 39 (0, 0))) ∧ Below w.heap.size w1 W)
    (fun _ _ _ => False)
    (OwnFrom.and (OwnFrom.and (OwnFrom.and (ownFrom_heap _ _ (fun _ => _) (fun _ => rfl)) (ownFrom_heap _ _ (fun _ => _) (fun _ => rfl))) (ownFrom_heap _ _ (fun pre => .cells (gcells m n (putAll (turnPos n m) (turnVal ls) pre (pad []))) 39 (0, 0)) (fun _ => rfl))) (ownFrom_below (by rw [KS.out]; omega) (by rw [KS.out]; omega)))
    (fun _ _ _ _ _ hs _ _ => hs)
    ⟨⟨⟨K0.out, K1.out⟩, K2.out⟩, Below.refl _ _⟩
    (fun x a' W => ∃ Bx, w.heap.size + 4 ≤ Bx ∧ W.heap[Bx]? = some (.cells #[.int .i64 ((x.val / m : Nat) : Int), .int .i64 ((x.val % m : Nat) : Int)] 97 (0, 0)) ∧ ∃ u0 u6 u7 u8 u9 u10 u11 u12 u13 u14 u15 u16 u17 u18 u19 u20 u21 u22 u23 u24 u25 u26 u27 u28 : Value,
      a' = { tmps := #[u0, .pointer (some ⟨w.heap.size, 0, none⟩), .pointer (some ⟨w.heap.size + 1, 0, none⟩), .pointer (some ⟨w.heap.size + 1 + 1, 0, none⟩), .pointer (some ⟨Bx, 0, none⟩), .int .u8 ((ls.getD x.val 0).toNat : Int), u6, u7, u8, u9, u10, u11, u12, u13, u14, u15, u16, u17, u18, u19, u20, u21, u22, u23, u24, u25, u26, u27, u28], defers := [] })
    (fun x a' _ X Y row hs hg hr => by
      obtain ⟨Bx, h1, h2, h3⟩ := hs
      exact ⟨Bx, h1, ownFrom_heap _ Bx (fun (_ : Unit) => Obj.cells #[.int .i64 ((x.val / m : Nat) : Int), .int .i64 ((x.val % m : Nat) : Int)] 97 (0, 0)) (fun _ => rfl) () X Y row h2 hg hr, h3⟩)
    ?assign ?body ?done ?stop
  case assign =>
    rintro l pre x W K ⟨⟨⟨i0, i1⟩, i2⟩, i3⟩ hK
    have J0 := hid i0
    have J1 := hid i1
    have J2 := hid i2
    have J3 := hid i3
    have JK := hid hK
    clear i0 i1 i2 i3 hK
    unfold encs
    obtain ⟨qv, hqv⟩ : ∃ qv : Int, ((x.val / m : Nat) : Int) = qv := ⟨_, rfl⟩
    obtain ⟨rv, hrv⟩ : ∃ rv : Int, ((x.val % m : Nat) : Int) = rv := ⟨_, rfl⟩
    obtain ⟨bv, hbv⟩ : ∃ bv : Int, ((ls.getD x.val 0).toNat : Int) = bv := ⟨_, rfl⟩
    rw [hqv, hrv, hbv] at JK ⊢
    gi_wp2
    have hsz : w.heap.size + 4 ≤ W.heap.size := by rw [← KS.out]; exact J3.out.size
    exact JK.out _ _ ((KeepsOthers.alloc _ _).from _) ⟨by simp, Below.heap_alloc _ _ _ (by rw [KW.out]; omega)⟩
      ⟨⟨⟨(Below.heap_alloc _ _ _ (by omega)).trans J0.out, (Below.heap_alloc _ _ _ (by omega)).trans J1.out⟩, (Below.heap_alloc _ _ _ (by omega)).trans J2.out⟩, J3.out.alloc (by omega) _⟩
      ⟨W.heap.size, hsz, heap_new0 W _, _, _, _, _, _, _, _, _, _, _, _, _, _, _, _, _, _, _, _, _, _, _, _, _, rfl⟩
  case body =>
    rintro l pre x a' W hlw ⟨r, hr⟩ ⟨⟨⟨i0, i1⟩, i2⟩, i3⟩ ⟨Bx, hBx, hX, u0, u6, u7, u8, u9, u10, u11, u12, u13, u14, u15, u16, u17, u18, u19, u20, u21, u22, u23, u24, u25, u26, u27, u28, rfl⟩ hlt
    have hxk := x.isLt
    have hq5 : x.val / m < n := by rw [Nat.div_lt_iff_lt_mul (by omega)]; exact hxk
    have hr5 : x.val % m < m := Nat.mod_lt _ (by omega)
    have hmul : (x.val % m) * n ≤ (m - 1) * n := Nat.mul_le_mul_right _ (by omega)
    have hmul2 : m * n ≤ 5 * 5 := Nat.mul_le_mul hm5 hn5
    have hmul3 : (m - 1) * n + n = m * n := by rw [← Nat.succ_mul]; congr 1; omega
    have hsub : n - 1 - x.val / m ≤ n - 1 := Nat.sub_le _ _
    have hp : turnPos n m x.val < 25 := by
      unfold turnPos
      generalize n - 1 - x.val / m = Q at hsub
      omega
    obtain ⟨qv, hqv⟩ : ∃ qv : Int, ((x.val / m : Nat) : Int) = qv := ⟨_, rfl⟩
    obtain ⟨rv, hrv⟩ : ∃ rv : Int, ((x.val % m : Nat) : Int) = rv := ⟨_, rfl⟩
    have hpe : rv * (n : Int) + ((n : Int) - 1 - qv) = ((turnPos n m x.val : Nat) : Int) := by
      unfold turnPos
      rw [← hqv, ← hrv]
      have e : ((n - 1 - x.val / m : Nat) : Int) = (n : Int) - 1 - ((x.val / m : Nat) : Int) := by omega
      rw [Int.natCast_add, Int.natCast_mul, e]
    have b1 : 0 ≤ qv := by rw [← hqv]; exact Int.natCast_nonneg _
    have b2 : qv < (n : Int) := by rw [← hqv]; exact Int.ofNat_lt.2 hq5
    have b3 : 0 ≤ rv := by rw [← hrv]; exact Int.natCast_nonneg _
    have b4 : rv < (m : Int) := by rw [← hrv]; exact Int.ofNat_lt.2 hr5
    have hvl : (turnVal ls x.val) = oth (ls.getD x.val 0) := rfl
    obtain ⟨bb, hbb⟩ : ∃ bb : UInt8, ls.getD x.val 0 = bb := ⟨_, rfl⟩
    rw [hbb] at hvl ⊢
    rw [hqv, hrv] at hX
    have hex := hid (exchanged_any bb)
    have HVL := hid hvl
    have HPE := hid hpe
    have HP := hid hp
    clear hqv hrv hvl hpe hp hsub hmul hmul2 hmul3 hq5 hr5 hxk hbb hlt hl
    obtain ⟨wd, hwd⟩ : ∃ wd, W.drew = wd := ⟨_, rfl⟩
    have D0 := hid (show wd.heap[w.heap.size]? = some (.cells (gcells n m ls) 39 (0, 0)) by rw [← hwd]; exact i0)
    have D1 := hid (show wd.heap[w.heap.size + 1]? = some (.cells zeroG 39 (0, 0)) by rw [← hwd]; exact i1)
    have D2 := hid (show wd.heap[w.heap.size + 1 + 1]? = some (.cells (gcells m n (putAll (turnPos n m) (turnVal ls) pre (pad []))) 39 (0, 0)) by rw [← hwd]; exact i2)
    have D3 := hid (show Below w.heap.size w1 wd by rw [← hwd]; exact i3.drew)
    have DX : wd.heap[Bx]? = some (.cells #[.int .i64 qv, .int .i64 rv] 97 (0, 0)) := by rw [← hwd]; exact hX
    have DK := hid (show KeepsOthers W wd by rw [← hwd]; exact KeepsOthers.drew W)
    have DS := hid (show wd.heap.size = W.heap.size by rw [← hwd]; rfl)
    have DH := hid (show wd.heap = W.heap by rw [← hwd]; rfl)
    have c0 : wd.cell? ⟨Bx, 0, none⟩ = some (.int .i64 qv) := by rw [cell_of_row _ _ _ _ _ _ DX]; rfl
    have c1 : wd.cell? ⟨Bx, 1, none⟩ = some (.int .i64 rv) := by rw [cell_of_row _ _ _ _ _ _ DX]; rfl
    have c2 : wd.cell? ⟨w.heap.size, 0, none⟩ = some (.int .i64 n) := by rw [cell_of_row _ _ _ _ _ _ D0.out, gcells_0]
    have HWD := hid hwd
    have HTT := hid (show ∀ ks : List (Fin (n * m)), (Tryd.prog.info? 39).map (·.size) = some (gcells m n (putAll (turnPos n m) (turnVal ls) ks (pad []))).size from fun ks => by rw [gcells_size (HLEN.out ks)]; exact Tryd.size_grid)
    have HR := hid hr
    clear i0 i1 i2 i3 hX hwd DX hr g0 g1
    gi_wp2
    refine wpIn_region_quiet_tail (Open.round _ l) 12 (fun w' => w' = wd) (by kernel_rfl) (by kernel_rfl) HWD.out ?_
    simp only [List.take_succ_cons, List.take_zero, List.drop_succ_cons, List.drop_zero]
    refine wpQuiet_load_row rfl 39 _ rfl (w.heap.size + 1 + 1) rfl 39 _ (0, 0) _ (fun w' hw' => by rw [hw']; exact D2.out) Tryd.underlying39 rfl (HTT.out pre) ?_
    quiet_step (fail)
    quiet_step (fail)
    quiet_step (fail)
    quiet_step (fail)
    quiet_step (fail)
    quiet_step (fail)
    quiet_step (fail)
    quiet_step (fail)
    quiet_step (fail)
    quiet_step (fail)
    refine wpQuiet_call rfl 184 #[.int .u8 bb.toNat] (.int .u8 (oth bb).toNat) (fun w _ => by go_simp) (fun w' hw' => (hex.out w').mono fun e w'' ⟨he, hw''⟩ => ⟨he, hw''.symm.trans hw'⟩) ?_
    refine wpQuiet_nil ?_
    rintro w' rfl
    have hwith := hid ((with_any m n (putAll (turnPos n m) (turnVal ls) pre (pad [])) rv ((n : Int) - 1 - qv) (turnPos n m x.val) (oth bb) w' (HLEN.out pre) HP.out HPE.out ⟨b3, by omega⟩ hn5))
    gi_wp2_with fail
    refine ⟨trivial, CallsIn.inRound l (callsIn_wide.2 (hwith.out.mono ?_))⟩
    rintro e w2 ⟨rfl, hbel⟩
    have E0 := hid ((hbel.block _ (lt_of_block D0.out)).trans D0.out)
    have E1 := hid ((hbel.block _ (lt_of_block D1.out)).trans D1.out)
    have E2 := hid ((hbel.block _ (lt_of_block D2.out)).trans D2.out)
    have E3 := hid (D3.out.trans (hbel.mono (Nat.le_trans (by rw [KS.out]; omega) D3.out.size)))
    have EK := hid (DK.out.trans (keeps_below hbel))
    have EA := hid (show KeepsAt W0.heap.size W w2 from ⟨by rw [← DS.out]; exact hbel.size, by
      rw [hbel.block _ (by have := D3.out.size; rw [KS.out] at this; rw [KW.out]; omega), DH.out]⟩)
    clear hbel
    gi_wp2_with (refine wpListIn_store_row (Open.round _ l) rfl 39 _ _ rfl (w.heap.size + 1 + 1) (gcells m n ((putAll (turnPos n m) (turnVal ls) pre (pad [])).set (turnPos n m x.val) (oth bb))) rfl rfl 39 (gcells m n (putAll (turnPos n m) (turnVal ls) pre (pad []))) E2.out (by rw [gcells_size (by rw [List.length_set]; exact HLEN.out pre)]; exact Tryd.size_grid) (by rw [gcells_size (HLEN.out pre), gcells_size (by rw [List.length_set]; exact HLEN.out pre)]) (gcells_one _ _ _) ?_)
    refine ⟨(EK.out.trans (keeps_setRow _ _ _)).from _, EA.out.trans ⟨by simp, setRow_other _ _ _ _ (by rw [KW.out]; omega)⟩, ⟨⟨?_, ?_⟩, ?_⟩, ?_⟩
    · rw [setRow_other _ _ _ _ (by omega)]; exact E0.out
    · rw [setRow_other _ _ _ _ (by omega)]; exact E1.out
    · rw [putAll_snoc, HVL.out]; exact setRow_heap _ _ _ _ _ _ E2.out
    · exact below_setRow' E3.out (by omega) _
  case done =>
    rintro D xs W hD rfl ⟨⟨⟨i0, i1⟩, i2⟩, i3⟩ hK
    have J1 := hid i1
    have J2 := hid i2
    have J3 := hid i3
    have JK := hid hK
    clear i0 i1 i2 i3 hK
    gi_wp2_with (first
      | refine wpListIn_load_row (Open.wide _) rfl 39 _ rfl (w.heap.size + 1 + 1) rfl 39 _ (0, 0) _ J2.out Tryd.underlying39 rfl (by rw [gcells_size (HLEN.out _)]; exact Tryd.size_grid) ?_
      | refine wpListIn_store_row (Open.wide _) rfl 39 _ _ rfl (w.heap.size + 1) (gcells m n (putAll (turnPos n m) (turnVal ls) (List.finRange (n * m)) (pad []))) rfl rfl 39 zeroG J1.out (by rw [gcells_size (HLEN.out _)]; exact Tryd.size_grid) (by rw [gcells_size (HLEN.out _)]; rfl) (gcells_one _ _ _) ?_)
    have hne : w.heap.size + 1 ≠ D := by rw [KS.out] at hD; omega
    have hK' : (W.setRow (w.heap.size + 1) (gcells m n (putAll (turnPos n m) (turnVal ls) (List.finRange (n * m)) (pad [])))).heap[D]? = some (.deferred (some [])) := by
      rw [setRow_other _ _ _ _ (fun e => hne e.symm)]; exact JK.out
    refine ⟨by simp, .inl ⟨_, _, rfl, run_takeDeferred hK', ?_⟩⟩
    refine ⟨_, results_cell_row Tryd.results181 _ _ (w.heap.size + 1) 39 _ (0, 0) _ (by rfl) ((World.putObj_heap_other hne).trans (setRow_heap _ _ _ _ _ _ J1.out)) Tryd.underlying39 rfl (by rw [gcells_size (HLEN.out _)]; exact Tryd.size_grid), rfl, ?_⟩
    exact (KB.out.trans (below_setRow' J3.out (by omega) _)).trans (belowK_b (w := w) (Nat.le_refl _) _ D _ _ (by rw [KS.out] at hD; omega) hK' rfl rfl)
  case stop =>
    rintro D c pre W _ _ h _
    exact h.elim

end Go.Proofs.YtongjijkdjagdaaDoor

/- Slices that grow by append: letters, texts. -/
namespace Go.Proofs.YtongjijkdjagdaaDoor
open Go.RowKit Go.Shelf

theorem Tryd.info_byte : (Tryd.prog.info? 5).map (fun i => (i.zero, i.size, i.bytes)) = some (some (.int .u8 0), 1, 1) := by kernel_rfl
def bytesV (l : List UInt8) : List Value := l.map fun b => .int .u8 b.toNat
def strsV (l : List ByteArray) : List Value := l.map .string
def GrowB (w : World) (base : Nat) (v : Value) (l : List UInt8) : Prop := w.ownsRow base 5 1 v l.length (bytesV l)
def GrowS (w : World) (base : Nat) (v : Value) (l : List ByteArray) : Prop := w.ownsRow base 9 1 v l.length (strsV l)
theorem growB_new (w : World) (base : Nat) (hb : base ≤ w.heap.size) : GrowB (w.alloc (.cells #[] 5)) base (.slice (some ⟨w.heap.size, 0, none⟩) 0 0) [] :=
  World.ownsRow_made w #[] 0 hb (by unfold maxLen; omega) rfl
theorem growS_new (w : World) (base : Nat) (hb : base ≤ w.heap.size) : GrowS (w.alloc (.cells #[] 9)) base (.slice (some ⟨w.heap.size, 0, none⟩) 0 0) [] :=
  World.ownsRow_made w #[] 0 hb (by unfold maxLen; omega) rfl

section
variable {ops : Array Oper} {rest : List Oper} {o : Oper} {a : Act} {w : World} {Q : Exit → Act → World → Prop}
theorem wpList_appendB (hgd : o.guard = none) (s x : Operand) (ho : o.op = .call { callee := .builtin .append, args := #[s, x], argTypes := #[93, 93] })
    (base : Nat) (v : Value) (l : List UInt8) (hs : a.eval s = v) (hown : GrowB w base v l) (h c : Nat) (hx : a.eval x = .slice (some ⟨h, 0, none⟩) 1 c) (b : UInt8) (hc : w.cell? ⟨h, 0, none⟩ = some (.int .u8 b.toNat))
    (hl : l.length ≤ 1000000) (hbase : base ≤ w.heap.size)
    (hk : ∀ v' w', GrowB w' base v' (l ++ [b]) → w.grownBy w' v.ownBlock → wpList Tryd.prog ops Q rest (a.put o.dst v') w') : wpList Tryd.prog ops Q (o :: rest) a w := by
  obtain ⟨i0, hi, hz0, hz1, hz2⟩ := info_parts Tryd.info_byte
  refine wpList_append_own w hgd s x 93 ho base 5 i0 (.int .u8 0) 1 1 Tryd.underlying93 hi hz0 hz1 hz2 rfl (by decide) v l.length (bytesV l) hs hown ⟨h, 0, none⟩ 1 c [.int .u8 b.toNat] hx rfl ?_ ?_ (by unfold maxLen; omega) (by omega) hbase ?_
  · intro j u hj
    match j, hj with
    | 0, hj => simp at hj; subst hj; simpa [Addr.add] using hc
  · intro u hu; simp at hu; subst hu; rfl
  · intro v' w' h1 h2 _
    refine hk v' w' ?_ h2
    unfold GrowB bytesV
    rw [List.length_append, List.map_append]
    exact h1
theorem wpList_appendS (hgd : o.guard = none) (s x : Operand) (ho : o.op = .call { callee := .builtin .append, args := #[s, x], argTypes := #[23, 23] })
    (base : Nat) (v : Value) (l : List ByteArray) (hs : a.eval s = v) (hown : GrowS w base v l) (h c : Nat) (hx : a.eval x = .slice (some ⟨h, 0, none⟩) 1 c) (b : ByteArray) (hc : w.cell? ⟨h, 0, none⟩ = some (.string b))
    (hl : l.length ≤ 1000000) (hbase : base ≤ w.heap.size)
    (hk : ∀ v' w', GrowS w' base v' (l ++ [b]) → w.grownBy w' v.ownBlock → wpList Tryd.prog ops Q rest (a.put o.dst v') w') : wpList Tryd.prog ops Q (o :: rest) a w := by
  obtain ⟨i0, hi, hz0, hz1, hz2⟩ := info_parts Tryd.info_string
  refine wpList_append_own w hgd s x 23 ho base 9 i0 (.string ByteArray.empty) 1 16 Tryd.underlying23 hi hz0 hz1 hz2 rfl (by decide) v l.length (strsV l) hs hown ⟨h, 0, none⟩ 1 c [.string b] hx rfl ?_ ?_ (by unfold maxLen; omega) (by omega) hbase ?_
  · intro j u hj
    match j, hj with
    | 0, hj => simp at hj; subst hj; simpa [Addr.add] using hc
  · intro u hu; simp at hu; subst hu; rfl
  · intro v' w' h1 h2 _
    refine hk v' w' ?_ h2
    unfold GrowS strsV
    rw [List.length_append, List.map_append]
    exact h1
end
set_option maxRecDepth 100000 in
/-- The letters as a text. -/
theorem growB_text {w : World} {base : Nat} {v : Value} {l : List UInt8} (h : GrowB w base v l) (hl : 1 ≤ l.length) :
    (convert 93 9 v).run Tryd.prog w = .ok (.string ⟨l.toArray⟩) w := by
  rcases h.2 with ⟨_, h0⟩ | ⟨g, cap, cur, rfl, _, hg, _, _, _, ht⟩
  · omega
  · have hcv := run_convert_bytes_arg (P := Tryd.prog) w 93 5 Tryd.underlying93 Tryd.underlying5 g 0 l.length cap (l.map fun b => (b.toNat : Int)) (by simp) (fun i hi => by
      rw [cell_of_row _ _ _ _ _ _ hg]
      have e : (bytesV l)[i]? = some (.int .u8 (l[i]'hi).toNat) := by simp [bytesV, hi]
      rw [← ht, List.getElem?_take_of_lt (by omega)] at e
      rw [Nat.zero_add, ← Array.getElem?_toList, e]
      simp [hi]) 9 Tryd.underlying9
    rw [hcv]
    unfold strOfNums
    congr 3
    rw [List.map_map]
    rw [show ((fun n : Int => UInt8.ofNat n.toNat) ∘ fun b : UInt8 => (b.toNat : Int)) = id from funext fun b => by simp, List.map_id]
/-- The texts are read. -/
theorem GrowS.strs {w : World} {base : Nat} {v : Value} {l : List ByteArray} (h : GrowS w base v l) : ∃ A c, v = .slice A l.length c ∧ Strs w w.heap.size A l := by
  rcases h.2 with ⟨rfl, h0⟩ | ⟨g, cap, cur, rfl, _, hg, _, _, _, ht⟩
  · rw [h0]; exact ⟨none, 0, rfl, fun hl => by omega⟩
  · refine ⟨_, _, rfl, fun _ => ⟨g, 0, rfl, lt_of_block hg, fun k s hk => ?_⟩⟩
    rw [Nat.zero_add, cell_of_row _ _ _ _ _ _ hg]
    have hl := (List.getElem?_eq_some_iff.1 hk).1
    have e : (strsV l)[k]? = some (.string s) := by simp [strsV, hk]
    rw [← ht, List.getElem?_take_of_lt (by omega)] at e
    rw [← Array.getElem?_toList, e]
theorem range_take {α : Type} (n q : Nat) (f : Nat → α) (h : q < n) : ((List.range n).map f).take (q + 1) = ((List.range n).map f).take q ++ [f q] := by
  rw [List.take_succ_eq_append_getElem (by simpa using h)]
  simp

theorem l1Other_any (b : UInt8) (w : World) :
    Calls Tryd.prog 108 #[.int .u8 b.toNat] w fun e w' => e = .returned (.int .u8 (oth b).toNat) ∧ w = w' := by
  by_cases h1 : b = 114
  · subst h1
    change Calls Tryd.prog 108 #[.int .u8 114] w fun e w' => e = .returned (.int .u8 102) ∧ w = w'
    go_enter Tryd.func108, Tryd.ntmps108
    go_wp2
    go_ret
    exact ⟨rfl, rfl⟩
  by_cases h2 : b = 102
  · subst h2
    change Calls Tryd.prog 108 #[.int .u8 102] w fun e w' => e = .returned (.int .u8 114) ∧ w = w'
    go_enter Tryd.func108, Tryd.ntmps108
    go_wp2
    go_ret
    exact ⟨rfl, rfl⟩
  have e : oth b = b := by unfold oth; rw [if_neg h1, if_neg h2]
  have e1 : ((b.toNat : Int) == 114) = false := by
    rw [beq_eq_false_iff_ne]; intro e; exact h1 (UInt8.toNat_inj.1 (by have : (114 : UInt8).toNat = 114 := rfl; omega))
  have e2 : ((b.toNat : Int) == 102) = false := by
    rw [beq_eq_false_iff_ne]; intro e; exact h2 (UInt8.toNat_inj.1 (by have : (102 : UInt8).toNat = 102 := rfl; omega))
  rw [e]
  clear e h1 h2
  generalize (b.toNat : Int) = x at e1 e2
  go_enter Tryd.func108, Tryd.ntmps108
  go_wp2
  go_ret
  exact ⟨rfl, rfl⟩

end Go.Proofs.YtongjijkdjagdaaDoor

/- l1Flip of the specification, by its contract. -/
namespace Go.Proofs.YtongjijkdjagdaaDoor
open Go.RowKit Go.Shelf

theorem Strs.cell_ {w : World} {B b off k : Nat} {ss : List ByteArray} {s : ByteArray} (h : Strs w B (some ⟨b, off, none⟩) ss) (hk : ss[k]? = some s) : w.cell? ⟨b, off + k, none⟩ = some (.string s) := by
  obtain ⟨b', off', e, _, hc⟩ := h (by have := (List.getElem?_eq_some_iff.1 hk).1; omega)
  cases e
  exact hc k s hk
theorem cell_new (w : World) (t : ByteArray) : (w.alloc (.cells #[.string t] 9)).cell? ⟨w.heap.size, 0, none⟩ = some (.string t) := by
  rw [cell_of_row _ _ _ _ _ _ (heap_new0 w _)]; rfl
theorem cell_newB (w : World) (b : UInt8) : (w.alloc (.cells #[.int .u8 b.toNat] 5)).cell? ⟨w.heap.size, 0, none⟩ = some (.int .u8 b.toNat) := by
  rw [cell_of_row _ _ _ _ _ _ (heap_new0 w _)]; rfl
/-- A row: L letters by a rule. -/
def ruleL (L : Nat) (f : Nat → UInt8) : List UInt8 := (List.range L).map f
/-- A grid: K rows by a rule. -/
def ruleG (K L : Nat) (f : Nat → Nat → UInt8) : List ByteArray := (List.range K).map fun r => ⟨(ruleL L (f r)).toArray⟩
theorem ruleL_length (L : Nat) (f : Nat → UInt8) : (ruleL L f).length = L := by simp [ruleL]
theorem ruleG_length (K L : Nat) (f : Nat → Nat → UInt8) : (ruleG K L f).length = K := by simp [ruleG]
/-- The outer loop: so many rows are there. -/
def OutG (K L : Nat) (f : Nat → Nat → UInt8) (w : World) (v i : Value) (wr : World) : Prop :=
  ∃ r : Nat, r ≤ K ∧ i = .int .i64 r ∧ GrowS wr w.heap.size v ((ruleG K L f).take r) ∧ Below w.heap.size w wr
/-- The inner loop, downwards: p letters are still to come. -/
def InDown (K L r : Nat) (f : Nat → Nat → UInt8) (w wo : World) (ov : Value) (v i : Value) (wr : World) : Prop :=
  ∃ p : Nat, p ≤ L ∧ i = .int .i64 ((p : Int) - 1) ∧ GrowB wr wo.heap.size v ((ruleL L (f r)).take (L - p)) ∧ GrowS wr w.heap.size ov ((ruleG K L f).take r) ∧ Below w.heap.size w wr ∧ wo.heap.size ≤ wr.heap.size
theorem ownBlock_lt {w : World} {base : Nat} {v : Value} {l : List ByteArray} (h : GrowS w base v l) : ∀ k, v.ownBlock = some k → base ≤ k ∧ k < w.heap.size := h.lt
/-- The row has grown by a letter; the texts lie as they lay. -/
theorem grown_other {w1 w2 : World} {base base2 : Nat} {ov v : Value} {ls : List ByteArray} {l : List UInt8} {N : Nat} (hS : GrowS w1 base ov ls) (hB : GrowB w1 base2 v l) (hov : ∀ k, ov.ownBlock = some k → k < N) (hN : N ≤ base2) (hg : w1.grownBy w2 v.ownBlock) : GrowS w2 base ov ls := by
  refine World.ownsRow.kept hS hg ?_
  cases h : ov.ownBlock with
  | none => exact .inl rfl
  | some k =>
    refine .inr fun e => ?_
    have h1 := hov k h
    have h2 := (World.ownsRow.lt hB k e.symm).1
    omega

set_option maxRecDepth 100000 in
set_option maxHeartbeats 2000000 in
theorem l1Flip_any (A : Option Addr) (c B n m : Nat) (ss : List ByteArray) (w : World) (h : Strs w B A ss) (hB : B ≤ w.heap.size) (hg : IsGrid n m ss) (f : Nat → Nat → UInt8) (hf : ∀ r q, f r q = oth ((flat ss).getD (r * m + (m - 1 - q)) 0)) :
    Calls Tryd.prog 77 #[.slice A ss.length c] w fun e w' => (∃ v, e = .returned v ∧ GrowS w' w.heap.size v (ruleG n m f)) ∧ Below w.heap.size w w' := by
  have hn5 := hg.2.2.1
  have hm1 := hg.2.2.2.1
  have hm5 := hg.2.2.2.2.1
  have hnl := hg.1
  have HG := hid hg
  have HH := hid h
  have HBB := hid hB
  have HNL := hid hnl
  have HF := hid hf
  rw [hnl]
  clear hg h hB hnl hf
  go_enter Tryd.func77, Tryd.ntmps77
  go_wp2
  go_loopw [3, 4] (OutG n m f w) (fun _ i _ => n - (intOf i).toNat)
  case atStart => exact ⟨0, Nat.zero_le _, rfl, growS_new w _ (Nat.le_refl _), (Below.refl _ w).alloc (Nat.le_refl _) _⟩
  case round =>
    obtain ⟨r, hr, rfl, hgs, hbel⟩ := hrel
    have HS := hid hgs
    have HB := hid hbel
    clear hgs hbel
    by_cases hlt : r < n
    · obtain ⟨b', off', s, rfl, hb', hks, _⟩ := HH.out.at_ (by rw [HNL.out]; exact hlt)
      have hsm : s.size = m := (HG.out.2.2.2.2.2 s (List.mem_of_getElem? hks)).1
      have hsmi : ((s.size : Nat) : Int) = (m : Int) := by rw [hsm]
      have hc := (HH.out.below (HB.out.alloc HB.out.size (.cells #[] 5)) HBB.out).cell_ hks
      have HKs := hid hks
      have HSm := hid hsm
      obtain ⟨wo, rfl⟩ : ∃ wo : World, wo = wr := ⟨_, rfl⟩
      obtain ⟨ov, rfl⟩ : ∃ ov : Value, ov = u3 := ⟨_, rfl⟩
      clear hks hsm
      go_wp2_with fail
      go_loopw [5, 6] (InDown n m r f w wo ov) (fun _ i _ => (intOf i + 1).toNat)
      case atStart =>
        exact ⟨m, Nat.le_refl _, rfl, by rw [Nat.sub_self, List.take_zero]; exact growB_new wo _ (Nat.le_refl _), HS.out.alloc _, HB.out.alloc HB.out.size _, by simp⟩
      case round =>
        obtain ⟨p, hp, rfl, hgB, hgS, hbel, hsz⟩ := hrel
        have HGB := hid hgB
        have HGS := hid hgS
        have HB2 := hid hbel
        have HZ := hid hsz
        clear hgB hgS hbel hsz hc
        have hc := (HH.out.below HB2.out HBB.out).cell_ HKs.out
        cases p with
        | zero =>
          have hcv := growB_text HGB.out (by rw [Nat.sub_zero, List.take_of_length_le (by rw [ruleL_length]; exact Nat.le_refl _), ruleL_length]; exact hm1)
          rw [Nat.sub_zero, List.take_of_length_le (by rw [ruleL_length]; exact Nat.le_refl _)] at hcv
          obtain ⟨tx, htx⟩ : ∃ tx : ByteArray, (⟨(ruleL m (f r)).toArray⟩ : ByteArray) = tx := ⟨_, rfl⟩
          rw [htx] at hcv
          have HTX := hid htx
          clear htx
          go_wp2_with (at_builtin; refine wpList_appendS rfl _ _ rfl w.heap.size ov ((ruleG n m f).take r) rfl (HGS.out.alloc _) wr.heap.size 1 rfl tx (cell_new wr tx) ?c3 (Nat.le_trans HB2.out.size (by simp)) ?_)
          case c3 => rw [List.length_take, ruleG_length]; omega
          intro v' w' hgr hgw
          have HGR := hid hgr
          have HGW := hid hgw
          clear hgr hgw hc
          go_wp2
          go_roundw
          case rel =>
            refine ⟨r + 1, by omega, by go_num, ?_, (HB2.out.alloc HB2.out.size _).grown HGW.out (Nat.le_trans HB2.out.size (by simp)) (fun k e => (ownBlock_lt HGS.out k e).1)⟩
            rw [ruleG, range_take n r _ hlt, HTX.out]
            exact HGR.out
          case measure => simp [intOf]; omega
        | succ p =>
          have hpi : (((p + 1 : Nat) : Int) - 1) = (p : Int) := by omega
          rw [hpi]
          have hps : p < s.size := by rw [HSm.out]; exact hp
          obtain ⟨bt, hbt⟩ : ∃ bt, s.data.toList[p]? = some bt := ⟨_, List.getElem?_eq_getElem (by rw [← Lib.size_eq]; exact hps)⟩
          have hbyte : s[p] = bt := byte_of hbt hps
          have hl1 := hid (l1Other_any bt)
          have HBT := hid hbt
          clear hbt
          go_wp2_with fail
          refine (hl1.out _).mono ?_
          rintro e w' ⟨rfl, rfl⟩
          go_wp2_with (at_builtin; refine wpList_appendB rfl _ _ rfl wo.heap.size u5 ((ruleL m (f r)).take (m - (p + 1))) rfl (HGB.out.alloc _) wr.heap.size 1 rfl (oth bt) (cell_newB wr _) ?c3 (Nat.le_trans HZ.out (by simp)) ?_)
          case c3 => rw [List.length_take, ruleL_length]; omega
          intro v' w' hgr hgw
          have HGR := hid hgr
          have HGW := hid hgw
          clear hgr hgw hc
          go_wp2
          go_roundw
          case rel =>
            refine ⟨p, by omega, rfl, ?_, ?_, ?_, ?_⟩
            · rw [show m - p = (m - (p + 1)) + 1 by omega, ruleL, range_take m (m - (p + 1)) _ (by omega)]
              have e : f r (m - (p + 1)) = oth bt := by
                rw [HF.out, show m - 1 - (m - (p + 1)) = p by omega]
                have e2 := flat_at ss r p s (fun i t _ ht => (HG.out.2.2.2.2.2 t (List.mem_of_getElem? ht)).1) HKs.out hps
                rw [HBT.out] at e2
                rw [List.getD_eq_getElem?_getD, e2]; rfl
              rw [e]
              exact HGR.out
            · exact grown_other (World.ownsRow.alloc HGS.out _) (World.ownsRow.alloc HGB.out _) (fun k e => (ownBlock_lt HS.out k e).2) (Nat.le_refl _) HGW.out
            · exact (HB2.out.alloc HB2.out.size _).grown HGW.out (Nat.le_trans HB2.out.size (by simp)) (fun k e => Nat.le_trans HB.out.size (World.ownsRow.lt HGB.out k e).1)
            · exact Nat.le_trans (Nat.le_trans HZ.out (by simp)) HGW.out.size
          case measure => simp [intOf]
    · obtain rfl : r = n := by omega
      have HS' := HS.out
      rw [List.take_of_length_le (by rw [ruleG_length]; exact Nat.le_refl _)] at HS'
      have HSS := hid HS'
      clear HS'
      go_wp2_with fail
      go_ret
      exact ⟨⟨_, rfl, HSS.out⟩, HB.out⟩

end Go.Proofs.YtongjijkdjagdaaDoor

/- readGrid, by its contract. -/
namespace Go.Proofs.YtongjijkdjagdaaDoor
open Go.RowKit

/-- What readGrid comes to. -/
def ReadEnd (ss : List ByteArray) (w : World) (e : Ending) (w' : World) : Prop :=
  Below w.heap.size w w' ∧ ((∃ n m, IsGrid n m ss ∧ e = .returned (.tuple #[.agg (gcells n m (pad (flat ss))), .bool true])) ∨ (NoGrid ss ∧ e = .returned (.tuple #[.agg zeroG, .bool false])))

/-- What the world holds in the middle: the zero grid that is handed back where something fails, and the grid read so far, its first q letters. -/
def RInv (ss : List ByteArray) (m : Nat) (w : World) (q : Nat) (wr : World) : Prop :=
  wr.heap[w.heap.size]? = some (.cells zeroG 39 (0, 0)) ∧ wr.heap[w.heap.size + 1]? = some (.cells (gcells ss.length m (pad ((flat ss).take q))) 39 (0, 0)) ∧ Below w.heap.size w wr
theorem RInv.cell {ss : List ByteArray} {m q : Nat} {w wr : World} (h : RInv ss m w q wr) : wr.cell? ⟨w.heap.size + 1, 1, none⟩ = some (.int .i64 m) := by
  rw [cell_of_row _ _ _ _ _ _ h.2.1, gcells_1]
theorem RInv.step {ss : List ByteArray} {m q : Nat} {w wr w1 : World} (h : RInv ss m w q wr) (hb : Below wr.heap.size wr w1) {b : UInt8} (hq : (flat ss)[q]? = some b) (hq2 : q < 25) :
    RInv ss m w (q + 1) (w1.setRow (w.heap.size + 1) (gcells ss.length m ((pad ((flat ss).take q)).set q b))) := by
  have l0 := lt_of_block h.1
  have l1 := lt_of_block h.2.1
  refine ⟨?_, ?_, ?_⟩
  · rw [setRow_other _ _ _ _ (by omega)]; exact (hb.block _ l0).trans h.1
  · rw [pad_step hq hq2]; exact setRow_heap _ _ _ _ _ _ ((hb.block _ l1).trans h.2.1)
  · exact below_setRow' (h.2.2.trans (hb.mono h.2.2.size)) (by omega) _
def OutRel (ss : List ByteArray) (m : Nat) (w : World) (i : Value) (wr : World) : Prop :=
  ∃ r : Nat, r ≤ ss.length ∧ i = .int .i64 r ∧ RInv ss m w (r * m) wr ∧ ∀ (j : Nat) (t : ByteArray), j < r → ss[j]? = some t → rowOk m t
def InRel (ss : List ByteArray) (m : Nat) (s : ByteArray) (r : Nat) (w : World) (i : Value) (wr : World) : Prop :=
  ∃ c : Nat, c ≤ m ∧ i = .int .i64 c ∧ RInv ss m w (r * m + c) wr ∧ ∀ (j : Nat) (b : UInt8), j < c → s.data.toList[j]? = some b → isLet b = true

set_option maxRecDepth 100000 in
set_option maxHeartbeats 1000000 in
theorem readGrid_core (b off c m : Nat) (s0 : ByteArray) (ss : List ByteArray) (w : World) (h : Strs w w.heap.size (some ⟨b, off, none⟩) ss) (h1 : 1 ≤ ss.length ∧ ss.length ≤ 5) (hm0 : s0.size = m) (h2 : 1 ≤ m ∧ m ≤ 5) (hk0 : ss[0]? = some s0) (hs : ∀ s ∈ ss, s.size ≤ 1048576)
    (hb : b < w.heap.size) (hc0 : w.cell? ⟨b, off, none⟩ = some (.string s0)) :
    Calls Tryd.prog 28 #[.slice (some ⟨b, off, none⟩) ss.length c] w (ReadEnd ss w) := by
  obtain ⟨h11, h12⟩ := h1
  obtain ⟨h21, h22⟩ := h2
  have d1 : decide (1 ≤ (ss.length : Int) ∧ (ss.length : Int) ≤ 5) = true := by simp; omega
  have d2 : decide (1 ≤ (m : Int) ∧ (m : Int) ≤ 5) = true := by simp; omega
  have g1 := hid (sideIn_any (ss.length : Int))
  have g2 := hid (sideIn_any (m : Int))
  rw [d1] at g1
  rw [d2] at g2
  have HK := hid hk0
  have HH := hid h
  have HS := hid hs
  have hl0 : (0 : Int) < (ss.length : Int) := by omega
  have G1 : ∀ q, q ≤ 25 → (Tryd.prog.info? 39).map (·.size) = some (gcells ss.length m (pad ((flat ss).take q))).size := fun q hq => by rw [Tryd.size_grid, gcells_size (pad_length (by simp; omega))]
  have HG := hid G1
  clear hk0 h hs d1 d2 G1
  go_enter Tryd.func28, Tryd.ntmps28
  go_wp2_with fail
  refine (g1.out _).mono ?_
  rintro e w' ⟨rfl, rfl⟩
  go_wp2_with fail
  refine (g2.out _).mono ?_
  rintro e w' ⟨rfl, rfl⟩
  go_wp2_with (refine wpList_store_row rfl 39 _ _ rfl (w.heap.size + 1) (gcells ss.length m (pad [])) rfl rfl 39 zeroG (by simpa using heap_new0 (w.alloc _) _) (HG.out 0 (by omega)) (gcells_size (by rfl)).symm (gcells_one _ _ _) ?_)
  go_loopw [30] (OutRel ss m w) (fun i _ => ss.length - (intOf i).toNat)
  case atStart =>
    have n1 := heap_new0 (w.alloc (.cells zeroG 39)) (.cells zeroG 39)
    simp only [World.size_alloc] at n1
    refine ⟨0, Nat.zero_le _, rfl, ⟨?_, ?_, ?_⟩, fun j t hj => absurd hj (by omega)⟩
    · rw [setRow_other _ _ _ _ (by omega)]; exact heap_new1 w _ _
    · rw [Nat.zero_mul, List.take_zero]; exact setRow_heap _ _ _ _ _ _ n1
    · exact below_setRow' (((Below.refl _ w).alloc (Nat.le_refl _) _).alloc (by simp) _) (by omega) _
  case round =>
    obtain ⟨r, hr, rfl, hinv, hrows⟩ := hrel
    by_cases hlt : r < ss.length
    · obtain ⟨b', off', s, hA, hb', hks, hc⟩ := (HH.out.below hinv.2.2 (Nat.le_refl _)).at_ hlt
      obtain ⟨rfl, rfl⟩ : b = b' ∧ off = off' := by cases hA; exact ⟨rfl, rfl⟩
      have hcol := hinv.cell
      have hssz := HS.out s (List.mem_of_getElem? hks)
      have HI := hid hinv
      have HR := hid hrows
      have HKs := hid hks
      clear hinv hrows hks hA
      obtain ⟨wo, rfl⟩ : ∃ wo : World, wo = wr := ⟨_, rfl⟩
      by_cases hsm : s.size = m
      · have hsm' : ((s.size : Int) != (m : Int)) = false := by simp [hsm]
        have HM := hid hsm
        clear hsm
        have hrm : r * m ≤ 4 * 5 := Nat.mul_le_mul (by omega) (by omega)
        go_wp2_with fail
        go_loopw [43] (InRel ss m s r w) (fun i _ => m - (intOf i).toNat)
        case atStart => exact ⟨0, Nat.zero_le _, rfl, HI.out, fun j b hj => absurd hj (by omega)⟩
        case round =>
          obtain ⟨c', hc', rfl, hin, hlet⟩ := hrel
          have HN := hid hin
          have HL := hid hlet
          clear hin hlet
          by_cases hlc : c' < m
          · obtain ⟨bt, hbt⟩ : ∃ bt, s.data.toList[c']? = some bt := ⟨_, List.getElem?_eq_getElem (by rw [← Lib.size_eq, HM.out]; exact hlc)⟩
            have hcs : c' < s.size := by rw [HM.out]; exact hlc
            have hx : (s.extract c' (c' + 1)).data.toList = [bt] := by
              rw [Lib.extract_data, Nat.add_sub_cancel_left, List.take_one, List.head?_drop, hbt]; rfl
            have hbyte : s[c'] = bt := byte_of hbt hcs
            have gl := hid (letterIn_one (s.extract c' (c' + 1)) bt hx)
            have HB := hid hbt
            clear hbt hx
            cases hlb : isLet bt with
            | false =>
              rw [hlb] at gl
              have HF := hid hlb
              clear hlb
              go_wp2_with fail
              refine (gl.out _).mono ?_
              rintro e w' ⟨rfl, rfl⟩
              go_wp2_with (refine wpList_store_row rfl 39 _ _ rfl w.heap.size zeroG rfl rfl 39 zeroG HN.out.1 Tryd.size_grid rfl (gcells_one 0 0 (pad [])) ?_)
              refine bodyPost_ret (results_row_tmp Tryd.results28 _ w.heap.size 39 zeroG (0, 0) _ (by rfl) (setRow_heap _ _ _ _ _ _ HN.out.1) Tryd.underlying39 rfl Tryd.size_grid) rfl ?_
              exact ⟨below_setRow' HN.out.2.2 (Nat.le_refl _) _, .inr ⟨noGrid_letter HKs.out HB.out HF.out, rfl⟩⟩
            | true =>
              rw [hlb] at gl
              have HF := hid hlb
              clear hlb
              go_wp2_with fail
              refine (gl.out _).mono ?_
              rintro e w' ⟨rfl, rfl⟩
              go_wp2_with fail
              have hq : r * m + c' < 25 := by omega
              have hload := hid (HN.out.2.1)
              have hbn : bt.toNat < 256 := bt.toNat_lt
              refine wp_region_still_tail 7 (by kernel_rfl) (by kernel_rfl) ?_
              simp only [List.take_succ_cons, List.take_zero, List.drop_succ_cons, List.drop_zero]
              refine wpStill_load_row rfl 39 _ rfl (w.heap.size + 1) rfl 39 _ (0, 0) _ hload.out Tryd.underlying39 rfl (HG.out _ (by omega)) ?_
              repeat still_step
              try refine wpStill_nil ?_
              change wpList _ _ _ _ _ wr.drew
              have hd : RInv ss m w (r * m + c') wr.drew := ⟨HN.out.1, HN.out.2.1, HN.out.2.2.drew⟩
              have HD := hid hd
              clear hd
              generalize wr.drew = wd at HD
              go_wp2_with fail
              have hfq : (flat ss)[r * m + c']? = some bt := by
                rw [flat_at ss r c' s (fun j t hj ht => (HR.out j t hj ht).1) HKs.out hcs]; exact HB.out
              have HQ := hid hfq
              clear hfq
              refine (with_any ss.length m (pad ((flat ss).take (r * m + c'))) r c' (r * m + c') bt _ (pad_length (by simp; omega)) hq (by simp) ⟨by omega, by omega⟩ h22).mono ?_
              rintro e w1 ⟨rfl, hbel⟩
              have HE := hid hbel
              clear hbel
              have hst := HD.out.step HE.out HQ.out hq
              have HT := hid hst
              clear hst
              go_wp2_with (refine wpList_store_row rfl 39 _ _ rfl (w.heap.size + 1) (gcells ss.length m ((pad ((flat ss).take (r * m + c'))).set (r * m + c') bt)) rfl rfl 39 (gcells ss.length m (pad ((flat ss).take (r * m + c')))) ((HE.out.block _ (lt_of_block HD.out.2.1)).trans HD.out.2.1) (by rw [pad_step HQ.out hq]; exact HG.out _ (by omega)) (by rw [gcells_size (pad_length (by simp; omega)), gcells_size (by rw [List.length_set]; exact pad_length (by simp; omega))]) (gcells_one _ _ _) ?_)
              go_roundw
              case rel => exact ⟨c' + 1, by omega, by go_num, HT.out, fun j b hj hb => by
                by_cases hjc : j < c'
                · exact HL.out j b hjc hb
                · obtain rfl : j = c' := by omega
                  rw [HB.out] at hb; cases hb; exact HF.out⟩
              case measure => simp [intOf]; omega
          · obtain rfl : c' = m := by omega
            go_wp2_with fail
            go_roundw
            case rel => exact ⟨r + 1, by omega, by go_num, by rw [Nat.add_mul, Nat.one_mul]; exact HN.out, fun j t hj ht => by
              by_cases hjr : j < r
              · exact HR.out j t hjr ht
              · obtain rfl : j = r := by omega
                rw [HKs.out] at ht; cases ht
                exact ⟨HM.out, fun b hb => by
                  obtain ⟨i, hi, rfl⟩ := List.mem_iff_getElem.1 hb
                  exact HL.out i _ (by rw [← HM.out, Lib.size_eq]; exact hi) (List.getElem?_eq_getElem hi)⟩⟩
            case measure => simp [intOf]; omega
      · have hsm' : ((s.size : Int) != (m : Int)) = true := by simp; omega
        have HM := hid hsm
        clear hsm
        go_wp2_with (refine wpList_store_row rfl 39 _ _ rfl w.heap.size zeroG rfl rfl 39 zeroG HI.out.1 Tryd.size_grid rfl (gcells_one 0 0 (pad [])) ?_)
        refine bodyPost_ret (results_row_tmp Tryd.results28 _ w.heap.size 39 zeroG (0, 0) _ (by rfl) (setRow_heap _ _ _ _ _ _ HI.out.1) Tryd.underlying39 rfl Tryd.size_grid) rfl ?_
        exact ⟨below_setRow' HI.out.2.2 (Nat.le_refl _) _, .inr ⟨noGrid_size HK.out HKs.out (by rw [hm0]; exact HM.out), rfl⟩⟩
    · obtain rfl : r = ss.length := by omega
      have HI := hid hinv
      have HR := hid hrows
      clear hinv hrows
      have hrm : ss.length * m ≤ 5 * 5 := Nat.mul_le_mul (by omega) (by omega)
      go_wp2_with (first
        | refine wpList_load_row rfl 39 _ rfl (w.heap.size + 1) rfl 39 _ (0, 0) _ HI.out.2.1 Tryd.underlying39 rfl (HG.out _ (by omega)) ?_
        | refine wpList_store_row rfl 39 _ _ rfl w.heap.size (gcells ss.length m (pad ((flat ss).take (ss.length * m)))) rfl rfl 39 zeroG HI.out.1 (HG.out _ (by omega)) (by rw [gcells_size (pad_length (by simp; omega))]; rfl) (gcells_one _ _ _) ?_)
      refine bodyPost_ret (results_row_tmp Tryd.results28 _ w.heap.size 39 _ (0, 0) _ (by rfl) (setRow_heap _ _ _ _ _ _ HI.out.1) Tryd.underlying39 rfl (HG.out _ (by omega))) rfl ?_
      have hall : ∀ s ∈ ss, rowOk m s := fun s hs => by
        obtain ⟨i, hi, rfl⟩ := List.mem_iff_getElem.1 hs
        exact HR.out i _ hi (List.getElem?_eq_getElem hi)
      refine ⟨below_setRow' HI.out.2.2 (Nat.le_refl _) _, .inl ⟨ss.length, m, ⟨rfl, h11, h12, h21, h22, hall⟩, ?_⟩⟩
      rw [List.take_of_length_le (by rw [flat_length ss (fun s hs => (hall s hs).1)]; exact Nat.le_refl _)]
      rfl

set_option maxRecDepth 100000 in
set_option maxHeartbeats 1000000 in
theorem readGrid_any (A : Option Addr) (c : Nat) (ss : List ByteArray) (w : World) (h : Strs w w.heap.size A ss) (hn : ss.length ≤ 1048576) (hs : ∀ s ∈ ss, s.size ≤ 1048576) :
    Calls Tryd.prog 28 #[.slice A ss.length c] w (ReadEnd ss w) := by
  by_cases h1 : 1 ≤ ss.length ∧ ss.length ≤ 5
  · obtain ⟨b, off, s0, rfl, hb, hk0, hc0⟩ := h.at_ (k := 0) (by omega)
    rw [Nat.add_zero] at hc0
    by_cases h2 : 1 ≤ s0.size ∧ s0.size ≤ 5
    · exact readGrid_core b off c s0.size s0 ss w h h1 rfl h2 hk0 hs hb hc0
    · have hs0 := hs s0 (List.mem_of_getElem? hk0)
      have d1 : decide (1 ≤ (ss.length : Int) ∧ (ss.length : Int) ≤ 5) = true := by simp; omega
      have d2 : decide (1 ≤ (s0.size : Int) ∧ (s0.size : Int) ≤ 5) = false := by simp; omega
      have g1 := hid (sideIn_any (ss.length : Int))
      have g2 := hid (sideIn_any (s0.size : Int))
      rw [d1] at g1
      rw [d2] at g2
      have HN := hid (noGrid_first hk0 h2)
      have hl0 : (0 : Int) < (ss.length : Int) := by omega
      clear hk0 h hs d1 d2 h1 h2
      go_enter Tryd.func28, Tryd.ntmps28
      go_wp2_with fail
      refine (g1.out _).mono ?_
      rintro e w' ⟨rfl, rfl⟩
      go_wp2_with fail
      refine (g2.out _).mono ?_
      rintro e w' ⟨rfl, rfl⟩
      go_wp2_with (refine wpList_store_row rfl 39 _ _ rfl w.heap.size zeroG rfl rfl 39 zeroG (heap_new0 w _) Tryd.size_grid rfl (gcells_one 0 0 (pad [])) ?_)
      refine bodyPost_ret (results_row_tmp Tryd.results28 _ w.heap.size 39 zeroG (0, 0) _ (by rfl) (setRow_heap _ _ _ _ _ _ (heap_new0 w _)) Tryd.underlying39 rfl Tryd.size_grid) rfl ?_
      exact ⟨below_setRow' ((Below.refl _ w).alloc (Nat.le_refl _) _) (Nat.le_refl _) _, .inr ⟨HN.out, rfl⟩⟩
  · have d1 : decide (1 ≤ (ss.length : Int) ∧ (ss.length : Int) ≤ 5) = false := by simp; omega
    have g1 := hid (sideIn_any (ss.length : Int))
    rw [d1] at g1
    have HN := hid (noGrid_len h1)
    clear h hs d1 h1
    go_enter Tryd.func28, Tryd.ntmps28
    go_wp2_with fail
    refine (g1.out _).mono ?_
    rintro e w' ⟨rfl, rfl⟩
    go_wp2_with (refine wpList_store_row rfl 39 _ _ rfl w.heap.size zeroG rfl rfl 39 zeroG (heap_new0 w _) Tryd.size_grid rfl (gcells_one 0 0 (pad [])) ?_)
    refine bodyPost_ret (results_row_tmp Tryd.results28 _ w.heap.size 39 zeroG (0, 0) _ (by rfl) (setRow_heap _ _ _ _ _ _ (heap_new0 w _)) Tryd.underlying39 rfl Tryd.size_grid) rfl ?_
    exact ⟨below_setRow' ((Below.refl _ w).alloc (Nat.le_refl _) _) (Nat.le_refl _) _, .inr ⟨HN.out, rfl⟩⟩

end Go.Proofs.YtongjijkdjagdaaDoor

/- The texts of a grid, by their contract. -/
namespace Go.Proofs.YtongjijkdjagdaaDoor
open Go.RowKit

/-- Row i as a text. -/
def rowText (m : Nat) (ls : List UInt8) (i : Nat) : ByteArray := ⟨((ls.drop (i * m)).take m).toArray⟩
/-- The texts of n rows. -/
def textsOf (n m : Nat) (ls : List UInt8) : List ByteArray := (List.range n).map (rowText m ls)
theorem textsOf_length (n m : Nat) (ls : List UInt8) : (textsOf n m ls).length = n := by simp [textsOf]
theorem textsOf_at {n m k : Nat} {ls : List UInt8} (h : k < n) : (textsOf n m ls)[k]? = some (rowText m ls k) := by simp [textsOf, h]

theorem row_string {m p : Nat} {ls : List UInt8} : strOfNums (((ls.drop p).take m).map fun b => (b.toNat : Int)) = ⟨((ls.drop p).take m).toArray⟩ := by
  unfold strOfNums
  congr 2
  rw [List.map_map]
  rw [show ((fun n : Int => UInt8.ofNat n.toNat) ∘ fun b : UInt8 => (b.toNat : Int)) = id from funext fun b => by simp, List.map_id]
/-- A part of the letters of a grid as a text: the slice. -/
theorem run_part (b p m : Nat) (hp : p + m ≤ 25) (hp2 : p < 25) (W : World) :
    (Instr.sliceAt 37 (.pointer (some ⟨b, 2, none⟩)) (some (.int .i64 (p : Int))) (some (.int .i64 ((p : Int) + (m : Int)))) none).run Tryd.prog W = .ok (.slice (some ⟨b, 2 + p, none⟩) m (25 - p)) W := by
  have ha : Tryd.prog.arrayLen 37 = 25 := by kernel_rfl
  have hs : ∀ W, (sizeOf (Tryd.prog.elem 37)).run Tryd.prog W = .ok 1 W := fun W => by kernel_rfl
  rw [run_sliceAt_array_lh W 37 ⟨b, 2, none⟩ (by kernel_rfl) .i64 .i64 p (p + m) (by omega) (by omega) (by rw [ha]; omega), hs, ha]
  have e1 : ((p : Int)).toNat = p := by omega
  have e2 : ((p : Int) + (m : Int)).toNat = p + m := by omega
  have e3 : (Addr.add ⟨b, 2, none⟩ (p * 1) : Addr) = ⟨b, 2 + p, none⟩ := by unfold Addr.add; split <;> simp_all
  simp only [Result.andThen, slicedAt, e1, e2]
  rw [if_neg (by omega), e3, Nat.add_sub_cancel_left]
/-- .. and the text itself. -/
theorem run_text (b n m p : Nat) (ls : List UInt8) (fr : Nat × Nat) (t : TypeId) (hl : ls.length = 25) (hp : p + m ≤ 25) (W : World) (hW : W.heap[b]? = some (.cells (gcells n m ls) t fr)) :
    (convert 93 9 (.slice (some ⟨b, 2 + p, none⟩) m (25 - p))).run Tryd.prog W = .ok (.string ⟨((ls.drop p).take m).toArray⟩) W := by
  have h := run_convert_bytes_arg (P := Tryd.prog) W 93 5 Tryd.underlying93 Tryd.underlying5 b (2 + p) m (25 - p) (((ls.drop p).take m).map fun b => (b.toNat : Int)) (by simp; omega) (fun i hi => by
    have hb : ls[p + i]? = some (ls[p + i]'(by omega)) := List.getElem?_eq_getElem (by omega)
    rw [cell_of_row _ _ _ _ _ _ hW, Nat.add_assoc, gcells_at hb]
    congr 2
    rw [List.getD_eq_getElem?_getD, List.getElem?_map, List.getElem?_take_of_lt hi, List.getElem?_drop, hb]
    rfl) 9 Tryd.underlying9
  rw [h, row_string]

def TextRel (n m : Nat) (ls : List UInt8) (w : World) (i : Value) (wr : World) : Prop :=
  ∃ k : Nat, k ≤ n ∧ i = .int .i64 k ∧ ∃ C, wr = (w.alloc (.cells (gcells n m ls) 39)).alloc (.cells C 9) ∧ Filled (textsOf n m ls) k C

end Go.Proofs.YtongjijkdjagdaaDoor
