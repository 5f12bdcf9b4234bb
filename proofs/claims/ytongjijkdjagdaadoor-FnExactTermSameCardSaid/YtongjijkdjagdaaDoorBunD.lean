/- Settled texts in one file. Each begins with what it holds. -/
import Derived.Test.YtongjijkdjagdaaDoorBunA
import Derived.Laws.BytesArg
import Derived.Test.YtongjijkdjagdaaDoorBunC
/- The laws' marks on slices of strings, by their contracts: markText, markStringS, heldStringS. -/
namespace Go.Proofs.YtongjijkdjagdaaDoor
open Go.RowKit

/-- The digits of a number ahead of a text, at most f of them. -/
def digs : Nat → Nat → ByteArray → ByteArray
  | 0, _, acc => acc
  | f + 1, k, acc => if k = 0 then acc else digs f (k / 10) (⟨#[UInt8.ofNat (48 + k % 10)]⟩ ++ acc)
/-- The mark of a number. -/
def markOf (k : Nat) : ByteArray := ⟨#[109]⟩ ++ digs k k ByteArray.empty

theorem digit_text (W : World) (d : Nat) :
    (convert 93 9 (.slice (some ⟨W.heap.size, 0, none⟩) 1 1)).run Tryd.prog (W.alloc (.cells #[.int .u8 (48 + (d : Int))] 5)) = .ok (.string ⟨#[UInt8.ofNat (48 + d)]⟩) (W.alloc (.cells #[.int .u8 (48 + (d : Int))] 5)) := by
  have h := run_convert_bytes_arg (P := Tryd.prog) (W.alloc (.cells #[.int .u8 (48 + (d : Int))] 5)) 93 5 Tryd.underlying93 Tryd.underlying5 W.heap.size 0 1 1 [48 + (d : Int)] rfl (fun i hi => by
    obtain rfl : i = 0 := by omega
    rw [cell_of_row _ _ _ _ _ _ (heap_new0 W _)]; rfl) 9 Tryd.underlying9
  rw [h]
  unfold strOfNums
  congr 2

def MarkRel (k : Nat) (w : World) (i x : Value) (wr : World) : Prop :=
  ∃ (q f : Nat) (acc : ByteArray), q ≤ f ∧ q ≤ k ∧ i = .int .i64 q ∧ x = .string acc ∧ digs f q acc = digs k k ByteArray.empty ∧ acc.size + q ≤ k ∧ Below w.heap.size w wr

/-- One block may have turned; what else lay there lies as it lay. -/
structure But (g : Nat) (w w' : World) : Prop where
  os : w'.os = w.os
  tape : w'.tape = w.tape
  output : w'.output = w.output
  size : w.heap.size ≤ w'.heap.size
  block : ∀ k, k < w.heap.size → k ≠ g → w'.heap[k]? = w.heap[k]?
theorem But.refl (g : Nat) (w : World) : But g w w := ⟨rfl, rfl, rfl, Nat.le_refl _, fun _ _ _ => rfl⟩
theorem But.trans {g : Nat} {a b c : World} (h : But g a b) (k : But g b c) : But g a c :=
  ⟨k.os.trans h.os, k.tape.trans h.tape, k.output.trans h.output, Nat.le_trans h.size k.size, fun i hi hn => (k.block i (Nat.lt_of_lt_of_le hi h.size) hn).trans (h.block i hi hn)⟩
theorem But.of_below {g : Nat} {a b : World} (h : Below a.heap.size a b) : But g a b := ⟨h.os, h.tape, h.output, h.size, fun i hi _ => h.block i hi⟩
theorem But.setCell {g : Nat} (w : World) (i : Nat) (v : Value) : But g w (w.setCell ⟨g, i, none⟩ v) := ⟨rfl, rfl, rfl, by simp, fun k _ hn => Below.heap_setCell _ _ _ _ hn⟩
theorem But.below {g B : Nat} {a b : World} (h : But g a b) (hB : B ≤ g) (hs : B ≤ a.heap.size) : Below B a b := ⟨h.os, h.tape, h.output, h.size, fun i hi => h.block i (by omega) (by omega)⟩
theorem Row9.but {w w' : World} {b g : Nat} {ss : List ByteArray} (h : Row9 w b ss) (hb : But g w w') (hn : b ≠ g) : Row9 w' b ss := by
  have hl := h.lt
  obtain ⟨cs, h, hc⟩ := h
  exact ⟨cs, (hb.block b hl hn).trans h, hc⟩

/-- The marks from a number on. -/
def marksOf (k n : Nat) : List ByteArray := (List.range n).map fun i => markOf (k + i)
theorem marksOf_length (k n : Nat) : (marksOf k n).length = n := by simp [marksOf]
theorem marksOf_at {k n i : Nat} (h : i < n) : (marksOf k n)[i]? = some (markOf (k + i)) := by simp [marksOf, h]

def MkRel (g k0 : Nat) (n sz : Nat) (w : World) (kv iv : Value) (wr : World) : Prop :=
  ∃ i : Nat, i ≤ n ∧ kv = .int .i64 ((k0 + i : Nat) : Int) ∧ iv = .int .i64 i ∧ But g w wr ∧ ∃ cs : Array Value, wr.heap[g]? = some (.cells cs 9 (0, 0)) ∧ cs.size = sz ∧ ∀ j, j < i → cs[j]? = some (.string (markOf (k0 + j)))

end Go.Proofs.YtongjijkdjagdaaDoor

/- The number of mirrors, and whether all cells are full, by their contracts. -/
namespace Go.Proofs.YtongjijkdjagdaaDoor
open Go.RowKit Go.Shelf
attribute [local go_sem] Oper.semAt_some

/-- The mirrors among the cells that have come. -/
def mirr {N : Nat} (ls : List UInt8) (pre : List (Fin N)) : Nat := pre.countP fun x => ls.getD x.val 0 != 46
theorem mirr_snoc {N : Nat} (ls : List UInt8) (pre : List (Fin N)) (x : Fin N) : mirr ls (pre ++ [x]) = mirr ls pre + (if (ls.getD x.val 0 != 46) = true then 1 else 0) := by
  simp [mirr, List.countP_append, List.countP_cons]
theorem mirr_le {N : Nat} (ls : List UInt8) (pre : List (Fin N)) : mirr ls pre ≤ pre.length := List.countP_le_length
theorem byte_bne (b : UInt8) : ((b.toNat : Int) != 46) = (b != 46) := by
  by_cases h : b = 46
  · subst h; rfl
  · have h' : b.toNat ≠ 46 := fun e => h (UInt8.toNat_inj.1 e)
    rw [bne_iff_ne.2 h, bne_iff_ne]; omega

theorem byte_beq46 (b : UInt8) : ((b.toNat : Int) == 46) = (b == 46) := by
  by_cases h : b = 46
  · subst h; rfl
  · have h' : b.toNat ≠ 46 := fun e => h (UInt8.toNat_inj.1 e)
    rw [beq_eq_false_iff_ne.2 h, beq_eq_false_iff_ne]; omega
theorem mirr_upto_lt {N k : Nat} (ls : List UInt8) (hk : k ≤ N) (h : mirr ls (upto N k) < (upto N k).length) : mirr ls (List.finRange N) < N := by
  have e : List.finRange N = upto N k ++ (List.finRange N).drop k := (List.take_append_drop k _).symm
  have h1 : mirr ls (List.finRange N) = mirr ls (upto N k) + mirr ls ((List.finRange N).drop k) := by
    unfold mirr
    conv => lhs; rw [e]
    rw [List.countP_append]
  have h2 := mirr_le ls ((List.finRange N).drop k)
  rw [upto_length hk] at h
  simp only [List.length_drop, List.length_finRange] at h2
  omega

end Go.Proofs.YtongjijkdjagdaaDoor

/- The grid flipped, by its contract. -/
namespace Go.Proofs.YtongjijkdjagdaaDoor
open Go.RowKit Go.Shelf
attribute [local go_sem] Oper.semAt_some

/-- The letters of the grid flipped. -/
def flipPos (m k : Nat) : Nat := (k / m) * m + (m - 1 - k % m)

set_option maxRecDepth 100000 in
set_option maxHeartbeats 2000000 in
theorem flipped_any (n m : Nat) (ls : List UInt8) (w : World) (hl : ls.length = 25) (hn : 1 ≤ n) (hn5 : n ≤ 5) (hm : 1 ≤ m) (hm5 : m ≤ 5) :
    Calls Tryd.prog 182 #[.agg (gcells n m ls)] w fun e w' => e = .returned (.agg (gcells n m (putAll (flipPos m) (turnVal ls) (List.finRange (n * m)) (pad [])))) ∧ Below w.heap.size w w' := by
  refine (callsIn_wide (n := 3)).1 ?_
  have HG := hid (show (Tryd.prog.info? 39).map (·.size) = some (gcells n m ls).size by rw [gcells_size hl]; exact Tryd.size_grid)
  have HT := hid (show (Tryd.prog.info? 39).map (·.size) = some (gcells n m (pad [])).size by rw [gcells_size (by rfl)]; exact Tryd.size_grid)
  have g0 := gcells_0 n m ls
  have g1 := gcells_1 n m ls
  have F0 : ((((w.alloc (.cells (gcells n m ls) 39)).alloc (.cells zeroG 39)).alloc (.cells zeroG 39)).setRow (w.heap.size + 1 + 1) (gcells n m (pad []))).heap[w.heap.size]? = some (.cells (gcells n m ls) 39 (0, 0)) := by
    rw [setRow_other _ _ _ _ (by omega)]; exact heap_new2 w _ _ _
  have F1 : ((((w.alloc (.cells (gcells n m ls) 39)).alloc (.cells zeroG 39)).alloc (.cells zeroG 39)).setRow (w.heap.size + 1 + 1) (gcells n m (pad []))).heap[w.heap.size + 1]? = some (.cells zeroG 39 (0, 0)) := by
    rw [setRow_other _ _ _ _ (by omega)]; simpa using heap_new1 (w.alloc _) _ _
  have F2 : ((((w.alloc (.cells (gcells n m ls) 39)).alloc (.cells zeroG 39)).alloc (.cells zeroG 39)).setRow (w.heap.size + 1 + 1) (gcells n m (pad []))).heap[w.heap.size + 1 + 1]? = some (.cells (gcells n m (pad [])) 39 (0, 0)) :=
    setRow_heap _ _ zeroG _ _ _ (by simpa using heap_new0 ((w.alloc _).alloc _) _)
  have F3 : Below w.heap.size w ((((w.alloc (.cells (gcells n m ls) 39)).alloc (.cells zeroG 39)).alloc (.cells zeroG 39)).setRow (w.heap.size + 1 + 1) (gcells n m (pad []))) :=
    below_setRow' ((((Below.refl _ w).alloc (Nat.le_refl _) _).alloc (by simp) _).alloc (by simp; omega) _) (by omega) _
  have F4 : ((((w.alloc (.cells (gcells n m ls) 39)).alloc (.cells zeroG 39)).alloc (.cells zeroG 39)).setRow (w.heap.size + 1 + 1) (gcells n m (pad []))).heap.size = w.heap.size + 3 := by simp
  have H0 := hid F0
  have H1 := hid F1
  have H2 := hid F2
  have H3 := hid F3
  have H4 := hid F4
  clear F0 F1 F2 F3 F4
  refine callsIn_of_wp_marks Tryd.func182 rfl trivial ?_ rfl
  simp only [Tryd.ntmps182, List.size_toArray, List.length_cons, List.length_nil, Nat.reduceAdd, Nat.reduceSub, Array.replicate_succ, Array.replicate_zero, List.push_toArray, List.append_toArray, List.nil_append, List.cons_append]
  gi_wp2_with (first
    | refine wpListIn_store_row (Open.wide _) rfl 39 _ _ rfl (w.heap.size + 1 + 1) (gcells n m (pad [])) rfl rfl 39 zeroG (by simpa using heap_new0 ((w.alloc _).alloc _) _) HT.out (gcells_size (by rfl)).symm (gcells_one _ _ _) ?_
    | refine wpListIn_load_row (Open.wide _) rfl 39 _ rfl w.heap.size rfl 39 (gcells n m ls) (0, 0) _ H0.out Tryd.underlying39 rfl HG.out ?_)
  generalize World.setRow _ _ _ = W0 at H0 H1 H2 H3 H4
  refine ⟨trivial, callsIn_wide.2 ((cells_any (gcells n m ls) W0).mono ?_)⟩
  rintro e w1 ⟨rfl, hw1⟩
  have K0 := hid (show w1.heap[w.heap.size]? = some (.cells (gcells n m ls) 39 (0, 0)) by rw [hw1]; exact (Below.heap_alloc _ _ _ (lt_of_block H0.out)).trans H0.out)
  have K1 := hid (show w1.heap[w.heap.size + 1]? = some (.cells zeroG 39 (0, 0)) by rw [hw1]; exact (Below.heap_alloc _ _ _ (lt_of_block H1.out)).trans H1.out)
  have K2 := hid (show w1.heap[w.heap.size + 1 + 1]? = some (.cells (gcells n m (pad [])) 39 (0, 0)) by rw [hw1]; exact (Below.heap_alloc _ _ _ (lt_of_block H2.out)).trans H2.out)
  have K3 := hid (show w1.heap[W0.heap.size]? = some (.cells (gcells n m ls) 39 (0, 0)) by rw [hw1]; exact heap_new0 W0 _)
  have KB := hid (show Below w.heap.size w w1 by rw [hw1]; exact H3.out.alloc H3.out.size _)
  have KS := hid (show w1.heap.size = w.heap.size + 4 by rw [hw1, World.size_alloc, H4.out])
  have KW := hid H4.out
  clear hw1
  gi_wp2
  have hlen : ∀ pre : List (Fin (n * m)), (putAll (flipPos m) (turnVal ls) pre (pad [])).length = 25 := fun pre => by rw [putAll_length]; rfl
  have HLEN := hid hlen
  clear hlen
  refine wpIn_rangeFunc_ownH rfl (by omega) (gf := 87) (lb := #[.pointer (some ⟨W0.heap.size, 0, none⟩)]) rfl trivial (enters_of Tryd.func87 (by kernel_rfl) rfl)
    (cells_stops 2 W0.heap.size n m (n * m) rfl ls hl hn5 hm hm5 w1 K3.out) KeepsAt.trans (keepsAt_b (lt_of_block K3.out)) (Below.refl _ _) (fun _ => rfl)
    (fun pre W => ((W.heap[w.heap.size]? = some (.cells (gcells n m ls) 39 (0, 0)) ∧ W.heap[w.heap.size + 1]? = some (.cells zeroG 39 (0, 0))) ∧ W.heap[w.heap.size + 1 + 1]? = some (.cells (gcells n m (putAll (flipPos m) (turnVal ls) pre (pad []))) 39 (0, 0))) ∧ Below w.heap.size w1 W)
    (fun _ _ _ => False)
    (OwnFrom.and (OwnFrom.and (OwnFrom.and (ownFrom_heap _ _ (fun _ => _) (fun _ => rfl)) (ownFrom_heap _ _ (fun _ => _) (fun _ => rfl))) (ownFrom_heap _ _ (fun pre => .cells (gcells n m (putAll (flipPos m) (turnVal ls) pre (pad []))) 39 (0, 0)) (fun _ => rfl))) (ownFrom_below (by rw [KS.out]; omega) (by rw [KS.out]; omega)))
    (fun _ _ _ _ _ hs _ _ => hs)
    ⟨⟨⟨K0.out, K1.out⟩, K2.out⟩, Below.refl _ _⟩
    (fun x a' W => ∃ Bx, w.heap.size + 4 ≤ Bx ∧ W.heap[Bx]? = some (.cells #[.int .i64 ((x.val / m : Nat) : Int), .int .i64 ((x.val % m : Nat) : Int)] 97 (0, 0)) ∧ ∃ u0 u6 u7 u8 u9 u10 u11 u12 u13 u14 u15 u16 u17 u18 u19 u20 u21 u22 u23 u24 u25 u26 u27 u28 : Value,
      a' = { tmps := #[u0, .pointer (some ⟨w.heap.size, 0, none⟩), .pointer (some ⟨w.heap.size + 1, 0, none⟩), .pointer (some ⟨w.heap.size + 1 + 1, 0, none⟩), .pointer (some ⟨Bx, 0, none⟩), .int .u8 ((ls.getD x.val 0).toNat : Int), u6, u7, u8, u9, u10, u11, u12, u13, u14, u15, u16, u17, u18, u19, u20, u21, u22, u23, u24, u25, u26, u27, u28], defers := [] })
    (fun x a' _ X Y row hs hg hr => by
      obtain ⟨Bx, h1, h2, h3⟩ := hs
      exact ⟨Bx, h1, ownFrom_heap _ Bx (fun (_ : Unit) => Obj.cells #[.int .i64 ((x.val / m : Nat) : Int), .int .i64 ((x.val % m : Nat) : Int)] 97 (0, 0)) (fun _ => rfl) () X Y row h2 hg hr, h3⟩)
    ?assign ?body ?done ?stop
  case assign =>
    rintro l pre x W K ⟨⟨⟨i0, i1⟩, i2⟩, i3⟩ hK
    have J0 := hid i0
    have J1 := hid i1
    have J2 := hid i2
    have J3 := hid i3
    have JK := hid hK
    clear i0 i1 i2 i3 hK
    unfold encs
    obtain ⟨qv, hqv⟩ : ∃ qv : Int, ((x.val / m : Nat) : Int) = qv := ⟨_, rfl⟩
    obtain ⟨rv, hrv⟩ : ∃ rv : Int, ((x.val % m : Nat) : Int) = rv := ⟨_, rfl⟩
    obtain ⟨bv, hbv⟩ : ∃ bv : Int, ((ls.getD x.val 0).toNat : Int) = bv := ⟨_, rfl⟩
    rw [hqv, hrv, hbv] at JK ⊢
    gi_wp2
    have hsz : w.heap.size + 4 ≤ W.heap.size := by rw [← KS.out]; exact J3.out.size
    exact JK.out _ _ ((KeepsOthers.alloc _ _).from _) ⟨by simp, Below.heap_alloc _ _ _ (by rw [KW.out]; omega)⟩
      ⟨⟨⟨(Below.heap_alloc _ _ _ (by omega)).trans J0.out, (Below.heap_alloc _ _ _ (by omega)).trans J1.out⟩, (Below.heap_alloc _ _ _ (by omega)).trans J2.out⟩, J3.out.alloc (by omega) _⟩
      ⟨W.heap.size, hsz, heap_new0 W _, _, _, _, _, _, _, _, _, _, _, _, _, _, _, _, _, _, _, _, _, _, _, _, _, rfl⟩
  case body =>
    rintro l pre x a' W hlw ⟨r, hr⟩ ⟨⟨⟨i0, i1⟩, i2⟩, i3⟩ ⟨Bx, hBx, hX, u0, u6, u7, u8, u9, u10, u11, u12, u13, u14, u15, u16, u17, u18, u19, u20, u21, u22, u23, u24, u25, u26, u27, u28, rfl⟩ hlt
    have hxk := x.isLt
    have hq5 : x.val / m < n := by rw [Nat.div_lt_iff_lt_mul (by omega)]; exact hxk
    have hr5 : x.val % m < m := Nat.mod_lt _ (by omega)
    have hmul : (x.val / m) * m ≤ (n - 1) * m := Nat.mul_le_mul_right _ (by omega)
    have hmul2 : n * m ≤ 5 * 5 := Nat.mul_le_mul hn5 hm5
    have hmul3 : (n - 1) * m + m = n * m := by rw [← Nat.succ_mul]; congr 1; omega
    have hsub : m - 1 - x.val % m ≤ m - 1 := Nat.sub_le _ _
    have hp : flipPos m x.val < 25 := by
      unfold flipPos
      generalize m - 1 - x.val % m = Q at hsub
      omega
    obtain ⟨qv, hqv⟩ : ∃ qv : Int, ((x.val / m : Nat) : Int) = qv := ⟨_, rfl⟩
    obtain ⟨rv, hrv⟩ : ∃ rv : Int, ((x.val % m : Nat) : Int) = rv := ⟨_, rfl⟩
    have hpe : qv * (m : Int) + ((m : Int) - 1 - rv) = ((flipPos m x.val : Nat) : Int) := by
      unfold flipPos
      rw [← hqv, ← hrv]
      have e : ((m - 1 - x.val % m : Nat) : Int) = (m : Int) - 1 - ((x.val % m : Nat) : Int) := by omega
      rw [Int.natCast_add, Int.natCast_mul, e]
    have b1 : 0 ≤ qv := by rw [← hqv]; exact Int.natCast_nonneg _
    have b2 : qv < (n : Int) := by rw [← hqv]; exact Int.ofNat_lt.2 hq5
    have b3 : 0 ≤ rv := by rw [← hrv]; exact Int.natCast_nonneg _
    have b4 : rv < (m : Int) := by rw [← hrv]; exact Int.ofNat_lt.2 hr5
    have hvl : (turnVal ls x.val) = oth (ls.getD x.val 0) := rfl
    obtain ⟨bb, hbb⟩ : ∃ bb : UInt8, ls.getD x.val 0 = bb := ⟨_, rfl⟩
    rw [hbb] at hvl ⊢
    rw [hqv, hrv] at hX
    have hex := hid (exchanged_any bb)
    have HVL := hid hvl
    have HPE := hid hpe
    have HP := hid hp
    clear hqv hrv hvl hpe hp hsub hmul hmul2 hmul3 hq5 hr5 hxk hbb hlt hl
    obtain ⟨wd, hwd⟩ : ∃ wd, W.drew = wd := ⟨_, rfl⟩
    have D0 := hid (show wd.heap[w.heap.size]? = some (.cells (gcells n m ls) 39 (0, 0)) by rw [← hwd]; exact i0)
    have D1 := hid (show wd.heap[w.heap.size + 1]? = some (.cells zeroG 39 (0, 0)) by rw [← hwd]; exact i1)
    have D2 := hid (show wd.heap[w.heap.size + 1 + 1]? = some (.cells (gcells n m (putAll (flipPos m) (turnVal ls) pre (pad []))) 39 (0, 0)) by rw [← hwd]; exact i2)
    have D3 := hid (show Below w.heap.size w1 wd by rw [← hwd]; exact i3.drew)
    have DX : wd.heap[Bx]? = some (.cells #[.int .i64 qv, .int .i64 rv] 97 (0, 0)) := by rw [← hwd]; exact hX
    have DK := hid (show KeepsOthers W wd by rw [← hwd]; exact KeepsOthers.drew W)
    have DS := hid (show wd.heap.size = W.heap.size by rw [← hwd]; rfl)
    have DH := hid (show wd.heap = W.heap by rw [← hwd]; rfl)
    have c0 : wd.cell? ⟨Bx, 0, none⟩ = some (.int .i64 qv) := by rw [cell_of_row _ _ _ _ _ _ DX]; rfl
    have c1 : wd.cell? ⟨Bx, 1, none⟩ = some (.int .i64 rv) := by rw [cell_of_row _ _ _ _ _ _ DX]; rfl
    have c2 : wd.cell? ⟨w.heap.size, 1, none⟩ = some (.int .i64 m) := by rw [cell_of_row _ _ _ _ _ _ D0.out, gcells_1]
    have HWD := hid hwd
    have HTT := hid (show ∀ ks : List (Fin (n * m)), (Tryd.prog.info? 39).map (·.size) = some (gcells n m (putAll (flipPos m) (turnVal ls) ks (pad []))).size from fun ks => by rw [gcells_size (HLEN.out ks)]; exact Tryd.size_grid)
    have HR := hid hr
    clear i0 i1 i2 i3 hX hwd DX hr g0 g1
    gi_wp2
    refine wpIn_region_quiet_tail (Open.round _ l) 12 (fun w' => w' = wd) (by kernel_rfl) (by kernel_rfl) HWD.out ?_
    simp only [List.take_succ_cons, List.take_zero, List.drop_succ_cons, List.drop_zero]
    refine wpQuiet_load_row rfl 39 _ rfl (w.heap.size + 1 + 1) rfl 39 _ (0, 0) _ (fun w' hw' => by rw [hw']; exact D2.out) Tryd.underlying39 rfl (HTT.out pre) ?_
    quiet_step (fail)
    quiet_step (fail)
    quiet_step (fail)
    quiet_step (fail)
    quiet_step (fail)
    quiet_step (fail)
    quiet_step (fail)
    quiet_step (fail)
    quiet_step (fail)
    quiet_step (fail)
    refine wpQuiet_call rfl 184 #[.int .u8 bb.toNat] (.int .u8 (oth bb).toNat) (fun w _ => by go_simp) (fun w' hw' => (hex.out w').mono fun e w'' ⟨he, hw''⟩ => ⟨he, hw''.symm.trans hw'⟩) ?_
    refine wpQuiet_nil ?_
    rintro w' rfl
    have hwith := hid ((with_any n m (putAll (flipPos m) (turnVal ls) pre (pad [])) qv ((m : Int) - 1 - rv) (flipPos m x.val) (oth bb) w' (HLEN.out pre) HP.out HPE.out ⟨b1, by omega⟩ hm5))
    gi_wp2_with fail
    refine ⟨trivial, CallsIn.inRound l (callsIn_wide.2 (hwith.out.mono ?_))⟩
    rintro e w2 ⟨rfl, hbel⟩
    have E0 := hid ((hbel.block _ (lt_of_block D0.out)).trans D0.out)
    have E1 := hid ((hbel.block _ (lt_of_block D1.out)).trans D1.out)
    have E2 := hid ((hbel.block _ (lt_of_block D2.out)).trans D2.out)
    have E3 := hid (D3.out.trans (hbel.mono (Nat.le_trans (by rw [KS.out]; omega) D3.out.size)))
    have EK := hid (DK.out.trans (keeps_below hbel))
    have EA := hid (show KeepsAt W0.heap.size W w2 from ⟨by rw [← DS.out]; exact hbel.size, by
      rw [hbel.block _ (by have := D3.out.size; rw [KS.out] at this; rw [KW.out]; omega), DH.out]⟩)
    clear hbel
    gi_wp2_with (refine wpListIn_store_row (Open.round _ l) rfl 39 _ _ rfl (w.heap.size + 1 + 1) (gcells n m ((putAll (flipPos m) (turnVal ls) pre (pad [])).set (flipPos m x.val) (oth bb))) rfl rfl 39 (gcells n m (putAll (flipPos m) (turnVal ls) pre (pad []))) E2.out (by rw [gcells_size (by rw [List.length_set]; exact HLEN.out pre)]; exact Tryd.size_grid) (by rw [gcells_size (HLEN.out pre), gcells_size (by rw [List.length_set]; exact HLEN.out pre)]) (gcells_one _ _ _) ?_)
    refine ⟨(EK.out.trans (keeps_setRow _ _ _)).from _, EA.out.trans ⟨by simp, setRow_other _ _ _ _ (by rw [KW.out]; omega)⟩, ⟨⟨?_, ?_⟩, ?_⟩, ?_⟩
    · rw [setRow_other _ _ _ _ (by omega)]; exact E0.out
    · rw [setRow_other _ _ _ _ (by omega)]; exact E1.out
    · rw [putAll_snoc, HVL.out]; exact setRow_heap _ _ _ _ _ _ E2.out
    · exact below_setRow' E3.out (by omega) _
  case done =>
    rintro D xs W hD rfl ⟨⟨⟨i0, i1⟩, i2⟩, i3⟩ hK
    have J1 := hid i1
    have J2 := hid i2
    have J3 := hid i3
    have JK := hid hK
    clear i0 i1 i2 i3 hK
    gi_wp2_with (first
      | refine wpListIn_load_row (Open.wide _) rfl 39 _ rfl (w.heap.size + 1 + 1) rfl 39 _ (0, 0) _ J2.out Tryd.underlying39 rfl (by rw [gcells_size (HLEN.out _)]; exact Tryd.size_grid) ?_
      | refine wpListIn_store_row (Open.wide _) rfl 39 _ _ rfl (w.heap.size + 1) (gcells n m (putAll (flipPos m) (turnVal ls) (List.finRange (n * m)) (pad []))) rfl rfl 39 zeroG J1.out (by rw [gcells_size (HLEN.out _)]; exact Tryd.size_grid) (by rw [gcells_size (HLEN.out _)]; rfl) (gcells_one _ _ _) ?_)
    have hne : w.heap.size + 1 ≠ D := by rw [KS.out] at hD; omega
    have hK' : (W.setRow (w.heap.size + 1) (gcells n m (putAll (flipPos m) (turnVal ls) (List.finRange (n * m)) (pad [])))).heap[D]? = some (.deferred (some [])) := by
      rw [setRow_other _ _ _ _ (fun e => hne e.symm)]; exact JK.out
    refine ⟨by simp, .inl ⟨_, _, rfl, run_takeDeferred hK', ?_⟩⟩
    refine ⟨_, results_cell_row Tryd.results182 _ _ (w.heap.size + 1) 39 _ (0, 0) _ (by rfl) ((World.putObj_heap_other hne).trans (setRow_heap _ _ _ _ _ _ J1.out)) Tryd.underlying39 rfl (by rw [gcells_size (HLEN.out _)]; exact Tryd.size_grid), rfl, ?_⟩
    exact (KB.out.trans (below_setRow' J3.out (by omega) _)).trans (belowK_b (w := w) (Nat.le_refl _) _ D _ _ (by rw [KS.out] at hD; omega) hK' rfl rfl)
  case stop =>
    rintro D c pre W _ _ h _
    exact h.elim

end Go.Proofs.YtongjijkdjagdaaDoor

/- The grid with its mirrors exchanged, by its contract. -/
namespace Go.Proofs.YtongjijkdjagdaaDoor
open Go.RowKit Go.Shelf
attribute [local go_sem] Oper.semAt_some

/-- Each letter stays where it is. -/
def samePos (k : Nat) : Nat := k

set_option maxRecDepth 100000 in
set_option maxHeartbeats 2000000 in
theorem other_any (n m : Nat) (ls : List UInt8) (w : World) (hl : ls.length = 25) (hn : 1 ≤ n) (hn5 : n ≤ 5) (hm : 1 ≤ m) (hm5 : m ≤ 5) :
    Calls Tryd.prog 183 #[.agg (gcells n m ls)] w fun e w' => e = .returned (.agg (gcells n m (putAll samePos (turnVal ls) (List.finRange (n * m)) (pad [])))) ∧ Below w.heap.size w w' := by
  refine (callsIn_wide (n := 3)).1 ?_
  have HG := hid (show (Tryd.prog.info? 39).map (·.size) = some (gcells n m ls).size by rw [gcells_size hl]; exact Tryd.size_grid)
  have HT := hid (show (Tryd.prog.info? 39).map (·.size) = some (gcells n m (pad [])).size by rw [gcells_size (by rfl)]; exact Tryd.size_grid)
  have g0 := gcells_0 n m ls
  have g1 := gcells_1 n m ls
  have F0 : ((((w.alloc (.cells (gcells n m ls) 39)).alloc (.cells zeroG 39)).alloc (.cells zeroG 39)).setRow (w.heap.size + 1 + 1) (gcells n m (pad []))).heap[w.heap.size]? = some (.cells (gcells n m ls) 39 (0, 0)) := by
    rw [setRow_other _ _ _ _ (by omega)]; exact heap_new2 w _ _ _
  have F1 : ((((w.alloc (.cells (gcells n m ls) 39)).alloc (.cells zeroG 39)).alloc (.cells zeroG 39)).setRow (w.heap.size + 1 + 1) (gcells n m (pad []))).heap[w.heap.size + 1]? = some (.cells zeroG 39 (0, 0)) := by
    rw [setRow_other _ _ _ _ (by omega)]; simpa using heap_new1 (w.alloc _) _ _
  have F2 : ((((w.alloc (.cells (gcells n m ls) 39)).alloc (.cells zeroG 39)).alloc (.cells zeroG 39)).setRow (w.heap.size + 1 + 1) (gcells n m (pad []))).heap[w.heap.size + 1 + 1]? = some (.cells (gcells n m (pad [])) 39 (0, 0)) :=
    setRow_heap _ _ zeroG _ _ _ (by simpa using heap_new0 ((w.alloc _).alloc _) _)
  have F3 : Below w.heap.size w ((((w.alloc (.cells (gcells n m ls) 39)).alloc (.cells zeroG 39)).alloc (.cells zeroG 39)).setRow (w.heap.size + 1 + 1) (gcells n m (pad []))) :=
    below_setRow' ((((Below.refl _ w).alloc (Nat.le_refl _) _).alloc (by simp) _).alloc (by simp; omega) _) (by omega) _
  have F4 : ((((w.alloc (.cells (gcells n m ls) 39)).alloc (.cells zeroG 39)).alloc (.cells zeroG 39)).setRow (w.heap.size + 1 + 1) (gcells n m (pad []))).heap.size = w.heap.size + 3 := by simp
  have H0 := hid F0
  have H1 := hid F1
  have H2 := hid F2
  have H3 := hid F3
  have H4 := hid F4
  clear F0 F1 F2 F3 F4
  refine callsIn_of_wp_marks Tryd.func183 rfl trivial ?_ rfl
  simp only [Tryd.ntmps183, List.size_toArray, List.length_cons, List.length_nil, Nat.reduceAdd, Nat.reduceSub, Array.replicate_succ, Array.replicate_zero, List.push_toArray, List.append_toArray, List.nil_append, List.cons_append]
  gi_wp2_with (first
    | refine wpListIn_store_row (Open.wide _) rfl 39 _ _ rfl (w.heap.size + 1 + 1) (gcells n m (pad [])) rfl rfl 39 zeroG (by simpa using heap_new0 ((w.alloc _).alloc _) _) HT.out (gcells_size (by rfl)).symm (gcells_one _ _ _) ?_
    | refine wpListIn_load_row (Open.wide _) rfl 39 _ rfl w.heap.size rfl 39 (gcells n m ls) (0, 0) _ H0.out Tryd.underlying39 rfl HG.out ?_)
  generalize World.setRow _ _ _ = W0 at H0 H1 H2 H3 H4
  refine ⟨trivial, callsIn_wide.2 ((cells_any (gcells n m ls) W0).mono ?_)⟩
  rintro e w1 ⟨rfl, hw1⟩
  have K0 := hid (show w1.heap[w.heap.size]? = some (.cells (gcells n m ls) 39 (0, 0)) by rw [hw1]; exact (Below.heap_alloc _ _ _ (lt_of_block H0.out)).trans H0.out)
  have K1 := hid (show w1.heap[w.heap.size + 1]? = some (.cells zeroG 39 (0, 0)) by rw [hw1]; exact (Below.heap_alloc _ _ _ (lt_of_block H1.out)).trans H1.out)
  have K2 := hid (show w1.heap[w.heap.size + 1 + 1]? = some (.cells (gcells n m (pad [])) 39 (0, 0)) by rw [hw1]; exact (Below.heap_alloc _ _ _ (lt_of_block H2.out)).trans H2.out)
  have K3 := hid (show w1.heap[W0.heap.size]? = some (.cells (gcells n m ls) 39 (0, 0)) by rw [hw1]; exact heap_new0 W0 _)
  have KB := hid (show Below w.heap.size w w1 by rw [hw1]; exact H3.out.alloc H3.out.size _)
  have KS := hid (show w1.heap.size = w.heap.size + 4 by rw [hw1, World.size_alloc, H4.out])
  have KW := hid H4.out
  clear hw1
  gi_wp2
  have hlen : ∀ pre : List (Fin (n * m)), (putAll samePos (turnVal ls) pre (pad [])).length = 25 := fun pre => by rw [putAll_length]; rfl
  have HLEN := hid hlen
  clear hlen
  refine wpIn_rangeFunc_ownH rfl (by omega) (gf := 87) (lb := #[.pointer (some ⟨W0.heap.size, 0, none⟩)]) rfl trivial (enters_of Tryd.func87 (by kernel_rfl) rfl)
    (cells_stops 2 W0.heap.size n m (n * m) rfl ls hl hn5 hm hm5 w1 K3.out) KeepsAt.trans (keepsAt_b (lt_of_block K3.out)) (Below.refl _ _) (fun _ => rfl)
    (fun pre W => ((W.heap[w.heap.size]? = some (.cells (gcells n m ls) 39 (0, 0)) ∧ W.heap[w.heap.size + 1]? = some (.cells zeroG 39 (0, 0))) ∧ W.heap[w.heap.size + 1 + 1]? = some (.cells (gcells n m (putAll samePos (turnVal ls) pre (pad []))) 39 (0, 0))) ∧ Below w.heap.size w1 W)
    (fun _ _ _ => False)
    (OwnFrom.and (OwnFrom.and (OwnFrom.and (ownFrom_heap _ _ (fun _ => _) (fun _ => rfl)) (ownFrom_heap _ _ (fun _ => _) (fun _ => rfl))) (ownFrom_heap _ _ (fun pre => .cells (gcells n m (putAll samePos (turnVal ls) pre (pad []))) 39 (0, 0)) (fun _ => rfl))) (ownFrom_below (by rw [KS.out]; omega) (by rw [KS.out]; omega)))
    (fun _ _ _ _ _ hs _ _ => hs)
    ⟨⟨⟨K0.out, K1.out⟩, K2.out⟩, Below.refl _ _⟩
    (fun x a' W => ∃ Bx, w.heap.size + 4 ≤ Bx ∧ W.heap[Bx]? = some (.cells #[.int .i64 ((x.val / m : Nat) : Int), .int .i64 ((x.val % m : Nat) : Int)] 97 (0, 0)) ∧ ∃ u0 u6 u7 u8 u9 u10 u11 u12 u13 u14 u15 u16 u17 u18 u19 u20 : Value,
      a' = { tmps := #[u0, .pointer (some ⟨w.heap.size, 0, none⟩), .pointer (some ⟨w.heap.size + 1, 0, none⟩), .pointer (some ⟨w.heap.size + 1 + 1, 0, none⟩), .pointer (some ⟨Bx, 0, none⟩), .int .u8 ((ls.getD x.val 0).toNat : Int), u6, u7, u8, u9, u10, u11, u12, u13, u14, u15, u16, u17, u18, u19, u20], defers := [] })
    (fun x a' _ X Y row hs hg hr => by
      obtain ⟨Bx, h1, h2, h3⟩ := hs
      exact ⟨Bx, h1, ownFrom_heap _ Bx (fun (_ : Unit) => Obj.cells #[.int .i64 ((x.val / m : Nat) : Int), .int .i64 ((x.val % m : Nat) : Int)] 97 (0, 0)) (fun _ => rfl) () X Y row h2 hg hr, h3⟩)
    ?assign ?body ?done ?stop
  case assign =>
    rintro l pre x W K ⟨⟨⟨i0, i1⟩, i2⟩, i3⟩ hK
    have J0 := hid i0
    have J1 := hid i1
    have J2 := hid i2
    have J3 := hid i3
    have JK := hid hK
    clear i0 i1 i2 i3 hK
    unfold encs
    obtain ⟨qv, hqv⟩ : ∃ qv : Int, ((x.val / m : Nat) : Int) = qv := ⟨_, rfl⟩
    obtain ⟨rv, hrv⟩ : ∃ rv : Int, ((x.val % m : Nat) : Int) = rv := ⟨_, rfl⟩
    obtain ⟨bv, hbv⟩ : ∃ bv : Int, ((ls.getD x.val 0).toNat : Int) = bv := ⟨_, rfl⟩
    rw [hqv, hrv, hbv] at JK ⊢
    gi_wp2
    have hsz : w.heap.size + 4 ≤ W.heap.size := by rw [← KS.out]; exact J3.out.size
    exact JK.out _ _ ((KeepsOthers.alloc _ _).from _) ⟨by simp, Below.heap_alloc _ _ _ (by rw [KW.out]; omega)⟩
      ⟨⟨⟨(Below.heap_alloc _ _ _ (by omega)).trans J0.out, (Below.heap_alloc _ _ _ (by omega)).trans J1.out⟩, (Below.heap_alloc _ _ _ (by omega)).trans J2.out⟩, J3.out.alloc (by omega) _⟩
      ⟨W.heap.size, hsz, heap_new0 W _, _, _, _, _, _, _, _, _, _, _, _, _, _, _, _, _, rfl⟩
  case body =>
    rintro l pre x a' W hlw ⟨r, hr⟩ ⟨⟨⟨i0, i1⟩, i2⟩, i3⟩ ⟨Bx, hBx, hX, u0, u6, u7, u8, u9, u10, u11, u12, u13, u14, u15, u16, u17, u18, u19, u20, rfl⟩ hlt
    have hxk := x.isLt
    have hq5 : x.val / m < n := by rw [Nat.div_lt_iff_lt_mul (by omega)]; exact hxk
    have hr5 : x.val % m < m := Nat.mod_lt _ (by omega)
    have hmul2 : n * m ≤ 5 * 5 := Nat.mul_le_mul hn5 hm5
    have hp : samePos x.val < 25 := by unfold samePos; omega
    obtain ⟨qv, hqv⟩ : ∃ qv : Int, ((x.val / m : Nat) : Int) = qv := ⟨_, rfl⟩
    obtain ⟨rv, hrv⟩ : ∃ rv : Int, ((x.val % m : Nat) : Int) = rv := ⟨_, rfl⟩
    have hpe : qv * (m : Int) + rv = ((samePos x.val : Nat) : Int) := by
      unfold samePos
      rw [← hqv, ← hrv, ← Int.natCast_mul, ← Int.natCast_add, Nat.mul_comm, Nat.div_add_mod]
    have b1 : 0 ≤ qv := by rw [← hqv]; exact Int.natCast_nonneg _
    have b2 : qv < (n : Int) := by rw [← hqv]; exact Int.ofNat_lt.2 hq5
    have b3 : 0 ≤ rv := by rw [← hrv]; exact Int.natCast_nonneg _
    have b4 : rv < (m : Int) := by rw [← hrv]; exact Int.ofNat_lt.2 hr5
    have hvl : (turnVal ls x.val) = oth (ls.getD x.val 0) := rfl
    obtain ⟨bb, hbb⟩ : ∃ bb : UInt8, ls.getD x.val 0 = bb := ⟨_, rfl⟩
    rw [hbb] at hvl ⊢
    rw [hqv, hrv] at hX
    have hex := hid (exchanged_any bb)
    have HVL := hid hvl
    have HPE := hid hpe
    have HP := hid hp
    clear hqv hrv hvl hpe hp hmul2 hq5 hr5 hxk hbb hlt hl
    obtain ⟨wd, hwd⟩ : ∃ wd, W.drew = wd := ⟨_, rfl⟩
    have D0 := hid (show wd.heap[w.heap.size]? = some (.cells (gcells n m ls) 39 (0, 0)) by rw [← hwd]; exact i0)
    have D1 := hid (show wd.heap[w.heap.size + 1]? = some (.cells zeroG 39 (0, 0)) by rw [← hwd]; exact i1)
    have D2 := hid (show wd.heap[w.heap.size + 1 + 1]? = some (.cells (gcells n m (putAll samePos (turnVal ls) pre (pad []))) 39 (0, 0)) by rw [← hwd]; exact i2)
    have D3 := hid (show Below w.heap.size w1 wd by rw [← hwd]; exact i3.drew)
    have DX : wd.heap[Bx]? = some (.cells #[.int .i64 qv, .int .i64 rv] 97 (0, 0)) := by rw [← hwd]; exact hX
    have DK := hid (show KeepsOthers W wd by rw [← hwd]; exact KeepsOthers.drew W)
    have DS := hid (show wd.heap.size = W.heap.size by rw [← hwd]; rfl)
    have DH := hid (show wd.heap = W.heap by rw [← hwd]; rfl)
    have c0 : wd.cell? ⟨Bx, 0, none⟩ = some (.int .i64 qv) := by rw [cell_of_row _ _ _ _ _ _ DX]; rfl
    have c1 : wd.cell? ⟨Bx, 1, none⟩ = some (.int .i64 rv) := by rw [cell_of_row _ _ _ _ _ _ DX]; rfl
    have HWD := hid hwd
    have HTT := hid (show ∀ ks : List (Fin (n * m)), (Tryd.prog.info? 39).map (·.size) = some (gcells n m (putAll samePos (turnVal ls) ks (pad []))).size from fun ks => by rw [gcells_size (HLEN.out ks)]; exact Tryd.size_grid)
    have HR := hid hr
    clear i0 i1 i2 i3 hX hwd DX hr g0 g1
    gi_wp2
    refine wpIn_region_quiet_tail (Open.round _ l) 4 (fun w' => w' = wd) (by kernel_rfl) (by kernel_rfl) HWD.out ?_
    simp only [List.take_succ_cons, List.take_zero, List.drop_succ_cons, List.drop_zero]
    refine wpQuiet_load_row rfl 39 _ rfl (w.heap.size + 1 + 1) rfl 39 _ (0, 0) _ (fun w' hw' => by rw [hw']; exact D2.out) Tryd.underlying39 rfl (HTT.out pre) ?_
    quiet_step (fail)
    quiet_step (fail)
    refine wpQuiet_call rfl 184 #[.int .u8 bb.toNat] (.int .u8 (oth bb).toNat) (fun w _ => by go_simp) (fun w' hw' => (hex.out w').mono fun e w'' ⟨he, hw''⟩ => ⟨he, hw''.symm.trans hw'⟩) ?_
    refine wpQuiet_nil ?_
    rintro w' rfl
    have hwith := hid ((with_any n m (putAll samePos (turnVal ls) pre (pad [])) qv rv (samePos x.val) (oth bb) w' (HLEN.out pre) HP.out HPE.out ⟨b1, by omega⟩ hm5))
    gi_wp2_with fail
    refine ⟨trivial, CallsIn.inRound l (callsIn_wide.2 (hwith.out.mono ?_))⟩
    rintro e w2 ⟨rfl, hbel⟩
    have E0 := hid ((hbel.block _ (lt_of_block D0.out)).trans D0.out)
    have E1 := hid ((hbel.block _ (lt_of_block D1.out)).trans D1.out)
    have E2 := hid ((hbel.block _ (lt_of_block D2.out)).trans D2.out)
    have E3 := hid (D3.out.trans (hbel.mono (Nat.le_trans (by rw [KS.out]; omega) D3.out.size)))
    have EK := hid (DK.out.trans (keeps_below hbel))
    have EA := hid (show KeepsAt W0.heap.size W w2 from ⟨by rw [← DS.out]; exact hbel.size, by
      rw [hbel.block _ (by have := D3.out.size; rw [KS.out] at this; rw [KW.out]; omega), DH.out]⟩)
    clear hbel
    gi_wp2_with (refine wpListIn_store_row (Open.round _ l) rfl 39 _ _ rfl (w.heap.size + 1 + 1) (gcells n m ((putAll samePos (turnVal ls) pre (pad [])).set (samePos x.val) (oth bb))) rfl rfl 39 (gcells n m (putAll samePos (turnVal ls) pre (pad []))) E2.out (by rw [gcells_size (by rw [List.length_set]; exact HLEN.out pre)]; exact Tryd.size_grid) (by rw [gcells_size (HLEN.out pre), gcells_size (by rw [List.length_set]; exact HLEN.out pre)]) (gcells_one _ _ _) ?_)
    refine ⟨(EK.out.trans (keeps_setRow _ _ _)).from _, EA.out.trans ⟨by simp, setRow_other _ _ _ _ (by rw [KW.out]; omega)⟩, ⟨⟨?_, ?_⟩, ?_⟩, ?_⟩
    · rw [setRow_other _ _ _ _ (by omega)]; exact E0.out
    · rw [setRow_other _ _ _ _ (by omega)]; exact E1.out
    · rw [putAll_snoc, HVL.out]; exact setRow_heap _ _ _ _ _ _ E2.out
    · exact below_setRow' E3.out (by omega) _
  case done =>
    rintro D xs W hD rfl ⟨⟨⟨i0, i1⟩, i2⟩, i3⟩ hK
    have J1 := hid i1
    have J2 := hid i2
    have J3 := hid i3
    have JK := hid hK
    clear i0 i1 i2 i3 hK
    gi_wp2_with (first
      | refine wpListIn_load_row (Open.wide _) rfl 39 _ rfl (w.heap.size + 1 + 1) rfl 39 _ (0, 0) _ J2.out Tryd.underlying39 rfl (by rw [gcells_size (HLEN.out _)]; exact Tryd.size_grid) ?_
      | refine wpListIn_store_row (Open.wide _) rfl 39 _ _ rfl (w.heap.size + 1) (gcells n m (putAll samePos (turnVal ls) (List.finRange (n * m)) (pad []))) rfl rfl 39 zeroG J1.out (by rw [gcells_size (HLEN.out _)]; exact Tryd.size_grid) (by rw [gcells_size (HLEN.out _)]; rfl) (gcells_one _ _ _) ?_)
    have hne : w.heap.size + 1 ≠ D := by rw [KS.out] at hD; omega
    have hK' : (W.setRow (w.heap.size + 1) (gcells n m (putAll samePos (turnVal ls) (List.finRange (n * m)) (pad [])))).heap[D]? = some (.deferred (some [])) := by
      rw [setRow_other _ _ _ _ (fun e => hne e.symm)]; exact JK.out
    refine ⟨by simp, .inl ⟨_, _, rfl, run_takeDeferred hK', ?_⟩⟩
    refine ⟨_, results_cell_row Tryd.results183 _ _ (w.heap.size + 1) 39 _ (0, 0) _ (by rfl) ((World.putObj_heap_other hne).trans (setRow_heap _ _ _ _ _ _ J1.out)) Tryd.underlying39 rfl (by rw [gcells_size (HLEN.out _)]; exact Tryd.size_grid), rfl, ?_⟩
    exact (KB.out.trans (below_setRow' J3.out (by omega) _)).trans (belowK_b (w := w) (Nat.le_refl _) _ D _ _ (by rw [KS.out] at hD; omega) hK' rfl rfl)
  case stop =>
    rintro D c pre W _ _ h _
    exact h.elim

end Go.Proofs.YtongjijkdjagdaaDoor

/- GridTurn, GridFlip, GridOther of the program, by their contracts. -/
namespace Go.Proofs.YtongjijkdjagdaaDoor
open Go.RowKit

/-- What a function that changes a grid comes to: the texts of the changed grid in a block of its own, or nothing. -/
def ChangeEnd (G : Nat → Nat → List UInt8 → List ByteArray) (ss : List ByteArray) (w : World) (e : Ending) (w' : World) : Prop :=
  Below w.heap.size w w' ∧ ((∃ n m g, IsGrid n m ss ∧ w.heap.size ≤ g ∧ Row9 w' g (G n m (pad (flat ss))) ∧ e = .returned (.tuple #[.slice (some ⟨g, 0, none⟩) (G n m (pad (flat ss))).length (G n m (pad (flat ss))).length, .bool true])) ∨ (NoGrid ss ∧ e = .returned (.tuple #[.slice none 0 0, .bool false])))
def turnG (n m : Nat) (ls : List UInt8) : List ByteArray := textsOf m n (putAll (turnPos n m) (turnVal ls) (List.finRange (n * m)) (pad []))
def flipG (n m : Nat) (ls : List UInt8) : List ByteArray := textsOf n m (putAll (flipPos m) (turnVal ls) (List.finRange (n * m)) (pad []))
def otherG (n m : Nat) (ls : List UInt8) : List ByteArray := textsOf n m (putAll samePos (turnVal ls) (List.finRange (n * m)) (pad []))

end Go.Proofs.YtongjijkdjagdaaDoor

/- The changed grids of the program and of the specification are the same lists: plain words. -/
namespace Go.Proofs.YtongjijkdjagdaaDoor
open Go.RowKit

theorem rows_eq (n m : Nat) (L : List UInt8) (f : Nat → Nat → UInt8) (h : ∀ r, r < n → ∀ q, q < m → L[r * m + q]? = some (f r q)) : textsOf n m L = ruleG n m f := by
  unfold textsOf ruleG
  apply List.map_congr_left
  intro r hr
  have hr' : r < n := List.mem_range.1 hr
  unfold rowText
  congr 2
  apply List.ext_getElem?
  intro q
  by_cases hq : q < m
  · rw [List.getElem?_take_of_lt hq, List.getElem?_drop, h r hr' q hq]
    simp [ruleL, hq]
  · rw [List.getElem?_eq_none (by rw [List.length_take]; omega), List.getElem?_eq_none (by rw [ruleL_length]; omega)]
theorem putAll_at {N : Nat} (pos : Nat → Nat) (val : Nat → UInt8) (p : Nat) (v : UInt8) : ∀ (ks : List (Fin N)) (acc : List UInt8), p < acc.length → (∀ x ∈ ks, pos x.val = p → val x.val = v) →
    ((∃ x ∈ ks, pos x.val = p) ∨ acc[p]? = some v) → (putAll pos val ks acc)[p]? = some v
  | [], acc, _, _, h => by
    rcases h with ⟨x, hx, _⟩ | h
    · cases hx
    · exact h
  | k :: ks, acc, hp, hv, h => by
    show (putAll pos val ks (acc.set (pos k.val) (val k.val)))[p]? = some v
    refine putAll_at pos val p v ks _ (by rw [List.length_set]; exact hp) (fun x hx => hv x (List.mem_cons_of_mem _ hx)) ?_
    by_cases hk : pos k.val = p
    · right
      rw [hk, List.getElem?_set_self hp, hv k (by simp) hk]
    · rcases h with ⟨x, hx, hxp⟩ | h
      · rcases List.mem_cons.1 hx with rfl | hx
        · exact absurd hxp hk
        · exact .inl ⟨x, hx, hxp⟩
      · right
        rw [List.getElem?_set_ne hk]; exact h
theorem put_all {N : Nat} (pos : Nat → Nat) (val : Nat → UInt8) (p : Nat) (x0 : Nat) (hx0 : x0 < N) (hp : p < 25) (h0 : pos x0 = p) (hu : ∀ x, x < N → pos x = p → x = x0) : (putAll pos val (List.finRange N) (pad []))[p]? = some (val x0) :=
  putAll_at pos val p _ _ _ (by simpa [pad] using hp) (fun x _ hx => by rw [hu x.val x.isLt hx]) (.inl ⟨⟨x0, hx0⟩, List.mem_finRange _, h0⟩)
theorem mul_inj {m a b r q : Nat} (h : a * m + b = r * m + q) (hb : b < m) (hq : q < m) : a = r ∧ b = q := by
  have hm : 0 < m := by omega
  have e1 : (a * m + b) / m = a := by rw [Nat.mul_comm, Nat.mul_add_div hm, Nat.div_eq_of_lt hb]; rfl
  have e2 : (r * m + q) / m = r := by rw [Nat.mul_comm, Nat.mul_add_div hm, Nat.div_eq_of_lt hq]; rfl
  rw [h, e2] at e1
  subst e1
  exact ⟨rfl, by omega⟩
theorem div_of {m a b : Nat} (hb : b < m) : (a * m + b) / m = a ∧ (a * m + b) % m = b := by
  have hm : 0 < m := by omega
  refine ⟨by rw [Nat.mul_comm, Nat.mul_add_div hm, Nat.div_eq_of_lt hb]; rfl, by rw [Nat.mul_comm, Nat.mul_add_mod, Nat.mod_eq_of_lt hb]⟩
theorem lt_of_parts {n m a b : Nat} (ha : a < n) (hb : b < m) : a * m + b < n * m := by
  have : (a + 1) * m ≤ n * m := Nat.mul_le_mul_right m ha
  rw [Nat.add_mul] at this; omega
theorem pad_getD (fl : List UInt8) (k : Nat) (h : k < fl.length) : (pad fl).getD k 0 = fl.getD k 0 := by
  rw [List.getD_eq_getElem?_getD, List.getD_eq_getElem?_getD, pad, List.getElem?_append_left h]

def flipF (m : Nat) (fl : List UInt8) (r q : Nat) : UInt8 := oth (fl.getD (r * m + (m - 1 - q)) 0)
def otherF (m : Nat) (fl : List UInt8) (r q : Nat) : UInt8 := oth (fl.getD (r * m + q) 0)
def turnF (n m : Nat) (fl : List UInt8) (r q : Nat) : UInt8 := oth (fl.getD ((n - 1 - q) * m + r) 0)

theorem flip_same {n m : Nat} {ss : List ByteArray} (h : IsGrid n m ss) : flipG n m (pad (flat ss)) = ruleG n m (flipF m (flat ss)) := by
  have hn5 := h.2.2.1
  have hm5 := h.2.2.2.2.1
  have hfl := h.flen
  have h25 := h.le25
  refine rows_eq _ _ _ _ fun r hr q hq => ?_
  have hp := lt_of_parts hr hq
  have hx : r * m + (m - 1 - q) < n * m := lt_of_parts hr (by omega)
  have hd := div_of (a := r) (m := m) (b := m - 1 - q) (by omega)
  rw [put_all (flipPos m) (turnVal (pad (flat ss))) (r * m + q) (r * m + (m - 1 - q)) hx (by omega) ?_ ?_]
  · unfold turnVal flipF
    rw [pad_getD _ _ (by rw [hfl]; exact hx)]
  · unfold flipPos
    rw [hd.1, hd.2]; omega
  · intro x hxl hxp
    unfold flipPos at hxp
    have hmod : x % m < m := Nat.mod_lt _ (by omega)
    obtain ⟨e1, e2⟩ := mul_inj hxp (by omega) hq
    have e3 := Nat.div_add_mod x m
    rw [e1, Nat.mul_comm] at e3
    omega
theorem other_same {n m : Nat} {ss : List ByteArray} (h : IsGrid n m ss) : otherG n m (pad (flat ss)) = ruleG n m (otherF m (flat ss)) := by
  have hfl := h.flen
  have h25 := h.le25
  refine rows_eq _ _ _ _ fun r hr q hq => ?_
  have hp := lt_of_parts hr hq
  rw [put_all samePos (turnVal (pad (flat ss))) (r * m + q) (r * m + q) hp (by omega) rfl (fun x _ hx => hx)]
  unfold turnVal otherF
  rw [pad_getD _ _ (by rw [hfl]; exact hp)]
theorem turn_same {n m : Nat} {ss : List ByteArray} (h : IsGrid n m ss) : turnG n m (pad (flat ss)) = ruleG m n (turnF n m (flat ss)) := by
  have hfl := h.flen
  have h25 := h.le25
  refine rows_eq _ _ _ _ fun r hr q hq => ?_
  have hp : r * n + q < m * n := lt_of_parts hr hq
  rw [Nat.mul_comm m n] at hp
  have hx : (n - 1 - q) * m + r < n * m := lt_of_parts (by omega) hr
  have hd := div_of (a := n - 1 - q) (m := m) (b := r) hr
  rw [put_all (turnPos n m) (turnVal (pad (flat ss))) (r * n + q) ((n - 1 - q) * m + r) hx (by omega) ?_ ?_]
  · unfold turnVal turnF
    rw [pad_getD _ _ (by rw [hfl]; exact hx)]
  · unfold turnPos
    rw [hd.1, hd.2]; omega
  · intro x hxl hxp
    unfold turnPos at hxp
    have hdiv : x / m < n := by rw [Nat.div_lt_iff_lt_mul (by omega)]; exact hxl
    have e3 := Nat.div_add_mod x m
    obtain ⟨y, hy⟩ : ∃ y : Nat, x / m = y := ⟨_, rfl⟩
    rw [hy] at hdiv hxp e3
    obtain ⟨e1, e2⟩ := mul_inj hxp (by omega) hq
    obtain rfl : y = n - 1 - q := by omega
    rw [e1, Nat.mul_comm] at e3
    omega

end Go.Proofs.YtongjijkdjagdaaDoor

/- l1Turn of the specification, by its contract. -/
namespace Go.Proofs.YtongjijkdjagdaaDoor
open Go.RowKit Go.Shelf

set_option maxRecDepth 100000 in
set_option maxHeartbeats 2000000 in
theorem l1Turn_any (A : Option Addr) (c B n m : Nat) (ss : List ByteArray) (w : World) (h : Strs w B A ss) (hB : B ≤ w.heap.size) (hg : IsGrid n m ss) (f : Nat → Nat → UInt8) (hf : ∀ r q, f r q = oth ((flat ss).getD ((n - 1 - q) * m + r) 0)) :
    Calls Tryd.prog 76 #[.slice A ss.length c] w fun e w' => (∃ v, e = .returned v ∧ GrowS w' w.heap.size v (ruleG m n f)) ∧ Below w.heap.size w w' := by
  have hn5 := hg.2.2.1
  have hm1 := hg.2.2.2.1
  have hn1 := hg.2.1
  have hm5 := hg.2.2.2.2.1
  have hnl := hg.1
  have HG := hid hg
  have HH := hid h
  have HBB := hid hB
  have HNL := hid hnl
  have HF := hid hf
  rw [hnl]
  clear hg h hB hnl hf
  go_enter Tryd.func76, Tryd.ntmps76
  go_wp2
  go_loopw [3, 4] (OutG m n f w) (fun _ i _ => m - (intOf i).toNat)
  case atStart => exact ⟨0, Nat.zero_le _, rfl, growS_new w _ (Nat.le_refl _), (Below.refl _ w).alloc (Nat.le_refl _) _⟩
  case round =>
    obtain ⟨r, hr, rfl, hgs, hbel⟩ := hrel
    have HS := hid hgs
    have HB := hid hbel
    clear hgs hbel
    obtain ⟨b', off', s0, rfl, hb', hk0, _⟩ := HH.out.at_ (k := 0) (by rw [HNL.out]; omega)
    have hs0 : s0.size = m := (HG.out.2.2.2.2.2 s0 (List.mem_of_getElem? hk0)).1
    have hs0i : ((s0.size : Nat) : Int) = (m : Int) := by rw [hs0]
    have hni : (0 : Int) < (n : Int) := by omega
    have hc0 := (HH.out.below HB.out HBB.out).cell_ hk0
    rw [Nat.add_zero] at hc0
    have HK0 := hid hk0
    have HS0 := hid hs0
    clear hk0 hs0
    by_cases hlt : r < m
    · obtain ⟨wo, rfl⟩ : ∃ wo : World, wo = wr := ⟨_, rfl⟩
      obtain ⟨ov, rfl⟩ : ∃ ov : Value, ov = u3 := ⟨_, rfl⟩
      go_wp2_with fail
      go_loopw [5, 6] (InDown m n r f w wo ov) (fun _ i _ => (intOf i + 1).toNat)
      case atStart =>
        exact ⟨n, Nat.le_refl _, rfl, by rw [Nat.sub_self, List.take_zero]; exact growB_new wo _ (Nat.le_refl _), HS.out.alloc _, HB.out.alloc HB.out.size _, by simp⟩
      case round =>
        obtain ⟨p, hp, rfl, hgB, hgS, hbel, hsz⟩ := hrel
        have HGB := hid hgB
        have HGS := hid hgS
        have HB2 := hid hbel
        have HZ := hid hsz
        clear hgB hgS hbel hsz hc0
        cases p with
        | zero =>
          have hcv := growB_text HGB.out (by rw [Nat.sub_zero, List.take_of_length_le (by rw [ruleL_length]; exact Nat.le_refl _), ruleL_length]; exact hn1)
          rw [Nat.sub_zero, List.take_of_length_le (by rw [ruleL_length]; exact Nat.le_refl _)] at hcv
          obtain ⟨tx, htx⟩ : ∃ tx : ByteArray, (⟨(ruleL n (f r)).toArray⟩ : ByteArray) = tx := ⟨_, rfl⟩
          rw [htx] at hcv
          have HTX := hid htx
          clear htx
          go_wp2_with (at_builtin; refine wpList_appendS rfl _ _ rfl w.heap.size ov ((ruleG m n f).take r) rfl (HGS.out.alloc _) wr.heap.size 1 rfl tx (cell_new wr tx) ?c3 (Nat.le_trans HB2.out.size (by simp)) ?_)
          case c3 => rw [List.length_take, ruleG_length]; omega
          intro v' w' hgr hgw
          have HGR := hid hgr
          have HGW := hid hgw
          clear hgr hgw
          go_wp2
          go_roundw
          case rel =>
            refine ⟨r + 1, by omega, by go_num, ?_, (HB2.out.alloc HB2.out.size _).grown HGW.out (Nat.le_trans HB2.out.size (by simp)) (fun k e => (ownBlock_lt HGS.out k e).1)⟩
            rw [ruleG, range_take m r _ hlt, HTX.out]
            exact HGR.out
          case measure => simp [intOf]; omega
        | succ p =>
          have hpi : (((p + 1 : Nat) : Int) - 1) = (p : Int) := by omega
          rw [hpi]
          obtain ⟨b2, off2, s, hA2, _, hks, hc⟩ := (HH.out.below HB2.out HBB.out).at_ (k := p) (by rw [HNL.out]; exact hp)
          obtain ⟨rfl, rfl⟩ : b' = b2 ∧ off' = off2 := by cases hA2; exact ⟨rfl, rfl⟩
          have hsm : s.size = m := (HG.out.2.2.2.2.2 s (List.mem_of_getElem? hks)).1
          have hps : r < s.size := by rw [hsm]; exact hlt
          obtain ⟨bt, hbt⟩ : ∃ bt, s.data.toList[r]? = some bt := ⟨_, List.getElem?_eq_getElem (by rw [← Lib.size_eq]; exact hps)⟩
          have hbyte : s[r] = bt := byte_of hbt hps
          have HKs := hid hks
          clear hA2 hks hsm
          have hl1 := hid (l1Other_any bt)
          have HBT := hid hbt
          clear hbt
          go_wp2_with fail
          refine (hl1.out _).mono ?_
          rintro e w' ⟨rfl, rfl⟩
          go_wp2_with (at_builtin; refine wpList_appendB rfl _ _ rfl wo.heap.size u5 ((ruleL n (f r)).take (n - (p + 1))) rfl (HGB.out.alloc _) wr.heap.size 1 rfl (oth bt) (cell_newB wr _) ?c3 (Nat.le_trans HZ.out (by simp)) ?_)
          case c3 => rw [List.length_take, ruleL_length]; omega
          intro v' w' hgr hgw
          have HGR := hid hgr
          have HGW := hid hgw
          clear hgr hgw
          go_wp2
          go_roundw
          case rel =>
            refine ⟨p, by omega, rfl, ?_, ?_, ?_, ?_⟩
            · rw [show n - p = (n - (p + 1)) + 1 by omega, ruleL, range_take n (n - (p + 1)) _ (by omega)]
              have e : f r (n - (p + 1)) = oth bt := by
                rw [HF.out, show n - 1 - (n - (p + 1)) = p by omega]
                have e2 := flat_at ss p r s (fun i t _ ht => (HG.out.2.2.2.2.2 t (List.mem_of_getElem? ht)).1) HKs.out hps
                rw [HBT.out] at e2
                rw [List.getD_eq_getElem?_getD, e2]; rfl
              rw [e]
              exact HGR.out
            · exact grown_other (World.ownsRow.alloc HGS.out _) (World.ownsRow.alloc HGB.out _) (fun k e => (ownBlock_lt HS.out k e).2) (Nat.le_refl _) HGW.out
            · exact (HB2.out.alloc HB2.out.size _).grown HGW.out (Nat.le_trans HB2.out.size (by simp)) (fun k e => Nat.le_trans HB.out.size (World.ownsRow.lt HGB.out k e).1)
            · exact Nat.le_trans (Nat.le_trans HZ.out (by simp)) HGW.out.size
          case measure => simp [intOf]
    · obtain rfl : r = m := by omega
      have HS' := HS.out
      rw [List.take_of_length_le (by rw [ruleG_length]; exact Nat.le_refl _)] at HS'
      have HSS := hid HS'
      clear HS'
      go_wp2_with fail
      go_ret
      exact ⟨⟨_, rfl, HSS.out⟩, HB.out⟩

end Go.Proofs.YtongjijkdjagdaaDoor

/- GridTurn, GridFlip, GridOther of the specification, by their contracts. -/
namespace Go.Proofs.YtongjijkdjagdaaDoor
open Go.RowKit Go.Shelf

/-- What the specification comes to: a list that reads as the changed grid, or nothing. -/
def SpecEnd (G : Nat → Nat → List UInt8 → List ByteArray) (ss : List ByteArray) (w : World) (e : Ending) (w' : World) : Prop :=
  Below w.heap.size w w' ∧ ((∃ n m A c, IsGrid n m ss ∧ Strs w' w'.heap.size A (G n m (pad (flat ss))) ∧ e = .returned (.tuple #[.slice A (G n m (pad (flat ss))).length c, .bool true])) ∨ (NoGrid ss ∧ ∃ A c, e = .returned (.tuple #[.slice A 0 c, .bool false])))
theorem noGrid_of {ss : List ByteArray} (h : false = true ↔ ∃ n m, IsGrid n m ss) : NoGrid ss := fun n m hg => by
  have := h.2 ⟨n, m, hg⟩; cases this

theorem l1None_any (w : World) :
    Calls Tryd.prog 39 #[] w fun e w' => (∃ A c, e = .returned (.tuple #[.slice A 0 c, .bool false])) ∧ Below w.heap.size w w' := by
  go_enter Tryd.func39, Tryd.ntmps39
  go_wp2
  refine bodyPost_ret (results_tmp2 rfl _ _ _) rfl ?_
  exact ⟨⟨_, _, rfl⟩, (Below.refl _ w).alloc (Nat.le_refl _) _⟩

end Go.Proofs.YtongjijkdjagdaaDoor

/- GridOther of the specification, by its contract. -/
namespace Go.Proofs.YtongjijkdjagdaaDoor
open Go.RowKit Go.Shelf

/-- The inner loop, upwards. -/
def InUp (K L r : Nat) (f : Nat → Nat → UInt8) (w wo : World) (ov : Value) (v i : Value) (wr : World) : Prop :=
  ∃ p : Nat, p ≤ L ∧ i = .int .i64 p ∧ GrowB wr wo.heap.size v ((ruleL L (f r)).take p) ∧ GrowS wr w.heap.size ov ((ruleG K L f).take r) ∧ Below w.heap.size w wr ∧ wo.heap.size ≤ wr.heap.size

set_option maxRecDepth 100000 in
set_option maxHeartbeats 2000000 in
theorem specGridOther_any (A : Option Addr) (c B : Nat) (ss : List ByteArray) (w : World) (h : Strs w B A ss) (hB : B ≤ w.heap.size) (hn : ss.length ≤ 1048576) (hs : ∀ s ∈ ss, s.size ≤ 1048576) :
    Calls Tryd.prog 78 #[.slice A ss.length c] w (SpecEnd otherG ss w) := by
  have HB0 := hid ((Below.refl w.heap.size w).alloc (Nat.le_refl _) (.cells #[] 9))
  have HI := hid (specGridIn_any A c B ss (w.alloc (.cells #[] 9)) (h.below HB0.out hB) hn hs)
  have HH := hid h
  have HBB := hid hB
  clear h hs hB
  go_enter Tryd.func78, Tryd.ntmps78
  go_wp2_with fail
  refine HI.out.mono ?_
  rintro e w' ⟨ok, rfl, hok, d, rfl⟩
  have HO := hid hok
  clear hok
  have HBd := hid (below_drewN' HB0.out d)
  cases ok with
  | false =>
    go_wp2_with fail
    refine bodyPost_ret (results_tmp2 rfl _ _ _) rfl ?_
    exact ⟨HBd.out, .inr ⟨noGrid_of HO.out, _, _, rfl⟩⟩
  | true =>
    obtain ⟨n, m, hg⟩ := HO.out.1 rfl
    have hn5 := hg.2.2.1
    have hm1 := hg.2.2.2.1
    have hm5 := hg.2.2.2.2.1
    have hnl := hg.1
    have HG := hid hg
    have HNL := hid hnl
    obtain ⟨f, hf⟩ : ∃ f, f = otherF m (flat ss) := ⟨_, rfl⟩
    have HF := hid hf
    rw [hnl]
    clear hg hnl hf
    go_wp2_with fail
    go_loopw [4, 5] (OutG n m f w) (fun _ i _ => n - (intOf i).toNat)
    case atStart => exact ⟨0, Nat.zero_le _, rfl, growS_new w _ (Nat.le_refl _), HBd.out⟩
    case round =>
      obtain ⟨r, hr, rfl, hgs, hbel⟩ := hrel
      have HS := hid hgs
      have HB := hid hbel
      clear hgs hbel
      by_cases hlt : r < n
      · obtain ⟨b', off', s, rfl, hb', hks, _⟩ := HH.out.at_ (by rw [HNL.out]; exact hlt)
        have hsm : s.size = m := (HG.out.2.2.2.2.2 s (List.mem_of_getElem? hks)).1
        have hsmi : ((s.size : Nat) : Int) = (m : Int) := by rw [hsm]
        have hc := (HH.out.below (HB.out.alloc HB.out.size (.cells #[] 5)) HBB.out).cell_ hks
        have HKs := hid hks
        have HSm := hid hsm
        obtain ⟨wo, rfl⟩ : ∃ wo : World, wo = wr := ⟨_, rfl⟩
        obtain ⟨ov, rfl⟩ : ∃ ov : Value, ov = u4 := ⟨_, rfl⟩
        clear hks hsm
        go_wp2_with fail
        go_loopw [6, 7] (InUp n m r f w wo ov) (fun _ i _ => m - (intOf i).toNat)
        case atStart =>
          exact ⟨0, Nat.zero_le _, rfl, by rw [List.take_zero]; exact growB_new wo _ (Nat.le_refl _), HS.out.alloc _, HB.out.alloc HB.out.size _, by simp⟩
        case round =>
          obtain ⟨p, hp, rfl, hgB, hgS, hbel, hsz⟩ := hrel
          have HGB := hid hgB
          have HGS := hid hgS
          have HB2 := hid hbel
          have HZ := hid hsz
          clear hgB hgS hbel hsz hc
          have hc := (HH.out.below HB2.out HBB.out).cell_ HKs.out
          by_cases hlp : p < m
          · have hps : p < s.size := by rw [HSm.out]; exact hlp
            obtain ⟨bt, hbt⟩ : ∃ bt, s.data.toList[p]? = some bt := ⟨_, List.getElem?_eq_getElem (by rw [← Lib.size_eq]; exact hps)⟩
            have hbyte : s[p] = bt := byte_of hbt hps
            have hl1 := hid (l1Other_any bt)
            have HBT := hid hbt
            clear hbt
            go_wp2_with fail
            refine (hl1.out _).mono ?_
            rintro e w' ⟨rfl, rfl⟩
            go_wp2_with (at_builtin; refine wpList_appendB rfl _ _ rfl wo.heap.size u6 ((ruleL m (f r)).take p) rfl (HGB.out.alloc _) wr.heap.size 1 rfl (oth bt) (cell_newB wr _) ?c3 (Nat.le_trans HZ.out (by simp)) ?_)
            case c3 => rw [List.length_take, ruleL_length]; omega
            intro v' w' hgr hgw
            have HGR := hid hgr
            have HGW := hid hgw
            clear hgr hgw hc
            go_wp2
            go_roundw
            case rel =>
              refine ⟨p + 1, by omega, by go_num, ?_, ?_, ?_, ?_⟩
              · rw [ruleL, range_take m p _ hlp]
                have e : f r p = oth bt := by
                  rw [HF.out]
                  unfold otherF
                  have e2 := flat_at ss r p s (fun i t _ ht => (HG.out.2.2.2.2.2 t (List.mem_of_getElem? ht)).1) HKs.out hps
                  rw [HBT.out] at e2
                  rw [List.getD_eq_getElem?_getD, e2]; rfl
                rw [e]
                exact HGR.out
              · exact grown_other (World.ownsRow.alloc HGS.out _) (World.ownsRow.alloc HGB.out _) (fun k e => (ownBlock_lt HS.out k e).2) (Nat.le_refl _) HGW.out
              · exact (HB2.out.alloc HB2.out.size _).grown HGW.out (Nat.le_trans HB2.out.size (by simp)) (fun k e => Nat.le_trans HB.out.size (World.ownsRow.lt HGB.out k e).1)
              · exact Nat.le_trans (Nat.le_trans HZ.out (by simp)) HGW.out.size
            case measure => simp [intOf]; omega
          · obtain rfl : p = m := by omega
            have hcv := growB_text HGB.out (by rw [List.take_of_length_le (by rw [ruleL_length]; exact Nat.le_refl _), ruleL_length]; exact hm1)
            rw [List.take_of_length_le (by rw [ruleL_length]; exact Nat.le_refl _)] at hcv
            obtain ⟨tx, htx⟩ : ∃ tx : ByteArray, (⟨(ruleL p (f r)).toArray⟩ : ByteArray) = tx := ⟨_, rfl⟩
            rw [htx] at hcv
            have HTX := hid htx
            clear htx
            go_wp2_with (at_builtin; refine wpList_appendS rfl _ _ rfl w.heap.size ov ((ruleG n p f).take r) rfl (HGS.out.alloc _) wr.heap.size 1 rfl tx (cell_new wr tx) ?c3 (Nat.le_trans HB2.out.size (by simp)) ?_)
            case c3 => rw [List.length_take, ruleG_length]; omega
            intro v' w' hgr hgw
            have HGR := hid hgr
            have HGW := hid hgw
            clear hgr hgw hc
            go_wp2
            go_roundw
            case rel =>
              refine ⟨r + 1, by omega, by go_num, ?_, (HB2.out.alloc HB2.out.size _).grown HGW.out (Nat.le_trans HB2.out.size (by simp)) (fun k e => (ownBlock_lt HGS.out k e).1)⟩
              rw [ruleG, range_take n r _ hlt, HTX.out]
              exact HGR.out
            case measure => simp [intOf]; omega
      · obtain rfl : r = n := by omega
        have HS' := HS.out
        rw [List.take_of_length_le (by rw [ruleG_length]; exact Nat.le_refl _)] at HS'
        have HSS := hid HS'
        clear HS'
        go_wp2_with fail
        obtain ⟨A1, cc, hv, hst⟩ := HSS.out.strs
        subst hv
        refine bodyPost_ret (results_tmp2 rfl _ _ _) rfl ?_
        have e : ruleG r m f = otherG r m (pad (flat ss)) := by rw [other_same HG.out, HF.out]
        rw [e] at hst ⊢
        exact ⟨HB.out, .inl ⟨r, m, A1, cc, HG.out, hst, rfl⟩⟩

end Go.Proofs.YtongjijkdjagdaaDoor

/- heldStringS, by its contract; marks on nothing. -/
namespace Go.Proofs.YtongjijkdjagdaaDoor
open Go.RowKit Go.Shelf
attribute [local go_sem] Oper.semAt_some

def HdRel (k0 n : Nat) (w : World) (kv iv : Value) (wr : World) : Prop :=
  ∃ i : Nat, i ≤ n ∧ kv = .int .i64 ((k0 + i : Nat) : Int) ∧ iv = .int .i64 i ∧ Below w.heap.size w wr

end Go.Proofs.YtongjijkdjagdaaDoor

/- The number that tells a grid, by its contract. -/
namespace Go.Proofs.YtongjijkdjagdaaDoor
open Go.RowKit Go.Shelf
attribute [local go_sem] Oper.semAt_some

/-- The digit of a letter. -/
def dig (b : UInt8) : Nat := if b == 114 then 1 else if b == 102 then 2 else 0
theorem dig_le (b : UInt8) : dig b ≤ 2 := by unfold dig; split <;> (try split) <;> omega
theorem dig_index (b : UInt8) (h : isLet b = true) : Lib.indexByte [46, 114, 102] b = (dig b : Int) := by
  simp only [isLet, Bool.or_eq_true, beq_iff_eq] at h
  rcases h with (rfl | rfl) | rfl <;> decide
/-- The number of the cells that have come, and the weight of the next one. -/
def numP {N : Nat} (ls : List UInt8) (pre : List (Fin N)) : Nat × Nat := pre.foldl (fun a x => (a.1 + a.2 * dig (ls.getD x.val 0), a.2 * 3)) (0, 1)
theorem numP_snoc {N : Nat} (ls : List UInt8) (pre : List (Fin N)) (x : Fin N) : numP ls (pre ++ [x]) = ((numP ls pre).1 + (numP ls pre).2 * dig (ls.getD x.val 0), (numP ls pre).2 * 3) := by
  simp [numP, List.foldl_append]
theorem numP_lt {N : Nat} (ls : List UInt8) (k : Nat) : ∀ (pre : List (Fin N)), pre.length = k → (numP ls pre).1 < (numP ls pre).2 ∧ (numP ls pre).2 = 3 ^ k := by
  induction k with
  | zero => intro pre h; obtain rfl := List.eq_nil_of_length_eq_zero h; simp [numP]
  | succ k ih =>
    intro pre h
    obtain ⟨ys, y, rfl⟩ : ∃ ys y, pre = ys ++ [y] := ⟨pre.dropLast, pre.getLast (by rintro rfl; simp at h), (List.dropLast_concat_getLast _).symm⟩
    have ⟨h1, h2⟩ := ih ys (by simpa using h)
    rw [numP_snoc]
    have hd := dig_le (ls.getD y.val 0)
    have hm : (numP ls ys).2 * dig (ls.getD y.val 0) ≤ (numP ls ys).2 * 2 := Nat.mul_le_mul_left _ hd
    refine ⟨by dsimp only; omega, by dsimp only; rw [h2, Nat.pow_succ]⟩

end Go.Proofs.YtongjijkdjagdaaDoor

/- Counting letters, in the specification; plain words on counts and numbers. -/
namespace Go.Proofs.YtongjijkdjagdaaDoor
open Go.RowKit

/-- How often a letter comes. -/
def cntOf (b : UInt8) (l : List UInt8) : Nat := l.countP fun x => x == b
theorem cntOf_step {fl : List UInt8} {q : Nat} {b x : UInt8} (h : fl[q]? = some x) : cntOf b (fl.take (q + 1)) = cntOf b (fl.take q) + (if (x == b) = true then 1 else 0) := by
  obtain ⟨hlt, rfl⟩ := List.getElem?_eq_some_iff.1 h
  unfold cntOf
  rw [List.take_succ_eq_append_getElem hlt, List.countP_append, List.countP_cons, List.countP_nil, Nat.zero_add]
theorem cntOf_le (b : UInt8) (l : List UInt8) : cntOf b l ≤ l.length := List.countP_le_length

def CntRel (ss : List ByteArray) (m : Nat) (b : UInt8) (x i : Value) : Prop :=
  ∃ r : Nat, r ≤ ss.length ∧ i = .int .i64 r ∧ x = .int .i64 ((cntOf b ((flat ss).take (r * m)) : Nat) : Int)
def CntIn (ss : List ByteArray) (m r : Nat) (b : UInt8) (x i : Value) : Prop :=
  ∃ k : Nat, k ≤ m ∧ i = .int .i64 k ∧ x = .int .i64 ((cntOf b ((flat ss).take (r * m + k)) : Nat) : Int)

/-- The cells of a full list, one by one. -/
theorem cells_map (fl : List UInt8) (N : Nat) (hN : fl.length = N) : (List.finRange N).map (fun x => (pad fl).getD x.val 0) = fl := by
  apply List.ext_getElem
  · simp [hN]
  · intro i h1 h2
    simp [pad, List.getElem?_append_left h2, List.getElem?_eq_getElem h2]
theorem mirr_flat (fl : List UInt8) (N : Nat) (hN : fl.length = N) : mirr (pad fl) (List.finRange N) = fl.countP (fun b => b != 46) := by
  conv => rhs; rw [← cells_map fl N hN]
  rw [List.countP_map]
  rfl
theorem mirr_two (fl : List UInt8) (h : ∀ b ∈ fl, isLet b = true) : fl.countP (fun b => b != 46) = cntOf 114 fl + cntOf 102 fl := by
  induction fl with
  | nil => rfl
  | cons b fl ih =>
    have ih' := ih (fun x hx => h x (by simp [hx]))
    have hb := h b (by simp)
    simp only [isLet, Bool.or_eq_true, beq_iff_eq] at hb
    unfold cntOf at ih' ⊢
    rcases hb with (rfl | rfl) | rfl <;> simp only [List.countP_cons] <;> rw [ih'] <;> simp <;> omega
theorem mirr_all (fl : List UInt8) : fl.countP (fun b => b != 46) + cntOf 46 fl = fl.length := by
  induction fl with
  | nil => rfl
  | cons b fl ih =>
    unfold cntOf at ih ⊢
    by_cases hb : b = 46
    · subst hb; simp; omega
    · simp [hb]; omega
theorem IsGrid.lets {n m : Nat} {ss : List ByteArray} (h : IsGrid n m ss) : ∀ b ∈ flat ss, isLet b = true := fun b hb => by
  unfold flat at hb
  obtain ⟨s, hs, hb⟩ := List.mem_flatMap.1 hb
  exact (h.2.2.2.2.2 s hs).2 b hb
theorem IsGrid.mirrors {n m : Nat} {ss : List ByteArray} (h : IsGrid n m ss) : mirr (pad (flat ss)) (List.finRange (n * m)) = cntOf 114 (flat ss) + cntOf 102 (flat ss) := by
  rw [mirr_flat _ _ h.flen, mirr_two _ h.lets]
theorem IsGrid.full {n m : Nat} {ss : List ByteArray} (h : IsGrid n m ss) : (mirr (pad (flat ss)) (List.finRange (n * m)) == n * m) = (cntOf 46 (flat ss) == 0) := by
  have h1 := mirr_all (flat ss)
  rw [← mirr_flat _ _ h.flen, h.flen] at h1
  rw [Bool.eq_iff_iff, beq_iff_eq, beq_iff_eq]; omega
/-- The number of a list of letters. -/
def numOf (fl : List UInt8) : Nat := fl.foldr (fun b a => dig b + 3 * a) 0
theorem numOf_fold (fl : List UInt8) : ∀ (s v : Nat), (fl.foldl (fun (a : Nat × Nat) b => (a.1 + a.2 * dig b, a.2 * 3)) (s, v)).1 = s + v * numOf fl := by
  induction fl with
  | nil => intro s v; simp [numOf]
  | cons b fl ih =>
    intro s v
    rw [List.foldl_cons, ih]
    show s + v * dig b + v * 3 * numOf fl = s + v * (dig b + 3 * numOf fl)
    rw [Nat.mul_add, Nat.mul_assoc]; omega
theorem IsGrid.number {n m : Nat} {ss : List ByteArray} (h : IsGrid n m ss) : (numP (pad (flat ss)) (List.finRange (n * m))).1 = numOf (flat ss) := by
  have e := numOf_fold (flat ss) 0 1
  rw [Nat.zero_add, Nat.one_mul] at e
  rw [← e]
  conv => rhs; rw [← cells_map (flat ss) (n * m) h.flen, List.foldl_map]
  rfl
theorem numOf_drop {fl : List UInt8} {q : Nat} {b : UInt8} (h : fl[q]? = some b) : numOf (fl.drop q) = dig b + 3 * numOf (fl.drop (q + 1)) := by
  obtain ⟨hlt, rfl⟩ := List.getElem?_eq_some_iff.1 h
  rw [List.drop_eq_getElem_cons hlt]
  rfl
theorem numOf_lt (fl : List UInt8) : numOf fl < 3 ^ fl.length := by
  induction fl with
  | nil => decide
  | cons b fl ih =>
    have := dig_le b
    show dig b + 3 * numOf fl < 3 ^ (fl.length + 1)
    rw [Nat.pow_succ]; omega

end Go.Proofs.YtongjijkdjagdaaDoor

/- GridCount, GridFull, GridNumber of the program, by their contracts. -/
namespace Go.Proofs.YtongjijkdjagdaaDoor
open Go.RowKit
section
variable {P : Program} {ops : Array Oper} {rest : List Oper} {o : Oper} {a : Act} {w : World} {Q : Exit → Act → World → Prop}
/-- A whole struct out of its block, where the guard lets it be loaded. -/
theorem wpList_load_row_g (hw : Region.wanted o (yielded ops a.tmps) = true) (ty : TypeId) (x : Operand) (ho : o.op = .load ty x)
    (g : Nat) (hx : a.eval x = .pointer (some ⟨g, 0, none⟩)) (t : TypeId) (cs : Array Value) (fr : Nat × Nat) (d : TypeDesc) (hg : w.heap[g]? = some (.cells cs t fr))
    (hu : P.underlying ty = some d) (hd : (match d with | .struct _ | .array _ _ => true | _ => false) = true) (hi : (P.info? ty).map (·.size) = some cs.size)
    (h : wpList P ops Q rest (a.put o.dst (.agg cs)) w) : wpList P ops Q (o :: rest) a w := by
  unfold wpList
  rw [if_pos hw]
  exact .inl (wp_load_row ty x ho g hx t cs fr d hg hu hd hi h)
end

/-- What GridCount comes to. -/
def CountEnd (ss : List ByteArray) (e : Ending) : Prop :=
  (∃ n m, IsGrid n m ss ∧ e = .returned (.tuple #[.int .i64 ((cntOf 114 (flat ss) + cntOf 102 (flat ss) : Nat) : Int), .bool true])) ∨ (NoGrid ss ∧ e = .returned (.tuple #[.int .i64 0, .bool false]))
def FullEnd (ss : List ByteArray) (e : Ending) : Prop :=
  (∃ n m, IsGrid n m ss ∧ e = .returned (.bool (cntOf 46 (flat ss) == 0))) ∨ (NoGrid ss ∧ e = .returned (.bool false))
def NumberEnd (ss : List ByteArray) (e : Ending) : Prop :=
  (∃ n m, IsGrid n m ss ∧ ((n * m ≤ 20 ∧ e = .returned (.tuple #[.int .i64 ((numOf (flat ss) : Nat) : Int), .bool true])) ∨ (20 < n * m ∧ e = .returned (.tuple #[.int .i64 0, .bool false])))) ∨ (NoGrid ss ∧ e = .returned (.tuple #[.int .i64 0, .bool false]))

theorem IsGrid.letters {n m : Nat} {ss : List ByteArray} (h : IsGrid n m ss) : ∀ i, i < n * m → isLet ((pad (flat ss)).getD i 0) = true := fun i hi => by
  have hl : i < (flat ss).length := by rw [h.flen]; exact hi
  have e : (pad (flat ss)).getD i 0 = (flat ss)[i] := by
    simp [pad, List.getElem?_append_left hl, List.getElem?_eq_getElem hl]
  rw [e]
  exact h.lets _ (List.getElem_mem hl)

end Go.Proofs.YtongjijkdjagdaaDoor

/- GridCount, GridFull, GridNumber of the specification, by their contracts. -/
namespace Go.Proofs.YtongjijkdjagdaaDoor
open Go.RowKit

/-- The cells that are still to come. -/
def NumRel (fl : List UInt8) (N : Nat) (w : World) (x i : Value) (wr : World) : Prop :=
  ∃ q : Nat, q ≤ N ∧ i = .int .i64 ((q : Int) - 1) ∧ x = .int .i64 ((numOf (fl.drop q) : Nat) : Int) ∧ ∃ d, wr = w.drewN d

theorem let3 (b : UInt8) (h : isLet b = true) : (b = 46 ∧ dig b = 0) ∨ (b = 114 ∧ dig b = 1) ∨ (b = 102 ∧ dig b = 2) := by
  simp only [isLet, Bool.or_eq_true, beq_iff_eq] at h
  rcases h with (rfl | rfl) | rfl <;> simp [dig]

theorem CountEnd_two {ss : List ByteArray} {e : Ending} (h : CountEnd ss e) : ∃ (x : Int) (ok : Bool), e = .returned (.tuple #[.int .i64 x, .bool ok]) := by
  rcases h with ⟨n, m, _, rfl⟩ | ⟨_, rfl⟩ <;> exact ⟨_, _, rfl⟩
theorem CountEnd_one {ss : List ByteArray} {e e' : Ending} (h : CountEnd ss e) (h' : CountEnd ss e') : e' = e := by
  rcases h with ⟨n, m, hg, rfl⟩ | ⟨hn, rfl⟩ <;> rcases h' with ⟨n', m', hg', rfl⟩ | ⟨hn', rfl⟩
  · rfl
  · exact absurd hg (hn' _ _)
  · exact absurd hg' (hn _ _)
  · rfl
theorem FullEnd_two {ss : List ByteArray} {e : Ending} (h : FullEnd ss e) : ∃ (ok : Bool), e = .returned (.bool ok) := by
  rcases h with ⟨n, m, _, rfl⟩ | ⟨_, rfl⟩ <;> exact ⟨_, rfl⟩
theorem FullEnd_one {ss : List ByteArray} {e e' : Ending} (h : FullEnd ss e) (h' : FullEnd ss e') : e' = e := by
  rcases h with ⟨n, m, hg, rfl⟩ | ⟨hn, rfl⟩ <;> rcases h' with ⟨n', m', hg', rfl⟩ | ⟨hn', rfl⟩
  · rfl
  · exact absurd hg (hn' _ _)
  · exact absurd hg' (hn _ _)
  · rfl
theorem NumberEnd_two {ss : List ByteArray} {e : Ending} (h : NumberEnd ss e) : ∃ (x : Int) (ok : Bool), e = .returned (.tuple #[.int .i64 x, .bool ok]) := by
  rcases h with ⟨n, m, _, ⟨_, rfl⟩ | ⟨_, rfl⟩⟩ | ⟨_, rfl⟩ <;> exact ⟨_, _, rfl⟩
theorem NumberEnd_one {ss : List ByteArray} {e e' : Ending} (h : NumberEnd ss e) (h' : NumberEnd ss e') : e' = e := by
  rcases h with ⟨n, m, hg, h1⟩ | ⟨hn, rfl⟩ <;> rcases h' with ⟨n', m', hg', h2⟩ | ⟨hn', rfl⟩
  · have e1 := hg.flen
    have e2 := hg'.flen
    rcases h1 with ⟨h1, rfl⟩ | ⟨h1, rfl⟩ <;> rcases h2 with ⟨h2, rfl⟩ | ⟨h2, rfl⟩
    · rfl
    · omega
    · omega
    · rfl
  · exact absurd hg (hn' _ _)
  · exact absurd hg' (hn _ _)
  · rfl
/-- The block that toStringS has made reads as the strings. -/
theorem madeRow {ss : List ByteArray} {w w' : World} {C : Array Value} (h : Filled ss ss.length C) (hw : w' = w.alloc (.cells C 9)) : Row9 w' w.heap.size ss := by
  subst hw
  exact ⟨C, heap_new0 w _, fun k s hk => h.2.1 k s (List.getElem?_eq_some_iff.1 hk).1 hk⟩

end Go.Proofs.YtongjijkdjagdaaDoor
