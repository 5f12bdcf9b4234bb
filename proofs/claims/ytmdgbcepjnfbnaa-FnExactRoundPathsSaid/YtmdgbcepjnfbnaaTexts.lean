/- The texts of a grid, by their contract. -/
import Derived.Test.YtmdgbcepjnfbnaaGrid1
import Derived.Laws.BytesArg
namespace Go.Proofs.Ytmdgbcepjnfbnaa
open Go.RowKit

/-- Row i as a text. -/
def rowText (m : Nat) (ls : List UInt8) (i : Nat) : ByteArray := ⟨((ls.drop (i * m)).take m).toArray⟩
/-- The texts of n rows. -/
def textsOf (n m : Nat) (ls : List UInt8) : List ByteArray := (List.range n).map (rowText m ls)
theorem textsOf_length (n m : Nat) (ls : List UInt8) : (textsOf n m ls).length = n := by simp [textsOf]
theorem textsOf_at {n m k : Nat} {ls : List UInt8} (h : k < n) : (textsOf n m ls)[k]? = some (rowText m ls k) := by simp [textsOf, h]

theorem row_string {m p : Nat} {ls : List UInt8} : strOfNums (((ls.drop p).take m).map fun b => (b.toNat : Int)) = ⟨((ls.drop p).take m).toArray⟩ := by
  unfold strOfNums
  congr 2
  rw [List.map_map]
  rw [show ((fun n : Int => UInt8.ofNat n.toNat) ∘ fun b : UInt8 => (b.toNat : Int)) = id from funext fun b => by simp, List.map_id]
/-- A part of the letters of a grid as a text: the slice. -/
theorem run_part (b p m : Nat) (hp : p + m ≤ 25) (hp2 : p < 25) (W : World) :
    (Instr.sliceAt 55 (.pointer (some ⟨b, 2, none⟩)) (some (.int .i64 (p : Int))) (some (.int .i64 ((p : Int) + (m : Int)))) none).run Try.prog W = .ok (.slice (some ⟨b, 2 + p, none⟩) m (25 - p)) W := by
  have ha : Try.prog.arrayLen 55 = 25 := by kernel_rfl
  have hs : ∀ W, (sizeOf (Try.prog.elem 55)).run Try.prog W = .ok 1 W := fun W => by kernel_rfl
  rw [run_sliceAt_array_lh W 55 ⟨b, 2, none⟩ (by kernel_rfl) .i64 .i64 p (p + m) (by omega) (by omega) (by rw [ha]; omega), hs, ha]
  have e1 : ((p : Int)).toNat = p := by omega
  have e2 : ((p : Int) + (m : Int)).toNat = p + m := by omega
  have e3 : (Addr.add ⟨b, 2, none⟩ (p * 1) : Addr) = ⟨b, 2 + p, none⟩ := by unfold Addr.add; split <;> simp_all
  simp only [Result.andThen, slicedAt, e1, e2]
  rw [if_neg (by omega), e3, Nat.add_sub_cancel_left]
/-- .. and the text itself. -/
theorem run_text (b n m p : Nat) (ls : List UInt8) (fr : Nat × Nat) (t : TypeId) (hl : ls.length = 25) (hp : p + m ≤ 25) (W : World) (hW : W.heap[b]? = some (.cells (gcells n m ls) t fr)) :
    (convert 22 9 (.slice (some ⟨b, 2 + p, none⟩) m (25 - p))).run Try.prog W = .ok (.string ⟨((ls.drop p).take m).toArray⟩) W := by
  have h := run_convert_bytes_arg (P := Try.prog) W 22 5 Try.underlying22 Try.underlying5 b (2 + p) m (25 - p) (((ls.drop p).take m).map fun b => (b.toNat : Int)) (by simp; omega) (fun i hi => by
    have hb : ls[p + i]? = some (ls[p + i]'(by omega)) := List.getElem?_eq_getElem (by omega)
    rw [cell_of_row _ _ _ _ _ _ hW, Nat.add_assoc, gcells_at hb]
    congr 2
    rw [List.getD_eq_getElem?_getD, List.getElem?_map, List.getElem?_take_of_lt hi, List.getElem?_drop, hb]
    rfl) 9 Try.underlying9
  rw [h, row_string]

def TextRel (n m : Nat) (ls : List UInt8) (w : World) (i : Value) (wr : World) : Prop :=
  ∃ k : Nat, k ≤ n ∧ i = .int .i64 k ∧ ∃ C, wr = (w.alloc (.cells (gcells n m ls) 57)).alloc (.cells C 9) ∧ Filled (textsOf n m ls) k C

set_option maxRecDepth 100000 in
set_option maxHeartbeats 1000000 in
theorem texts_any (n m : Nat) (ls : List UInt8) (w : World) (hl : ls.length = 25) (hn5 : n ≤ 5) (hm5 : m ≤ 5) :
    Calls Try.prog 104 #[.agg (gcells n m ls)] w fun e w' => e = .returned (.slice (some ⟨w.heap.size + 1, 0, none⟩) n n) ∧ Row9 w' (w.heap.size + 1) (textsOf n m ls) ∧ Below w.heap.size w w' := by
  have hmk := run_make_row' (P := Try.prog) 23 9 (.string ByteArray.empty) 16 Try.underlying23 Try.info_string rfl .i64 .i64 n (by omega) (by omega)
  have g0 := gcells_0 n m ls
  have g1 := gcells_1 n m ls
  go_enter Try.func104, Try.ntmps104
  go_wp2
  go_loopw [10] (TextRel n m ls w) (fun i _ => n - (intOf i).toNat)
  case atStart =>
    refine ⟨0, Nat.zero_le _, rfl, _, rfl, ?_⟩
    have := Filled.zero (textsOf n m ls)
    rwa [textsOf_length] at this
  case round =>
    obtain ⟨k, hk, rfl, C, rfl, hC⟩ := hrel
    by_cases hlt : k < n
    · have hmul : k * m ≤ 4 * 5 := Nat.mul_le_mul (by omega) hm5
      obtain ⟨p, hp⟩ : ∃ p, k * m = p := ⟨_, rfl⟩
      have e1 : (k : Int) * (m : Int) = (p : Int) := by rw [← hp]; simp
      have e2 : ((k : Int) + 1) * (m : Int) = (p : Int) + (m : Int) := by rw [Int.add_mul, Int.one_mul, e1]
      have b1 : (p : Int) ≤ 20 := by rw [hp] at hmul; omega
      have b2 : (p : Int) + (m : Int) ≤ 25 := by omega
      have hcv := run_text w.heap.size n m p ls (0, 0) 57 hl (by omega) ((w.alloc (.cells (gcells n m ls) 57)).alloc (.cells C 9)) (heap_new1 w _ _)
      have hsl := run_part w.heap.size p m (by omega) (by omega)
      obtain ⟨tx, htx⟩ : ∃ tx : ByteArray, (⟨((ls.drop p).take m).toArray⟩ : ByteArray) = tx := ⟨_, rfl⟩
      have htx2 : rowText m ls k = tx := by rw [← htx, ← hp]; rfl
      rw [htx] at hcv
      have hst := hid (hC.step (textsOf_at hlt))
      rw [htx2] at hst
      obtain ⟨u, hu⟩ := hC.at_ (k := k) (by rw [textsOf_length]; exact hlt)
      have HCC := hid hC
      clear hp hmul hC htx htx2
      go_wp2_with fail
      go_roundw
      case rel => exact ⟨k + 1, by omega, by go_num, _, rfl, hst.out⟩
      case measure => simp [intOf]; omega
    · obtain rfl : k = n := by omega
      have HCC := hid hC
      clear hC
      go_wp2
      go_ret
      have hg := heap_new0 (w.alloc (.cells (gcells k m ls) 57)) (.cells C 9)
      rw [World.size_alloc] at hg
      exact ⟨rfl, ⟨C, hg, fun i s hi => HCC.out.2.1 i s (by have := (List.getElem?_eq_some_iff.1 hi).1; rw [textsOf_length] at this; exact this) hi⟩, ((Below.refl _ w).alloc (Nat.le_refl _) _).alloc (by simp) _⟩

end Go.Proofs.Ytmdgbcepjnfbnaa
