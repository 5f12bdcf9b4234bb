/- The laws' marks on slices of strings, by their contracts: markText, markStringS, heldStringS. -/
import Derived.Test.YtmdgbcepjnfbnaaKit1
import Derived.Laws.BytesArg
namespace Go.Proofs.Ytmdgbcepjnfbnaa
open Go.RowKit

/-- The digits of a number ahead of a text, at most f of them. -/
def digs : Nat → Nat → ByteArray → ByteArray
  | 0, _, acc => acc
  | f + 1, k, acc => if k = 0 then acc else digs f (k / 10) (⟨#[UInt8.ofNat (48 + k % 10)]⟩ ++ acc)
/-- The mark of a number. -/
def markOf (k : Nat) : ByteArray := ⟨#[109]⟩ ++ digs k k ByteArray.empty

theorem digit_text (W : World) (d : Nat) :
    (convert 22 9 (.slice (some ⟨W.heap.size, 0, none⟩) 1 1)).run Try.prog (W.alloc (.cells #[.int .u8 (48 + (d : Int))] 5)) = .ok (.string ⟨#[UInt8.ofNat (48 + d)]⟩) (W.alloc (.cells #[.int .u8 (48 + (d : Int))] 5)) := by
  have h := run_convert_bytes_arg (P := Try.prog) (W.alloc (.cells #[.int .u8 (48 + (d : Int))] 5)) 22 5 Try.underlying22 Try.underlying5 W.heap.size 0 1 1 [48 + (d : Int)] rfl (fun i hi => by
    obtain rfl : i = 0 := by omega
    rw [cell_of_row _ _ _ _ _ _ (heap_new0 W _)]; rfl) 9 Try.underlying9
  rw [h]
  unfold strOfNums
  congr 2

def MarkRel (k : Nat) (w : World) (i x : Value) (wr : World) : Prop :=
  ∃ (q f : Nat) (acc : ByteArray), q ≤ f ∧ q ≤ k ∧ i = .int .i64 q ∧ x = .string acc ∧ digs f q acc = digs k k ByteArray.empty ∧ acc.size + q ≤ k ∧ Below w.heap.size w wr

set_option maxRecDepth 100000 in
set_option maxHeartbeats 1000000 in
theorem markText_any (k : Nat) (w : World) (h1 : 1 ≤ k) (h2 : k ≤ 4194304) :
    Calls Try.prog 86 #[.int .i64 k] w fun e w' => e = .returned (.string (markOf k)) ∧ Below w.heap.size w w' := by
  have hkz : decide (k = 0) = false := by simp; omega
  go_enter Try.func86, Try.ntmps86
  go_wp2
  go_loopw [0, 3] (MarkRel k w) (fun i _ _ => (intOf i).toNat)
  case atStart => exact ⟨k, k, ByteArray.empty, Nat.le_refl _, Nat.le_refl _, rfl, rfl, rfl, by simp, Below.refl _ _⟩
  case round =>
    obtain ⟨q, f, acc, hf, hq, rfl, rfl, hd, hz, hb⟩ := hrel
    have hz1 : acc.size ≤ 4194304 := by omega
    have HB := hid hb
    have HD := hid hd
    clear hb hd
    by_cases h0 : 0 < q
    · obtain ⟨rn, hrn⟩ : ∃ rn, q % 10 = rn := ⟨_, rfl⟩
      have hri : (q : Int) % 10 = (rn : Int) := by omega
      have r1 : (rn : Int) < 10 := by omega
      have r0 : 0 ≤ (rn : Int) := by omega
      obtain ⟨qn, hqn⟩ : ∃ qn, q / 10 = qn := ⟨_, rfl⟩
      have hqi : (q : Int) / 10 = (qn : Int) := by omega
      have q1 : (qn : Int) ≤ 4194304 := by omega
      have hlt : qn < q := by omega
      have hst : digs f q acc = digs (f - 1) qn (⟨#[UInt8.ofNat (48 + rn)]⟩ ++ acc) := by
        obtain ⟨f', rfl⟩ : ∃ f', f = f' + 1 := ⟨f - 1, by omega⟩
        rw [digs, if_neg (by omega), hrn, hqn]; rfl
      have hcv := digit_text wr rn
      rw [show UInt8.ofNat (48 + rn) = 48 + UInt8.ofNat rn by simp] at hst hcv
      have hsz : (⟨#[48 + UInt8.ofNat rn]⟩ : ByteArray).size = 1 := rfl
      have HST := hid hst
      clear hrn hqn hst
      go_wp2
      go_roundw
      case rel => exact ⟨qn, f - 1, _, by omega, by omega, rfl, rfl, by rw [← HST.out, HD.out], by rw [ByteArray.size_append, hsz]; omega, HB.out.alloc HB.out.size _⟩
      case measure => simp [intOf]; omega
    · obtain rfl : q = 0 := by omega
      have he : digs f 0 acc = acc := by cases f <;> simp [digs]
      have HE := hid he
      clear he h0
      go_wp2
      go_ret
      exact ⟨by rw [markOf, ← HD.out, HE.out]; rfl, HB.out⟩

/-- One block may have turned; what else lay there lies as it lay. -/
structure But (g : Nat) (w w' : World) : Prop where
  os : w'.os = w.os
  tape : w'.tape = w.tape
  output : w'.output = w.output
  size : w.heap.size ≤ w'.heap.size
  block : ∀ k, k < w.heap.size → k ≠ g → w'.heap[k]? = w.heap[k]?
theorem But.refl (g : Nat) (w : World) : But g w w := ⟨rfl, rfl, rfl, Nat.le_refl _, fun _ _ _ => rfl⟩
theorem But.trans {g : Nat} {a b c : World} (h : But g a b) (k : But g b c) : But g a c :=
  ⟨k.os.trans h.os, k.tape.trans h.tape, k.output.trans h.output, Nat.le_trans h.size k.size, fun i hi hn => (k.block i (Nat.lt_of_lt_of_le hi h.size) hn).trans (h.block i hi hn)⟩
theorem But.of_below {g : Nat} {a b : World} (h : Below a.heap.size a b) : But g a b := ⟨h.os, h.tape, h.output, h.size, fun i hi _ => h.block i hi⟩
theorem But.setCell {g : Nat} (w : World) (i : Nat) (v : Value) : But g w (w.setCell ⟨g, i, none⟩ v) := ⟨rfl, rfl, rfl, by simp, fun k _ hn => Below.heap_setCell _ _ _ _ hn⟩
theorem But.below {g B : Nat} {a b : World} (h : But g a b) (hB : B ≤ g) (hs : B ≤ a.heap.size) : Below B a b := ⟨h.os, h.tape, h.output, h.size, fun i hi => h.block i (by omega) (by omega)⟩
theorem Row9.but {w w' : World} {b g : Nat} {ss : List ByteArray} (h : Row9 w b ss) (hb : But g w w') (hn : b ≠ g) : Row9 w' b ss := by
  have hl := h.lt
  obtain ⟨cs, h, hc⟩ := h
  exact ⟨cs, (hb.block b hl hn).trans h, hc⟩

/-- The marks from a number on. -/
def marksOf (k n : Nat) : List ByteArray := (List.range n).map fun i => markOf (k + i)
theorem marksOf_length (k n : Nat) : (marksOf k n).length = n := by simp [marksOf]
theorem marksOf_at {k n i : Nat} (h : i < n) : (marksOf k n)[i]? = some (markOf (k + i)) := by simp [marksOf, h]

def MkRel (g k0 : Nat) (n sz : Nat) (w : World) (kv iv : Value) (wr : World) : Prop :=
  ∃ i : Nat, i ≤ n ∧ kv = .int .i64 ((k0 + i : Nat) : Int) ∧ iv = .int .i64 i ∧ But g w wr ∧ ∃ cs : Array Value, wr.heap[g]? = some (.cells cs 9 (0, 0)) ∧ cs.size = sz ∧ ∀ j, j < i → cs[j]? = some (.string (markOf (k0 + j)))

set_option maxRecDepth 100000 in
set_option maxHeartbeats 1000000 in
theorem markStringS_row (g c n k0 : Nat) (ss : List ByteArray) (w : World) (hn : ss.length = n) (h : Row9 w g ss) (h1 : 1 ≤ k0) (h2 : k0 + n ≤ 4194304) :
    Calls Try.prog 37 #[.slice (some ⟨g, 0, none⟩) n c, .int .i64 k0] w fun e w' => e = .returned (.int .i64 ((k0 + n : Nat) : Int)) ∧ But g w w' ∧ Row9 w' g (marksOf k0 n) := by
  obtain ⟨cs0, hg0, hcs⟩ := h
  have hsz : n ≤ cs0.size := by
    cases n with
    | zero => omega
    | succ n =>
      have e := hcs n _ (List.getElem?_eq_getElem (by omega))
      have := (Array.getElem?_eq_some_iff.1 e).1
      omega
  have HG0 := hid hg0
  clear hcs hg0 hn
  go_enter Try.func37, Try.ntmps37
  go_wp2
  go_loopw [1, 5] (MkRel g k0 n cs0.size w) (fun _ i _ => n - (intOf i).toNat)
  case atStart => exact ⟨0, Nat.zero_le _, rfl, rfl, But.refl _ _, cs0, HG0.out, rfl, fun j hj => absurd hj (by omega)⟩
  case round =>
    obtain ⟨i, hi, rfl, rfl, hbut, cs, hg, hs, hm⟩ := hrel
    have HBut := hid hbut
    have HG := hid hg
    have HM := hid hm
    have HS := hid hs
    clear hbut hg hm hs
    by_cases hlt : i < n
    · have hmk := hid (markText_any (k0 + i) wr (by omega) (by omega))
      obtain ⟨kk, hkk⟩ : ∃ kk, k0 + i = kk := ⟨_, rfl⟩
      have hki : ((k0 + i : Nat) : Int) = (kk : Int) := by rw [hkk]
      rw [hkk] at hmk
      rw [hki]
      have hk1 : (kk : Int) + 1 ≤ 4194305 := by omega
      have hk0 : 0 ≤ (kk : Int) := by omega
      have HKK := hid hkk
      clear hkk hki
      go_wp2_with fail
      refine hmk.out.mono ?_
      rintro e w2 ⟨rfl, hb2⟩
      have hg2 := (hb2.block g (lt_of_block HG.out)).trans HG.out
      obtain ⟨u, hu⟩ : ∃ u, cs[i]? = some u := ⟨_, Array.getElem?_eq_getElem (by rw [HS.out]; omega)⟩
      have hcell : w2.cell? ⟨g, i, none⟩ = some u := by rw [cell_of_row _ _ _ _ _ _ hg2]; exact hu
      have hfr : w2.frozen? ⟨g, i, none⟩ = false := frozen_of_row _ _ _ _ _ hg2
      have HG2 := hid hg2
      have HB2 := hid (HBut.out.trans (But.of_below hb2))
      clear hb2 hg2 hu
      go_wp2_with fail
      go_roundw
      case rel => exact ⟨i + 1, by omega, by rw [← Nat.add_assoc, HKK.out]; go_num, by go_num, HB2.out.trans (But.setCell _ _ _), _, heap_setCell_same _ _ _ _ _ _ HG2.out, by simp [HS.out], fun j hj => by
        by_cases hji : j = i
        · subst hji
          rw [HKK.out, Array.getElem?_setIfInBounds_self_of_lt (by rw [HS.out]; omega)]
        · rw [Array.getElem?_setIfInBounds_ne (fun e => hji e.symm)]; exact HM.out j (by omega)⟩
      case measure => simp [intOf]; omega
    · obtain rfl : i = n := by omega
      go_wp2_with fail
      go_ret
      exact ⟨rfl, HBut.out, cs, HG.out, fun j s hj => by
        have hl := (List.getElem?_eq_some_iff.1 hj).1
        rw [marksOf_length] at hl
        rw [marksOf_at hl] at hj
        cases hj
        exact HM.out j hl⟩

end Go.Proofs.Ytmdgbcepjnfbnaa
