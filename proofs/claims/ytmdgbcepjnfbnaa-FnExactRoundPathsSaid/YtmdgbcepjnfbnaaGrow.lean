/- Slices that grow by append: letters, texts. -/
import Derived.Test.YtmdgbcepjnfbnaaSpecIn
import Derived.Test.YtmdgbcepjnfbnaaTurned
import Derived.Laws.BytesArg
import Derived.RangeFuncFrom
namespace Go.Proofs.Ytmdgbcepjnfbnaa
open Go.RowKit Go.Shelf

theorem Try.info_byte : (Try.prog.info? 5).map (fun i => (i.zero, i.size, i.bytes)) = some (some (.int .u8 0), 1, 1) := by kernel_rfl
def bytesV (l : List UInt8) : List Value := l.map fun b => .int .u8 b.toNat
def strsV (l : List ByteArray) : List Value := l.map .string
def GrowB (w : World) (base : Nat) (v : Value) (l : List UInt8) : Prop := w.ownsRow base 5 1 v l.length (bytesV l)
def GrowS (w : World) (base : Nat) (v : Value) (l : List ByteArray) : Prop := w.ownsRow base 9 1 v l.length (strsV l)
theorem growB_new (w : World) (base : Nat) (hb : base ≤ w.heap.size) : GrowB (w.alloc (.cells #[] 5)) base (.slice (some ⟨w.heap.size, 0, none⟩) 0 0) [] :=
  World.ownsRow_made w #[] 0 hb (by unfold maxLen; omega) rfl
theorem growS_new (w : World) (base : Nat) (hb : base ≤ w.heap.size) : GrowS (w.alloc (.cells #[] 9)) base (.slice (some ⟨w.heap.size, 0, none⟩) 0 0) [] :=
  World.ownsRow_made w #[] 0 hb (by unfold maxLen; omega) rfl

section
variable {ops : Array Oper} {rest : List Oper} {o : Oper} {a : Act} {w : World} {Q : Exit → Act → World → Prop}
theorem wpList_appendB (hgd : o.guard = none) (s x : Operand) (ho : o.op = .call { callee := .builtin .append, args := #[s, x], argTypes := #[22, 22] })
    (base : Nat) (v : Value) (l : List UInt8) (hs : a.eval s = v) (hown : GrowB w base v l) (h c : Nat) (hx : a.eval x = .slice (some ⟨h, 0, none⟩) 1 c) (b : UInt8) (hc : w.cell? ⟨h, 0, none⟩ = some (.int .u8 b.toNat))
    (hl : l.length ≤ 1000000) (hbase : base ≤ w.heap.size)
    (hk : ∀ v' w', GrowB w' base v' (l ++ [b]) → w.grownBy w' v.ownBlock → wpList Try.prog ops Q rest (a.put o.dst v') w') : wpList Try.prog ops Q (o :: rest) a w := by
  obtain ⟨i0, hi, hz0, hz1, hz2⟩ := info_parts Try.info_byte
  refine wpList_append_own w hgd s x 22 ho base 5 i0 (.int .u8 0) 1 1 Try.underlying22 hi hz0 hz1 hz2 rfl (by decide) v l.length (bytesV l) hs hown ⟨h, 0, none⟩ 1 c [.int .u8 b.toNat] hx rfl ?_ ?_ (by unfold maxLen; omega) (by omega) hbase ?_
  · intro j u hj
    match j, hj with
    | 0, hj => simp at hj; subst hj; simpa [Addr.add] using hc
  · intro u hu; simp at hu; subst hu; rfl
  · intro v' w' h1 h2 _
    refine hk v' w' ?_ h2
    unfold GrowB bytesV
    rw [List.length_append, List.map_append]
    exact h1
theorem wpList_appendS (hgd : o.guard = none) (s x : Operand) (ho : o.op = .call { callee := .builtin .append, args := #[s, x], argTypes := #[23, 23] })
    (base : Nat) (v : Value) (l : List ByteArray) (hs : a.eval s = v) (hown : GrowS w base v l) (h c : Nat) (hx : a.eval x = .slice (some ⟨h, 0, none⟩) 1 c) (b : ByteArray) (hc : w.cell? ⟨h, 0, none⟩ = some (.string b))
    (hl : l.length ≤ 1000000) (hbase : base ≤ w.heap.size)
    (hk : ∀ v' w', GrowS w' base v' (l ++ [b]) → w.grownBy w' v.ownBlock → wpList Try.prog ops Q rest (a.put o.dst v') w') : wpList Try.prog ops Q (o :: rest) a w := by
  obtain ⟨i0, hi, hz0, hz1, hz2⟩ := info_parts Try.info_string
  refine wpList_append_own w hgd s x 23 ho base 9 i0 (.string ByteArray.empty) 1 16 Try.underlying23 hi hz0 hz1 hz2 rfl (by decide) v l.length (strsV l) hs hown ⟨h, 0, none⟩ 1 c [.string b] hx rfl ?_ ?_ (by unfold maxLen; omega) (by omega) hbase ?_
  · intro j u hj
    match j, hj with
    | 0, hj => simp at hj; subst hj; simpa [Addr.add] using hc
  · intro u hu; simp at hu; subst hu; rfl
  · intro v' w' h1 h2 _
    refine hk v' w' ?_ h2
    unfold GrowS strsV
    rw [List.length_append, List.map_append]
    exact h1
end
set_option maxRecDepth 100000 in
/-- The letters as a text. -/
theorem growB_text {w : World} {base : Nat} {v : Value} {l : List UInt8} (h : GrowB w base v l) (hl : 1 ≤ l.length) :
    (convert 22 9 v).run Try.prog w = .ok (.string ⟨l.toArray⟩) w := by
  rcases h.2 with ⟨_, h0⟩ | ⟨g, cap, cur, rfl, _, hg, _, _, _, ht⟩
  · omega
  · have hcv := run_convert_bytes_arg (P := Try.prog) w 22 5 Try.underlying22 Try.underlying5 g 0 l.length cap (l.map fun b => (b.toNat : Int)) (by simp) (fun i hi => by
      rw [cell_of_row _ _ _ _ _ _ hg]
      have e : (bytesV l)[i]? = some (.int .u8 (l[i]'hi).toNat) := by simp [bytesV, hi]
      rw [← ht, List.getElem?_take_of_lt (by omega)] at e
      rw [Nat.zero_add, ← Array.getElem?_toList, e]
      simp [hi]) 9 Try.underlying9
    rw [hcv]
    unfold strOfNums
    congr 3
    rw [List.map_map]
    rw [show ((fun n : Int => UInt8.ofNat n.toNat) ∘ fun b : UInt8 => (b.toNat : Int)) = id from funext fun b => by simp, List.map_id]
/-- The texts are read. -/
theorem GrowS.strs {w : World} {base : Nat} {v : Value} {l : List ByteArray} (h : GrowS w base v l) : ∃ A c, v = .slice A l.length c ∧ Strs w w.heap.size A l := by
  rcases h.2 with ⟨rfl, h0⟩ | ⟨g, cap, cur, rfl, _, hg, _, _, _, ht⟩
  · rw [h0]; exact ⟨none, 0, rfl, fun hl => by omega⟩
  · refine ⟨_, _, rfl, fun _ => ⟨g, 0, rfl, lt_of_block hg, fun k s hk => ?_⟩⟩
    rw [Nat.zero_add, cell_of_row _ _ _ _ _ _ hg]
    have hl := (List.getElem?_eq_some_iff.1 hk).1
    have e : (strsV l)[k]? = some (.string s) := by simp [strsV, hk]
    rw [← ht, List.getElem?_take_of_lt (by omega)] at e
    rw [← Array.getElem?_toList, e]
theorem range_take {α : Type} (n q : Nat) (f : Nat → α) (h : q < n) : ((List.range n).map f).take (q + 1) = ((List.range n).map f).take q ++ [f q] := by
  rw [List.take_succ_eq_append_getElem (by simpa using h)]
  simp

theorem l1Other_any (b : UInt8) (w : World) :
    Calls Try.prog 109 #[.int .u8 b.toNat] w fun e w' => e = .returned (.int .u8 (oth b).toNat) ∧ w = w' := by
  by_cases h1 : b = 114
  · subst h1
    change Calls Try.prog 109 #[.int .u8 114] w fun e w' => e = .returned (.int .u8 102) ∧ w = w'
    go_enter Try.func109, Try.ntmps109
    go_wp2
    go_ret
    exact ⟨rfl, rfl⟩
  by_cases h2 : b = 102
  · subst h2
    change Calls Try.prog 109 #[.int .u8 102] w fun e w' => e = .returned (.int .u8 114) ∧ w = w'
    go_enter Try.func109, Try.ntmps109
    go_wp2
    go_ret
    exact ⟨rfl, rfl⟩
  have e : oth b = b := by unfold oth; rw [if_neg h1, if_neg h2]
  have e1 : ((b.toNat : Int) == 114) = false := by
    rw [beq_eq_false_iff_ne]; intro e; exact h1 (UInt8.toNat_inj.1 (by have : (114 : UInt8).toNat = 114 := rfl; omega))
  have e2 : ((b.toNat : Int) == 102) = false := by
    rw [beq_eq_false_iff_ne]; intro e; exact h2 (UInt8.toNat_inj.1 (by have : (102 : UInt8).toNat = 102 := rfl; omega))
  rw [e]
  clear e h1 h2
  generalize (b.toNat : Int) = x at e1 e2
  go_enter Try.func109, Try.ntmps109
  go_wp2
  go_ret
  exact ⟨rfl, rfl⟩

end Go.Proofs.Ytmdgbcepjnfbnaa
