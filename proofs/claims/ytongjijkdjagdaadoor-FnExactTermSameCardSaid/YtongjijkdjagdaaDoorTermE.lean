/- errors.As at a target of the program's own error type: by its contracts. -/
import Derived.Test.YtongjijkdjagdaaDoorTermR
import Derived.LaidEql
import Derived.Stop.Asserts
import Derived.RowKitTokens
import Derived.Laws.Externs
namespace Go.Proofs.YtongjijkdjagdaaDoor
open Go.RowKit Go.Extern.Stop Go.Stop Go.Extern

set_option maxRecDepth 100000 in
/-- errors.As(nil, target). -/
theorem as_nil (t : Value) (w : World) : Calls Tryd.prog 42 #[.nilIface, t] w fun e w' => e = .returned (.bool false) ∧ w' = w := by
  go_enter Tryd.func42, Tryd.ntmps42
  go_wp2_with fail
  go_ret
  exact ⟨rfl, rfl⟩

theorem as_valueOfT (t : Addr) (w : World) : (ReflectliteValue.unpack (.iface 83 (.pointer (some t)))).run Tryd.prog w
    = .ok (.agg #[.pointer (some ⟨7, 83, none⟩), .pointer (some ⟨w.heap.size, 0, none⟩), .int .u64 150]) (w.alloc (.cells #[.pointer (some t)] 83)) := by kernel_rfl
theorem as_typeT (a : Addr) (w : World) : (ReflectliteValue.methodAny (ReflectliteValue.valueError "reflectlite.Value.Type" 0) (fun t _ _ _ => ReflectliteType.toType t) #[.agg #[.pointer (some ⟨7, 83, none⟩), .pointer (some a), .int .u64 150]]).run Tryd.prog w
    = .ok (.iface 176 (.agg #[.pointer (some ⟨7, 83, none⟩)])) w := by kernel_rfl
theorem as_methodKind (k : Nat) (h : Value) (w : World) : (Go.method (k + 1) 176 (.agg #[h]) "Kind").run Tryd.prog w = .ok (168, h) w := by kernel_rfl
theorem as_kindT (w : World) : ((ReflectliteType.abiMethod fun t => (fun a : Nat => Value.int IntKind.u8 (a : Int)) <$> Rtype.kind t) #[.pointer (some ⟨7, 83, none⟩)]).run Tryd.prog w = .ok (.int .u8 22) w := by kernel_rfl
theorem as_kindE (w : World) : ((ReflectliteType.abiMethod fun t => (fun a : Nat => Value.int IntKind.u8 (a : Int)) <$> Rtype.kind t) #[.pointer (some ⟨7, 81, none⟩)]).run Tryd.prog w = .ok (.int .u8 2) w := by kernel_rfl
theorem as_m3 (a b : Value) (f : Value → Value → Sem Value) (g : Array Value → Sem Value) : Go.Extern.ReflectliteValue.set.match_3 (fun _ => Sem Value) #[a, b] f g = f a b := rfl
theorem as_m2 (a : Value) (f : Value → Sem Value) (g : Array Value → Sem Value) : Go.Extern.ReflectliteValue.method.match_2 (fun _ => Sem Value) #[a] f g = f a := rfl
theorem as_partsT (a : Addr) (w : World) : (ReflectliteValue.parts (.agg #[.pointer (some ⟨7, 83, none⟩), .pointer (some a), .int .u64 150])).run Tryd.prog w = .ok (some (83, a, 150)) w := by kernel_rfl
theorem as_isNilT (a p : Addr) (W : World) (ha : W.cell? a = some (.pointer (some p))) :
    (ReflectliteValue.method (ReflectliteValue.valueError "reflectlite.Value.IsNil" 0) ReflectliteValue.isNil #[.agg #[.pointer (some ⟨7, 83, none⟩), .pointer (some a), .int .u64 150]]).run Tryd.prog W = .ok (.bool false) W := by
  delta ReflectliteValue.method
  rw [as_m2]
  simp only [Sem.run_bind, as_partsT, Result.andThen]
  simp [ReflectliteValue.isNil, loadVar, isAgg, underlying, Tryd.underlying83, ha, Result.andThen]
theorem as_methodElem (k : Nat) (h : Value) (w : World) : (Go.method (k + 1) 176 (.agg #[h]) "Elem").run Tryd.prog w = .ok (188, .agg #[h]) w := by kernel_rfl
theorem as_methodImplements (k : Nat) (h : Value) (w : World) : (Go.method (k + 1) 176 (.agg #[h]) "Implements").run Tryd.prog w = .ok (189, .agg #[h]) w := by kernel_rfl
theorem as_methodAssignableTo (k : Nat) (h : Value) (w : World) : (Go.method (k + 1) 176 (.agg #[h]) "AssignableTo").run Tryd.prog w = .ok (186, .agg #[h]) w := by kernel_rfl
theorem as_elemT (w : World) : (ReflectliteType.method ReflectliteType.elem #[.agg #[.pointer (some ⟨7, 83, none⟩)]]).run Tryd.prog w = .ok (.iface 176 (.agg #[.pointer (some ⟨7, 81, none⟩)])) w := by kernel_rfl
theorem as_implementsE (w : World) : (ReflectliteType.relation "Implements" ReflectliteType.implements_ #[.agg #[.pointer (some ⟨7, 81, none⟩)], .iface 176 (.agg #[.pointer (some ⟨7, 78, none⟩)])]).run Tryd.prog w = .ok (.bool true) w := by kernel_rfl
theorem as_typeOfE (v : Value) (w : World) : (ReflectliteType.typeOf #[.iface 81 v]).run Tryd.prog w = .ok (.iface 176 (.agg #[.pointer (some ⟨7, 81, none⟩)])) w := by kernel_rfl
theorem as_assignableE (w : World) : (ReflectliteType.relation "AssignableTo" ReflectliteType.assignableTo #[.agg #[.pointer (some ⟨7, 81, none⟩)], .iface 176 (.agg #[.pointer (some ⟨7, 81, none⟩)])]).run Tryd.prog w = .ok (.bool true) w := by kernel_rfl
theorem as_valueOfE (n : Int) (w : World) : (ReflectliteValue.unpack (.iface 81 (.int .i64 n))).run Tryd.prog w
    = .ok (.agg #[.pointer (some ⟨7, 81, none⟩), .pointer (some ⟨w.heap.size, 0, none⟩), .int .u64 130]) (w.alloc (.cells #[.int .i64 n] 81)) := by kernel_rfl
theorem as_elemOfT (w : World) : (Rtype.elem? 83).run Tryd.prog w = .ok (some 81) w := by kernel_rfl
theorem as_mkE (p : Addr) (w : World) : (ReflectliteValue.mk 81 p ReflectliteValue.flagAddr).run Tryd.prog w = .ok (.agg #[.pointer (some ⟨7, 81, none⟩), .pointer (some p), .int .u64 386]) w := by kernel_rfl
theorem as_elemVT (a p : Addr) (W : World) (ha : W.cell? a = some (.pointer (some p))) :
    (ReflectliteValue.method (ReflectliteValue.valueError "reflectlite.Value.Elem" 0) ReflectliteValue.elem #[.agg #[.pointer (some ⟨7, 83, none⟩), .pointer (some a), .int .u64 150]]).run Tryd.prog W
      = .ok (.agg #[.pointer (some ⟨7, 81, none⟩), .pointer (some p), .int .u64 386]) W := by
  delta ReflectliteValue.method
  rw [as_m2]
  simp only [Sem.run_bind, as_partsT, Result.andThen]
  simp [ReflectliteValue.elem, loadVar, isAgg, underlying, Tryd.underlying83, ha, Result.andThen, as_elemOfT, as_mkE]
theorem as_partsEa (a : Addr) (w : World) : (ReflectliteValue.parts (.agg #[.pointer (some ⟨7, 81, none⟩), .pointer (some a), .int .u64 386])).run Tryd.prog w = .ok (some (81, a, 386)) w := by kernel_rfl
theorem as_partsE (a : Addr) (w : World) : (ReflectliteValue.parts (.agg #[.pointer (some ⟨7, 81, none⟩), .pointer (some a), .int .u64 130])).run Tryd.prog w = .ok (some (81, a, 130)) w := by kernel_rfl
theorem as_directE (w : World) : (Rtype.directlyAssignable 81 81).run Tryd.prog w = .ok true w := by kernel_rfl
theorem as_setE (ta b : Addr) (n : Int) (old : Value) (W : World) (hb : W.cell? b = some (.int .i64 n)) (ht : W.cell? ta = some old) (hf : W.frozen? ta = false) :
    (ReflectliteValue.set #[.agg #[.pointer (some ⟨7, 81, none⟩), .pointer (some ta), .int .u64 386], .agg #[.pointer (some ⟨7, 81, none⟩), .pointer (some b), .int .u64 130]]).run Tryd.prog W
      = .ok (.tuple #[]) (W.setCell ta (.int .i64 n)) := by
  delta ReflectliteValue.set
  rw [as_m3]
  simp only [Sem.run_bind, as_partsEa, as_partsE, Result.andThen]
  simp [ReflectliteValue.flagAddr, loadVar, isAgg, underlying, Tryd.underlying81, hb, Result.andThen, as_directE, storeVar, Value.cells, storeCells, Addr.add]
  rw [run_store Tryd.prog W ta _ _ (by rfl)]
  simp [ht, hf]

theorem But.alloc {g : Nat} {a w : World} (h : But g a w) (o : Obj) : But g a (w.alloc o) :=
  ⟨h.os, h.tape, h.output, by have := h.size; simp; omega, fun k hk hn => (Below.heap_alloc _ _ _ (Nat.lt_of_lt_of_le hk h.size)).trans (h.block k hk hn)⟩
set_option maxRecDepth 100000 in
set_option maxHeartbeats 8000000 in
/-- errors.As of an error of the program's own type, at a target of this type. -/
theorem as_hit (n : Int) (T : Nat) (old : Value) (w : World) (hg : w.cell? ⟨0, 0, none⟩ = some (.iface 176 (.agg #[.pointer (some ⟨7, 78, none⟩)]))) (ht0 : w.cell? ⟨T, 0, none⟩ = some old) (hf0 : w.frozen? ⟨T, 0, none⟩ = false) :
    Calls Tryd.prog 42 #[.iface 81 (.int .i64 n), .iface 83 (.pointer (some ⟨T, 0, none⟩))] w fun ev w' => ev = .returned (.bool true) ∧ But T w w' := by
  have h6 := @run_callFunc_extern Tryd.prog 81 _ (fun args => ReflectliteValue.unpack (args.getD 0 (.tuple #[]))) Tryd.func81 (by kernel_rfl) (by kernel_rfl) (by kernel_rfl) (by kernel_rfl)
  have h7 := @run_callFunc_extern Tryd.prog 82 _ (ReflectliteValue.methodAny (ReflectliteValue.valueError "reflectlite.Value.Type" 0) (fun t _ _ _ => ReflectliteType.toType t)) Tryd.func82 (by kernel_rfl) (by kernel_rfl) (by kernel_rfl) (by kernel_rfl)
  have h8 := @run_callFunc_extern Tryd.prog 83 _ (ReflectliteValue.method (ReflectliteValue.valueError "reflectlite.Value.IsNil" 0) ReflectliteValue.isNil) Tryd.func83 (by kernel_rfl) (by kernel_rfl) (by kernel_rfl) (by kernel_rfl)
  have h27 := @run_callFunc_extern Tryd.prog 168 _ (ReflectliteType.abiMethod fun t => do pure (.int .u8 (← Rtype.kind t))) Tryd.func168 (by kernel_rfl) (by kernel_rfl) (by kernel_rfl) (by kernel_rfl)
  have h37 := @run_callFunc_extern Tryd.prog 188 _ (ReflectliteType.method ReflectliteType.elem) Tryd.func188 (by kernel_rfl) (by kernel_rfl) (by kernel_rfl) (by kernel_rfl)
  have h38 := @run_callFunc_extern Tryd.prog 189 _ (ReflectliteType.relation "Implements" ReflectliteType.implements_) Tryd.func189 (by kernel_rfl) (by kernel_rfl) (by kernel_rfl) (by kernel_rfl)
  have h10 := @run_callFunc_extern Tryd.prog 111 _ ReflectliteType.typeOf Tryd.func111 (by kernel_rfl) (by kernel_rfl) (by kernel_rfl) (by kernel_rfl)
  have h35 := @run_callFunc_extern Tryd.prog 186 _ (ReflectliteType.relation "AssignableTo" ReflectliteType.assignableTo) Tryd.func186 (by kernel_rfl) (by kernel_rfl) (by kernel_rfl) (by kernel_rfl)
  have h11 := @run_callFunc_extern Tryd.prog 112 _ (ReflectliteValue.method (ReflectliteValue.valueError "reflectlite.Value.Elem" 0) ReflectliteValue.elem) Tryd.func112 (by kernel_rfl) (by kernel_rfl) (by kernel_rfl) (by kernel_rfl)
  have h12 := @run_callFunc_extern Tryd.prog 113 _ ReflectliteValue.set Tryd.func113 (by kernel_rfl) (by kernel_rfl) (by kernel_rfl) (by kernel_rfl)
  have tO := as_typeOfE
  have mA := as_methodAssignableTo
  have a25 := as_assignableE
  have v25 := as_valueOfE
  have f6 := as_valueOfT
  have f7 := as_typeT
  have mK := as_methodKind
  have mE := as_methodElem
  have mI := as_methodImplements
  have k27 := as_kindT
  have k25 := as_kindE
  have e27 := as_elemT
  have i25 := as_implementsE
  obtain ⟨t, htt⟩ : ∃ t : Addr, (⟨T, 0, none⟩ : Addr) = t := ⟨_, rfl⟩
  have htb : t.block = T := by rw [← htt]
  rw [htt] at ht0 hf0 ⊢
  have n8 := as_isNilT ⟨w.heap.size, 0, none⟩ t ((w.alloc (.cells #[.pointer (some t)] 83)).alloc (.cells #[.pointer (some ⟨7, 83, none⟩), .pointer (some ⟨w.heap.size, 0, none⟩), .int .u64 150] 144)) (by simp)
  have hlt : 0 < w.heap.size := by
    rcases Nat.lt_or_ge 0 w.heap.size with h | h
    · exact h
    · simp [World.cell?, Array.getElem?_eq_none h] at hg
  have hg2 : ((w.alloc (.cells #[.pointer (some t)] 83)).alloc (.cells #[.pointer (some ⟨7, 83, none⟩), .pointer (some ⟨w.heap.size, 0, none⟩), .int .u64 150] 144)).cell? ⟨0, 0, none⟩ = some (.iface 176 (.agg #[.pointer (some ⟨7, 78, none⟩)])) := by
    rw [World.cell?_alloc_lt _ _ ⟨0, 0, none⟩ (by simp <;> omega), World.cell?_alloc_lt _ _ ⟨0, 0, none⟩ hlt]; exact hg
  have htl : t.block < w.heap.size := by
    rcases Nat.lt_or_ge t.block w.heap.size with h | h
    · exact h
    · simp [World.cell?, Array.getElem?_eq_none h] at ht0
  have el := as_elemVT ⟨w.heap.size, 0, none⟩ t (((w.alloc (.cells #[.pointer (some t)] 83)).alloc (.cells #[.pointer (some ⟨7, 83, none⟩), .pointer (some ⟨w.heap.size, 0, none⟩), .int .u64 150] 144)).alloc (.cells #[.pointer (some ⟨7, 83, none⟩), .pointer (some ⟨w.heap.size, 0, none⟩), .int .u64 150] 144)) (by rw [World.cell?_alloc_lt _ _ ⟨w.heap.size, 0, none⟩ (by simp; omega)]; simp)
  have st := as_setE t ⟨w.heap.size + 1 + 1 + 1, 0, none⟩ n old ((((w.alloc (.cells #[.pointer (some t)] 83)).alloc (.cells #[.pointer (some ⟨7, 83, none⟩), .pointer (some ⟨w.heap.size, 0, none⟩), .int .u64 150] 144)).alloc (.cells #[.pointer (some ⟨7, 83, none⟩), .pointer (some ⟨w.heap.size, 0, none⟩), .int .u64 150] 144)).alloc (.cells #[.int .i64 n] 81))
    (by rw [World.cell?_alloc_at _ _ _ _ (by simp)]; rfl)
    (by rw [World.cell?_alloc_lt _ _ t (by simp; omega), World.cell?_alloc_lt _ _ t (by simp; omega), World.cell?_alloc_lt _ _ t (by simp; omega), World.cell?_alloc_lt _ _ t htl]; exact ht0)
    (by rw [World.frozen?_alloc_old _ _ t (by simp; omega), World.frozen?_alloc_old _ _ t (by simp; omega), World.frozen?_alloc_old _ _ t (by simp; omega), World.frozen?_alloc_old _ _ t (Nat.ne_of_lt htl)]; exact hf0)
  have HT := hid htt
  clear htt
  go_enter Tryd.func42, Tryd.ntmps42
  go_wp2
  refine wp_loop_rounds 1 ?_
  rw [rounds_succ]
  go_wp2
  go_ret
  refine ⟨rfl, ?_⟩
  rw [← HT.out]
  exact (((((But.refl T w).alloc _).alloc _).alloc _).alloc _).trans (But.setCell _ _ _)

/-- What the start-up lays: the type of errors. -/
def LaidE (w : World) : Prop := w.cell? ⟨0, 0, none⟩ = some (.iface 176 (.agg #[.pointer (some ⟨7, 78, none⟩)]))
theorem LaidE.lt {w : World} (h : LaidE w) : 0 < w.heap.size := by
  rcases Nat.lt_or_ge 0 w.heap.size with h2 | h2
  · exact h2
  · unfold LaidE at h
    simp [World.cell?, Array.getElem?_eq_none h2] at h
theorem LaidE.below {w w' : World} (h : LaidE w) (hb : Below w.heap.size w w') : LaidE w' := (hb.cell (p := ⟨0, 0, none⟩) h.lt).trans h
theorem LaidE.more {B : Nat} {w w' : World} (h : LaidE w) (hb : Below B w w') (hB : w.heap.size ≤ B) : LaidE w' := h.below (hb.mono hB)
/-- The term that a text is. -/
def okT (l : List UInt8) : Option Tm := if l.length ≤ 60 then rdAll l else none
theorem okT_text {l : List UInt8} {t : Tm} (h : okT l = some t) : l = t.text ∧ t.wf = true ∧ l.length ≤ 60 := by
  unfold okT at h
  split at h
  · rename_i hl
    exact ⟨(rdAll_ok h).1, (rdAll_ok h).2, hl⟩
  · cases h
def ParseIs (l : List UInt8) (w : World) (e : Ending) (w' : World) : Prop :=
  Below w.heap.size w w' ∧ ((∃ t, okT l = some t ∧ e = .returned (.tuple #[.iface t.ty t.pay, .nilIface])) ∨ (okT l = none ∧ ∃ j : Nat, e = .returned (.tuple #[.nilIface, errV j])))

set_option maxRecDepth 100000 in
set_option maxHeartbeats 4000000 in
theorem parsed_any (l : List UInt8) (w : World) (hl : l.length ≤ 1048576) : Calls Tryd.prog 41 #[.string (strB l)] w (ParseIs l w) := by
  have hsz : ((strB l).size : Int) = (l.length : Int) := by rw [strB_size]
  have hli : (l.length : Int) ≤ 1048576 := by omega
  by_cases h60 : l.length ≤ 60
  · have h60i : (l.length : Int) ≤ 60 := by omega
    have HB := hid ((Below.refl w.heap.size w).alloc (Nat.le_refl _) (.cells #[.string (strB l), .int .i64 0] 139))
    have HT := hid (term_any w.heap.size (l.length + 1) 0 l (w.alloc (.cells #[.string (strB l), .int .i64 0] 139)) (heap_new0 w _) (by omega) (by omega))
    have H60 := hid h60
    clear h60 hl
    go_enter Tryd.func41, Tryd.ntmps41
    go_wp2_with fail
    refine HT.out.mono ?_
    rintro e w1 ⟨hb1, ⟨t, r, h1, rfl, hr1⟩ | ⟨h1, j, hj, rfl⟩⟩
    · have B1 := hid (show Below w.heap.size w w1 from HB.out.trans (hb1.below (Nat.le_refl _) (by simp)))
      have H1 := hid h1
      have k0 : w1.cell? ⟨w.heap.size, 0, none⟩ = some (.string (strB r)) := by rw [cell_of_row _ _ _ _ _ _ hr1]; rfl
      have k1 : w1.cell? ⟨w.heap.size, 1, none⟩ = some (.int .i64 ((0 + (l.length - r.length) : Nat) : Int)) := by rw [cell_of_row _ _ _ _ _ _ hr1]; rfl
      obtain ⟨q, hq⟩ : ∃ q : Nat, 0 + (l.length - r.length) = q := ⟨_, rfl⟩
      rw [hq] at k1
      clear hb1 h1 hr1 hq HT
      cases hr : r with
      | nil =>
        have HRR := hid hr
        subst hr
        have e0 := strB_eq [] [] true (by decide)
        go_wp2_with fail
        refine bodyPost_ret (results_tmp2 rfl _ _ _) rfl ?_
        refine ⟨B1.out, .inl ⟨t, ?_, rfl⟩⟩
        unfold okT rdAll
        rw [if_pos H60.out, H1.out]
      | cons c r2 =>
        have HRR := hid hr
        have e0 := strB_eq r [] false (by rw [hr]; simp)
        clear hr
        go_wp2_with fail
        go_region
        all_goals go_wp2_with fail
        refine bodyPost_ret (results_tmp2 rfl _ _ _) rfl ?_
        refine ⟨B1.out.drew, .inr ⟨?_, q, rfl⟩⟩
        unfold okT rdAll
        rw [if_pos H60.out, H1.out, HRR.out]
    · have B1 := hid (show Below w.heap.size w w1 from HB.out.trans (hb1.below (Nat.le_refl _) (by simp)))
      have H1 := hid h1
      clear hb1 h1 hj HT
      go_wp2_with fail
      refine bodyPost_ret (results_tmp2 rfl _ _ _) rfl ?_
      refine ⟨B1.out, .inr ⟨?_, j, rfl⟩⟩
      unfold okT rdAll
      rw [if_pos H60.out, H1.out]
  · have h60i : ¬ (l.length : Int) ≤ 60 := by omega
    have H60 := hid h60
    clear h60 hl
    go_enter Tryd.func41, Tryd.ntmps41
    go_wp2_with fail
    refine bodyPost_ret (results_tmp2 rfl _ _ _) rfl ?_
    refine ⟨Below.refl _ _, .inr ⟨?_, 60, rfl⟩⟩
    unfold okT
    rw [if_neg H60.out]

end Go.Proofs.YtongjijkdjagdaaDoor
