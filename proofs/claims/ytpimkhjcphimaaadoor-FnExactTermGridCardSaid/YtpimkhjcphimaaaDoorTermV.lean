/- Terms of the program: values behind one interface; their texts, by a contract. -/
import Derived.Test.YtpimkhjcphimaaaDoorTermM
import Derived.Test.YtpimkhjcphimaaaDoorBunA
import Derived.Lib.Strings
import Derived.Laws.EntriesVeiled
namespace Go.Proofs.YtpimkhjcphimaaaDoor
open Go.RowKit

/-- A string of letters. -/
def strB (l : List UInt8) : ByteArray := ⟨l.toArray⟩
/-- A term's type, and what its interface value holds. -/
def Tm.ty : Tm → TypeId
  | .lone _ => 92
  | .sig _ _ => 69
  | .cpl _ _ _ => 72
def Tm.pay : Tm → Value
  | .lone c => .string (strB [c])
  | .sig s t => .agg #[.string (strB [s]), .iface t.ty t.pay]
  | .cpl a s b => .agg #[.iface a.ty a.pay, .string (strB [s]), .iface b.ty b.pay]
def Tm.val (t : Tm) : Value := .iface t.ty t.pay
def Tm.textFn : Tm → Nat
  | .lone _ => 103
  | .sig _ _ => 83
  | .cpl _ _ _ => 94

def Tm.gridFn : Tm → Nat
  | .lone _ => 102
  | .sig _ _ => 82
  | .cpl _ _ _ => 93
theorem Tm.meth_text (t : Tm) (k : Nat) (w : World) : (method (k + 1) t.ty t.pay "loop.example/mirrorgrids/impl.text").run Tryd.prog w = .ok (t.textFn, t.pay) w := by
  cases t <;> kernel_rfl
theorem Tm.call_text (t : Tm) (args : Array Value) (w : World) : (callFunc t.textFn args).run Tryd.prog w = .ok (.enter t.textFn args) w := by
  cases t <;> kernel_rfl
theorem strB_app (a b : List UInt8) : strB a ++ strB b = strB (a ++ b) := by
  apply ByteArray.ext
  simp [strB]
theorem strB_toList (l : List UInt8) : (strB l).toList = l := by
  have h := Lib.toList_data (strB l)
  rw [h]
  simp [strB]
theorem strB_eq (a b : List UInt8) (r : Bool) (h : (a == b) = r) : ((strB a).toList == b) = r := by rw [strB_toList]; exact h
theorem strB_size (l : List UInt8) : (strB l).size = l.length := by simp [strB, ByteArray.size]
/-- What the operations hand back that write a term with a sign. -/
def sigRel (b : Nat) (s : UInt8) (t : Tm) (i : Nat) (v : Value) (_ : World) : Prop :=
  match i with
  | 0 => v = .pointer (some ⟨b, 0, none⟩)
  | 1 => v = .string (strB [s])
  | 2 => v = .pointer (some ⟨b, 1, none⟩)
  | 3 => v = .iface t.ty t.pay
  | 4 => v = .string (strB t.text)
  | 5 => v = .string (strB (s :: t.text))
  | _ => v = .string (strB (s :: t.text))
set_option maxRecDepth 100000 in
set_option maxHeartbeats 1000000 in
theorem text_sig (s : UInt8) (t : Tm) (w : World) (hl : t.text.length ≤ 1000) (ih : ∀ w, Calls Tryd.prog t.textFn #[t.pay] w fun e w' => e = .returned (.string (strB t.text)) ∧ Below w.heap.size w w') :
    Calls Tryd.prog 83 #[.agg #[.string (strB [s]), .iface t.ty t.pay]] w fun e w' => e = .returned (.string (strB (s :: t.text))) ∧ Below w.heap.size w w' := by
  have hm := t.meth_text
  have hc := t.call_text
  have IH := hid ih
  have HN := hid (heap_new0 w (.cells #[.string (strB [s]), .iface t.ty t.pay] 69))
  have HB := hid ((Below.refl w.heap.size w).alloc (Nat.le_refl _) (.cells #[.string (strB [s]), .iface t.ty t.pay] 69))
  clear ih
  go_enter Tryd.func83, Tryd.ntmps83
  go_wp2_with fail
  generalize World.alloc w _ = Y at HN HB ⊢
  refine wp_region_rel (by kernel_rfl) (by kernel_rfl) 7 (by kernel_rfl) (fun us => { tmps := #[.agg #[.string (strB [s]), .iface t.ty t.pay], .pointer (some ⟨w.heap.size, 0, none⟩), us 6, us 0, us 1, us 2, us 3, us 4, us 5], defers := [] }) (fun i => if i = 6 then .string ⟨#[]⟩ else undef) rfl (sigRel w.heap.size s t) (fun i v W W' h _ => h) (fun i us v hi => ?_) (fun i us W hi hb hd => ?_) (fun us W hb hr => ?_)
  · match i, hi with
    | 0, _ => rfl
    | 1, _ => rfl
    | 2, _ => rfl
    | 3, _ => rfl
    | 4, _ => rfl
    | 5, _ => rfl
    | 6, _ => rfl
  · have L0 := hid ((hb.block _ (lt_of_block HN.out)).trans HN.out)
    match i, hi with
    | 0, _ => exact wpOp_val rfl rfl (by go_simp) rfl
    | 1, _ =>
      have h0 : us 0 = _ := hd _ rfl { on := 0, ground := .data } (by simp) rfl
      rw [h0]
      have hc : W.cell? ⟨w.heap.size, 0, none⟩ = some (.string (strB [s])) := by rw [cell_of_row _ _ _ _ _ _ L0.out]; rfl
      exact wpOp_val rfl rfl (by go_simp) rfl
    | 2, _ => exact wpOp_val rfl rfl (by go_simp) rfl
    | 3, _ =>
      have h0 : us 2 = _ := hd _ rfl { on := 2, ground := .data } (by simp) rfl
      rw [h0]
      have hc : W.cell? ⟨w.heap.size, 1, none⟩ = some (.iface t.ty t.pay) := by rw [cell_of_row _ _ _ _ _ _ L0.out]; rfl
      exact wpOp_val rfl rfl (by go_simp) rfl
    | 4, _ =>
      have h0 : us 3 = _ := hd _ rfl { on := 3, ground := .data } (by simp) rfl
      rw [h0]
      exact wpOp_call rfl rfl (by go_simp) ((IH.out W).mono fun e w'' ⟨he, hb'⟩ => ⟨_, he, rfl, hb'⟩)
    | 5, _ =>
      have h1 : us 1 = _ := hd _ rfl { on := 1, ground := .data } (by simp) rfl
      have h4 : us 4 = _ := hd _ rfl { on := 4, ground := .data } (by simp) rfl
      rw [h1, h4]
      have hsz : ¬ (9223372036854775807 < (strB [s]).size + (strB t.text).size) := by rw [strB_size, strB_size]; simp; omega
      exact wpOp_val (u := .string (strB [s] ++ strB t.text)) rfl rfl (by go_simp) (show Value.string _ = _ by rw [strB_app]; rfl)
    | 6, _ =>
      have h5 : us 5 = _ := hd _ rfl { on := 5, ground := .data } (by simp) rfl
      rw [h5]
      exact wpOp_val rfl rfl (by go_simp) rfl
  · have h6 : us 6 = _ := hr 6 (by omega)
    rw [h6]
    have HB2 := hid (HB.out.trans (hb.mono HB.out.size))
    clear hb hr h6
    go_wp2_with fail
    go_ret
    exact ⟨rfl, HB2.out⟩
theorem text_lone (c : UInt8) (w : World) :
    Calls Tryd.prog 103 #[.string (strB [c])] w fun e w' => e = .returned (.string (strB [c])) ∧ Below w.heap.size w w' := by
  go_enter Tryd.func103, Tryd.ntmps103
  go_wp2_with fail
  go_ret
  exact ⟨rfl, Below.refl _ _⟩
/-- What the operations hand back that write two terms in brackets. -/
def cplRel (g : Nat) (a : Tm) (s : UInt8) (b : Tm) (i : Nat) (v : Value) (_ : World) : Prop :=
  match i with
  | 0 => v = .pointer (some ⟨g, 0, none⟩)
  | 1 => v = .iface a.ty a.pay
  | 2 => v = .string (strB a.text)
  | 3 => v = .string (strB (40 :: a.text))
  | 4 => v = .pointer (some ⟨g, 1, none⟩)
  | 5 => v = .string (strB [s])
  | 6 => v = .string (strB (40 :: (a.text ++ [s])))
  | 7 => v = .pointer (some ⟨g, 2, none⟩)
  | 8 => v = .iface b.ty b.pay
  | 9 => v = .string (strB b.text)
  | 10 => v = .string (strB (40 :: (a.text ++ [s] ++ b.text)))
  | _ => v = .string (strB (40 :: (a.text ++ s :: (b.text ++ [41]))))
theorem add_str {o : Oper} {a : Act} {w : World} (x y : Operand) (ho : o.op = .binOp .add 9 x y 9) (k l : List UInt8) (hx : a.eval x = .string (strB k)) (hy : a.eval y = .string (strB l)) (hk : k.length + l.length ≤ 10000) :
    (execOp a.eval o).run Tryd.prog w = .ok (.value (.string (strB (k ++ l)))) w := by
  have hsz : ¬ (9223372036854775807 < (strB k).size + (strB l).size) := by rw [strB_size, strB_size]; omega
  unfold execOp
  simp only [ho, hx, hy]
  go_simp
  rw [strB_app]
set_option maxRecDepth 100000 in
set_option maxHeartbeats 2000000 in
theorem text_cpl (a : Tm) (s : UInt8) (b : Tm) (w : World) (hl : a.text.length ≤ 1000) (hl' : b.text.length ≤ 1000) (iha : ∀ w, Calls Tryd.prog a.textFn #[a.pay] w fun e w' => e = .returned (.string (strB a.text)) ∧ Below w.heap.size w w')
    (ihb : ∀ w, Calls Tryd.prog b.textFn #[b.pay] w fun e w' => e = .returned (.string (strB b.text)) ∧ Below w.heap.size w w') :
    Calls Tryd.prog 94 #[.agg #[.iface a.ty a.pay, .string (strB [s]), .iface b.ty b.pay]] w fun e w' => e = .returned (.string (strB (40 :: (a.text ++ s :: (b.text ++ [41]))))) ∧ Below w.heap.size w w' := by
  have hma := a.meth_text
  have hca := a.call_text
  have hmb := b.meth_text
  have hcb := b.call_text
  have IHA := hid iha
  have IHB := hid ihb
  have HN := hid (heap_new0 w (.cells #[.iface a.ty a.pay, .string (strB [s]), .iface b.ty b.pay] 72))
  have HB := hid ((Below.refl w.heap.size w).alloc (Nat.le_refl _) (.cells #[.iface a.ty a.pay, .string (strB [s]), .iface b.ty b.pay] 72))
  clear iha ihb
  go_enter Tryd.func94, Tryd.ntmps94
  go_wp2_with fail
  generalize World.alloc w _ = Y at HN HB ⊢
  refine wp_region_rel (by kernel_rfl) (by kernel_rfl) 13 (by kernel_rfl) (fun us => { tmps := #[.agg #[.iface a.ty a.pay, .string (strB [s]), .iface b.ty b.pay], .pointer (some ⟨w.heap.size, 0, none⟩), us 12, us 0, us 1, us 2, us 3, us 4, us 5, us 6, us 7, us 8, us 9, us 10, us 11], defers := [] }) (fun i => if i = 12 then .string ⟨#[]⟩ else undef) rfl (cplRel w.heap.size a s b) (fun i v W W' h _ => h) (fun i us v hi => ?_) (fun i us W hi hb hd => ?_) (fun us W hb hr => ?_)
  · match i, hi with
    | 0, _ => rfl
    | 1, _ => rfl
    | 2, _ => rfl
    | 3, _ => rfl
    | 4, _ => rfl
    | 5, _ => rfl
    | 6, _ => rfl
    | 7, _ => rfl
    | 8, _ => rfl
    | 9, _ => rfl
    | 10, _ => rfl
    | 11, _ => rfl
    | 12, _ => rfl
  · have L0 := hid ((hb.block _ (lt_of_block HN.out)).trans HN.out)
    match i, hi with
    | 0, _ => exact wpOp_val rfl rfl (by go_simp) rfl
    | 1, _ =>
      have h0 : us 0 = _ := hd _ rfl { on := 0, ground := .data } (by simp) rfl
      rw [h0]
      have hc : W.cell? ⟨w.heap.size, 0, none⟩ = some (.iface a.ty a.pay) := by rw [cell_of_row _ _ _ _ _ _ L0.out]; rfl
      exact wpOp_val rfl rfl (by go_simp) rfl
    | 2, _ =>
      have h0 : us 1 = _ := hd _ rfl { on := 1, ground := .data } (by simp) rfl
      rw [h0]
      exact wpOp_call rfl rfl (by go_simp) ((IHA.out W).mono fun e w'' ⟨he, hb'⟩ => ⟨_, he, rfl, hb'⟩)
    | 3, _ =>
      have h2 : us 2 = _ := hd _ rfl { on := 2, ground := .data } (by simp) rfl
      rw [h2]
      exact wpOp_val rfl rfl (add_str _ _ rfl [40] a.text rfl rfl (by simp; omega)) rfl
    | 4, _ => exact wpOp_val rfl rfl (by go_simp) rfl
    | 5, _ =>
      have h0 : us 4 = _ := hd _ rfl { on := 4, ground := .data } (by simp) rfl
      rw [h0]
      have hc : W.cell? ⟨w.heap.size, 1, none⟩ = some (.string (strB [s])) := by rw [cell_of_row _ _ _ _ _ _ L0.out]; rfl
      exact wpOp_val rfl rfl (by go_simp) rfl
    | 6, _ =>
      have h3 : us 3 = _ := hd _ rfl { on := 3, ground := .data } (by simp) rfl
      have h5 : us 5 = _ := hd _ rfl { on := 5, ground := .data } (by simp) rfl
      rw [h3, h5]
      exact wpOp_val rfl rfl (add_str _ _ rfl (40 :: a.text) [s] rfl rfl (by simp; omega)) rfl
    | 7, _ => exact wpOp_val rfl rfl (by go_simp) rfl
    | 8, _ =>
      have h0 : us 7 = _ := hd _ rfl { on := 7, ground := .data } (by simp) rfl
      rw [h0]
      have hc : W.cell? ⟨w.heap.size, 2, none⟩ = some (.iface b.ty b.pay) := by rw [cell_of_row _ _ _ _ _ _ L0.out]; rfl
      exact wpOp_val rfl rfl (by go_simp) rfl
    | 9, _ =>
      have h0 : us 8 = _ := hd _ rfl { on := 8, ground := .data } (by simp) rfl
      rw [h0]
      exact wpOp_call rfl rfl (by go_simp) ((IHB.out W).mono fun e w'' ⟨he, hb'⟩ => ⟨_, he, rfl, hb'⟩)
    | 10, _ =>
      have h6 : us 6 = _ := hd _ rfl { on := 6, ground := .data } (by simp) rfl
      have h9 : us 9 = _ := hd _ rfl { on := 9, ground := .data } (by simp) rfl
      rw [h6, h9]
      exact wpOp_val rfl rfl (add_str _ _ rfl (40 :: (a.text ++ [s])) b.text rfl rfl (by simp; omega)) rfl
    | 11, _ =>
      have h10 : us 10 = _ := hd _ rfl { on := 10, ground := .data } (by simp) rfl
      rw [h10]
      exact wpOp_val rfl rfl (add_str _ _ rfl (40 :: (a.text ++ [s] ++ b.text)) [41] rfl rfl (by simp; omega)) (by show Value.string _ = Value.string _; simp)
    | 12, _ =>
      have h11 : us 11 = _ := hd _ rfl { on := 11, ground := .data } (by simp) rfl
      rw [h11]
      exact wpOp_val rfl rfl (by go_simp) rfl
  · have h6 : us 12 = _ := hr 12 (by omega)
    rw [h6]
    have HB2 := hid (HB.out.trans (hb.mono HB.out.size))
    clear hb hr h6
    go_wp2_with fail
    go_ret
    exact ⟨rfl, HB2.out⟩
/-- The text of a term, by the program. -/
theorem Tm.text_any : ∀ (t : Tm) (w : World), t.text.length ≤ 1000 → Calls Tryd.prog t.textFn #[t.pay] w fun e w' => e = .returned (.string (strB t.text)) ∧ Below w.heap.size w w'
  | .lone c, w, _ => text_lone c w
  | .sig s t, w, h => by
    have h' : t.text.length ≤ 1000 := by simp [Tm.text] at h; omega
    exact text_sig s t w h' fun w => t.text_any w h'
  | .cpl a s b, w, h => by
    have h1 : a.text.length ≤ 1000 := by simp [Tm.text] at h; omega
    have h2 : b.text.length ≤ 1000 := by simp [Tm.text] at h; omega
    exact text_cpl a s b w h1 h2 (fun w => a.text_any w h1) (fun w => b.text_any w h2)
end Go.Proofs.YtpimkhjcphimaaaDoor
