/- Tidy terms of the program as values behind one interface, in a program that has letters and couples alone; their texts, by a contract. -/
import Derived.Test.YtongjijkdjagdaaStrB
import Derived.Test.YtongjijkdjagdaaTermO
namespace Go.Proofs.Ytongjijkdjagdaa
open Go.RowKit

def Tm.tyO : Tm → TypeId
  | .lone _ => 64
  | .sig _ _ => 0
  | .cpl _ _ _ => 63
def Tm.payO : Tm → Value
  | .lone c => .string (strB [c])
  | .sig _ _ => undef
  | .cpl a s b => .agg #[.iface a.tyO a.payO, .string (strB [s]), .iface b.tyO b.payO]
def Tm.textFnO : Tm → Nat
  | .lone _ => 94
  | .sig _ _ => 0
  | .cpl _ _ _ => 92
theorem Tm.meth_textO (t : Tm) (ht : t.tidy = true) (k : Nat) (w : World) : (method (k + 1) t.tyO t.payO "loop.example/mirrorgrids/impl.text").run Try.prog w = .ok (t.textFnO, t.payO) w := by
  cases t with
  | lone c => kernel_rfl
  | sig s t => cases ht
  | cpl a s b => kernel_rfl
theorem Tm.call_textO (t : Tm) (ht : t.tidy = true) (args : Array Value) (w : World) : (callFunc t.textFnO args).run Try.prog w = .ok (.enter t.textFnO args) w := by
  cases t with
  | lone c => kernel_rfl
  | sig s t => cases ht
  | cpl a s b => kernel_rfl
/-- What the operations hand back that write two terms in brackets. -/
def cplRelO (g : Nat) (a : Tm) (s : UInt8) (b : Tm) (i : Nat) (v : Value) (_ : World) : Prop :=
  match i with
  | 0 => v = .pointer (some ⟨g, 0, none⟩)
  | 1 => v = .iface a.tyO a.payO
  | 2 => v = .string (strB a.text)
  | 3 => v = .string (strB (40 :: a.text))
  | 4 => v = .pointer (some ⟨g, 1, none⟩)
  | 5 => v = .string (strB [s])
  | 6 => v = .string (strB (40 :: (a.text ++ [s])))
  | 7 => v = .pointer (some ⟨g, 2, none⟩)
  | 8 => v = .iface b.tyO b.payO
  | 9 => v = .string (strB b.text)
  | 10 => v = .string (strB (40 :: (a.text ++ [s] ++ b.text)))
  | _ => v = .string (strB (40 :: (a.text ++ s :: (b.text ++ [41]))))
set_option maxRecDepth 100000 in
set_option maxHeartbeats 2000000 in
theorem text_cplO (a : Tm) (s : UInt8) (b : Tm) (w : World) (hta : a.tidy = true) (htb : b.tidy = true) (hl : a.text.length ≤ 1000) (hl' : b.text.length ≤ 1000) (iha : ∀ w, Calls Try.prog a.textFnO #[a.payO] w fun e w' => e = .returned (.string (strB a.text)) ∧ Below w.heap.size w w')
    (ihb : ∀ w, Calls Try.prog b.textFnO #[b.payO] w fun e w' => e = .returned (.string (strB b.text)) ∧ Below w.heap.size w w') :
    Calls Try.prog 92 #[.agg #[.iface a.tyO a.payO, .string (strB [s]), .iface b.tyO b.payO]] w fun e w' => e = .returned (.string (strB (40 :: (a.text ++ s :: (b.text ++ [41]))))) ∧ Below w.heap.size w w' := by
  have hma := a.meth_textO hta
  have hca := a.call_textO hta
  have hmb := b.meth_textO htb
  have hcb := b.call_textO htb
  have IHA := hid iha
  have IHB := hid ihb
  have HN := hid (heap_new0 w (.cells #[.iface a.tyO a.payO, .string (strB [s]), .iface b.tyO b.payO] 63))
  have HB := hid ((Below.refl w.heap.size w).alloc (Nat.le_refl _) (.cells #[.iface a.tyO a.payO, .string (strB [s]), .iface b.tyO b.payO] 63))
  clear iha ihb
  go_enter Try.func92, Try.ntmps92
  go_wp2_with fail
  generalize World.alloc w _ = Y at HN HB ⊢
  refine wp_region_rel (by kernel_rfl) (by kernel_rfl) 13 (by kernel_rfl) (fun us => { tmps := #[.agg #[.iface a.tyO a.payO, .string (strB [s]), .iface b.tyO b.payO], .pointer (some ⟨w.heap.size, 0, none⟩), us 12, us 0, us 1, us 2, us 3, us 4, us 5, us 6, us 7, us 8, us 9, us 10, us 11], defers := [] }) (fun i => if i = 12 then .string ⟨#[]⟩ else undef) rfl (cplRelO w.heap.size a s b) (fun i v W W' h _ => h) (fun i us v hi => ?_) (fun i us W hi hb hd => ?_) (fun us W hb hr => ?_)
  · match i, hi with
    | 0, _ => rfl
    | 1, _ => rfl
    | 2, _ => rfl
    | 3, _ => rfl
    | 4, _ => rfl
    | 5, _ => rfl
    | 6, _ => rfl
    | 7, _ => rfl
    | 8, _ => rfl
    | 9, _ => rfl
    | 10, _ => rfl
    | 11, _ => rfl
    | 12, _ => rfl
  · have L0 := hid ((hb.block _ (lt_of_block HN.out)).trans HN.out)
    match i, hi with
    | 0, _ => exact wpOp_val rfl rfl (by go_simp) rfl
    | 1, _ =>
      have h0 : us 0 = _ := hd _ rfl { on := 0, ground := .data } (by simp) rfl
      rw [h0]
      have hc : W.cell? ⟨w.heap.size, 0, none⟩ = some (.iface a.tyO a.payO) := by rw [cell_of_row _ _ _ _ _ _ L0.out]; rfl
      exact wpOp_val rfl rfl (by go_simp) rfl
    | 2, _ =>
      have h0 : us 1 = _ := hd _ rfl { on := 1, ground := .data } (by simp) rfl
      rw [h0]
      exact wpOp_call rfl rfl (by go_simp) ((IHA.out W).mono fun e w'' ⟨he, hb'⟩ => ⟨_, he, rfl, hb'⟩)
    | 3, _ =>
      have h2 : us 2 = _ := hd _ rfl { on := 2, ground := .data } (by simp) rfl
      rw [h2]
      exact wpOp_val rfl rfl (add_str _ _ rfl [40] a.text rfl rfl (by simp; omega)) rfl
    | 4, _ => exact wpOp_val rfl rfl (by go_simp) rfl
    | 5, _ =>
      have h0 : us 4 = _ := hd _ rfl { on := 4, ground := .data } (by simp) rfl
      rw [h0]
      have hc : W.cell? ⟨w.heap.size, 1, none⟩ = some (.string (strB [s])) := by rw [cell_of_row _ _ _ _ _ _ L0.out]; rfl
      exact wpOp_val rfl rfl (by go_simp) rfl
    | 6, _ =>
      have h3 : us 3 = _ := hd _ rfl { on := 3, ground := .data } (by simp) rfl
      have h5 : us 5 = _ := hd _ rfl { on := 5, ground := .data } (by simp) rfl
      rw [h3, h5]
      exact wpOp_val rfl rfl (add_str _ _ rfl (40 :: a.text) [s] rfl rfl (by simp; omega)) rfl
    | 7, _ => exact wpOp_val rfl rfl (by go_simp) rfl
    | 8, _ =>
      have h0 : us 7 = _ := hd _ rfl { on := 7, ground := .data } (by simp) rfl
      rw [h0]
      have hc : W.cell? ⟨w.heap.size, 2, none⟩ = some (.iface b.tyO b.payO) := by rw [cell_of_row _ _ _ _ _ _ L0.out]; rfl
      exact wpOp_val rfl rfl (by go_simp) rfl
    | 9, _ =>
      have h0 : us 8 = _ := hd _ rfl { on := 8, ground := .data } (by simp) rfl
      rw [h0]
      exact wpOp_call rfl rfl (by go_simp) ((IHB.out W).mono fun e w'' ⟨he, hb'⟩ => ⟨_, he, rfl, hb'⟩)
    | 10, _ =>
      have h6 : us 6 = _ := hd _ rfl { on := 6, ground := .data } (by simp) rfl
      have h9 : us 9 = _ := hd _ rfl { on := 9, ground := .data } (by simp) rfl
      rw [h6, h9]
      exact wpOp_val rfl rfl (add_str _ _ rfl (40 :: (a.text ++ [s])) b.text rfl rfl (by simp; omega)) rfl
    | 11, _ =>
      have h10 : us 10 = _ := hd _ rfl { on := 10, ground := .data } (by simp) rfl
      rw [h10]
      exact wpOp_val rfl rfl (add_str _ _ rfl (40 :: (a.text ++ [s] ++ b.text)) [41] rfl rfl (by simp; omega)) (by show Value.string _ = Value.string _; simp)
    | 12, _ =>
      have h11 : us 11 = _ := hd _ rfl { on := 11, ground := .data } (by simp) rfl
      rw [h11]
      exact wpOp_val rfl rfl (by go_simp) rfl
  · have h6 : us 12 = _ := hr 12 (by omega)
    rw [h6]
    have HB2 := hid (HB.out.trans (hb.mono HB.out.size))
    clear hb hr h6
    go_wp2_with fail
    go_ret
    exact ⟨rfl, HB2.out⟩
/-- The text of a tidy term, by the program. -/
theorem Tm.text_anyO : ∀ (t : Tm) (w : World), t.tidy = true → t.text.length ≤ 1000 → Calls Try.prog t.textFnO #[t.payO] w fun e w' => e = .returned (.string (strB t.text)) ∧ Below w.heap.size w w'
  | .lone c, w, _, _ => text_lone c w
  | .sig s t, w, h, _ => by cases h
  | .cpl a s b, w, ht, h => by
    have h1 : a.text.length ≤ 1000 := by simp [Tm.text] at h; omega
    have h2 : b.text.length ≤ 1000 := by simp [Tm.text] at h; omega
    simp only [Tm.tidy, Bool.and_eq_true] at ht
    exact text_cplO a s b w ht.1.1 ht.2 h1 h2 (fun w => a.text_anyO w ht.1.1 h1) (fun w => b.text_anyO w ht.2 h2)
end Go.Proofs.Ytongjijkdjagdaa
