/- Terms tidied by the program (tidied, inwards, moved), by contracts. -/
import Derived.Test.YtpimkhjcphimaaaDoorTermV
import Derived.Test.YtpimkhjcphimaaaDoorBunC
import Derived.Test.YtpimkhjcphimaaaDoorBunA
namespace Go.Proofs.YtpimkhjcphimaaaDoor
open Go.RowKit

theorem cat_eq (a b c : List UInt8) (r : Bool) (h : ((a ++ b) == c) = r) : ((strB a ++ strB b).toList == c) = r := by rw [strB_app, strB_toList]; exact h
def ValIs (t : Tm) (w : World) (e : Ending) (w' : World) : Prop := e = .returned (.iface t.ty t.pay) ∧ Below w.heap.size w w'
/-- What the operations hand back that move a sign to both. -/
def mvRel (g : Nat) (x : UInt8) (a b a' b' : Tm) (i : Nat) (v : Value) (_ : World) : Prop :=
  match i with
  | 0 => v = .string (strB [x])
  | 1 => v = .pointer (some ⟨g, 0, none⟩)
  | 2 => v = .iface a.ty a.pay
  | 3 => v = .iface a'.ty a'.pay
  | 4 => v = .string (strB [x])
  | 5 => v = .pointer (some ⟨g, 2, none⟩)
  | 6 => v = .iface b.ty b.pay
  | 7 => v = .iface b'.ty b'.pay
  | 8 => v = .iface a'.ty a'.pay
  | _ => v = .iface b'.ty b'.pay

set_option maxRecDepth 100000 in
set_option maxHeartbeats 4000000 in
theorem moved_any (x s : UInt8) (a b a' b' : Tm) (w : World) (hx : isSig x = true) (hs : isMid s = true)
    (iha : ∀ w, Calls Tryd.prog 37 #[.string (strB [x]), .iface a.ty a.pay] w (ValIs a' w)) (ihb : ∀ w, Calls Tryd.prog 37 #[.string (strB [x]), .iface b.ty b.pay] w (ValIs b' w)) :
    Calls Tryd.prog 46 #[.agg #[.iface a.ty a.pay, .string (strB [s]), .iface b.ty b.pay], .string (strB [x])] w (ValIs (movedT x s a' b') w) := by
  have IHA := hid iha
  have IHB := hid ihb
  have HN := hid (heap_new0 w (.cells #[.iface a.ty a.pay, .string (strB [s]), .iface b.ty b.pay] 72))
  have HB := hid ((Below.refl w.heap.size w).alloc (Nat.le_refl _) (.cells #[.iface a.ty a.pay, .string (strB [s]), .iface b.ty b.pay] 72))
  have HX := hid hx
  have HS := hid hs
  have hsz : ¬ (9223372036854775807 < (strB [x]).size + (strB [s]).size) := by rw [strB_size, strB_size]; simp
  clear iha ihb hx hs
  unfold ValIs at IHA IHB ⊢
  go_enter Tryd.func46, Tryd.ntmps46
  go_wp2_with fail
  generalize World.alloc w _ = Y at HN HB ⊢
  refine wp_region_rel (by kernel_rfl) (by kernel_rfl) 10 (by kernel_rfl) (fun us => { tmps := #[.agg #[.iface a.ty a.pay, .string (strB [s]), .iface b.ty b.pay], .string (strB [x]), .pointer (some ⟨w.heap.size, 0, none⟩), undef, .nilIface, us 8, us 9, us 0, us 1, us 2, us 3, us 4, us 5, us 6, us 7, undef, undef, undef, undef, undef, undef, undef, undef, undef, undef, undef, undef, undef, undef, undef, undef, undef, undef, undef, undef, undef, undef, undef, undef, undef, undef, undef, undef], defers := [] }) (fun _ => undef) rfl (mvRel w.heap.size x a b a' b') (fun i v W W' h _ => h) (fun i us v hi => ?_) (fun i us W hi hb hd => ?_) (fun us W hb hr => ?_)
  · match i, hi with
    | 0, _ => rfl
    | 1, _ => rfl
    | 2, _ => rfl
    | 3, _ => rfl
    | 4, _ => rfl
    | 5, _ => rfl
    | 6, _ => rfl
    | 7, _ => rfl
    | 8, _ => rfl
    | 9, _ => rfl
  · have L0 := hid ((hb.block _ (lt_of_block HN.out)).trans HN.out)
    match i, hi with
    | 0, _ => exact wpOp_val rfl rfl (by go_simp) rfl
    | 1, _ => exact wpOp_val rfl rfl (by go_simp) rfl
    | 2, _ =>
      have h0 : us 1 = _ := hd _ rfl { on := 1, ground := .data } (by simp) rfl
      rw [h0]
      have hc : W.cell? ⟨w.heap.size, 0, none⟩ = some (.iface a.ty a.pay) := by rw [cell_of_row _ _ _ _ _ _ L0.out]; rfl
      exact wpOp_val rfl rfl (by go_simp) rfl
    | 3, _ =>
      have h0 : us 0 = _ := hd _ rfl { on := 0, ground := .data } (by simp) rfl
      have h2 : us 2 = _ := hd _ rfl { on := 2, ground := .data } (by simp) rfl
      rw [h0, h2]
      exact wpOp_call rfl rfl (by go_simp) ((IHA.out W).mono fun e w'' ⟨he, hb'⟩ => ⟨_, he, rfl, hb'⟩)
    | 4, _ => exact wpOp_val rfl rfl (by go_simp) rfl
    | 5, _ => exact wpOp_val rfl rfl (by go_simp) rfl
    | 6, _ =>
      have h0 : us 5 = _ := hd _ rfl { on := 5, ground := .data } (by simp) rfl
      rw [h0]
      have hc : W.cell? ⟨w.heap.size, 2, none⟩ = some (.iface b.ty b.pay) := by rw [cell_of_row _ _ _ _ _ _ L0.out]; rfl
      exact wpOp_val rfl rfl (by go_simp) rfl
    | 7, _ =>
      have h0 : us 4 = _ := hd _ rfl { on := 4, ground := .data } (by simp) rfl
      have h2 : us 6 = _ := hd _ rfl { on := 6, ground := .data } (by simp) rfl
      rw [h0, h2]
      exact wpOp_call rfl rfl (by go_simp) ((IHB.out W).mono fun e w'' ⟨he, hb'⟩ => ⟨_, he, rfl, hb'⟩)
    | 8, _ =>
      have h0 : us 3 = _ := hd _ rfl { on := 3, ground := .data } (by simp) rfl
      rw [h0]
      exact wpOp_val rfl rfl (by go_simp) rfl
    | 9, _ =>
      have h0 : us 7 = _ := hd _ rfl { on := 7, ground := .data } (by simp) rfl
      rw [h0]
      exact wpOp_val rfl rfl (by go_simp) rfl
  · have h8 : us 8 = _ := hr 8 (by omega)
    have h9 : us 9 = _ := hr 9 (by omega)
    rw [h8, h9]
    have HB2 := hid (HB.out.trans (hb.mono HB.out.size))
    have L0 := (hb.block _ (lt_of_block HN.out)).trans HN.out
    have hc : W.cell? ⟨w.heap.size, 1, none⟩ = some (.string (strB [s])) := by rw [cell_of_row _ _ _ _ _ _ L0]; rfl
    clear hb hr h8 h9 L0
    rcases sig_three HX.out with rfl | rfl | rfl <;> rcases mid_two HS.out with rfl | rfl
    · have e0 := cat_eq [62] [124] [62, 124] true (by decide)
      go_wp2_with fail
      go_ret
      exact ⟨rfl, HB2.out⟩
    · have e0 := cat_eq [62] [45] [62, 124] false (by decide)
      have e1 := cat_eq [62] [45] [62, 45] true (by decide)
      go_wp2_with fail
      go_ret
      exact ⟨rfl, HB2.out⟩
    · have e0 := cat_eq [94] [124] [62, 124] false (by decide)
      have e1 := cat_eq [94] [124] [62, 45] false (by decide)
      have e2 := cat_eq [94] [124] [94, 124] true (by decide)
      go_wp2_with fail
      go_ret
      exact ⟨rfl, HB2.out⟩
    · have e0 := cat_eq [94] [45] [62, 124] false (by decide)
      have e1 := cat_eq [94] [45] [62, 45] false (by decide)
      have e2 := cat_eq [94] [45] [94, 124] false (by decide)
      go_wp2_with fail
      go_ret
      exact ⟨rfl, HB2.out⟩
    · have e0 := cat_eq [42] [124] [62, 124] false (by decide)
      have e1 := cat_eq [42] [124] [62, 45] false (by decide)
      have e2 := cat_eq [42] [124] [94, 124] false (by decide)
      go_wp2_with fail
      go_ret
      exact ⟨rfl, HB2.out⟩
    · have e0 := cat_eq [42] [45] [62, 124] false (by decide)
      have e1 := cat_eq [42] [45] [62, 45] false (by decide)
      have e2 := cat_eq [42] [45] [94, 124] false (by decide)
      go_wp2_with fail
      go_ret
      exact ⟨rfl, HB2.out⟩
theorem ta_ls (c : UInt8) (w : World) : (Instr.typeAssert (.iface 92 (.string (strB [c]))) 39 69 true).run Tryd.prog w = .ok (.tuple #[.agg #[.string ⟨#[]⟩, .nilIface], .bool false]) w := by kernel_rfl
theorem ta_lc (c : UInt8) (w : World) : (Instr.typeAssert (.iface 92 (.string (strB [c]))) 39 72 true).run Tryd.prog w = .ok (.tuple #[.agg #[.nilIface, .string ⟨#[]⟩, .nilIface], .bool false]) w := by kernel_rfl
theorem ta_ll (c : UInt8) (w : World) : (Instr.typeAssert (.iface 92 (.string (strB [c]))) 39 92 true).run Tryd.prog w = .ok (.tuple #[.string (strB [c]), .bool true]) w := by kernel_rfl
theorem ta_ss (s : UInt8) (t : Tm) (w : World) : (Instr.typeAssert (.iface 69 (.agg #[.string (strB [s]), .iface t.ty t.pay])) 39 69 true).run Tryd.prog w = .ok (.tuple #[.agg #[.string (strB [s]), .iface t.ty t.pay], .bool true]) w := by kernel_rfl
theorem ta_sc (s : UInt8) (t : Tm) (w : World) : (Instr.typeAssert (.iface 69 (.agg #[.string (strB [s]), .iface t.ty t.pay])) 39 72 true).run Tryd.prog w = .ok (.tuple #[.agg #[.nilIface, .string ⟨#[]⟩, .nilIface], .bool false]) w := by kernel_rfl
theorem ta_sl (s : UInt8) (t : Tm) (w : World) : (Instr.typeAssert (.iface 69 (.agg #[.string (strB [s]), .iface t.ty t.pay])) 39 92 true).run Tryd.prog w = .ok (.tuple #[.string ⟨#[]⟩, .bool false]) w := by kernel_rfl
theorem ta_cs (a : Tm) (s : UInt8) (b : Tm) (w : World) : (Instr.typeAssert (.iface 72 (.agg #[.iface a.ty a.pay, .string (strB [s]), .iface b.ty b.pay])) 39 69 true).run Tryd.prog w = .ok (.tuple #[.agg #[.string ⟨#[]⟩, .nilIface], .bool false]) w := by kernel_rfl
theorem ta_cc (a : Tm) (s : UInt8) (b : Tm) (w : World) : (Instr.typeAssert (.iface 72 (.agg #[.iface a.ty a.pay, .string (strB [s]), .iface b.ty b.pay])) 39 72 true).run Tryd.prog w = .ok (.tuple #[.agg #[.iface a.ty a.pay, .string (strB [s]), .iface b.ty b.pay], .bool true]) w := by kernel_rfl
theorem ta_cl (a : Tm) (s : UInt8) (b : Tm) (w : World) : (Instr.typeAssert (.iface 72 (.agg #[.iface a.ty a.pay, .string (strB [s]), .iface b.ty b.pay])) 39 92 true).run Tryd.prog w = .ok (.tuple #[.string ⟨#[]⟩, .bool false]) w := by kernel_rfl

theorem conv_46 (w : World) : (convert 5 92 (.int .u8 (oth 46).toNat)).run Tryd.prog w = .ok (.string (strB [othB 46])) w := by kernel_rfl
theorem conv_114 (w : World) : (convert 5 92 (.int .u8 (oth 114).toNat)).run Tryd.prog w = .ok (.string (strB [othB 114])) w := by kernel_rfl
theorem conv_102 (w : World) : (convert 5 92 (.int .u8 (oth 102).toNat)).run Tryd.prog w = .ok (.string (strB [othB 102])) w := by kernel_rfl
set_option maxRecDepth 100000 in
set_option maxHeartbeats 2000000 in
theorem inwards_lone (x c : UInt8) (w : World) (hc : isLet c = true) : Calls Tryd.prog 37 #[.string (strB [x]), .iface 92 (.string (strB [c]))] w (ValIs (.lone (othB c)) w) := by
  have f1 := ta_ll c
  have hs1 : (strB [c]).size = 1 := rfl
  have hb0 : (strB [c])[0] = c := rfl
  have HX := hid (exchanged_any c)
  have hv : ∀ w, (convert 5 92 (.int .u8 (oth c).toNat)).run Tryd.prog w = .ok (.string (strB [othB c])) w := by
    intro w
    have : c = 46 ∨ c = 114 ∨ c = 102 := by
      unfold isLet at hc
      simpa only [Bool.or_eq_true, beq_iff_eq, or_assoc] using hc
    rcases this with rfl | rfl | rfl
    · exact conv_46 w
    · exact conv_114 w
    · exact conv_102 w
  clear hc
  unfold ValIs
  go_enter Tryd.func37, Tryd.ntmps37
  go_wp2_with fail
  refine (HX.out _).mono ?_
  rintro e w' ⟨rfl, rfl⟩
  go_wp2_with fail
  go_ret
  exact ⟨rfl, Below.refl _ _⟩

set_option maxRecDepth 100000 in
set_option maxHeartbeats 2000000 in
theorem inwards_cpl (x s : UInt8) (a b a' b' : Tm) (w : World) (hx : isSig x = true) (hs : isMid s = true)
    (iha : ∀ w, Calls Tryd.prog 37 #[.string (strB [x]), .iface a.ty a.pay] w (ValIs a' w)) (ihb : ∀ w, Calls Tryd.prog 37 #[.string (strB [x]), .iface b.ty b.pay] w (ValIs b' w)) :
    Calls Tryd.prog 37 #[.string (strB [x]), .iface 72 (.agg #[.iface a.ty a.pay, .string (strB [s]), .iface b.ty b.pay])] w (ValIs (movedT x s a' b') w) := by
  have f1 := ta_cl a s b
  have f2 := ta_cc a s b
  have HM := hid (fun W => moved_any x s a b a' b' W hx hs iha ihb)
  have HB := hid ((Below.refl w.heap.size w).alloc (Nat.le_refl _) (.cells #[.iface a.ty a.pay, .string (strB [s]), .iface b.ty b.pay] 72))
  clear iha ihb hx hs
  go_enter Tryd.func37, Tryd.ntmps37
  go_wp2_with fail
  generalize World.alloc w _ = Y at HB ⊢
  refine (HM.out _).mono ?_
  rintro e w' ⟨rfl, hb⟩
  have HB2 := hid (HB.out.trans (hb.mono HB.out.size))
  clear hb
  go_wp2_with fail
  go_ret
  exact ⟨rfl, HB2.out⟩
theorem inwards_tidy (x : UInt8) (hx : isSig x = true) : ∀ (u : Tm) (w : World), u.tidy = true → u.wf = true → Calls Tryd.prog 37 #[.string (strB [x]), .iface u.ty u.pay] w (ValIs (u.app x) w)
  | .lone c, w, _, hw => inwards_lone x c w hw
  | .sig _ _, _, h, _ => by cases h
  | .cpl a s b, w, h, hw => by
    simp only [Tm.tidy, Bool.and_eq_true] at h
    simp only [Tm.wf, Bool.and_eq_true] at hw
    exact inwards_cpl x s a b (a.app x) (b.app x) w hx h.1.2 (fun w => inwards_tidy x hx a w h.1.1 hw.1.1) (fun w => inwards_tidy x hx b w h.2 hw.2)

set_option maxRecDepth 100000 in
set_option maxHeartbeats 2000000 in
theorem tidied_lone (c : UInt8) (w : World) : Calls Tryd.prog 28 #[.iface 92 (.string (strB [c]))] w (ValIs (.lone c) w) := by
  have f1 := ta_ls c
  have f2 := ta_lc c
  unfold ValIs
  go_enter Tryd.func28, Tryd.ntmps28
  go_wp2_with fail
  go_ret
  exact ⟨rfl, Below.refl _ _⟩
set_option maxRecDepth 100000 in
set_option maxHeartbeats 2000000 in
theorem tidied_sig (s : UInt8) (t u : Tm) (w : World) (ih : ∀ w, Calls Tryd.prog 37 #[.string (strB [s]), .iface t.ty t.pay] w (ValIs u w)) :
    Calls Tryd.prog 28 #[.iface 69 (.agg #[.string (strB [s]), .iface t.ty t.pay])] w (ValIs u w) := by
  have f1 := ta_ss s t
  have HI := hid ih
  have HB := hid ((Below.refl w.heap.size w).alloc (Nat.le_refl _) (.cells #[.string (strB [s]), .iface t.ty t.pay] 69))
  clear ih
  go_enter Tryd.func28, Tryd.ntmps28
  go_wp2_with fail
  generalize World.alloc w _ = Y at HB ⊢
  refine (HI.out _).mono ?_
  rintro e w' ⟨rfl, hb⟩
  have HB2 := hid (HB.out.trans (hb.mono HB.out.size))
  clear hb
  go_wp2_with fail
  go_ret
  exact ⟨rfl, HB2.out⟩
set_option maxRecDepth 100000 in
set_option maxHeartbeats 2000000 in
theorem inwards_sig (x s : UInt8) (t u v : Tm) (w : World) (ih : ∀ w, Calls Tryd.prog 28 #[.iface 69 (.agg #[.string (strB [s]), .iface t.ty t.pay])] w (ValIs u w))
    (iv : ∀ w, Calls Tryd.prog 37 #[.string (strB [x]), .iface u.ty u.pay] w (ValIs v w)) :
    Calls Tryd.prog 37 #[.string (strB [x]), .iface 69 (.agg #[.string (strB [s]), .iface t.ty t.pay])] w (ValIs v w) := by
  have f1 := ta_sl s t
  have f2 := ta_sc s t
  have HI := hid ih
  have HV := hid iv
  clear ih iv
  go_enter Tryd.func37, Tryd.ntmps37
  go_wp2_with fail
  refine (HI.out _).mono ?_
  rintro e w1 ⟨rfl, hb⟩
  have HB := hid hb
  clear hb
  go_wp2_with fail
  refine (HV.out _).mono ?_
  rintro e w2 ⟨rfl, hb⟩
  have HB2 := hid (HB.out.trans (hb.mono HB.out.size))
  clear hb
  go_wp2_with fail
  go_ret
  exact ⟨rfl, HB2.out⟩
/-- What the operations hand back that tidy a couple. -/
def tdRel (g : Nat) (s : UInt8) (a b a' b' : Tm) (i : Nat) (v : Value) (_ : World) : Prop :=
  match i with
  | 0 => v = .pointer (some ⟨g, 0, none⟩)
  | 1 => v = .iface a.ty a.pay
  | 2 => v = .iface a'.ty a'.pay
  | 3 => v = .pointer (some ⟨g, 1, none⟩)
  | 4 => v = .string (strB [s])
  | 5 => v = .pointer (some ⟨g, 2, none⟩)
  | 6 => v = .iface b.ty b.pay
  | 7 => v = .iface b'.ty b'.pay
  | 8 => v = .agg #[.iface a'.ty a'.pay, .string (strB [s]), .iface b'.ty b'.pay]
  | _ => v = .iface 72 (.agg #[.iface a'.ty a'.pay, .string (strB [s]), .iface b'.ty b'.pay])
set_option maxRecDepth 100000 in
set_option maxHeartbeats 4000000 in
theorem tidied_cpl (s : UInt8) (a b a' b' : Tm) (w : World) (iha : ∀ w, Calls Tryd.prog 28 #[.iface a.ty a.pay] w (ValIs a' w)) (ihb : ∀ w, Calls Tryd.prog 28 #[.iface b.ty b.pay] w (ValIs b' w)) :
    Calls Tryd.prog 28 #[.iface 72 (.agg #[.iface a.ty a.pay, .string (strB [s]), .iface b.ty b.pay])] w (ValIs (.cpl a' s b') w) := by
  have f1 := ta_cs a s b
  have f2 := ta_cc a s b
  have IHA := hid iha
  have IHB := hid ihb
  have HN := hid (heap_new0 w (.cells #[.iface a.ty a.pay, .string (strB [s]), .iface b.ty b.pay] 72))
  have HB := hid ((Below.refl w.heap.size w).alloc (Nat.le_refl _) (.cells #[.iface a.ty a.pay, .string (strB [s]), .iface b.ty b.pay] 72))
  clear iha ihb
  unfold ValIs at IHA IHB ⊢
  go_enter Tryd.func28, Tryd.ntmps28
  go_wp2_with fail
  generalize World.alloc w _ = Y at HN HB ⊢
  refine wp_region_rel (by kernel_rfl) (by kernel_rfl) 11 (by kernel_rfl) (fun us => { tmps := #[.iface 72 (.agg #[.iface a.ty a.pay, .string (strB [s]), .iface b.ty b.pay]), undef, us 10, undef, .pointer (some ⟨w.heap.size, 0, none⟩), .iface 72 (.agg #[.iface a.ty a.pay, .string (strB [s]), .iface b.ty b.pay]), .tuple #[.agg #[.string ⟨#[]⟩, .nilIface], .bool false], .bool false, .agg #[.string ⟨#[]⟩, .nilIface], undef, undef, undef, undef, undef, .tuple #[.agg #[.iface a.ty a.pay, .string (strB [s]), .iface b.ty b.pay], .bool true], .bool true, .agg #[.iface a.ty a.pay, .string (strB [s]), .iface b.ty b.pay], us 0, us 1, us 2, us 3, us 4, us 5, us 6, us 7, us 8, us 9, undef], defers := [] }) (fun i => if i = 10 then .nilIface else undef) rfl (tdRel w.heap.size s a b a' b') (fun i v W W' h _ => h) (fun i us v hi => ?_) (fun i us W hi hb hd => ?_) (fun us W hb hr => ?_)
  · match i, hi with
    | 0, _ => rfl
    | 1, _ => rfl
    | 2, _ => rfl
    | 3, _ => rfl
    | 4, _ => rfl
    | 5, _ => rfl
    | 6, _ => rfl
    | 7, _ => rfl
    | 8, _ => rfl
    | 9, _ => rfl
    | 10, _ => rfl
  · have L0 := hid ((hb.block _ (lt_of_block HN.out)).trans HN.out)
    match i, hi with
    | 0, _ => exact wpOp_val rfl rfl (by go_simp) rfl
    | 1, _ =>
      have h0 : us 0 = _ := hd _ rfl { on := 0, ground := .data } (by simp) rfl
      rw [h0]
      have hc : W.cell? ⟨w.heap.size, 0, none⟩ = some (.iface a.ty a.pay) := by rw [cell_of_row _ _ _ _ _ _ L0.out]; rfl
      exact wpOp_val rfl rfl (by go_simp) rfl
    | 2, _ =>
      have h1 : us 1 = _ := hd _ rfl { on := 1, ground := .data } (by simp) rfl
      rw [h1]
      exact wpOp_call rfl rfl (by go_simp) ((IHA.out W).mono fun e w'' ⟨he, hb'⟩ => ⟨_, he, rfl, hb'⟩)
    | 3, _ => exact wpOp_val rfl rfl (by go_simp) rfl
    | 4, _ =>
      have h0 : us 3 = _ := hd _ rfl { on := 3, ground := .data } (by simp) rfl
      rw [h0]
      have hc : W.cell? ⟨w.heap.size, 1, none⟩ = some (.string (strB [s])) := by rw [cell_of_row _ _ _ _ _ _ L0.out]; rfl
      exact wpOp_val rfl rfl (by go_simp) rfl
    | 5, _ => exact wpOp_val rfl rfl (by go_simp) rfl
    | 6, _ =>
      have h0 : us 5 = _ := hd _ rfl { on := 5, ground := .data } (by simp) rfl
      rw [h0]
      have hc : W.cell? ⟨w.heap.size, 2, none⟩ = some (.iface b.ty b.pay) := by rw [cell_of_row _ _ _ _ _ _ L0.out]; rfl
      exact wpOp_val rfl rfl (by go_simp) rfl
    | 7, _ =>
      have h1 : us 6 = _ := hd _ rfl { on := 6, ground := .data } (by simp) rfl
      rw [h1]
      exact wpOp_call rfl rfl (by go_simp) ((IHB.out W).mono fun e w'' ⟨he, hb'⟩ => ⟨_, he, rfl, hb'⟩)
    | 8, _ =>
      have h2 : us 2 = _ := hd _ rfl { on := 2, ground := .data } (by simp) rfl
      have h4 : us 4 = _ := hd _ rfl { on := 4, ground := .data } (by simp) rfl
      have h7 : us 7 = _ := hd _ rfl { on := 7, ground := .data } (by simp) rfl
      rw [h2, h4, h7]
      exact wpOp_val rfl rfl (by go_simp) rfl
    | 9, _ =>
      have h8 : us 8 = _ := hd _ rfl { on := 8, ground := .data } (by simp) rfl
      rw [h8]
      exact wpOp_val rfl rfl (by go_simp) rfl
    | 10, _ =>
      have h9 : us 9 = _ := hd _ rfl { on := 9, ground := .data } (by simp) rfl
      rw [h9]
      exact wpOp_val rfl rfl (by go_simp) rfl
  · have h10 : us 10 = _ := hr 10 (by omega)
    rw [h10]
    have HB2 := hid (HB.out.trans (hb.mono HB.out.size))
    clear hb hr h10
    go_wp2_with fail
    go_ret
    exact ⟨rfl, HB2.out⟩
/-- Terms tidied, and signs moved inwards, by the program. -/
theorem tidied_any : ∀ (t : Tm), t.wf = true → (∀ w, Calls Tryd.prog 28 #[.iface t.ty t.pay] w (ValIs t.tid w)) ∧ (∀ x w, isSig x = true → Calls Tryd.prog 37 #[.string (strB [x]), .iface t.ty t.pay] w (ValIs (t.tid.app x) w))
  | .lone c, hw => ⟨fun w => tidied_lone c w, fun x w _ => inwards_lone x c w hw⟩
  | .sig s t, hw => by
    simp only [Tm.wf, Bool.and_eq_true] at hw
    have ih := tidied_any t hw.2
    have h1 : ∀ w, Calls Tryd.prog 28 #[.iface 69 (.agg #[.string (strB [s]), .iface t.ty t.pay])] w (ValIs (t.tid.app s) w) := fun w => tidied_sig s t _ w fun w => ih.2 s w hw.1
    have hu := t.tid_ok hw.2
    exact ⟨h1, fun x w hx => inwards_sig x s t _ _ w h1 fun w => inwards_tidy x hx _ w (Tm.app_tidy s _ hu.1) (Tm.app_wf s _ hu.1 hu.2)⟩
  | .cpl a s b, hw => by
    simp only [Tm.wf, Bool.and_eq_true] at hw
    have iha := tidied_any a hw.1.1
    have ihb := tidied_any b hw.2
    exact ⟨fun w => tidied_cpl s a b _ _ w iha.1 ihb.1, fun x w hx => inwards_cpl x s a b _ _ w hx hw.1.2 (fun w => iha.2 x w hx) (fun w => ihb.2 x w hx)⟩
end Go.Proofs.YtpimkhjcphimaaaDoor
