/- GridUnder of the specification where the second list is no grid: nothing comes. -/
import Derived.Test.YtkgjhchgflichaaJoinUa
namespace Go.Proofs.Ytkgjhchgflichaa
open Go.RowKit Go.Shelf

def underRelb (v v' : Value) (i : Nat) (u : Value) (_ : World) : Prop :=
  match i with
  | 0 => u = v
  | 1 => u = .bool true
  | 2 => u = .bool false
  | 3 => u = .bool false
  | 4 => u = v'
  | 5 => u = .bool false
  | 6 => u = .bool true
  | 7 => u = .bool true
  | 8 => u = .bool true
  | 9 => u = undef
  | 10 => u = undef
  | 11 => u = undef
  | 12 => u = undef
  | 13 => u = undef
  | 14 => u = undef
  | 15 => u = undef
  | 16 => u = undef
  | 17 => u = undef
  | 18 => u = .bool true
  | _ => True

set_option maxRecDepth 100000 in
set_option maxHeartbeats 2000000 in
theorem specGridUnder_no2 (v v' : Value) (ss tt : List ByteArray) (w : World)
    (H1 : Hid (∀ w', Below w.heap.size w w' → Calls Try.prog 17 #[v] w' fun e w'' => ∃ u, e = .returned u ∧ u = .bool true ∧ Below w'.heap.size w' w''))
    (H2 : Hid (∀ w', Below w.heap.size w w' → Calls Try.prog 17 #[v'] w' fun e w'' => ∃ u, e = .returned u ∧ u = .bool false ∧ Below w'.heap.size w' w''))
    (HNo : Hid (∀ n m n' m', ¬ UnderIn ss tt n m n' m')) :
    Calls Try.prog 32 #[v, v'] w fun e w' => Below w.heap.size w w' ∧ ∃ A c res ok, e = .returned (.tuple #[.slice A res.length c, .bool ok]) ∧ UnderOut ss tt ok res ∧ Strs w' w'.heap.size A res := by
  go_enter Try.func32, Try.ntmps32
  go_wp2_with fail
  refine wp_region_rel (by kernel_rfl) (by kernel_rfl) 19 rfl (fun us => { tmps := #[v, v', undef, undef, .slice none 0 0, .bool false, us 0, us 1, us 2, us 3, us 4, us 5, us 6, us 7, us 8, us 9, us 10, us 11, us 12, us 13, us 14, us 15, us 16, us 17, us 18, undef, undef, undef, undef, undef, undef, undef, undef, undef, undef, undef], defers := [] }) (fun _ => undef) rfl (underRelb v v') (fun i u W W' h _ => h) (fun i us u hi => ?_) (fun i us W hi hb hd => ?_) (fun us W hb hr => ?_)
  · match i, hi with
    | 0, _ => rfl
    | 1, _ => rfl
    | 2, _ => rfl
    | 3, _ => rfl
    | 4, _ => rfl
    | 5, _ => rfl
    | 6, _ => rfl
    | 7, _ => rfl
    | 8, _ => rfl
    | 9, _ => rfl
    | 10, _ => rfl
    | 11, _ => rfl
    | 12, _ => rfl
    | 13, _ => rfl
    | 14, _ => rfl
    | 15, _ => rfl
    | 16, _ => rfl
    | 17, _ => rfl
    | 18, _ => rfl
    | k + 19, hk => exact absurd hk (by omega)
  · match i, hi with
    | 0, _ =>
      exact wpOp_valW rfl (by rfl) (by go_simp) rfl
    | 1, _ =>
      have h0 : us 0 = _ := hd _ rfl { on := 0, ground := .data } (by simp) rfl
      rw [h0]
      exact wpOp_callW rfl (by rfl) (by go_simp) (H1.out W hb)
    | 2, _ =>
      have h0 : us 1 = _ := hd _ rfl { on := 1, ground := .data } (by simp) rfl
      rw [h0]
      exact wpOp_valW rfl (by rfl) (by go_simp) rfl
    | 3, _ =>
      have h0 : us 2 = _ := hd _ rfl { on := 2, ground := .data } (by simp) rfl
      rw [h0]
      exact wpOp_valW rfl (by rfl) (by go_simp) rfl
    | 4, _ =>
      have h0 : us 3 = _ := hd _ rfl { on := 3, ground := .guard } (by simp) rfl
      rw [h0]
      exact wpOp_valW rfl (by rfl) (by go_simp) rfl
    | 5, _ =>
      have h0 : us 4 = _ := hd _ rfl { on := 4, ground := .data } (by simp) rfl
      have h1 : us 3 = _ := hd _ rfl { on := 3, ground := .guard } (by simp) rfl
      rw [h0, h1]
      exact wpOp_callW rfl (by rfl) (by go_simp) (H2.out W hb)
    | 6, _ =>
      have h0 : us 5 = _ := hd _ rfl { on := 5, ground := .data } (by simp) rfl
      have h1 : us 3 = _ := hd _ rfl { on := 3, ground := .guard } (by simp) rfl
      rw [h0, h1]
      exact wpOp_valW rfl (by rfl) (by go_simp) rfl
    | 7, _ =>
      have h0 : us 3 = _ := hd _ rfl { on := 3, ground := .data } (by simp) rfl
      have h1 : us 6 = _ := hd _ rfl { on := 6, ground := .data } (by simp) rfl
      rw [h0, h1]
      exact wpOp_valW rfl (by rfl) (by go_simp) rfl
    | 8, _ =>
      have h0 : us 7 = _ := hd _ rfl { on := 7, ground := .data } (by simp) rfl
      rw [h0]
      exact wpOp_valW rfl (by rfl) (by go_simp) rfl
    | 9, _ =>
      have h0 : us 8 = _ := hd _ rfl { on := 8, ground := .guard } (by simp) rfl
      rw [h0]
      exact wpOp_skip rfl (by rfl) rfl
    | 10, _ =>
      have h0 : us 8 = _ := hd _ rfl { on := 8, ground := .guard } (by simp) rfl
      rw [h0]
      exact wpOp_skip rfl (by rfl) rfl
    | 11, _ =>
      have h0 : us 8 = _ := hd _ rfl { on := 8, ground := .guard } (by simp) rfl
      rw [h0]
      exact wpOp_skip rfl (by rfl) rfl
    | 12, _ =>
      have h0 : us 8 = _ := hd _ rfl { on := 8, ground := .guard } (by simp) rfl
      rw [h0]
      exact wpOp_skip rfl (by rfl) rfl
    | 13, _ =>
      have h0 : us 8 = _ := hd _ rfl { on := 8, ground := .guard } (by simp) rfl
      rw [h0]
      exact wpOp_skip rfl (by rfl) rfl
    | 14, _ =>
      have h0 : us 8 = _ := hd _ rfl { on := 8, ground := .guard } (by simp) rfl
      rw [h0]
      exact wpOp_skip rfl (by rfl) rfl
    | 15, _ =>
      have h0 : us 8 = _ := hd _ rfl { on := 8, ground := .guard } (by simp) rfl
      rw [h0]
      exact wpOp_skip rfl (by rfl) rfl
    | 16, _ =>
      have h0 : us 8 = _ := hd _ rfl { on := 8, ground := .guard } (by simp) rfl
      rw [h0]
      exact wpOp_skip rfl (by rfl) rfl
    | 17, _ =>
      have h0 : us 8 = _ := hd _ rfl { on := 8, ground := .guard } (by simp) rfl
      rw [h0]
      exact wpOp_skip rfl (by rfl) rfl
    | 18, _ =>
      have h0 : us 8 = _ := hd _ rfl { on := 8, ground := .data } (by simp) rfl
      have h1 : us 17 = _ := hd _ rfl { on := 17, ground := .data } (by simp) rfl
      rw [h0, h1]
      exact wpOp_valW rfl (by rfl) (by go_simp) rfl
    | k + 19, hk => exact absurd hk (by omega)
  · have h18 : us 18 = .bool true := hr 18 (by omega)
    have HB := hid hb
    rw [h18]
    generalize us 0 = s0
    generalize us 1 = s1
    generalize us 2 = s2
    generalize us 3 = s3
    generalize us 4 = s4
    generalize us 5 = s5
    generalize us 6 = s6
    generalize us 7 = s7
    generalize us 8 = s8
    generalize us 9 = s9
    generalize us 10 = s10
    generalize us 11 = s11
    generalize us 12 = s12
    generalize us 13 = s13
    generalize us 14 = s14
    generalize us 15 = s15
    generalize us 16 = s16
    generalize us 17 = s17
    clear hr hb h18
    go_wp2_with fail
    refine (l1None_any _).mono ?_
    rintro e w1 ⟨⟨A1, c1, rfl⟩, hb1⟩
    have HB1 := hid (HB.out.trans (hb1.mono HB.out.size))
    clear hb1
    go_wp2_with fail
    refine bodyPost_ret (results_tmp2 rfl _ _ _) rfl ?_
    exact ⟨HB1.out, A1, c1, [], false, rfl, .inr ⟨HNo.out, rfl, rfl⟩, Strs.nil_ _ _ _⟩

end Go.Proofs.Ytkgjhchgflichaa
