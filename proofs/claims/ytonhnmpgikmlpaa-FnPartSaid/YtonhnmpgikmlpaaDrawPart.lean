/- DrawGridPart: a grid and the sides of a part of it are drawn; the last region draws its order and holds four picks. -/
import Derived.Test.YtonhnmpgikmlpaaPKD
import Derived.Test.YtonhnmpgikmlpaaLin
import Derived.Test.YtonhnmpgikmlpaaBunA
namespace Go.Proofs.Ytonhnmpgikmlpaa
open Go.RowKit Go.Shelf

/-- The law for a region that draws its order, by one invariant over what has been listed; no operation stands behind all others. -/
theorem wp_region_lin {P : Program} {Q : Exit → Act → World → Prop} {id : Nat} {l : List Oper} {a : Act} {w : World} (hm : P.follows .mixedOrders = true) (hB : backB2 l.toArray = true) (n : Nat) (hn : l.toArray.size = n)
    (fill : (Nat → Value) → Act) (us0 : Nat → Value) (ha : a = fill us0) (I : (Nat → Bool) → (Nat → Value) → World → Prop)
    (h0 : ∀ s, (∀ i, i < n → s i = false) → I s us0 w.drew)
    (hput : ∀ i us v, i < n → (fill us).put ((l.toArray[i]?).bind (·.dst)) v = fill (fun k => if k = i then v else us k))
    (hstep : ∀ i s us W, i < n → s i = false → (∀ o, l.toArray[i]? = some o → ∀ e ∈ o.after, Region.binds .any e = true → s e.on = true) → I s us W →
      wpOp P l.toArray Q i (fun a' W' => ∃ v, a' = (fill us).put ((l.toArray[i]?).bind (·.dst)) v ∧ I (fun k => if k = i then true else s k) (fun k => if k = i then v else us k) W') (fill us) W)
    (hdone : ∀ s us W, (∀ i, i < n → s i = true) → I s us W → Q .normal (fill us) W) : (Code.region id l.toArray true).wp P Q a w := by
  refine wp_region_any hm ?_
  refine wpAny_inv (Inv := fun listed a W => listed.size = n ∧ ∃ us, a = fill us ∧ I (fun k => listed.getD k true) us W) ?_ ?_ _ _ _ _ ?_ ?_
  · rintro listed a' W i ⟨hls, us, rfl, hI⟩ hi
    obtain ⟨hun, o, ho, hall⟩ := mem_ready.1 hi
    have hin : i < n := by rw [← hn]; exact (Array.getElem?_eq_some_iff.1 ho).1
    refine wpOp_mono ?_ (hstep i _ us W hin hun (fun o' ho' e he hbd => ?_) hI)
    · rintro a'' W' ⟨v, rfl, hv⟩
      refine ⟨by simpa using hls, _, hput i us v hin, ?_⟩
      rw [getD_set_fun listed i (by omega)]
      exact hv
    · rw [ho] at ho'
      cases ho'
      have hlt := backB2_spec hB ho he hbd
      have h1 := hall e he hbd
      show listed.getD e.on true = true
      rw [Array.getD_eq_getD_getElem?, Array.getElem?_eq_getElem (by omega)] at h1 ⊢
      exact h1
  · rintro listed a' W ⟨hls, us, rfl, hI⟩ hrd
    exact hdone _ us W (fun i hi => all_listed2 hB (by rw [hls, hn]) hrd i (by omega)) hI
  · unfold leftN
    refine Nat.le_trans List.count_le_length ?_
    simp
  · refine ⟨by simpa using hn, us0, ha, h0 _ fun i hi => ?_⟩
    have hin : i < l.length := by have : l.toArray.size = l.length := by simp
                                  omega
    show (Array.replicate _ false).getD i true = false
    rw [Array.getD_eq_getD_getElem?, Array.getElem?_replicate]
    simp [hin]
/-- A call in a region, for any end. -/
theorem wpOp_callK {P : Program} {Q : Exit → Act → World → Prop} {ops : Array Oper} {i : Nat} {o : Oper} (hi : ops[i]? = some o) (hg : o.guard = none) {f : FuncId} {args : Array Value} {a : Act} {w : World} {K : Act → World → Prop}
    (hr : (execOp a.eval o).run P w = .ok (.enter f args) w) (hc : Calls P f args w fun e w' => ∃ v, e = .returned v ∧ K (a.put o.dst v) w') : wpOp P ops Q i K a w := by
  unfold wpOp
  simp only [hi]
  rw [if_pos (by simp [Region.wanted, hg])]
  refine .inl ?_
  unfold Oper.wp
  rw [hr]
  simp only [Oper.upon]
  refine hc.mono fun e w' he => ?_
  obtain ⟨v, rfl, h1⟩ := he
  exact h1
theorem results_5 {fn : Func} {t u v x y : Tmp} (h : fn.results = #[.tmp t, .tmp u, .tmp v, .tmp x, .tmp y]) (tmps : Array Value) (P : Program) (w : World) :
    (results fn tmps).run P w = .ok (.tuple #[tmps.getD t undef, tmps.getD u undef, tmps.getD v undef, tmps.getD x undef, tmps.getD y undef]) w := by
  simp [results, h]
theorem gby_drew' (w : World) (g : Nat) : w.grownBy w.drew (some g) := ⟨rfl, rfl, rfl, Nat.le_refl _, fun _ _ _ => rfl⟩
theorem Dr.drew' {w0 w : World} {g P : Nat} (h : Dr w0 g P w) : Dr w0 g P w.drew := ⟨h.1.below (Below.refl _ w).drew, h.2.1.drew, h.2.2⟩
/-- What each operation of the region comes to. -/
def PVal (T R S0 pt : Value) (n m t l : Int) : Nat → Value → Prop
  | 0, v => v = T
  | 1, v => v = .int .i64 t
  | 2, v => v = .int .i64 t
  | 3, v => v = R
  | 4, v => v = T
  | 5, v => v = .int .i64 n
  | 6, v => v = .int .i64 t
  | 7, v => v = .int .i64 (n - t)
  | 8, v => ∃ x : Nat, x ≤ 10 ∧ v = .int .i64 (x : Int)
  | 9, v => ∃ x : Nat, x ≤ 20 ∧ v = .int .i64 (x : Int)
  | 10, v => v = R
  | 11, v => ∃ x : Nat, x < 24 ∧ v = .int .i64 (x : Int)
  | 12, v => ∃ x : Nat, x ≤ 1 ∧ v = .int .i64 (x : Int)
  | 13, v => ∃ x : Int, v = .int .i64 x
  | 14, v => v = .int .i64 l
  | 15, v => v = .int .i64 l
  | 16, v => v = R
  | 17, v => v = T
  | 18, v => v = pt
  | 19, v => v = S0
  | 20, v => v = .int .i64 m
  | 21, v => v = .int .i64 l
  | 22, v => v = .int .i64 (m - l)
  | 23, v => ∃ x : Nat, x ≤ 10 ∧ v = .int .i64 (x : Int)
  | 24, v => ∃ x : Nat, x ≤ 20 ∧ v = .int .i64 (x : Int)
  | 25, v => v = R
  | 26, v => ∃ x : Nat, x < 24 ∧ v = .int .i64 (x : Int)
  | 27, v => ∃ x : Nat, x ≤ 1 ∧ v = .int .i64 (x : Int)
  | 28, v => ∃ x : Int, v = .int .i64 x
  | 29, v => v = T
  | 30, v => v = .int .i64 t
  | 31, v => ∃ x : Int, v = .int .i64 x
  | 32, v => v = .int .i64 l
  | 33, v => ∃ x : Int, v = .int .i64 x
  | _, _ => True
def b2n (b : Bool) : Nat := if b = true then 1 else 0
theorem b2n_le (b : Bool) : b2n b ≤ 1 := by unfold b2n; split <;> omega
def cntP (s : Nat → Bool) : Nat := b2n (s 8) + b2n (s 11) + b2n (s 23) + b2n (s 26)
structure PartI (w0 W0 : World) (g P : Nat) (A : Option Addr) (ts : List ByteArray) (V : Nat → Value → Prop) (s : Nat → Bool) (us : Nat → Value) (W : World) : Prop where
  dr : Dr w0 g (P + cntP s) W
  gr : W0.grownBy W (some g)
  ld : LD g W A ts
  val : ∀ j, s j = true → j < 34 → V j (us j)
theorem cntP_le (s : Nat → Bool) : cntP s ≤ 4 := by
  unfold cntP
  have := b2n_le (s 8)
  have := b2n_le (s 11)
  have := b2n_le (s 23)
  have := b2n_le (s 26)
  omega
section
variable {w0 W0 W W' : World} {g P : Nat} {A : Option Addr} {ts : List ByteArray} {V : Nat → Value → Prop} {s : Nat → Bool} {us : Nat → Value}
theorem PartI.set (h : PartI w0 W0 g P A ts V s us W) (j : Nat) (v : Value) (hj : j ≠ 8 ∧ j ≠ 11 ∧ j ≠ 23 ∧ j ≠ 26) (hv : V j v) : PartI w0 W0 g P A ts V (fun k => if k = j then true else s k) (fun k => if k = j then v else us k) W := by
  have hc : cntP (fun k => if k = j then true else s k) = cntP s := by
    show b2n (if 8 = j then true else s 8) + b2n (if 11 = j then true else s 11) + b2n (if 23 = j then true else s 23) + b2n (if 26 = j then true else s 26) = b2n (s 8) + b2n (s 11) + b2n (s 23) + b2n (s 26)
    rw [if_neg (fun e => hj.1 e.symm), if_neg (fun e => hj.2.1 e.symm), if_neg (fun e => hj.2.2.1 e.symm), if_neg (fun e => hj.2.2.2 e.symm)]
  refine ⟨by rw [hc]; exact h.dr, h.gr, h.ld, fun k hk hk2 => ?_⟩
  by_cases e : k = j
  · subst e
    rw [if_pos rfl]
    exact hv
  · rw [if_neg e] at hk ⊢
    exact h.val k hk hk2
theorem PartI.call (h : PartI w0 W0 g P A ts V s us W) (j : Nat) (v : Value) (hj : j = 8 ∨ j = 11 ∨ j = 23 ∨ j = 26) (hs : s j = false) (hg : W.grownBy W' (some g)) (hd : Dr w0 g (P + cntP s + 1) W') (hv : V j v) : PartI w0 W0 g P A ts V (fun k => if k = j then true else s k) (fun k => if k = j then v else us k) W' := by
  have hc : cntP (fun k => if k = j then true else s k) = cntP s + 1 := by
    show b2n (if 8 = j then true else s 8) + b2n (if 11 = j then true else s 11) + b2n (if 23 = j then true else s 23) + b2n (if 26 = j then true else s 26) = b2n (s 8) + b2n (s 11) + b2n (s 23) + b2n (s 26) + 1
    have h1 : b2n true = 1 := rfl
    have h0 : b2n false = 0 := rfl
    rcases hj with rfl | rfl | rfl | rfl <;> (simp only [hs, h0, h1, Nat.reduceEqDiff, if_true, if_false]; try omega)
  refine ⟨by rw [hc]; exact hd, gby_trans h.gr hg, h.ld.step hg, fun k hk hk2 => ?_⟩
  by_cases e : k = j
  · subst e
    rw [if_pos rfl]
    exact hv
  · rw [if_neg e] at hk ⊢
    exact h.val k hk hk2
end
set_option maxRecDepth 100000 in
set_option maxHeartbeats 4000000 in
theorem drawGridPart_any (A : Option Addr) (len cap : Nat) (w : World) (h : CodeAt w A len) (hl : len ≤ 1048576) (hc : len ≤ cap) (hc2 : cap ≤ 9223372036854775807) :
    Calls Try.prog 54 #[.slice A len cap] w fun e w' => Below w.heap.size w w' ∧ ∃ (A : Option Addr) (c : Nat) (ts : List ByteArray) (t lo le ri : Int), e = .returned (.tuple #[.slice A ts.length c, .int .i64 t, .int .i64 lo, .int .i64 le, .int .i64 ri]) ∧ LS w' A ts ∧ Drawn 4 4 ts := by
  have HOP := hid (dOpen A len cap w h hl hc hc2)
  clear h
  go_enter Try.func54, Try.ntmps54
  go_wp2_with fail
  refine HOP.out.mono ?_
  rintro e w1 ⟨rfl, hd⟩
  have HD1 := hid hd
  clear hd HOP
  have HC1 := hid (dSome 4 4 HD1.out (by omega) (by omega) (by omega) (by omega) (by omega))
  go_wp2_with fail
  refine HC1.out.mono ?_
  rintro e w2 ⟨hg, hd, A1, c1, ts, ht, hlc, hx, rfl⟩
  have HT := hid ht
  have HX2 := hid hx
  have HD2 := hid hd
  obtain ⟨b, off, s0, rfl, hb, hk0, hc0⟩ := Strs.at_ (k := 0) hx.1 ht.1
  have hs0 := ht.2.2 s0 (List.mem_of_getElem? hk0)
  have hl1 := ht.1
  have hl4 := ht.2.1
  obtain ⟨N, hN⟩ : ∃ N, ts.length = N := ⟨_, rfl⟩
  have HN := hid hN
  rw [hN] at hl1 hl4 ⊢
  obtain ⟨M, hM⟩ : ∃ M, s0.size = M := ⟨_, rfl⟩
  have hMi : ((s0.size : Nat) : Int) = (M : Int) := by rw [hM]
  rw [hM] at hs0
  obtain ⟨hM1, hM5⟩ := hs0
  have HK := hid hk0
  have hN0 : (0 : Int) < (N : Int) := by omega
  clear hg hd hx ht hlc hb hk0 hc0 hN hM HC1 HD1
  have HC2 := hid (dPick N HD2.out (by omega) (by omega) (by omega))
  go_wp2_with fail
  refine HC2.out.mono ?_
  rintro e w3 ⟨hg, hd, t, hti, rfl⟩
  have HX3 := hid (HX2.out.step hg)
  have HD3 := hid hd
  clear hg hd HC2 HX2 HD2
  have c3 := Strs.cell_ HX3.out.1 HK.out
  rw [Nat.add_zero] at c3
  have HC3 := hid (dPick M HD3.out (by omega) (by omega) (by omega))
  go_wp2_with fail
  refine HC3.out.mono ?_
  rintro e w4 ⟨hg, hd, l, hli, rfl⟩
  have HX4 := hid (HX3.out.step hg)
  have HD4 := hid hd
  clear hg hd HC3 HX3 HD3 c3
  have hNt : (N : Int) - (t : Int) = ((N - t : Nat) : Int) := by omega
  have hMl : (M : Int) - (l : Int) = ((M - l : Nat) : Int) := by omega
  go_wp2_with fail
  refine wp_region_lin (by kernel_rfl) (by kernel_rfl) 34 (by kernel_rfl) (fun us => { tmps := #[.slice A len cap, undef, us 29, us 30, us 31, us 32, us 33, .pointer (some ⟨w.heap.size, 0, none⟩), .slice (some ⟨b, off, none⟩) N c1, .int .i64 (t : Int), .int .i64 (l : Int), .slice A len cap, .pointer (some ⟨w.heap.size, 0, none⟩), .pointer (some ⟨w.heap.size, 0, none⟩), .slice (some ⟨b, off, none⟩) N c1, .pointer (some ⟨w.heap.size, 0, none⟩), .slice (some ⟨b, off, none⟩) N c1, .int .i64 (N : Int), .int .i64 (t : Int), .pointer (some ⟨w.heap.size, 0, none⟩), .slice (some ⟨b, off, none⟩) N c1, .pointer (some ⟨b, off, none⟩), .string s0, .int .i64 (M : Int), .int .i64 (l : Int), us 0, us 1, us 2, us 3, us 4, us 5, us 6, us 7, us 8, us 9, us 10, us 11, us 12, us 13, us 14, us 15, us 16, us 17, us 18, us 19, us 20, us 21, us 22, us 23, us 24, us 25, us 26, us 27, us 28], defers := [] }) (fun k => if k < 29 then undef else if k = 29 then .slice none 0 0 else .int .i64 0) rfl (PartI w w4 w.heap.size (0 + 205 + 1 + 1) (some ⟨b, off, none⟩) ts (PVal (.slice (some ⟨b, off, none⟩) N c1) (.pointer (some ⟨w.heap.size, 0, none⟩)) (.string s0) (.pointer (some ⟨b, off, none⟩)) (N : Int) (M : Int) (t : Int) (l : Int))) (fun s hs => ?_) (fun j us v hj => ?_) (fun j s us W hj hsj hd hI => ?_) (fun s us W hs hI => ?_)
  · have h0 : cntP s = 0 := by unfold cntP b2n; rw [hs 8 (by omega), hs 11 (by omega), hs 23 (by omega), hs 26 (by omega)]; rfl
    exact ⟨by rw [h0]; exact HD4.out.drew', gby_drew' w4 _, HX4.out.step (gby_drew' w4 _), fun j h h2 => by rw [hs j h2] at h; cases h⟩
  · match j, hj with
    | 0, _ => rfl
    | 1, _ => rfl
    | 2, _ => rfl
    | 3, _ => rfl
    | 4, _ => rfl
    | 5, _ => rfl
    | 6, _ => rfl
    | 7, _ => rfl
    | 8, _ => rfl
    | 9, _ => rfl
    | 10, _ => rfl
    | 11, _ => rfl
    | 12, _ => rfl
    | 13, _ => rfl
    | 14, _ => rfl
    | 15, _ => rfl
    | 16, _ => rfl
    | 17, _ => rfl
    | 18, _ => rfl
    | 19, _ => rfl
    | 20, _ => rfl
    | 21, _ => rfl
    | 22, _ => rfl
    | 23, _ => rfl
    | 24, _ => rfl
    | 25, _ => rfl
    | 26, _ => rfl
    | 27, _ => rfl
    | 28, _ => rfl
    | 29, _ => rfl
    | 30, _ => rfl
    | 31, _ => rfl
    | 32, _ => rfl
    | 33, _ => rfl
    | j + 34, h => exact absurd h (by omega)
  · have HV := hid hI.val
    match j, hj with
    | 0, _ => exact wpOp_run rfl rfl (by go_simp) ⟨_, rfl, hI.set 0 _ (by omega) rfl⟩
    | 1, _ => exact wpOp_run rfl rfl (by go_simp) ⟨_, rfl, hI.set 1 _ (by omega) rfl⟩
    | 2, _ => exact wpOp_run rfl rfl (by go_simp) ⟨_, rfl, hI.set 2 _ (by omega) rfl⟩
    | 3, _ => exact wpOp_run rfl rfl (by go_simp) ⟨_, rfl, hI.set 3 _ (by omega) rfl⟩
    | 4, _ => exact wpOp_run rfl rfl (by go_simp) ⟨_, rfl, hI.set 4 _ (by omega) rfl⟩
    | 5, _ =>
      have h4 : us 4 = _ := HV.out 4 (hd _ rfl { on := 4, ground := .data } (by simp) rfl) (by omega)
      rw [h4]
      exact wpOp_run (u := .int .i64 (N : Int)) (w' := W) rfl rfl (by go_simp; all_goals exact IntWalk.i64_in _ (by omega)) ⟨_, rfl, hI.set 5 _ (by omega) rfl⟩
    | 6, _ => exact wpOp_run rfl rfl (by go_simp) ⟨_, rfl, hI.set 6 _ (by omega) rfl⟩
    | 7, _ =>
      have h5 : us 5 = _ := HV.out 5 (hd _ rfl { on := 5, ground := .data } (by simp) rfl) (by omega)
      have h6 : us 6 = _ := HV.out 6 (hd _ rfl { on := 6, ground := .data } (by simp) rfl) (by omega)
      rw [h5, h6]
      exact wpOp_run (u := .int .i64 ((N : Int) - (t : Int))) (w' := W) rfl rfl (by go_simp; all_goals exact IntWalk.i64_in _ (by omega)) ⟨_, rfl, hI.set 7 _ (by omega) rfl⟩
    | 8, _ =>
      have h3 : us 3 = _ := HV.out 3 (hd _ rfl { on := 3, ground := .data } (by simp) rfl) (by omega)
      have h7 : us 7 = _ := HV.out 7 (hd _ rfl { on := 7, ground := .data } (by simp) rfl) (by omega)
      rw [h3, h7]
      have HC := hid (dPick (N - t) hI.dr (by have := cntP_le s; omega) (by omega) (by omega))
      refine wpOp_callK rfl rfl (by go_simp) (HC.out.mono fun e W' ⟨hg, hd', x, hx, he⟩ => ⟨_, he, _, rfl, hI.call 8 _ (by omega) hsj hg hd' ⟨x, by omega, rfl⟩⟩)
    | 9, _ =>
      have h2 : us 2 = _ := HV.out 2 (hd _ rfl { on := 2, ground := .data } (by simp) rfl) (by omega)
      obtain ⟨x8, b8, h8⟩ : ∃ x : Nat, _ ∧ us 8 = .int .i64 (x : Int) := HV.out 8 (hd _ rfl { on := 8, ground := .data } (by simp) rfl) (by omega)
      rw [h2, h8]
      exact wpOp_run (u := .int .i64 (((t + x8 : Nat) : Int))) (w' := W) rfl rfl (by go_simp; all_goals exact IntWalk.i64_in _ (by omega)) ⟨_, rfl, hI.set 9 _ (by omega) ⟨t + x8, by omega, rfl⟩⟩
    | 10, _ => exact wpOp_run rfl rfl (by go_simp) ⟨_, rfl, hI.set 10 _ (by omega) rfl⟩
    | 11, _ =>
      have h10 : us 10 = _ := HV.out 10 (hd _ rfl { on := 10, ground := .data } (by simp) rfl) (by omega)
      rw [h10]
      have HC := hid (dPick 24 hI.dr (by have := cntP_le s; omega) (by omega) (by omega))
      refine wpOp_callK rfl rfl (by go_simp) (HC.out.mono fun e W' ⟨hg, hd', x, hx, he⟩ => ⟨_, he, _, rfl, hI.call 11 _ (by omega) hsj hg hd' ⟨x, by omega, rfl⟩⟩)
    | 12, _ =>
      obtain ⟨x11, b11, h11⟩ : ∃ x : Nat, _ ∧ us 11 = .int .i64 (x : Int) := HV.out 11 (hd _ rfl { on := 11, ground := .data } (by simp) rfl) (by omega)
      rw [h11]
      exact wpOp_run (u := .int .i64 (((x11 / 23 : Nat) : Int))) (w' := W) rfl rfl (by go_simp; all_goals exact IntWalk.i64_in _ (by omega)) ⟨_, rfl, hI.set 12 _ (by omega) ⟨x11 / 23, by omega, rfl⟩⟩
    | 13, _ =>
      obtain ⟨x9, b9, h9⟩ : ∃ x : Nat, _ ∧ us 9 = .int .i64 (x : Int) := HV.out 9 (hd _ rfl { on := 9, ground := .data } (by simp) rfl) (by omega)
      obtain ⟨x12, b12, h12⟩ : ∃ x : Nat, _ ∧ us 12 = .int .i64 (x : Int) := HV.out 12 (hd _ rfl { on := 12, ground := .data } (by simp) rfl) (by omega)
      rw [h9, h12]
      exact wpOp_run (u := .int .i64 (((x9 + x12 : Nat) : Int))) (w' := W) rfl rfl (by go_simp; all_goals exact IntWalk.i64_in _ (by omega)) ⟨_, rfl, hI.set 13 _ (by omega) ⟨_, rfl⟩⟩
    | 14, _ => exact wpOp_run rfl rfl (by go_simp) ⟨_, rfl, hI.set 14 _ (by omega) rfl⟩
    | 15, _ => exact wpOp_run rfl rfl (by go_simp) ⟨_, rfl, hI.set 15 _ (by omega) rfl⟩
    | 16, _ => exact wpOp_run rfl rfl (by go_simp) ⟨_, rfl, hI.set 16 _ (by omega) rfl⟩
    | 17, _ => exact wpOp_run rfl rfl (by go_simp) ⟨_, rfl, hI.set 17 _ (by omega) rfl⟩
    | 18, _ =>
      have h17 : us 17 = _ := HV.out 17 (hd _ rfl { on := 17, ground := .data } (by simp) rfl) (by omega)
      rw [h17]
      exact wpOp_run (u := .pointer (some ⟨b, off, none⟩)) (w' := W) rfl rfl (by go_simp; all_goals (intro h; omega)) ⟨_, rfl, hI.set 18 _ (by omega) rfl⟩
    | 19, _ =>
      have h18 : us 18 = _ := HV.out 18 (hd _ rfl { on := 18, ground := .data } (by simp) rfl) (by omega)
      have hc := Strs.cell_ hI.ld.1 HK.out
      rw [Nat.add_zero] at hc
      rw [h18]
      exact wpOp_run (u := .string s0) (w' := W) rfl rfl (by go_simp; all_goals exact IntWalk.i64_in _ (by omega)) ⟨_, rfl, hI.set 19 _ (by omega) rfl⟩
    | 20, _ =>
      have h19 : us 19 = _ := HV.out 19 (hd _ rfl { on := 19, ground := .data } (by simp) rfl) (by omega)
      rw [h19]
      exact wpOp_run (u := .int .i64 (M : Int)) (w' := W) rfl rfl (by go_simp; all_goals exact IntWalk.i64_in _ (by omega)) ⟨_, rfl, hI.set 20 _ (by omega) rfl⟩
    | 21, _ => exact wpOp_run rfl rfl (by go_simp) ⟨_, rfl, hI.set 21 _ (by omega) rfl⟩
    | 22, _ =>
      have h20 : us 20 = _ := HV.out 20 (hd _ rfl { on := 20, ground := .data } (by simp) rfl) (by omega)
      have h21 : us 21 = _ := HV.out 21 (hd _ rfl { on := 21, ground := .data } (by simp) rfl) (by omega)
      rw [h20, h21]
      exact wpOp_run (u := .int .i64 ((M : Int) - (l : Int))) (w' := W) rfl rfl (by go_simp; all_goals exact IntWalk.i64_in _ (by omega)) ⟨_, rfl, hI.set 22 _ (by omega) rfl⟩
    | 23, _ =>
      have h16 : us 16 = _ := HV.out 16 (hd _ rfl { on := 16, ground := .data } (by simp) rfl) (by omega)
      have h22 : us 22 = _ := HV.out 22 (hd _ rfl { on := 22, ground := .data } (by simp) rfl) (by omega)
      rw [h16, h22]
      have HC := hid (dPick (M - l) hI.dr (by have := cntP_le s; omega) (by omega) (by omega))
      refine wpOp_callK rfl rfl (by go_simp) (HC.out.mono fun e W' ⟨hg, hd', x, hx, he⟩ => ⟨_, he, _, rfl, hI.call 23 _ (by omega) hsj hg hd' ⟨x, by omega, rfl⟩⟩)
    | 24, _ =>
      have h15 : us 15 = _ := HV.out 15 (hd _ rfl { on := 15, ground := .data } (by simp) rfl) (by omega)
      obtain ⟨x23, b23, h23⟩ : ∃ x : Nat, _ ∧ us 23 = .int .i64 (x : Int) := HV.out 23 (hd _ rfl { on := 23, ground := .data } (by simp) rfl) (by omega)
      rw [h15, h23]
      exact wpOp_run (u := .int .i64 (((l + x23 : Nat) : Int))) (w' := W) rfl rfl (by go_simp; all_goals exact IntWalk.i64_in _ (by omega)) ⟨_, rfl, hI.set 24 _ (by omega) ⟨l + x23, by omega, rfl⟩⟩
    | 25, _ => exact wpOp_run rfl rfl (by go_simp) ⟨_, rfl, hI.set 25 _ (by omega) rfl⟩
    | 26, _ =>
      have h25 : us 25 = _ := HV.out 25 (hd _ rfl { on := 25, ground := .data } (by simp) rfl) (by omega)
      rw [h25]
      have HC := hid (dPick 24 hI.dr (by have := cntP_le s; omega) (by omega) (by omega))
      refine wpOp_callK rfl rfl (by go_simp) (HC.out.mono fun e W' ⟨hg, hd', x, hx, he⟩ => ⟨_, he, _, rfl, hI.call 26 _ (by omega) hsj hg hd' ⟨x, by omega, rfl⟩⟩)
    | 27, _ =>
      obtain ⟨x26, b26, h26⟩ : ∃ x : Nat, _ ∧ us 26 = .int .i64 (x : Int) := HV.out 26 (hd _ rfl { on := 26, ground := .data } (by simp) rfl) (by omega)
      rw [h26]
      exact wpOp_run (u := .int .i64 (((x26 / 23 : Nat) : Int))) (w' := W) rfl rfl (by go_simp; all_goals exact IntWalk.i64_in _ (by omega)) ⟨_, rfl, hI.set 27 _ (by omega) ⟨x26 / 23, by omega, rfl⟩⟩
    | 28, _ =>
      obtain ⟨x24, b24, h24⟩ : ∃ x : Nat, _ ∧ us 24 = .int .i64 (x : Int) := HV.out 24 (hd _ rfl { on := 24, ground := .data } (by simp) rfl) (by omega)
      obtain ⟨x27, b27, h27⟩ : ∃ x : Nat, _ ∧ us 27 = .int .i64 (x : Int) := HV.out 27 (hd _ rfl { on := 27, ground := .data } (by simp) rfl) (by omega)
      rw [h24, h27]
      exact wpOp_run (u := .int .i64 ((x24 : Int) - (x27 : Int))) (w' := W) rfl rfl (by go_simp; all_goals exact IntWalk.i64_in _ (by omega)) ⟨_, rfl, hI.set 28 _ (by omega) ⟨_, rfl⟩⟩
    | 29, _ =>
      have h0 : us 0 = _ := HV.out 0 (hd _ rfl { on := 0, ground := .data } (by simp) rfl) (by omega)
      rw [h0]
      exact wpOp_run (u := .slice (some ⟨b, off, none⟩) N c1) (w' := W) rfl rfl (by go_simp) ⟨_, rfl, hI.set 29 _ (by omega) rfl⟩
    | 30, _ =>
      have h1 : us 1 = _ := HV.out 1 (hd _ rfl { on := 1, ground := .data } (by simp) rfl) (by omega)
      rw [h1]
      exact wpOp_run (u := .int .i64 (t : Int)) (w' := W) rfl rfl (by go_simp) ⟨_, rfl, hI.set 30 _ (by omega) rfl⟩
    | 32, _ =>
      have h14 : us 14 = _ := HV.out 14 (hd _ rfl { on := 14, ground := .data } (by simp) rfl) (by omega)
      rw [h14]
      exact wpOp_run (u := .int .i64 (l : Int)) (w' := W) rfl rfl (by go_simp) ⟨_, rfl, hI.set 32 _ (by omega) rfl⟩
    | 31, _ =>
      obtain ⟨x13, h13⟩ : ∃ x : Int, us 13 = .int .i64 x := HV.out 13 (hd _ rfl { on := 13, ground := .data } (by simp) rfl) (by omega)
      rw [h13]
      exact wpOp_run (u := .int .i64 x13) (w' := W) rfl rfl (by go_simp) ⟨_, rfl, hI.set 31 _ (by omega) ⟨_, rfl⟩⟩
    | 33, _ =>
      obtain ⟨x28, h28⟩ : ∃ x : Int, us 28 = .int .i64 x := HV.out 28 (hd _ rfl { on := 28, ground := .data } (by simp) rfl) (by omega)
      rw [h28]
      exact wpOp_run (u := .int .i64 x28) (w' := W) rfl rfl (by go_simp) ⟨_, rfl, hI.set 33 _ (by omega) ⟨_, rfl⟩⟩
    | j + 34, h => exact absurd h (by omega)
  · obtain ⟨x13, h31⟩ : ∃ x : Int, us 31 = .int .i64 x := hI.val 31 (hs 31 (by omega)) (by omega)
    obtain ⟨x28, h33⟩ : ∃ x : Int, us 33 = .int .i64 x := hI.val 33 (hs 33 (by omega)) (by omega)
    have h29 : us 29 = _ := hI.val 29 (hs 29 (by omega)) (by omega)
    have h30 : us 30 = _ := hI.val 30 (hs 30 (by omega)) (by omega)
    have h32 : us 32 = _ := hI.val 32 (hs 32 (by omega)) (by omega)
    rw [h29, h30, h31, h32, h33]
    have HDW := hid hI.dr
    have HLW := hid hI.ld
    clear hI hs
    go_wp2_with fail
    refine bodyPost_ret (results_5 (t := 2) (u := 3) (v := 4) (x := 5) (y := 6) rfl _ _ _) rfl ?_
    exact ⟨HDW.out.below, some ⟨b, off, none⟩, c1, ts, _, _, _, _, by rw [HN.out]; rfl, HLW.out.1, HT.out⟩
end Go.Proofs.Ytonhnmpgikmlpaa
