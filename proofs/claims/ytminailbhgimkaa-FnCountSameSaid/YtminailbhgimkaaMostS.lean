/- l3Mirrors and RoundMost of the specification, by their contracts. -/
import Derived.Test.YtminailbhgimkaaMostI
import Derived.Test.YtminailbhgimkaaBunR
import Derived.Test.YtminailbhgimkaaBunF
namespace Go.Proofs.Ytminailbhgimkaa
open Go.RowKit Go.Shelf

theorem pad_end (l : List UInt8) (b : UInt8) (h : l.length < 25) : (pad l).set l.length b = pad (l ++ [b]) := by
  unfold pad
  rw [List.set_append_right _ _ (Nat.le_refl _), Nat.sub_self, List.append_assoc, List.length_append]
  congr 1
  obtain ⟨z, hz⟩ : ∃ z, 25 - l.length = z + 1 := ⟨24 - l.length, by omega⟩
  rw [hz, show 25 - (l.length + [b].length) = z by simp; omega, List.replicate_succ]
  rfl
/-- The letters of a full grid, one by one. -/
def mirL (N x : Nat) : List UInt8 := (List.range N).map (mirV x)
theorem mirL_length (N x : Nat) : (mirL N x).length = N := by simp [mirL]
theorem fullTo_mir {N x : Nat} (h : N ≤ 25) : ∀ k, k ≤ N → fullTo N x k = pad (mirL k x)
  | 0, _ => by unfold fullTo; rw [upto_zero]; rfl
  | k + 1, hk => by
    rw [fullTo_succ (by omega), fullTo_mir h k (by omega)]
    have e := pad_end (mirL k x) (mirV x k) (by rw [mirL_length]; omega)
    rw [mirL_length] at e
    rw [e]
    congr 1
    unfold mirL
    rw [List.range_succ, List.map_append]
    rfl
theorem fullL_mir {N x : Nat} (h : N ≤ 25) : fullL N x = pad (mirL N x) := by
  rw [← fullTo_mir h N (Nat.le_refl _)]
  unfold fullL fullTo
  rw [upto_all]
def mirF (m x : Nat) (r q : Nat) : UInt8 := mirV x (r * m + q)
theorem mirV_let (x j : Nat) : isLet (mirV x j) = true := by
  unfold mirV
  split <;> rfl
/-- The full grid's texts. -/
theorem mir_grid {n m x : Nat} (hn : 1 ≤ n) (hn5 : n ≤ 5) (hm : 1 ≤ m) (hm5 : m ≤ 5) : IsGrid n m (ruleG n m (mirF m x)) ∧ pad (flat (ruleG n m (mirF m x))) = fullL (n * m) x := by
  have h25 : n * m ≤ 5 * 5 := Nat.mul_le_mul hn5 hm5
  have e : textsOf n m (pad (mirL (n * m) x)) = ruleG n m (mirF m x) := rows_eq _ _ _ _ fun r hr q hq => by
    have hp := lt_of_parts hr hq
    unfold pad
    rw [List.getElem?_append_left (by rw [mirL_length]; exact hp)]
    simp [mirL, hp, mirF]
  rw [← e, fullL_mir (by omega)]
  have hl := mirL_length (n * m) x
  exact ⟨texts_grid hn hn5 hm hm5 hl (fun b hb => by
    unfold mirL at hb
    obtain ⟨j, _, rfl⟩ := List.mem_map.1 hb
    exact mirV_let _ _), by rw [(flat_texts hm hl).1]⟩

set_option maxRecDepth 100000 in
set_option maxHeartbeats 4000000 in
theorem l3Mirrors_any (n m x : Nat) (w : World) (hn5 : n ≤ 5) (hm : 1 ≤ m) (hm5 : m ≤ 5) (hx : x ≤ 512) :
    Calls Try.prog 49 #[.int .i64 n, .int .i64 m, .int .i64 x] w fun e w' => (∃ v, e = .returned v ∧ GrowS w' w.heap.size v (ruleG n m (mirF m x))) ∧ Below w.heap.size w w' := by
  have hx0 : (0 : Int) ≤ (x : Int) := by omega
  go_enter Try.func49, Try.ntmps49
  go_wp2
  go_loopw [7, 8] (fun (v iv : Value) (wr : World) => ∃ r : Nat, r ≤ n ∧ iv = .int .i64 r ∧ GrowS wr w.heap.size v ((ruleG n m (mirF m x)).take r) ∧ Below w.heap.size w wr) (fun _ i _ => n - (intOf i).toNat)
  case atStart => exact ⟨0, Nat.zero_le _, rfl, growS_new w _ (Nat.le_refl _), (Below.refl _ w).alloc (Nat.le_refl _) _⟩
  case round =>
    obtain ⟨r, hr, rfl, hgs, hbel⟩ := hrel
    have HS := hid hgs
    have HB := hid hbel
    clear hgs hbel
    by_cases hlt : r < n
    · have hri : (r : Int) < (n : Int) := by omega
      obtain ⟨wo, rfl⟩ : ∃ wo : World, wo = wr := ⟨_, rfl⟩
      obtain ⟨ov, rfl⟩ : ∃ ov : Value, ov = u7 := ⟨_, rfl⟩
      go_wp2_with fail
      go_loopw [9, 10] (fun (v kv : Value) (wi : World) => ∃ p : Nat, p ≤ m ∧ kv = .int .i64 p ∧ GrowB wi wo.heap.size v ((ruleL m (mirF m x r)).take p) ∧ GrowS wi w.heap.size ov ((ruleG n m (mirF m x)).take r) ∧ Below w.heap.size w wi ∧ wo.heap.size ≤ wi.heap.size) (fun _ i _ => m - (intOf i).toNat)
      case atStart =>
        exact ⟨0, Nat.zero_le _, rfl, by rw [List.take_zero]; exact growB_new wo _ (Nat.le_refl _), World.ownsRow.alloc HS.out _, HB.out.alloc HB.out.size _, by simp⟩
      case round =>
        obtain ⟨p, hp, rfl, hgB, hgS, hbel, hsz⟩ := hrel
        have HGB := hid hgB
        have HGS := hid hgS
        have HB2 := hid hbel
        have HZ := hid hsz
        clear hgB hgS hbel hsz
        by_cases hpm : p < m
        · have hpi : (p : Int) < (m : Int) := by omega
          obtain ⟨im, him⟩ : ∃ im, r * m = im := ⟨_, rfl⟩
          have himi : (r : Int) * (m : Int) = (im : Int) := by rw [← Int.natCast_mul, him]
          have him25 : im ≤ 25 := by rw [← him]; exact Nat.mul_le_mul (by omega : r ≤ 5) hm5
          obtain ⟨s, hs⟩ : ∃ s, im + p = s := ⟨_, rfl⟩
          have hsi : (im : Int) + (p : Int) = (s : Int) := by omega
          have hs30 : (s : Int) ≤ 30 := by omega
          have hs0 : (0 : Int) ≤ (s : Int) := by omega
          obtain ⟨bt, hbt, hmv⟩ : ∃ bt : UInt8, (∀ h : x / 2 ^ s % 2 < (⟨#[114, 102]⟩ : ByteArray).size, (⟨#[114, 102]⟩ : ByteArray)[x / 2 ^ s % 2] = bt) ∧ mirV x s = bt := by
            obtain ⟨bt, h1, _⟩ := glet2 (Nat.mod_lt (x / 2 ^ s) (by decide : 0 < 2))
            refine ⟨bt, h1, ?_⟩
            have h2 := h1 (Nat.mod_lt _ (by decide))
            rw [← h2]
            unfold mirV
            rcases Nat.mod_two_eq_zero_or_one (x / 2 ^ s) with h | h
            · rw [if_pos h]; simp only [h]; rfl
            · rw [if_neg (by rw [h]; decide)]; simp only [h]; rfl
          obtain ⟨q, hq⟩ : ∃ q, x / 2 ^ s % 2 = q := ⟨_, rfl⟩
          obtain ⟨qx, hqx⟩ : ∃ qx, x / 2 ^ s = qx := ⟨_, rfl⟩
          have hxq : (x : Int) / 2 ^ s = (qx : Int) := by
            rw [← hqx, show (2 : Int) ^ s = ((2 ^ s : Nat) : Int) by rw [Int.natCast_pow]; rfl]
            rfl
          have hq2 : q < 2 := by rw [← hq]; exact Nat.mod_lt _ (by decide)
          have hqxl : qx ≤ x := by rw [← hqx]; exact Nat.div_le_self _ _
          have hand : bits .and .i64 (qx : Int) 1 = (q : Int) := by
            rw [i64_and_one qx (by omega)]
            rw [hqx] at hq
            rw [hq]
          have hq2i : (q : Int) < 2 := by omega
          have hq0i : (0 : Int) ≤ (q : Int) := by omega
          rw [hq] at hbt
          have HF := hid (show mirF m x r p = bt by unfold mirF; rw [him, hs]; exact hmv)
          clear hq hqx hmv him hs
          go_wp2_with (at_builtin; refine wpList_appendB rfl _ _ rfl wo.heap.size u9 ((ruleL m (mirF m x r)).take p) rfl (World.ownsRow.alloc HGB.out _) wr.heap.size 1 rfl bt (cell_newB wr _) ?c3 (Nat.le_trans HZ.out (by simp)) ?_)
          case c3 => rw [List.length_take, ruleL_length]; omega
          intro v' w' hgr hgw
          have HGR := hid hgr
          have HGW := hid hgw
          clear hgr hgw
          go_wp2
          go_roundw
          case rel =>
            refine ⟨p + 1, by omega, by go_num, ?_, ?_, ?_, ?_⟩
            · rw [ruleL, range_take m p _ hpm, HF.out]
              exact HGR.out
            · exact grown_other (World.ownsRow.alloc HGS.out _) (World.ownsRow.alloc HGB.out _) (fun k e => (ownBlock_lt HS.out k e).2) (Nat.le_refl _) HGW.out
            · exact (HB2.out.alloc HB2.out.size _).grown HGW.out (Nat.le_trans HB2.out.size (by simp)) (fun k e => Nat.le_trans HB.out.size (World.ownsRow.lt HGB.out k e).1)
            · exact Nat.le_trans (Nat.le_trans HZ.out (by simp)) HGW.out.size
          case measure => simp [intOf]; omega
        · obtain rfl : p = m := by omega
          have hcv := growB_text HGB.out (by rw [List.take_of_length_le (by rw [ruleL_length]; exact Nat.le_refl _), ruleL_length]; exact hm)
          rw [List.take_of_length_le (by rw [ruleL_length]; exact Nat.le_refl _)] at hcv
          obtain ⟨tx, htx⟩ : ∃ tx : ByteArray, (⟨(ruleL p (mirF p x r)).toArray⟩ : ByteArray) = tx := ⟨_, rfl⟩
          rw [htx] at hcv
          have HTX := hid htx
          clear htx
          go_wp2_with (at_builtin; refine wpList_appendS rfl _ _ rfl w.heap.size ov ((ruleG n p (mirF p x)).take r) rfl (World.ownsRow.alloc HGS.out _) wr.heap.size 1 rfl tx (cell_new wr tx) ?c3 (Nat.le_trans HB2.out.size (by simp)) ?_)
          case c3 => rw [List.length_take, ruleG_length]; omega
          intro v' w' hgr hgw
          have HGR := hid hgr
          have HGW := hid hgw
          clear hgr hgw hcv
          go_wp2
          go_roundw
          case rel =>
            refine ⟨r + 1, by omega, by go_num, ?_, (HB2.out.alloc HB2.out.size _).grown HGW.out (Nat.le_trans HB2.out.size (by simp)) (fun k e => (ownBlock_lt HGS.out k e).1)⟩
            rw [ruleG, range_take n r _ hlt, HTX.out]
            exact HGR.out
          case measure => simp [intOf]; omega
    · obtain rfl : r = n := by omega
      have HS' := HS.out
      rw [List.take_of_length_le (by rw [ruleG_length]; exact Nat.le_refl _)] at HS'
      have HSS := hid HS'
      clear HS'
      go_wp2_with fail
      go_ret
      exact ⟨⟨_, rfl, HSS.out⟩, HB.out⟩

end Go.Proofs.Ytminailbhgimkaa
