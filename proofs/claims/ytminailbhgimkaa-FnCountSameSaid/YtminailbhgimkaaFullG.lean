/- The iterator over all full grids of a size: all grids in the order of their numbers. -/
import Derived.Test.YtminailbhgimkaaBunC
import Derived.Test.YtminailbhgimkaaBunD
import Derived.Test.YtminailbhgimkaaBunA
import Derived.Test.YtminailbhgimkaaRelIn
namespace Go.Proofs.Ytminailbhgimkaa
open Go.RowKit Go.Shelf
attribute [local go_sem] Oper.semAt_some

theorem glet2 {v : Nat} (hv : v < 2) : ∃ bt : UInt8, (∀ h : v < (⟨#[114, 102]⟩ : ByteArray).size, (⟨#[114, 102]⟩ : ByteArray)[v] = bt) ∧ isLet bt = true := by
  match v, hv with
  | 0, _ => exact ⟨114, fun _ => rfl, rfl⟩
  | 1, _ => exact ⟨102, fun _ => rfl, rfl⟩
theorem i64_and_one (a : Nat) (ha : a < 2 ^ 62) : bits .and .i64 (a : Int) 1 = ((a % 2 : Nat) : Int) := by
  have h1 : (BitVec.ofInt 64 (a : Int)).toNat = a := by
    rw [BitVec.ofInt_natCast, BitVec.toNat_ofNat]; exact Nat.mod_eq_of_lt (by omega)
  have h2 : (BitVec.ofInt 64 (1 : Int)).toNat = 1 := rfl
  show IntKind.i64.wrap ((BitVec.ofInt 64 (a : Int) &&& BitVec.ofInt 64 (1 : Int)).toNat : Int) = _
  rw [BitVec.toNat_and, h1, h2, IntKind.wrap_i64, Nat.and_one_is_mod]
  omega
/-- The letter that a number tells for a cell. -/
def mirV (x j : Nat) : UInt8 := if x / 2 ^ j % 2 = 0 then 114 else 102
/-- The letters of the first cells of the full grid of a number. -/
def fullTo (N x k : Nat) : List UInt8 := putAll samePos (mirV x) (upto N k) (pad [])
def fullL (N x : Nat) : List UInt8 := putAll samePos (mirV x) (List.finRange N) (pad [])
theorem fullTo_length (N x k : Nat) : (fullTo N x k).length = 25 := by unfold fullTo; rw [putAll_length]; rfl
theorem fullL_length (N x : Nat) : (fullL N x).length = 25 := by unfold fullL; rw [putAll_length]; rfl
theorem fullTo_succ {N x k : Nat} (h : k < N) : fullTo N x (k + 1) = (fullTo N x k).set k (mirV x k) := by
  unfold fullTo
  rw [upto_succ h, putAll_snoc]
  rfl
/-- What yield is handed for a full grid. -/
def encsF (n m : Nat) {M : Nat} (x : Fin M) : Array Value := #[.agg (gcells n m (fullL (n * m) x.val))]
/-- What a round must keep for the iterator: the blocks in which its numbers lie. -/
def KeepsTwo (a b : Nat) (W W' : World) : Prop := W.heap.size ≤ W'.heap.size ∧ W'.heap[a]? = W.heap[a]? ∧ W'.heap[b]? = W.heap[b]?
theorem KeepsTwo.trans {a b : Nat} {A B C : World} (h : KeepsTwo a b A B) (k : KeepsTwo a b B C) : KeepsTwo a b A C := ⟨Nat.le_trans h.1 k.1, k.2.1.trans h.2.1, k.2.2.trans h.2.2⟩
theorem KeepsTwo.below {a b n : Nat} {A B : World} (h : Below n A B) (ha : a < n) (hb : b < n) : KeepsTwo a b A B := ⟨h.size, h.block a ha, h.block b hb⟩
theorem keepsTwo_b {a b : Nat} {w : World} (ha : a < w.heap.size) (hb : b < w.heap.size) (W : World) (l : Nat) (o o' : Obj) (hl : w.heap.size ≤ l) (_ : W.heap[l]? = some o) (_ : o.isCells = false) (_ : o.isWalk = false) : KeepsTwo a b W (W.putObj l o') :=
  ⟨by simp, World.putObj_heap_other (by omega), World.putObj_heap_other (by omega)⟩

set_option maxRecDepth 100000 in
set_option maxHeartbeats 4000000 in
theorem full1_in (d l b1 b2 n m N M : Nat) (hN : N = n * m) (hM : M = 2 ^ N) (hn : 1 ≤ n) (hn5 : n ≤ 5) (hm : 1 ≤ m) (hm5 : m ≤ 5) (hN9 : N ≤ 9) (J Jx : List (Fin M) → World → Prop) (W : World) (hb1 : b1 < W.heap.size) (hb2 : b2 < W.heap.size)
    (hJ : AbidesFrom W.heap.size J)
    (hY : ∀ pre x W1, J pre W1 → pre.length < M → YieldAt Fence.wide (d - 1) Try.prog l (encsF n m x) W1 fun e W' =>
      (e = .returned (.bool true) ∧ J (pre ++ [x]) W' ∧ KeepsTwo b1 b2 W1 W') ∨ (e = .returned (.bool false) ∧ Jx (pre ++ [x]) W'))
    (h1 : Boxed W b1 3 (.int .i64 n)) (h2 : Boxed W b2 3 (.int .i64 m)) (h0 : J [] W) :
    CallsIn Fence.wide d Try.prog 82 #[.func (.yield l) #[] #[], .pointer (some ⟨b1, 0, none⟩), .pointer (some ⟨b2, 0, none⟩)] W fun e W' => (∃ v, e = .returned v) ∧
      ((∃ ys, ys = List.finRange M ∧ J ys W') ∨ (∃ pre, (∃ k, k ≤ M ∧ pre = upto M k) ∧ Jx pre W')) := by
  have hM512 : M ≤ 512 := by rw [hM]; exact Nat.pow_le_pow_right (by omega) hN9
  have HB1 := hid h1
  have HB2 := hid h2
  have HJ := hid hJ
  have HY := hid hY
  have H0 := hid h0
  have HMM := hid hM
  have HNN := hid hN
  have hnm : (n : Int) * (m : Int) = (N : Int) := by rw [← Int.natCast_mul, ← hN]
  have c1 := h1.cell
  have c2 := h2.cell
  clear hJ hY h0 hM hN h1 h2
  refine callsIn_of_wp Try.func82 rfl trivial ?_ rfl
  simp only [Try.ntmps82, List.size_toArray, List.length_cons, List.length_nil, Nat.reduceAdd, Nat.reduceSub, Array.replicate_succ, Array.replicate_zero, List.push_toArray, List.append_toArray, List.nil_append, List.cons_append]
  have hwr : wrap64 ((2 : Int) ^ N) = (M : Int) := by
    rw [show (2 : Int) ^ N = ((2 ^ N : Nat) : Int) by rw [Int.natCast_pow]; rfl, ← HMM.out]
    exact IntWalk.wrap64_in ((M : Nat) : Int) (by omega)
  have HG := hid (show ∀ ls : List UInt8, ls.length = 25 → (Try.prog.info? 57).map (·.size) = some (gcells n m ls).size from fun ls h => by rw [gcells_size h]; exact Try.size_grid)
  have HG0 := hid (HG.out (pad []) rfl)
  gi_wp2_with fail
  rw [hwr]
  clear hwr
  gi_loopw [11] (fun (xv : Value) (wr : World) => ∃ x : Nat, x ≤ M ∧ xv = .int .i64 x ∧ J (upto M x) wr ∧ KeepsTwo b1 b2 W wr) (fun xv _ => M - (intOf xv).toNat)
  case atStart => exact ⟨0, Nat.zero_le _, rfl, by rw [upto_zero]; exact H0.out, Nat.le_refl _, rfl, rfl⟩
  case round =>
    obtain ⟨x, hx, rfl, hJx, hkp⟩ := hrel
    obtain ⟨wo, rfl⟩ : ∃ wo : World, wo = wr := ⟨_, rfl⟩
    have HJX := hid hJx
    have HKP := hid hkp
    clear hJx hkp
    by_cases hlt : x < M
    · have hxi : (x : Int) < (M : Int) := by omega
      have hMi : (M : Int) ≤ 512 := by omega
      have hx0 : (0 : Int) ≤ (x : Int) := by omega
      have hd1 : wo.cell? ⟨b1, 0, none⟩ = some (.int .i64 n) := (show Boxed wo b1 3 (.int .i64 n) from HKP.out.2.1.trans HB1.out).cell
      have hd2 : wo.cell? ⟨b2, 0, none⟩ = some (.int .i64 m) := (show Boxed wo b2 3 (.int .i64 m) from HKP.out.2.2.trans HB2.out).cell
      have hz1 : b1 < wo.heap.size := Nat.lt_of_lt_of_le hb1 HKP.out.1
      have hz2 : b2 < wo.heap.size := Nat.lt_of_lt_of_le hb2 HKP.out.1
      have G0 := hid (setRow_heap (wo.alloc (.cells zeroG 57)) wo.heap.size zeroG (gcells n m (pad [])) 57 (0, 0) (heap_new0 wo _))
      have G1 := hid (below_setRow' ((Below.refl _ wo).alloc (Nat.le_refl _) (.cells zeroG 57)) (Nat.le_refl _) (gcells n m (pad [])))
      gi_wp2_with (first
        | refine wpListIn_store_row (Open.wide _) rfl 57 _ _ rfl wo.heap.size (gcells n m (pad [])) rfl rfl 57 zeroG (heap_new0 wo _) HG0.out (gcells_size (by rfl)).symm (gcells_one _ _ _) ?_
        | refine wpListIn_load_row (Open.wide _) rfl 57 _ rfl wo.heap.size rfl 57 (gcells n m (pad [])) (0, 0) _ G0.out Try.underlying57 rfl HG0.out ?_)
      generalize World.setRow _ _ _ = W0 at G0 G1
      refine ⟨trivial, (fun h => by cases h), callsIn_wide.2 ((size_any n m (pad []) W0 hn5 hm5).mono ?_)⟩
      rintro e w1 ⟨rfl, hbel⟩
      rw [← HNN.out]
      have L0 := hid ((hbel.block _ (lt_of_block G0.out)).trans G0.out)
      have L1 := hid (G1.out.trans (hbel.mono G1.out.size))
      clear hbel hd1 hd2
      gi_wp2
      gi_loopw [19] (fun (kv : Value) (wi : World) => ∃ k : Nat, k ≤ N ∧ kv = .int .i64 k ∧ wi.heap[wo.heap.size]? = some (.cells (gcells n m (fullTo N x k)) 57 (0, 0)) ∧ Below wo.heap.size wo wi) (fun kv _ => N - (intOf kv).toNat)
      case atStart => exact ⟨0, Nat.zero_le _, rfl, by unfold fullTo; rw [upto_zero]; exact L0.out, L1.out⟩
      case round =>
        obtain ⟨k, hk, rfl, hg, hbl⟩ := hrel
        have KG := hid hg
        have KB := hid hbl
        clear hg hbl
        by_cases hkN : k < N
        · have hki : (k : Int) < (N : Int) := by omega
          have hk0 : (0 : Int) ≤ (k : Int) := by omega
          have hk25 : k < 25 := by omega
          have hx512 : (x : Int) < 512 := by omega
          have hx0' : (0 : Int) ≤ (x : Int) := by omega
          have hN9i : (N : Int) ≤ 9 := by omega
          gi_wp2
          refine wpIn_region_quiet_tail (Open.wide _) 10 (Cls wr) (by kernel_rfl) (by kernel_rfl) (Below.refl _ wr).drew ?_
          simp only [List.take_succ_cons, List.take_zero, List.drop_succ_cons, List.drop_zero]
          have hrow : ∀ w', Cls wr w' → w'.heap[wo.heap.size]? = some (.cells (gcells n m (fullTo N x k)) 57 (0, 0)) := fun w' hw => (hw.block _ (lt_of_block KG.out)).trans KG.out
          have hpl : ∀ w', Cls wr w' → Calls Try.prog 84 #[.agg (gcells n m (fullTo N x k)), .int .i64 k] w' fun e w'' => e = .returned (.agg #[.int .i64 ((k / m : Nat) : Int), .int .i64 ((k % m : Nat) : Int)]) ∧ Cls wr w'' := fun w' hw =>
            (place_any n m k (fullTo N x k) w' hm hm5 hk25).mono fun e w'' ⟨he, hb'⟩ => ⟨he, hw.trans (hb'.mono hw.size)⟩
          obtain ⟨bt, hbt, hmv⟩ : ∃ bt : UInt8, (∀ h : x / 2 ^ k % 2 < (⟨#[114, 102]⟩ : ByteArray).size, (⟨#[114, 102]⟩ : ByteArray)[x / 2 ^ k % 2] = bt) ∧ mirV x k = bt := by
            obtain ⟨bt, h1, _⟩ := glet2 (Nat.mod_lt (x / 2 ^ k) (by decide : 0 < 2))
            refine ⟨bt, h1, ?_⟩
            have h2 := h1 (Nat.mod_lt _ (by decide))
            rw [← h2]
            unfold mirV
            rcases Nat.mod_two_eq_zero_or_one (x / 2 ^ k) with h | h
            · rw [if_pos h]; simp only [h]; rfl
            · rw [if_neg (by rw [h]; decide)]; simp only [h]; rfl
          obtain ⟨r, hr⟩ : ∃ r, x / 2 ^ k % 2 = r := ⟨_, rfl⟩
          obtain ⟨qx, hqx⟩ : ∃ qx, x / 2 ^ k = qx := ⟨_, rfl⟩
          have hwi : ∀ w', Cls wr w' → Calls Try.prog 83 #[.agg (gcells n m (fullTo N x k)), .agg #[.int .i64 ((k / m : Nat) : Int), .int .i64 ((k % m : Nat) : Int)], .int .u8 bt.toNat] w' fun e w'' => e = .returned (.agg (gcells n m (fullTo N x (k + 1)))) ∧ Cls wr w'' := fun w' hw => by
            have h1 := with_any n m (fullTo N x k) ((k / m : Nat) : Int) ((k % m : Nat) : Int) k bt w' (fullTo_length _ _ _) hk25 (by
              have h := Nat.div_add_mod k m
              rw [Nat.mul_comm] at h
              rw [← Int.natCast_mul, ← Int.natCast_add, h]) ⟨Int.natCast_nonneg _, by
              have h : k / m < n := by rw [Nat.div_lt_iff_lt_mul (by omega), ← HNN.out]; exact hkN
              generalize k / m = z at h
              omega⟩ hm5
            rw [← hmv, ← fullTo_succ hkN] at h1
            rw [← hmv]
            exact h1.mono fun e w'' ⟨he, hb'⟩ => ⟨he, hw.trans (hb'.mono hw.size)⟩
          obtain ⟨qv, hqv⟩ : ∃ qv : Int, ((k / m : Nat) : Int) = qv := ⟨_, rfl⟩
          obtain ⟨rv, hrv⟩ : ∃ rv : Int, ((k % m : Nat) : Int) = rv := ⟨_, rfl⟩
          rw [hqv, hrv] at hpl hwi
          have hxq : (x : Int) / 2 ^ k = (qx : Int) := by
            rw [← hqx, show (2 : Int) ^ k = ((2 ^ k : Nat) : Int) by rw [Int.natCast_pow]; rfl]
            rfl
          rw [hr] at hbt
          have hr2 : r < 2 := by rw [← hr]; exact Nat.mod_lt _ (by decide)
          have hqxl : qx ≤ x := by rw [← hqx]; exact Nat.div_le_self _ _
          have hand : bits .and .i64 (qx : Int) 1 = (r : Int) := by
            rw [i64_and_one qx (by omega)]
            rw [hqx] at hr
            rw [hr]
          have hr2i : (r : Int) < 2 := by omega
          have hr0i : (0 : Int) ≤ (r : Int) := by omega
          have HAND := hid hand
          have HR := hid hrow
          have HP := hid hpl
          have HWI := hid hwi
          have HMV := hid hmv
          have HGC := hid (HG.out (fullTo N x k) (fullTo_length _ _ _))
          have HGD := hid (HG.out (fullTo N x (k + 1)) (fullTo_length _ _ _))
          have HSZ := hid (show (gcells n m (fullTo N x k)).size = (gcells n m (fullTo N x (k + 1))).size by rw [gcells_size (fullTo_length _ _ _), gcells_size (fullTo_length _ _ _)])
          have HON := hid (gcells_one n m (fullTo N x (k + 1)))
          have KG2 := hid KG.out
          clear hrow hpl hwi hmv hqv hrv hqx hr hand KG
          generalize gcells n m (fullTo N x k) = gc at HR HP HWI HGC HSZ KG2
          obtain ⟨gd, hgd⟩ : ∃ gd, gcells n m (fullTo N x (k + 1)) = gd := ⟨_, rfl⟩
          have HGE := hid hgd
          rw [hgd] at HWI HGD HSZ HON
          clear hgd
          refine wpQuiet_load_row rfl 57 _ rfl wo.heap.size rfl 57 gc (0, 0) _ HR.out Try.underlying57 rfl HGC.out ?_
          refine wpQuiet_load_row rfl 57 _ rfl wo.heap.size rfl 57 gc (0, 0) _ HR.out Try.underlying57 rfl HGC.out ?_
          quiet_step ((intro _; rfl))
          refine wpQuiet_call rfl 84 #[.agg gc, .int .i64 k] (.agg #[.int .i64 qv, .int .i64 rv]) (fun w _ => by go_simp) HP.out ?_
          quiet_step ((intro _; rfl))
          quiet_step ((intro _; rfl))
          refine wpQuiet_value rfl (.int .i64 (qx : Int)) (fun w hw => by go_simp) ?_
          refine wpQuiet_value rfl (.int .i64 (r : Int)) (fun w hw => by go_simp; exact HAND.out) ?_
          refine wpQuiet_value rfl (.int .u8 (bt.toNat : Int)) (fun w hw => by go_simp) ?_
          refine wpQuiet_call rfl 83 #[.agg gc, .agg #[.int .i64 qv, .int .i64 rv], .int .u8 (bt.toNat : Int)] (.agg gd) (fun w _ => by go_simp) HWI.out ?_
          refine wpQuiet_nil ?_
          intro w2 hw2
          have M0 := hid ((hw2.block _ (lt_of_block KG2.out)).trans KG2.out)
          have MB := hid (KB.out.trans (hw2.mono KB.out.size))
          clear hw2
          gi_wp2_with (refine wpListIn_store_row (Open.wide _) rfl 57 _ _ rfl wo.heap.size gd rfl rfl 57 gc M0.out HGD.out HSZ.out HON.out ?_)
          go_roundw
          case rel => exact ⟨k + 1, by omega, by go_num, by rw [HGE.out]; exact setRow_heap _ _ _ _ _ _ M0.out, below_setRow' MB.out (Nat.le_refl _) _⟩
          case measure => simp [intOf]; omega
        · obtain rfl : k = N := by omega
          have HFL := hid (show fullTo k x k = fullL k x by unfold fullTo fullL; rw [upto_all])
          have KG2 := hid KG.out
          rw [HFL.out] at KG2
          have HGE := hid (HG.out (fullL k x) (fullL_length _ _))
          obtain ⟨fn, tmps, assign, body, hy, hyR⟩ := HY.out (upto M x) ⟨x, hlt⟩ wr (abide_below HJ.out HJX.out KB.out) (by rw [upto_length hx]; exact hlt)
          have hen : encsF n m (⟨x, hlt⟩ : Fin M) = #[.agg (gcells n m (fullL k x))] := by unfold encsF; rw [HNN.out]
          rw [hen] at hy
          clear hen
          gi_wp2_with (refine wpListIn_load_row (Open.wide _) rfl 57 _ rfl wo.heap.size rfl 57 (gcells n m (fullL k x)) (0, 0) _ KG2.out Try.underlying57 rfl HGE.out ?_)
          refine ⟨(fun h => by cases h), hyR.mono ?_⟩
          rintro e W3 (⟨rfl, hJ3, hk3⟩ | ⟨rfl, hJx3⟩)
          · have H3 := hid hJ3
            have H4 := hid (HKP.out.trans ((KeepsTwo.below KB.out hz1 hz2).trans hk3))
            clear hJ3 hk3
            gi_wp2
            go_roundw
            case rel => exact ⟨x + 1, by omega, by go_num, by rw [upto_succ hlt]; exact H3.out, H4.out⟩
            case measure => simp [intOf]; omega
          · have H3 := hid hJx3
            clear hJx3
            gi_wp2
            refine bodyPost_ret (results_none rfl _ _ _) rfl ?_
            exact ⟨⟨_, rfl⟩, .inr ⟨_, ⟨x + 1, by omega, rfl⟩, by rw [upto_succ hlt]; exact H3.out⟩⟩
    · obtain rfl : x = M := by omega
      gi_wp2
      go_end0
      exact ⟨⟨_, rfl⟩, .inl ⟨_, rfl, by rw [← upto_all]; exact HJX.out⟩⟩

/-- The iterator's contract, for the law on loops over iterators. -/
theorem full_stops (d b1 b2 n m N M : Nat) (hN : N = n * m) (hM : M = 2 ^ N) (hn : 1 ≤ n) (hn5 : n ≤ 5) (hm : 1 ≤ m) (hm5 : m ≤ 5) (hN9 : N ≤ 9) (w : World) (h1 : Boxed w b1 3 (.int .i64 n)) (h2 : Boxed w b2 3 (.int .i64 m)) :
    SeqStopsK Fence.wide d Try.prog 82 #[.pointer (some ⟨b1, 0, none⟩), .pointer (some ⟨b2, 0, none⟩)] (encsF n m) (KeepsTwo b1 b2) (fun xs : List (Fin M) => xs = List.finRange M) (fun pre => ∃ k, k ≤ M ∧ pre = upto M k) M w := fun l J Jx W hW hJ _ hY h0 =>
  full1_in d l b1 b2 n m N M hN hM hn hn5 hm hm5 hN9 J Jx W (Nat.lt_of_lt_of_le h1.lt hW.size) (Nat.lt_of_lt_of_le h2.lt hW.size) hJ hY ((hW.block b1 h1.lt).trans h1) ((hW.block b2 h2.lt).trans h2) h0
end Go.Proofs.Ytminailbhgimkaa
