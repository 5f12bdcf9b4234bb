/- RoundFull of the specification and of the program, by their contracts. -/
import Derived.Test.YtgildagmliadeaaBunD
import Derived.Test.YtgildagmliadeaaBunF
namespace Go.Proofs.Ytgildagmliadeaa
open Go.RowKit Go.Shelf

def fullF (r q : Nat) : UInt8 := if (r + q) % 2 = 0 then 114 else 102
def fullVal (m k : Nat) : UInt8 := if k / m % 2 = k % m % 2 then 114 else 102
def FullIn (a b : Int) (n m : Nat) : Prop := a = n ∧ b = m ∧ 1 ≤ n ∧ n ≤ 5 ∧ 1 ≤ m ∧ m ≤ 5
def FullNone (a b : Int) : Prop := ∀ n m, ¬ FullIn a b n m
def FullOut (a b : Int) (ok : Bool) (res : List ByteArray) : Prop :=
  (∃ n m, FullIn a b n m ∧ ok = true ∧ res = ruleG n m fullF) ∨ (FullNone a b ∧ ok = false ∧ res = [])
theorem FullOut.uniq {a b : Int} {ok ok' : Bool} {res res' : List ByteArray} (h : FullOut a b ok res) (h' : FullOut a b ok' res') : ok' = ok ∧ res' = res := by
  rcases h with ⟨n, m, hg, rfl, rfl⟩ | ⟨hn, rfl, rfl⟩ <;> rcases h' with ⟨n', m', hg', rfl, rfl⟩ | ⟨hn', rfl, rfl⟩
  · obtain rfl : n' = n := by have := hg.1; have := hg'.1; omega
    obtain rfl : m' = m := by have := hg.2.1; have := hg'.2.1; omega
    exact ⟨rfl, rfl⟩
  · exact absurd hg (hn' _ _)
  · exact absurd hg' (hn _ _)
  · exact ⟨rfl, rfl⟩
theorem FullOut.len {a b : Int} {ok : Bool} {res : List ByteArray} (h : FullOut a b ok res) : res.length ≤ 1048576 := by
  rcases h with ⟨n, m, hg, _, rfl⟩ | ⟨_, _, rfl⟩
  · have h1 := hg.2.2.2.1
    rw [ruleG_length]; omega
  · simp
theorem full_same (n m : Nat) (hn : n ≤ 5) (hm : m ≤ 5) : textsOf n m (putAll samePos (fullVal m) (List.finRange (n * m)) (pad [])) = ruleG n m fullF := by
  have h25 : n * m ≤ 5 * 5 := Nat.mul_le_mul hn hm
  refine rows_eq _ _ _ _ fun r hr q hq => ?_
  have hp := lt_of_parts hr hq
  rw [put_all samePos (fullVal m) (r * m + q) (r * m + q) hp (by omega) rfl (fun x _ hx => hx)]
  have hd := div_of (a := r) (m := m) (b := q) hq
  unfold fullVal fullF
  rw [hd.1, hd.2]
  congr 1
  by_cases h : r % 2 = q % 2
  · rw [if_pos h, if_pos (by omega)]
  · rw [if_neg h, if_neg (by omega)]

/-- The outer loop: so many rows are there; the inner one: so many letters. -/
def OutF (n m : Nat) (w : World) (v i : Value) (wr : World) : Prop :=
  ∃ r : Nat, r ≤ n ∧ i = .int .i64 r ∧ GrowS wr w.heap.size v ((ruleG n m fullF).take r) ∧ Below w.heap.size w wr
def InF (n m r : Nat) (w wo : World) (ov : Value) (v i : Value) (wr : World) : Prop :=
  ∃ p : Nat, p ≤ m ∧ i = .int .i64 p ∧ GrowB wr wo.heap.size v ((ruleL m (fullF r)).take p) ∧ GrowS wr w.heap.size ov ((ruleG n m fullF).take r) ∧ Below w.heap.size w wr ∧ wo.heap.size ≤ wr.heap.size

set_option maxRecDepth 100000 in
set_option maxHeartbeats 2000000 in
theorem specRoundFull_any (a b : Int) (w : World) :
    Calls Try.prog 47 #[.int .i64 a, .int .i64 b] w fun e w' => Below w.heap.size w w' ∧ ∃ A c res ok, e = .returned (.tuple #[.slice A res.length c, .bool ok]) ∧ FullOut a b ok res ∧ Strs w' w'.heap.size A res := by
  have g1 := hid (l6In_any a 1 5)
  have g2 := hid (l6In_any b 1 5)
  have HNIL := hid (fun (w' : World) (A : Option Addr) => Strs.nil_ w' w'.heap.size A)
  go_enter Try.func47, Try.ntmps47
  go_wp2_with fail
  refine (g1.out _).mono ?_
  rintro e w' ⟨rfl, rfl⟩
  by_cases ha : 1 ≤ a ∧ a ≤ 5
  · rw [show decide (1 ≤ a ∧ a ≤ 5) = true by simpa using ha]
    have HA := hid ha
    clear ha
    go_wp2_with fail
    refine (g2.out _).mono ?_
    rintro e w' ⟨rfl, rfl⟩
    by_cases hb : 1 ≤ b ∧ b ≤ 5
    · rw [show decide (1 ≤ b ∧ b ≤ 5) = true by simpa using hb]
      have HBb := hid hb
      clear hb
      obtain ⟨n, rfl⟩ : ∃ n : Nat, a = n := ⟨a.toNat, by have := HA.out.1; omega⟩
      obtain ⟨m, rfl⟩ : ∃ m : Nat, b = m := ⟨b.toNat, by have := HBb.out.1; omega⟩
      have hn1 : 1 ≤ n := by have := HA.out.1; omega
      have hn5 : n ≤ 5 := by have := HA.out.2; omega
      have hm1 : 1 ≤ m := by have := HBb.out.1; omega
      have hm5 : m ≤ 5 := by have := HBb.out.2; omega
      have HYes := hid (show FullIn n m n m from ⟨rfl, rfl, hn1, hn5, hm1, hm5⟩)
      clear g1 g2
      go_wp2_with fail
      go_loopw [6, 7] (OutF n m w) (fun _ i _ => n - (intOf i).toNat)
      case atStart => exact ⟨0, Nat.zero_le _, rfl, growS_new w _ (Nat.le_refl _), (Below.refl _ w).alloc (Nat.le_refl _) _⟩
      case round =>
        obtain ⟨r, hr, rfl, hgs, hbel⟩ := hrel
        have HS := hid hgs
        have HB := hid hbel
        clear hgs hbel
        by_cases hlt : r < n
        · obtain ⟨wo, rfl⟩ : ∃ wo : World, wo = wr := ⟨_, rfl⟩
          obtain ⟨ov, rfl⟩ : ∃ ov : Value, ov = u6 := ⟨_, rfl⟩
          have hri : (r : Int) < (n : Int) := by omega
          go_wp2_with fail
          go_loopw [8, 9] (InF n m r w wo ov) (fun _ i _ => m - (intOf i).toNat)
          case atStart =>
            exact ⟨0, Nat.zero_le _, rfl, by rw [List.take_zero]; exact growB_new wo _ (Nat.le_refl _), HS.out.alloc _, HB.out.alloc HB.out.size _, by simp⟩
          case round =>
            obtain ⟨p, hp, rfl, hgB, hgS, hbel, hsz⟩ := hrel
            have HGB := hid hgB
            have HGS := hid hgS
            have HB2 := hid hbel
            have HZ := hid hsz
            clear hgB hgS hbel hsz
            by_cases hlp : p < m
            · have hpi : (p : Int) < (m : Int) := by omega
              obtain ⟨sm, hsm⟩ : ∃ sm, r + p = sm := ⟨_, rfl⟩
              have hsum : (r : Int) + (p : Int) = (sm : Int) := by omega
              have hsm10 : (sm : Int) ≤ 10 := by omega
              have hsm0 : (0 : Int) ≤ (sm : Int) := by omega
              have h2 : sm % 2 = 0 ∨ sm % 2 = 1 := by omega
              have HF := hid (show fullF r p = if sm % 2 = 0 then 114 else 102 by unfold fullF; rw [hsm])
              have HRT := hid (range_take m p (fullF r) hlp)
              clear hsm
              rcases h2 with h2 | h2
              all_goals
                obtain ⟨d2, hd2⟩ : ∃ d2 : Nat, sm % 2 = d2 := ⟨_, rfl⟩
                have hdi : (sm : Int) % 2 = (d2 : Int) := by omega
                obtain ⟨bt, hbt⟩ : ∃ bt, fullF r p = bt := ⟨_, rfl⟩
                have HBT := hid hbt
                have hbv := HF.out
                rw [hbt, hd2] at hbv
                rw [hd2] at h2
                subst h2
                first | rw [if_pos rfl] at hbv | rw [if_neg (by decide)] at hbv
                subst hbv
                clear hbt hd2
                go_wp2_with (at_builtin; first | (refine wpList_appendB rfl _ _ rfl wo.heap.size u8 ((ruleL m (fullF r)).take p) rfl (HGB.out.alloc _) wr.heap.size 1 rfl 114 (cell_newB wr 114) ?c3 (Nat.le_trans HZ.out (by simp)) ?_) | (refine wpList_appendB rfl _ _ rfl wo.heap.size u8 ((ruleL m (fullF r)).take p) rfl (HGB.out.alloc _) wr.heap.size 1 rfl 102 (cell_newB wr 102) ?c3 (Nat.le_trans HZ.out (by simp)) ?_))
                case c3 => rw [List.length_take, ruleL_length]; omega
                intro v' w' hgr hgw
                have HGR := hid hgr
                have HGW := hid hgw
                clear hgr hgw
                go_wp2
                go_roundw
                case rel =>
                  refine ⟨p + 1, by omega, by go_num, ?_, ?_, ?_, ?_⟩
                  · rw [ruleL, HRT.out, HBT.out]
                    exact HGR.out
                  · exact grown_other (World.ownsRow.alloc HGS.out _) (World.ownsRow.alloc HGB.out _) (fun k e => (ownBlock_lt HS.out k e).2) (Nat.le_refl _) HGW.out
                  · exact (HB2.out.alloc HB2.out.size _).grown HGW.out (Nat.le_trans HB2.out.size (by simp)) (fun k e => Nat.le_trans HB.out.size (World.ownsRow.lt HGB.out k e).1)
                  · exact Nat.le_trans (Nat.le_trans HZ.out (by simp)) HGW.out.size
                case measure => simp [intOf]; omega
            · obtain rfl : p = m := by omega
              have hcv := growB_text HGB.out (by rw [List.take_of_length_le (by rw [ruleL_length]; exact Nat.le_refl _), ruleL_length]; exact hm1)
              rw [List.take_of_length_le (by rw [ruleL_length]; exact Nat.le_refl _)] at hcv
              obtain ⟨tx, htx⟩ : ∃ tx : ByteArray, (⟨(ruleL p (fullF r)).toArray⟩ : ByteArray) = tx := ⟨_, rfl⟩
              rw [htx] at hcv
              have HTX := hid htx
              clear htx
              go_wp2_with (at_builtin; refine wpList_appendS rfl _ _ rfl w.heap.size ov ((ruleG n p fullF).take r) rfl (HGS.out.alloc _) wr.heap.size 1 rfl tx (cell_new wr tx) ?c3 (Nat.le_trans HB2.out.size (by simp)) ?_)
              case c3 => rw [List.length_take, ruleG_length]; omega
              intro v' w' hgr hgw
              have HGR := hid hgr
              have HGW := hid hgw
              clear hgr hgw
              go_wp2
              go_roundw
              case rel =>
                refine ⟨r + 1, by omega, by go_num, ?_, (HB2.out.alloc HB2.out.size _).grown HGW.out (Nat.le_trans HB2.out.size (by simp)) (fun k e => (ownBlock_lt HGS.out k e).1)⟩
                rw [ruleG, range_take n r _ hlt, HTX.out]
                exact HGR.out
              case measure => simp [intOf]; omega
        · obtain rfl : r = n := by omega
          have HS' := HS.out
          rw [List.take_of_length_le (by rw [ruleG_length]; exact Nat.le_refl _)] at HS'
          obtain ⟨A1, cc, rfl, hst⟩ := HS'.strs
          have HST := hid hst
          clear HS' hst
          go_wp2_with fail
          refine bodyPost_ret (results_tmp2 rfl _ _ _) rfl ?_
          exact ⟨HB.out, A1, cc, _, true, rfl, .inl ⟨r, m, HYes.out, rfl, rfl⟩, HST.out⟩
    · rw [show decide (1 ≤ b ∧ b ≤ 5) = false by simpa using hb]
      have HNo := hid (show FullNone a b from fun n m h => hb ⟨by have := h.2.1; have := h.2.2.2.2.1; omega, by have := h.2.1; have := h.2.2.2.2.2; omega⟩)
      clear hb
      go_wp2_with fail
      refine (l1None_any _).mono ?_
      rintro e w1 ⟨⟨A1, c1, rfl⟩, hb1⟩
      have HB1 := hid hb1
      clear hb1
      go_wp2_with fail
      refine bodyPost_ret (results_tmp2 rfl _ _ _) rfl ?_
      exact ⟨HB1.out, A1, c1, [], false, rfl, .inr ⟨HNo.out, rfl, rfl⟩, HNIL.out _ _⟩
  · rw [show decide (1 ≤ a ∧ a ≤ 5) = false by simpa using ha]
    have HNo := hid (show FullNone a b from fun n m h => ha ⟨by have := h.1; have := h.2.2.1; omega, by have := h.1; have := h.2.2.2.1; omega⟩)
    clear ha
    go_wp2_with fail
    refine (l1None_any _).mono ?_
    rintro e w1 ⟨⟨A1, c1, rfl⟩, hb1⟩
    have HB1 := hid hb1
    clear hb1
    go_wp2_with fail
    refine bodyPost_ret (results_tmp2 rfl _ _ _) rfl ?_
    exact ⟨HB1.out, A1, c1, [], false, rfl, .inr ⟨HNo.out, rfl, rfl⟩, HNIL.out _ _⟩

attribute [local go_sem] Oper.semAt_some
set_option maxRecDepth 100000 in
set_option maxHeartbeats 4000000 in
theorem implRoundFull_any (a b : Int) (w : World) :
    Calls Try.prog 46 #[.int .i64 a, .int .i64 b] w fun e w' => Below w.heap.size w w' ∧ ∃ A res ok, e = .returned (.tuple #[.slice A res.length res.length, .bool ok]) ∧ FullOut a b ok res ∧ Own2 w' w.heap.size A res := by
  have g1 := hid (sideIn_any a)
  have g2 := hid (sideIn_any b)
  refine (callsIn_wide (n := 3)).1 ?_
  refine callsIn_of_wp_marks Try.func46 rfl trivial ?_ rfl
  simp only [Try.ntmps46, List.size_toArray, List.length_cons, List.length_nil, Nat.reduceAdd, Nat.reduceSub, Array.replicate_succ, Array.replicate_zero, List.push_toArray, List.append_toArray, List.nil_append, List.cons_append]
  gi_wp2_with fail
  refine ⟨trivial, callsIn_wide.2 ((g1.out _).mono ?_)⟩
  rintro e w' ⟨rfl, rfl⟩
  by_cases ha : 1 ≤ a ∧ a ≤ 5
  · rw [show decide (1 ≤ a ∧ a ≤ 5) = true by simpa using ha]
    have HA := hid ha
    clear ha
    gi_wp2_with fail
    refine ⟨trivial, callsIn_wide.2 ((g2.out _).mono ?_)⟩
    rintro e w' ⟨rfl, rfl⟩
    by_cases hb : 1 ≤ b ∧ b ≤ 5
    · rw [show decide (1 ≤ b ∧ b ≤ 5) = true by simpa using hb]
      have HBb := hid hb
      clear hb
      obtain ⟨n, rfl⟩ : ∃ n : Nat, a = n := ⟨a.toNat, by have := HA.out.1; omega⟩
      obtain ⟨m, rfl⟩ : ∃ m : Nat, b = m := ⟨b.toNat, by have := HBb.out.1; omega⟩
      have hn1 : 1 ≤ n := by have := HA.out.1; omega
      have hn5 : n ≤ 5 := by have := HA.out.2; omega
      have hm1 : 1 ≤ m := by have := HBb.out.1; omega
      have hm5 : m ≤ 5 := by have := HBb.out.2; omega
      have HYes := hid (show FullIn n m n m from ⟨rfl, rfl, hn1, hn5, hm1, hm5⟩)
      have HLEN := hid (show ∀ pre : List (Fin (n * m)), (putAll samePos (fullVal m) pre (pad [])).length = 25 from fun pre => by rw [putAll_length]; rfl)
      have HG := hid (show ∀ pre : List (Fin (n * m)), (Try.prog.info? 54).map (·.size) = some (gcells n m (putAll samePos (fullVal m) pre (pad []))).size from fun pre => by rw [gcells_size (HLEN.out pre)]; exact Try.size_grid)
      have HG0 := hid (show (Try.prog.info? 54).map (·.size) = some (gcells n m (pad [])).size by rw [gcells_size (by rfl)]; exact Try.size_grid)
      have H0 := hid (setRow_heap (w.alloc (.cells zeroG 54)) w.heap.size zeroG (gcells n m (pad [])) 54 (0, 0) (heap_new0 w _))
      have H3 := hid (below_setRow' ((Below.refl _ w).alloc (Nat.le_refl _) (.cells zeroG 54)) (Nat.le_refl _) (gcells n m (pad [])))
      have H4 := hid (show ((w.alloc (.cells zeroG 54)).setRow w.heap.size (gcells n m (pad []))).heap.size = w.heap.size + 1 by simp)
      clear g1 g2
      gi_wp2_with (first
        | refine wpListIn_store_row (Open.wide _) rfl 54 _ _ rfl w.heap.size (gcells n m (pad [])) rfl rfl 54 zeroG (heap_new0 w _) HG0.out (gcells_size (by rfl)).symm (gcells_one _ _ _) ?_
        | refine wpListIn_load_row (Open.wide _) rfl 54 _ rfl w.heap.size rfl 54 (gcells n m (pad [])) (0, 0) _ H0.out Try.underlying54 rfl HG0.out ?_)
      generalize World.setRow _ _ _ = W0 at H0 H3 H4
      refine ⟨trivial, callsIn_wide.2 ((cells_any (gcells n m (pad [])) W0).mono ?_)⟩
      rintro e w1 ⟨rfl, hw1⟩
      have K0 := hid (show w1.heap[w.heap.size]? = some (.cells (gcells n m (pad [])) 54 (0, 0)) by rw [hw1]; exact (Below.heap_alloc _ _ _ (lt_of_block H0.out)).trans H0.out)
      have K3 := hid (show w1.heap[W0.heap.size]? = some (.cells (gcells n m (pad [])) 54 (0, 0)) by rw [hw1]; exact heap_new0 W0 _)
      have KB := hid (show Below w.heap.size w w1 by rw [hw1]; exact H3.out.alloc H3.out.size _)
      have KS := hid (show w1.heap.size = w.heap.size + 2 by rw [hw1, World.size_alloc, H4.out])
      have KW := hid H4.out
      clear hw1
      gi_wp2
      refine wpIn_rangeFunc_ownH rfl (by omega) (gf := 139) (lb := #[.pointer (some ⟨W0.heap.size, 0, none⟩)]) rfl trivial (enters_of Try.func139 (by kernel_rfl) rfl)
        (cells_stops 2 W0.heap.size n m (n * m) rfl (pad []) (by rfl) hn5 hm1 hm5 w1 K3.out) KeepsAt.trans (keepsAt_b (lt_of_block K3.out)) (Below.refl _ _) (fun _ => rfl)
        (fun pre W => W.heap[w.heap.size]? = some (.cells (gcells n m (putAll samePos (fullVal m) pre (pad []))) 54 (0, 0)) ∧ Below w.heap.size w1 W)
        (fun _ _ _ => False)
        (OwnFrom.and (ownFrom_heap _ _ (fun pre => .cells (gcells n m (putAll samePos (fullVal m) pre (pad []))) 54 (0, 0)) (fun _ => rfl)) (ownFrom_below (by rw [KS.out]; omega) (by rw [KS.out]; omega)))
        (fun _ _ _ _ _ hs _ _ => hs)
        ⟨K0.out, Below.refl _ _⟩
        (fun x a' W => ∃ Bx, w.heap.size + 2 ≤ Bx ∧ W.heap[Bx]? = some (.cells #[.int .i64 ((x.val / m : Nat) : Int), .int .i64 ((x.val % m : Nat) : Int)] 83 (0, 0)) ∧ ∃ u0 u1 u2 u3 u4 u5 u8 u9 u10 u11 u12 u13 u14 u15 u16 u17 u18 u19 u20 u21 u22 u23 u24 u25 u26 u27 u28 u29 u30 u31 u32 u33 u34 u35 u36 : Value,
          a' = { tmps := #[u0, u1, u2, u3, u4, u5, .pointer (some ⟨w.heap.size, 0, none⟩), .pointer (some ⟨Bx, 0, none⟩), u8, u9, u10, u11, u12, u13, u14, u15, u16, u17, u18, u19, u20, u21, u22, u23, u24, u25, u26, u27, u28, u29, u30, u31, u32, u33, u34, u35, u36], defers := [] })
        (fun x a' _ X Y row hs hg hr => by
          obtain ⟨Bx, h1, h2, h3⟩ := hs
          exact ⟨Bx, h1, ownFrom_heap _ Bx (fun (_ : Unit) => Obj.cells #[.int .i64 ((x.val / m : Nat) : Int), .int .i64 ((x.val % m : Nat) : Int)] 83 (0, 0)) (fun _ => rfl) () X Y row h2 hg hr, h3⟩)
        ?assign ?body ?done ?stop
      case assign =>
        rintro l pre x W Kk ⟨i0, i1⟩ hK
        have J0 := hid i0
        have J3 := hid i1
        have JK := hid hK
        clear i0 i1 hK
        unfold encs
        obtain ⟨qv, hqv⟩ : ∃ qv : Int, ((x.val / m : Nat) : Int) = qv := ⟨_, rfl⟩
        obtain ⟨rv, hrv⟩ : ∃ rv : Int, ((x.val % m : Nat) : Int) = rv := ⟨_, rfl⟩
        rw [hqv, hrv] at JK ⊢
        have hsz : w.heap.size + 2 ≤ W.heap.size := by rw [← KS.out]; exact J3.out.size
        gi_wp2
        exact JK.out _ _ ((KeepsOthers.alloc _ _).from _) ⟨by simp, Below.heap_alloc _ _ _ (by rw [KW.out]; omega)⟩
          ⟨(Below.heap_alloc _ _ _ (lt_of_block J0.out)).trans J0.out, J3.out.alloc (by omega) _⟩
          ⟨W.heap.size, hsz, heap_new0 W _, _, _, _, _, _, _, _, _, _, _, _, _, _, _, _, _, _, _, _, _, _, _, _, _, _, _, _, _, _, _, _, _, _, _, _, rfl⟩
      case body =>
        rintro l pre x a' W hlw ⟨r, hr⟩ ⟨i0, i1⟩ ⟨Bx, hBx, hX, u0, u1, u2, u3, u4, u5, u8, u9, u10, u11, u12, u13, u14, u15, u16, u17, u18, u19, u20, u21, u22, u23, u24, u25, u26, u27, u28, u29, u30, u31, u32, u33, u34, u35, u36, rfl⟩ hlt
        have hxk := x.isLt
        have h25 : n * m ≤ 5 * 5 := Nat.mul_le_mul hn5 hm5
        have hp : x.val < 25 := by omega
        have hq5 : x.val / m < n := by rw [Nat.div_lt_iff_lt_mul (by omega)]; exact hxk
        have hr5 : x.val % m < m := Nat.mod_lt _ (by omega)
        have hdm : x.val / m * m + x.val % m = x.val := by rw [Nat.mul_comm]; exact Nat.div_add_mod _ m
        have hvl : fullVal m x.val = if x.val / m % 2 = x.val % m % 2 then 114 else 102 := rfl
        obtain ⟨qn, hqn⟩ : ∃ qn, x.val / m = qn := ⟨_, rfl⟩
        obtain ⟨rn, hrn⟩ : ∃ rn, x.val % m = rn := ⟨_, rfl⟩
        rw [hqn, hrn] at hX hdm hvl
        rw [hqn] at hq5
        rw [hrn] at hr5
        have hde : (qn : Int) * (m : Int) + (rn : Int) = ((x.val : Nat) : Int) := by rw [← hdm, Int.natCast_add, Int.natCast_mul]
        obtain ⟨q2, hq2⟩ : ∃ q2, qn % 2 = q2 := ⟨_, rfl⟩
        obtain ⟨r2, hr2⟩ : ∃ r2, rn % 2 = r2 := ⟨_, rfl⟩
        have hqi : (qn : Int) % 2 = (q2 : Int) := by omega
        have hri : (rn : Int) % 2 = (r2 : Int) := by omega
        have hqi' : (qn : Int).tmod 2 = (q2 : Int) := by rw [Int.tmod_eq_emod_of_nonneg (by omega)]; exact hqi
        have hri' : (rn : Int).tmod 2 = (r2 : Int) := by rw [Int.tmod_eq_emod_of_nonneg (by omega)]; exact hri
        rw [hq2, hr2] at hvl
        have HVL := hid hvl
        have HDE := hid hde
        have hq2' : q2 < 2 := by omega
        have hr2' : r2 < 2 := by omega
        have J0 := hid i0
        have J3 := hid i1
        have JX := hid hX
        have hqn5 : (qn : Int) < 5 := by omega
        have hrn5 : (rn : Int) < 5 := by omega
        have hqn0 : (0 : Int) ≤ (qn : Int) := by omega
        have hrn0 : (0 : Int) ≤ (rn : Int) := by omega
        have HP := hid hp
        have c0 : W.cell? ⟨Bx, 0, none⟩ = some (.int .i64 (qn : Int)) := by rw [cell_of_row _ _ _ _ _ _ hX]; rfl
        have c1 : W.cell? ⟨Bx, 1, none⟩ = some (.int .i64 (rn : Int)) := by rw [cell_of_row _ _ _ _ _ _ hX]; rfl
        have JZ := hid (show w.heap.size + 2 ≤ W.heap.size by rw [← KS.out]; exact i1.size)
        have HWI := hid (fun bt => with_any n m (putAll samePos (fullVal m) pre (pad [])) qn rn x.val bt W (HLEN.out pre) hp hde ⟨by omega, by omega⟩ hm5)
        clear i0 i1 hX hvl hde hqn hrn hdm hxk h25 hp hq2 hr2 hr hlt hq5 hr5
        have fin : ∀ bt : UInt8, fullVal m x.val = bt → ∀ w2, Below W.heap.size W w2 → KeepsOthers W (w2.setRow w.heap.size (gcells n m ((putAll samePos (fullVal m) pre (pad [])).set x.val bt))) ∧ KeepsAt W0.heap.size W (w2.setRow w.heap.size (gcells n m ((putAll samePos (fullVal m) pre (pad [])).set x.val bt))) ∧ (w2.setRow w.heap.size (gcells n m ((putAll samePos (fullVal m) pre (pad [])).set x.val bt))).heap[w.heap.size]? = some (.cells (gcells n m (putAll samePos (fullVal m) (pre ++ [x]) (pad []))) 54 (0, 0)) ∧ Below w.heap.size w1 (w2.setRow w.heap.size (gcells n m ((putAll samePos (fullVal m) pre (pad [])).set x.val bt))) := fun bt hbt w2 hb2 => by
          refine ⟨(keeps_below hb2).trans (keeps_setRow _ _ _), ⟨by simpa using hb2.size, ?_⟩, ?_, ?_⟩
          · rw [setRow_other _ _ _ _ (by rw [KW.out]; omega)]
            exact hb2.block _ (by have := JZ.out; rw [KW.out]; omega)
          · rw [putAll_snoc, hbt]
            exact setRow_heap _ _ _ _ _ _ ((hb2.block _ (lt_of_block J0.out)).trans J0.out)
          · exact below_setRow' (J3.out.trans (hb2.mono (by have := JZ.out; omega))) (Nat.le_refl _) _
        have FIN := hid fin
        clear fin
        by_cases h2 : q2 = r2
        · subst h2
          have HV := hid (show fullVal m x.val = 114 by rw [HVL.out, if_pos rfl])
          have HW1 := hid (HWI.out 114)
          gi_wp2_with (first
            | refine wpListIn_load_row (Open.round _ l) rfl 54 _ rfl w.heap.size rfl 54 (gcells n m (putAll samePos (fullVal m) pre (pad []))) (0, 0) _ J0.out Try.underlying54 rfl (HG.out pre) ?_
            | refine wpListIn_load_row (Open.round _ l) rfl 83 _ rfl Bx rfl 83 #[.int .i64 (qn : Int), .int .i64 (rn : Int)] (0, 0) _ JX.out Try.underlying83 rfl Try.size_place ?_)
          refine ⟨trivial, CallsIn.inRound l (callsIn_wide.2 (HW1.out.mono ?_))⟩
          rintro e w2 ⟨rfl, hb2⟩
          have L0 := hid ((hb2.block _ (lt_of_block J0.out)).trans J0.out)
          obtain ⟨f1, f2, f3, f4⟩ := FIN.out 114 HV.out w2 hb2
          clear hb2
          gi_wp2_with (refine wpListIn_store_row (Open.round _ l) rfl 54 _ _ rfl w.heap.size (gcells n m ((putAll samePos (fullVal m) pre (pad [])).set x.val 114)) rfl rfl 54 (gcells n m (putAll samePos (fullVal m) pre (pad []))) L0.out (by rw [gcells_size (by rw [List.length_set]; exact HLEN.out pre)]; exact Try.size_grid) (by rw [gcells_size (HLEN.out pre), gcells_size (by rw [List.length_set]; exact HLEN.out pre)]) (gcells_one _ _ _) ?_)
          exact ⟨f1.from _, f2, f3, f4⟩
        · have hne : ((q2 : Int) == (r2 : Int)) = false := by rw [beq_eq_false_iff_ne]; omega
          have HV := hid (show fullVal m x.val = 102 by rw [HVL.out, if_neg h2])
          have HW1 := hid (HWI.out 102)
          have h2n : ¬ (q2 = r2) := h2
          clear h2
          gi_wp2_with (first
            | refine wpListIn_load_row (Open.round _ l) rfl 54 _ rfl w.heap.size rfl 54 (gcells n m (putAll samePos (fullVal m) pre (pad []))) (0, 0) _ J0.out Try.underlying54 rfl (HG.out pre) ?_
            | refine wpListIn_load_row (Open.round _ l) rfl 83 _ rfl Bx rfl 83 #[.int .i64 (qn : Int), .int .i64 (rn : Int)] (0, 0) _ JX.out Try.underlying83 rfl Try.size_place ?_)
          refine ⟨trivial, CallsIn.inRound l (callsIn_wide.2 (HW1.out.mono ?_))⟩
          rintro e w2 ⟨rfl, hb2⟩
          have L0 := hid ((hb2.block _ (lt_of_block J0.out)).trans J0.out)
          obtain ⟨f1, f2, f3, f4⟩ := FIN.out 102 HV.out w2 hb2
          clear hb2
          gi_wp2_with (refine wpListIn_store_row (Open.round _ l) rfl 54 _ _ rfl w.heap.size (gcells n m ((putAll samePos (fullVal m) pre (pad [])).set x.val 102)) rfl rfl 54 (gcells n m (putAll samePos (fullVal m) pre (pad []))) L0.out (by rw [gcells_size (by rw [List.length_set]; exact HLEN.out pre)]; exact Try.size_grid) (by rw [gcells_size (HLEN.out pre), gcells_size (by rw [List.length_set]; exact HLEN.out pre)]) (gcells_one _ _ _) ?_)
          exact ⟨f1.from _, f2, f3, f4⟩
      case done =>
        rintro D xs W hD rfl ⟨i0, i1⟩ hK
        have J0 := hid i0
        have J3 := hid i1
        have JK := hid hK
        clear i0 i1 hK
        have HT := hid (texts_any n m (putAll samePos (fullVal m) (List.finRange (n * m)) (pad [])) W (HLEN.out _) hn5 hm5)
        gi_wp2_with (refine wpListIn_load_row (Open.wide _) rfl 54 _ rfl w.heap.size rfl 54 _ (0, 0) _ J0.out Try.underlying54 rfl (HG.out _) ?_)
        refine ⟨trivial, callsIn_wide.2 (HT.out.mono ?_)⟩
        rintro e w3 ⟨rfl, hrow, hb3⟩
        have HB3 := hid ((KB.out.trans J3.out).trans (hb3.mono (by have := J3.out.size; have := KS.out; omega)))
        have HRow := hid hrow
        have JK3 := hid ((hb3.block D (lt_of_block JK.out)).trans JK.out)
        have JZ := hid (show w.heap.size + 2 ≤ W.heap.size by rw [← KS.out]; exact J3.out.size)
        have HDW := hid (lt_of_block JK.out)
        clear hb3 hrow
        gi_wp2
        have hlen : (ruleG n m fullF).length = n := ruleG_length _ _ _
        refine ⟨by simp, .inl ⟨_, _, rfl, run_takeDeferred JK3.out, ?_⟩⟩
        refine ⟨_, results_tmp2 rfl _ _ _, ?_, some ⟨W.heap.size + 1, 0, none⟩, ruleG n m fullF, true, by rw [hlen]; rfl, .inl ⟨n, m, HYes.out, rfl, rfl⟩, .inr ⟨_, rfl, by have := JZ.out; omega, ?_⟩⟩
        · exact HB3.out.trans (belowK_b (w := w) (Nat.le_refl _) _ D _ _ (by rw [KS.out] at hD; omega) JK3.out rfl rfl)
        · rw [← full_same n m hn5 hm5]
          obtain ⟨C, hC, hf⟩ := HRow.out
          exact ⟨C, (World.putObj_heap_other (by have := HDW.out; omega)).trans hC, hf⟩
      case stop =>
        rintro D c pre W _ _ h _
        exact h.elim
    · rw [show decide (1 ≤ b ∧ b ≤ 5) = false by simpa using hb]
      have HNo := hid (show FullNone a b from fun n m h => hb ⟨by have := h.2.1; have := h.2.2.2.2.1; omega, by have := h.2.1; have := h.2.2.2.2.2; omega⟩)
      clear hb
      gi_wp2
      refine ⟨_, results_tmp2 rfl _ _ _, ?_⟩
      exact ⟨Below.refl _ _, none, [], false, rfl, .inr ⟨HNo.out, rfl, rfl⟩, .inl ⟨rfl, rfl⟩⟩
  · rw [show decide (1 ≤ a ∧ a ≤ 5) = false by simpa using ha]
    have HNo := hid (show FullNone a b from fun n m h => ha ⟨by have := h.1; have := h.2.2.1; omega, by have := h.1; have := h.2.2.2.1; omega⟩)
    clear ha
    gi_wp2
    refine ⟨trivial, ?_⟩
    gi_wp2
    refine ⟨_, results_tmp2 rfl _ _ _, ?_⟩
    exact ⟨Below.refl _ _, none, [], false, rfl, .inr ⟨HNo.out, rfl, rfl⟩, .inl ⟨rfl, rfl⟩⟩

end Go.Proofs.Ytgildagmliadeaa
