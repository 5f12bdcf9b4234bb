/- ChangeSelf of the program: a step that returns into its cell, a path that goes through a cell twice, by their contracts. -/
import Derived.Test.YtagnecclhmbofaaDelta
import Derived.Test.YtagnecclhmbofaaRoundC
import Derived.Test.YtagnecclhmbofaaMirrorIn
import Derived.Test.YtagnecclhmbofaaRelW
import Derived.Test.YtagnecclhmbofaaSelfM
namespace Go.Proofs.Ytagnecclhmbofaa
open Go.RowKit Go.Shelf

section
variable {P : Program} (w : World)
theorem run_neq_ptr_nil {tp te : TypeId} (a : Addr) (hp : P.underlying tp = some (.pointer te)) :
    (binOp .neq tp (.pointer (some a)) (.pointer none)).run P w = .ok (.bool true) w := by
  have h : ∀ d : Nat, (Op.equalIn (d + 1) tp (.pointer (some a)) (.pointer none)).run P w = .ok false w := fun d => by
    simp [Op.equalIn, run_underlying hp]
  simp only [binOp]
  simp [Op.equal, Op.maxDepth, h 9999]
theorem run_neq_nil_nil {tp te : TypeId} (hp : P.underlying tp = some (.pointer te)) :
    (binOp .neq tp (.pointer none) (.pointer none)).run P w = .ok (.bool false) w := by
  have h : ∀ d : Nat, (Op.equalIn (d + 1) tp (.pointer none) (.pointer none)).run P w = .ok true w := fun d => by
    simp [Op.equalIn, run_underlying hp]
  simp only [binOp]
  simp [Op.equal, Op.maxDepth, h 9999]
end
theorem run_eq_place (ac : Act) (x y : Operand) (a b c d : Int) (w : World) (hx : ac.eval x = .agg #[.int .i64 a, .int .i64 b]) (hy : ac.eval y = .agg #[.int .i64 c, .int .i64 d]) (o : Oper) (ho : o.op = Op.binOp .eql 90 x y 90) :
    (execOp ac.eval o).run Try.prog w = .ok (.value (.bool (decide (a = c ∧ b = d)))) w := by
  unfold execOp
  simp only [ho, hx, hy]
  go_simp
  by_cases h1 : a = c <;> by_cases h2 : b = d <;> simp [h1, h2]
/-- The place of a step, out of its block. -/
theorem StepsM.place {w : World} {g n m N c : Nat} {t : Int → Int → UInt8} (h : StepsM w g n m t (fun _ => True) N) (hc : c < N) : w.rangeAt g (5 * c) [.int .i64 (wayN m c).i, .int .i64 (wayN m c).k] := by
  have h1 := h.way hc
  intro j v hj
  refine h1 j v ?_
  match j, hj with
  | 0, hj => exact hj
  | 1, hj => exact hj
  | j + 2, hj => simp at hj

set_option maxRecDepth 100000 in
set_option maxHeartbeats 2000000 in
theorem returns_any (n m g N c : Nat) (t : Int → Int → UInt8) (w : World) (hN : 4 * (n * m) = N) (hN100 : N ≤ 100) (hc : c < N) (hs : StepsM w g n m t (fun _ => True) N) :
    Calls Try.prog 105 #[.pointer (some ⟨g, 5 * c, none⟩)] w fun e w' => e = .returned (.bool (retB n m t (wayN m c).i (wayN m c).k (wayN m c))) ∧ ∃ d, w' = w.drewN d := by
  have hc4 : c < 4 * (n * m) := by rw [hN]; exact hc
  have hx := wayN_in (n := n) (m := m) hc4
  have hd := wayN_d (m := m) c
  obtain ⟨f1, f2, f3, f4, f5, f6⟩ := goL_facts (t := t) hd hx
  have f7 := fun j h1 h2 => goL_back (t := t) (j := j) hd hx h1 h2
  have f8 := fun j => iter_d (t := t) hd j
  have f9 : ∀ j, iter t (wayN m c) (j + 1) = nxt t (iter t (wayN m c) j) := fun j => rfl
  have hcode := wcode_way (m := m) c
  have h0 : iter t (wayN m c) 0 = wayN m c := rfl
  have HRT := hid (show ∀ j, 0 < j → j < goL n m t (wayN m c) → atC (wayN m c).i (wayN m c).k (iter t (wayN m c) j) → retB n m t (wayN m c).i (wayN m c).k (wayN m c) = true from fun j h1 h2 h3 => retB_iff.2 ⟨j, h1, h2, h3⟩)
  have HRF := hid (show (∀ j, 0 < j → j < goL n m t (wayN m c) → ¬ atC (wayN m c).i (wayN m c).k (iter t (wayN m c) j)) → retB n m t (wayN m c).i (wayN m c).k (wayN m c) = false from fun h => by
    rw [Bool.eq_false_iff]
    intro hr
    obtain ⟨j, h1, h2, h3⟩ := retB_iff.1 hr
    exact h j h1 h2 h3)
  generalize retB n m t (wayN m c).i (wayN m c).k (wayN m c) = rb at *
  generalize goL n m t (wayN m c) = L at *
  generalize onR n m t (wayN m c) = on at *
  generalize iter t (wayN m c) = bw at *
  have HST := hid (fun (wr : World) (hb : Below w.heap.size w wr) (j : Nat) (hj : j < L) => show wr.cell? ⟨g, 5 * wcode m (bw j) + 3, none⟩ = some (if inG n m (bw (j + 1)) then .pointer (some ⟨g, 5 * wcode m (bw (j + 1)), none⟩) else .pointer none) by
    have h1 := (hs.below hb).next (c := wcode m (bw j)) (by rw [← hN]; exact wcode_lt (f3 j hj) (f8 j))
    rw [wayN_code (f3 j hj) (f8 j)] at h1
    rw [h1, f9 j]
    rfl)
  have HPL := hid (fun (wr : World) (hb : Below w.heap.size w wr) (j : Nat) (hj : j < L) => show wr.rangeAt g (5 * wcode m (bw j)) [.int .i64 (bw j).i, .int .i64 (bw j).k] by
    have h1 := (hs.below hb).place (c := wcode m (bw j)) (by rw [← hN]; exact wcode_lt (f3 j hj) (f8 j))
    rw [wayN_code (f3 j hj) (f8 j)] at h1
    exact h1)
  have HP0 := hid (fun (wr : World) (hb : Below w.heap.size w wr) => (hs.below hb).place (c := c) hc)
  have HB0 := hid (show wcode m (bw 0) = c by rw [h0, hcode])
  have HIN := hid f3
  have HBK := hid (fun j (h1 : 1 ≤ j) (h2 : j < L) => show wcode m (bw j) ≠ c from fun e => f7 j h1 h2 (wcode_inj (f3 j h2) (f8 j) hx hd (by rw [e, hcode])))
  have HON := hid (fun h => show bw L = wayN m c from (f5 h).1)
  have HX := hid hx
  have HCD := hid hcode
  have HOUT := hid f6
  have hL100 : L ≤ 100 := by omega
  have HSL := hid hs.lt
  obtain ⟨si, hsi, _, hs1, _⟩ := info_parts Try.info_step
  have HSAME := hid (fun (W : World) => run_neq_ptr_same (P := Try.prog) W ⟨g, 5 * c, none⟩ Try.underlying121 hsi)
  have HOTH := hid (fun (W : World) (q : Nat) (hb : Below w.heap.size w W) (hq : q ≠ c) => by
    obtain ⟨cs, hk, _⟩ := hs.below hb
    exact run_neq_ptr_other (P := Try.prog) W (a := ⟨g, 5 * q, none⟩) (b := ⟨g, 5 * c, none⟩) Try.underlying121 hsi (by rw [hs1]; decide) (fun e => hq (by have := congrArg Addr.off e; simp only at this; omega)) hk hk)
  have HPN := hid (fun (W : World) (q : Nat) => run_neq_ptr_nil (P := Try.prog) W ⟨g, 5 * q, none⟩ Try.underlying121)
  have HNN := hid (fun (W : World) => run_neq_nil_nil (P := Try.prog) W Try.underlying121)
  clear hsi hs1
  clear hc4 hx hd f2 f3 f4 f5 f6 f7 f8 f9 hcode h0 hs
  have hc3 := HST.out w (Below.refl _ _) 0 (by omega)
  rw [HB0.out] at hc3
  obtain ⟨nv, hnv⟩ : ∃ nv : Value, (if inG n m (bw (0 + 1)) then Value.pointer (some ⟨g, 5 * wcode m (bw (0 + 1)), none⟩) else .pointer none) = nv := ⟨_, rfl⟩
  rw [hnv] at hc3
  have HNV := hid hnv
  clear hnv
  generalize wayN m c = x0 at *
  go_enter Try.func105, Try.ntmps105
  go_wp2
  go_loopg [3] (L - 1) (fun gk nx wr => ∃ j : Nat, 1 ≤ j ∧ j + gk = L ∧ nx = (if inG n m (bw j) then .pointer (some ⟨g, 5 * wcode m (bw j), none⟩) else .pointer none) ∧ Hid (∀ a, 0 < a → a < j → ¬ atC x0.i x0.k (bw a)) ∧ ∃ d, wr = w.drewN d)
  case atStart => exact ⟨1, Nat.le_refl _, Nat.add_sub_cancel' f1, HNV.out.symm, hid (fun a h1 h2 => by omega), 0, rfl⟩
  case round =>
    obtain ⟨j, hj1, hjg, rfl, hno, d, rfl⟩ := hrel
    have HNO := hno
    have HBD := hid (below_drewN' (Below.refl w.heap.size w) d)
    clear hno hc3
    cases gk with
    | zero =>
      obtain rfl : j = L := by omega
      have HF := hid (HRF.out (fun a h1 h2 => HNO.out a h1 h2))
      cases on with
      | true =>
        rw [HON.out rfl, if_pos HX.out, HCD.out]
        have hcmp := HSAME.out (w.drewN d)
        have hcmp2 := HPN.out (w.drewN d) c
        go_wp2
        go_ret
        exact ⟨by rw [HF.out]; rfl, _, rfl⟩
      | false =>
        rw [if_neg (HOUT.out rfl)]
        have hcmp := HNN.out (w.drewN d)
        go_wp2
        go_ret
        exact ⟨by rw [HF.out]; rfl, _, rfl⟩
    | succ gk =>
      have hlt : j < L := by omega
      have hin := HIN.out j hlt
      have hne := HBK.out j hj1 hlt
      rw [if_pos hin]
      have HNX := hid (fun W (hb : Below w.heap.size w W) => HST.out W hb j hlt)
      have HPJ := hid (fun W (hb : Below w.heap.size w W) => HPL.out W hb j hlt)
      have hcmp := HOTH.out (w.drewN d) (wcode m (bw j)) HBD.out hne
      have hcmp2 := HPN.out (w.drewN d) (wcode m (bw j))
      have HRJ := hid (HRT.out j (by omega) hlt)
      obtain ⟨q, hq⟩ : ∃ q, wcode m (bw j) = q := ⟨_, rfl⟩
      rw [hq] at HNX HPJ hcmp hcmp2 ⊢
      obtain ⟨nv, hnv⟩ : ∃ nv : Value, (if inG n m (bw (j + 1)) then Value.pointer (some ⟨g, 5 * wcode m (bw (j + 1)), none⟩) else .pointer none) = nv := ⟨_, rfl⟩
      have HNV2 := hid hnv
      rw [hnv] at HNX
      obtain ⟨yi, hyi⟩ : ∃ y, (bw j).i = y := ⟨_, rfl⟩
      obtain ⟨yk, hyk⟩ : ∃ y, (bw j).k = y := ⟨_, rfl⟩
      rw [hyi, hyk] at HPJ
      have HAT := hid (show decide (yi = x0.i ∧ yk = x0.k) = decide (atC x0.i x0.k (bw j)) by rw [decide_eq_decide, ← hyi, ← hyk]; exact Iff.rfl)
      clear hin hne hq hnv hyi hyk
      go_wp2_with fail
      refine wp_region_quiet (C := fun W => ∃ d', W = w.drewN d') (by kernel_rfl) (by kernel_rfl) ⟨d + 1, rfl⟩ ?_
      quiet_step ((intro _; rfl))
      quiet_step ((intro _; rfl))
      quiet_step ((intro _; rfl))
      quiet_step ((intro _; rfl))
      refine wpQuiet_load_mid rfl 90 _ rfl g (5 * q) rfl #[.int .i64 yi, .int .i64 yk] _ (fun W hW => by obtain ⟨d', rfl⟩ := hW; exact HPJ.out _ (below_drewN' (Below.refl w.heap.size w) d')) Try.underlying90 rfl Try.size_place ?_
      quiet_step ((intro _; rfl))
      quiet_step ((intro _; rfl))
      quiet_step ((intro _; rfl))
      quiet_step ((intro _; rfl))
      refine wpQuiet_load_mid rfl 90 _ rfl g (5 * c) rfl #[.int .i64 x0.i, .int .i64 x0.k] _ (fun W hW => by obtain ⟨d', rfl⟩ := hW; exact HP0.out _ (below_drewN' (Below.refl w.heap.size w) d')) Try.underlying90 rfl Try.size_place ?_
      refine wpQuiet_value rfl (.bool (decide (yi = x0.i ∧ yk = x0.k))) (fun W _ => run_eq_place _ _ _ yi yk x0.i x0.k W rfl rfl _ rfl) ?_
      refine wpQuiet_nil ?_
      rintro W ⟨d', rfl⟩
      rw [HAT.out]
      by_cases hat : atC x0.i x0.k (bw j)
      · rw [decide_eq_true hat]
        have HR := hid (HRJ.out hat)
        clear hat
        go_wp2_with fail
        go_ret
        exact ⟨by rw [HR.out]; rfl, _, rfl⟩
      · rw [decide_eq_false hat]
        have HN := hid hat
        have hnx := HNX.out (w.drewN d') (below_drewN' (Below.refl w.heap.size w) d')
        clear hat
        go_wp2_with fail
        go_roundg gk
        case rel => exact ⟨j + 1, by omega, by omega, HNV2.out.symm, hid (fun a h1 h2 => by
          by_cases haj : a = j
          · rw [haj]; exact HN.out
          · exact HNO.out a h1 (by omega)), _, rfl⟩
        case measure => exact Nat.lt_succ_self _

set_option maxRecDepth 100000 in
set_option maxHeartbeats 2000000 in
theorem selfAt_any (n m g N c : Nat) (ls : List UInt8) (w : World) (hl : ls.length = 25) (hn : n ≤ 5) (hm : m ≤ 5) (hN : 4 * (n * m) = N) (hc : c < n * m) (hs : StepsM w g n m (lett m ls) (fun _ => True) N) :
    Calls Try.prog 85 #[.agg (chartC (gcells n m ls) g N), .agg #[.int .i64 (placeN m c).i, .int .i64 (placeN m c).k]] w fun e w' => e = .returned (.bool (selfB n m (lett m ls) (placeN m c).i (placeN m c).k)) ∧ Below w.heap.size w w' := by
  have h25 : n * m ≤ 25 := Nat.mul_le_mul hn hm
  have hN100 : N ≤ 100 := by omega
  have hx := placeN_in hc
  have hd0 : (placeN m c).d < 4 := Nat.zero_lt_succ 3
  have hz := gcells_size (n := n) (m := m) hl
  have HCS := hid (show (Try.prog.info? 109).map (·.size) = some (chartC (gcells n m ls) g N).size by rw [chartC_size hz]; exact Try.size_chart)
  have HST := hid (fun W => step_way n m g N ls (placeN m c) W hl hn hm hx hd0 hN)
  have hq : wcode m (placeN m c) < N := by rw [← hN]; exact wcode_lt hx hd0
  have hq2 : wcode m (rev (lett m ls) (placeN m c)) < N := by rw [← hN]; exact wcode_lt (rev_in.2 hx) (rev_d _)
  have HR1 := hid (fun W (hs' : StepsM W g n m (lett m ls) (fun _ => True) N) => returns_any n m g N (wcode m (placeN m c)) (lett m ls) W hN hN100 hq hs')
  have HR2 := hid (fun W (hs' : StepsM W g n m (lett m ls) (fun _ => True) N) => returns_any n m g N (wcode m (rev (lett m ls) (placeN m c))) (lett m ls) W hN hN100 hq2 hs')
  have HBK := hid (fun W (hs' : StepsM W g n m (lett m ls) (fun _ => True) N) => hs'.back (c := wcode m (placeN m c)) hq)
  rw [wayN_code hx hd0] at HR1 HBK
  rw [wayN_code (rev_in.2 hx) (rev_d _)] at HR2
  have hsb : selfB n m (lett m ls) (placeN m c).i (placeN m c).k = (retB n m (lett m ls) (placeN m c).i (placeN m c).k (placeN m c) || retB n m (lett m ls) (placeN m c).i (placeN m c).k (rev (lett m ls) (placeN m c))) := rfl
  rw [hsb]
  have HR2' := hid (show ∀ W, StepsM W g n m (lett m ls) (fun _ => True) N → Calls Try.prog 105 #[.pointer (some ⟨g, 5 * wcode m (rev (lett m ls) (placeN m c)), none⟩)] W fun e w' => e = .returned (.bool (retB n m (lett m ls) (placeN m c).i (placeN m c).k (rev (lett m ls) (placeN m c)))) ∧ ∃ d, w' = W.drewN d from HR2.out)
  have HS := hid hs
  have HWV := hid (show wayV (placeN m c) = .agg #[.int .i64 (placeN m c).i, .int .i64 (placeN m c).k, .int .i64 0] from rfl)
  rw [HWV.out] at HST
  generalize retB n m (lett m ls) (placeN m c).i (placeN m c).k (placeN m c) = r1 at *
  generalize retB n m (lett m ls) (placeN m c).i (placeN m c).k (rev (lett m ls) (placeN m c)) = r2 at *
  generalize wcode m (placeN m c) = q1 at *
  generalize wcode m (rev (lett m ls) (placeN m c)) = q2 at *
  generalize (placeN m c).i = xi at *
  generalize (placeN m c).k = xk at *
  generalize lett m ls = t at *
  generalize chartC (gcells n m ls) g N = cc at *
  have F0 := heap_new1 w (.cells cc 109) (.cells #[.int .i64 xi, .int .i64 xk] 90)
  have FB : Below w.heap.size w ((w.alloc (.cells cc 109)).alloc (.cells #[.int .i64 xi, .int .i64 xk] 90)) := ((Below.refl _ w).alloc (Nat.le_refl _) _).alloc (by simp) _
  have G0 := hid F0
  have GB := hid FB
  clear F0 FB hs hz hsb hl hn hm hN hc hx hd0 hq hq2 h25 HR2 HWV
  go_enter Try.func85, Try.ntmps85
  go_wp2_with (refine wpList_load_row_gA (by rfl) 109 _ rfl w.heap.size rfl 109 cc (0, 0) _ G0.out Try.underlying109 rfl HCS.out ?_)
  generalize World.alloc (World.alloc w _) _ = W0 at *
  refine (HST.out _).mono ?_
  rintro e w1 ⟨rfl, hb1⟩
  have HB1 := hid (GB.out.trans (hb1.mono GB.out.size))
  have HS1 := hid (HS.out.below HB1.out)
  have hbk := HBK.out w1 HS1.out
  clear hb1
  go_wp2_with fail
  refine (HR1.out w1 HS1.out).mono ?_
  rintro e w2 ⟨rfl, d, rfl⟩
  have HB2 := hid (below_drewN' HB1.out d)
  cases r1 with
  | true =>
    go_wp2_with fail
    go_ret
    exact ⟨rfl, HB2.out⟩
  | false =>
    have hbk2 := HBK.out (w1.drewN d) (HS.out.below HB2.out)
    clear hbk
    go_wp2_with fail
    refine (HR2'.out (w1.drewN d) (HS.out.below HB2.out)).mono ?_
    rintro e w3 ⟨rfl, d2, rfl⟩
    go_wp2_with fail
    go_ret
    exact ⟨rfl, below_drewN' HB1.out _⟩

/-- A cell, and a bool. -/
def SelfOut (ss : List ByteArray) (cell : Int) (ok : Bool) : Prop :=
  (∃ n m c, CellIn ss cell n m c ∧ ok = selfB n m (lett m (pad (flat ss))) (placeN m c).i (placeN m c).k) ∨ ((∀ n m c, ¬ CellIn ss cell n m c) ∧ ok = false)
theorem SelfOut.uniq {ss : List ByteArray} {cell : Int} {ok ok' : Bool} (h : SelfOut ss cell ok) (h' : SelfOut ss cell ok') : ok' = ok := by
  rcases h with ⟨n, m, c, h1, rfl⟩ | ⟨h1, rfl⟩ <;> rcases h' with ⟨n', m', c', h1', rfl⟩ | ⟨h1', rfl⟩
  · obtain ⟨rfl, rfl, rfl⟩ := h1.uniq h1'
    rfl
  · exact absurd h1 (h1' _ _ _)
  · exact absurd h1' (h1 _ _ _)
  · rfl
/-- What the operations of the program's last statement hand back. -/
def selfIRel (n m c N : Nat) (ls : List UInt8) (i : Nat) (v : Value) (W : World) : Prop :=
  match i with
  | 0 => v = .bool true
  | 1 => v = .bool true
  | 2 => v = .agg (gcells n m ls)
  | 3 => ∃ g, v = .agg (chartC (gcells n m ls) g N) ∧ StepsM W g n m (lett m ls) (fun _ => True) N
  | 4 => v = .agg #[.int .i64 (placeN m c).i, .int .i64 (placeN m c).k]
  | 5 => v = .bool (selfB n m (lett m ls) (placeN m c).i (placeN m c).k)
  | 6 => v = .bool (selfB n m (lett m ls) (placeN m c).i (placeN m c).k)
  | 7 => v = .bool (selfB n m (lett m ls) (placeN m c).i (placeN m c).k)
  | _ => True

end Go.Proofs.Ytagnecclhmbofaa
