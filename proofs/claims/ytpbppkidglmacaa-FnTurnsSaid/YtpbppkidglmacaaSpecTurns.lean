/- BeamTurns and BeamFirst of the specification, by their contracts. -/
import Derived.Test.YtpbppkidglmacaaBeamOut
import Derived.Test.YtpbppkidglmacaaBunD
namespace Go.Proofs.Ytpbppkidglmacaa
open Go.RowKit Go.Shelf

/-- The first k ways with a mirror. -/
def turnsTo (t : Int → Int → UInt8) (bw : Nat → Wy) (k : Nat) : Nat := (List.range k).countP (mirrorAt t bw)
theorem turnsTo_succ (t : Int → Int → UInt8) (bw : Nat → Wy) (k : Nat) : turnsTo t bw (k + 1) = turnsTo t bw k + (if mirrorAt t bw k = true then 1 else 0) := by
  unfold turnsTo
  rw [List.range_succ, List.countP_append, List.countP_cons, List.countP_nil, Nat.zero_add]
theorem turnsTo_le (t : Int → Int → UInt8) (bw : Nat → Wy) (k : Nat) : turnsTo t bw k ≤ k := by
  have := List.countP_le_length (p := mirrorAt t bw) (l := List.range k)
  rwa [List.length_range] at this
def TurnRel (t : Int → Int → UInt8) (bw : Nat → Wy) (L : Nat) (w : World) (n i : Value) (wr : World) : Prop :=
  ∃ k : Nat, k ≤ L ∧ n = .int .i64 ((turnsTo t bw k : Nat) : Int) ∧ i = .int .i64 k ∧ ∃ d, wr = w.drewN d
def FirstRel (t : Int → Int → UInt8) (bw : Nat → Wy) (L : Nat) (w : World) (i : Value) (wr : World) : Prop :=
  ∃ k : Nat, k ≤ L ∧ i = .int .i64 k ∧ (∀ j, j < k → mirrorAt t bw j = false) ∧ ∃ d, wr = w.drewN d

theorem cellsI_atT {m L k : Nat} {bw : Nat → Wy} (h : k < L) : (cellsI m bw L)[k]? = some ((cellN m (bw k) : Nat) : Int) := by simp [cellsI, h]

set_option maxRecDepth 100000 in
set_option maxHeartbeats 2000000 in
theorem specBeamTurns_any (A : Option Addr) (c B : Nat) (ss : List ByteArray) (p : Int) (w : World) (h : Strs w B A ss) (hB : B ≤ w.heap.size) (hn : ss.length ≤ 1048576) (hs : ∀ s ∈ ss, s.size ≤ 1048576) :
    Calls Try.prog 29 #[.slice A ss.length c, .int .i64 p] w fun e w' => Below w.heap.size w w' ∧ ∃ x ok, e = .returned (.tuple #[.int .i64 x, .bool ok]) ∧ BeamOut turnsR ss p x ok := by
  have HI := hid (l2Given_any A c B ss p w h hn hs)
  have HD := hid h
  clear h hs
  go_enter Try.func29, Try.ntmps29
  go_wp2_with fail
  refine HI.out.mono ?_
  rintro e w' ⟨ok, rfl, hok, d, rfl⟩
  have HBd := hid (below_drewN' (Below.refl w.heap.size w) d)
  rcases hok with ⟨rfl, n, m, q, hq⟩ | ⟨rfl, hno⟩
  · obtain rfl := hq.2.1
    have hg := hq.1
    have c1 := hid (l2Way_port A c B n m q ss (w.drewN d) (HD.out.drewN d) hB hg hq.2.2)
    have hL100 : blen n m (lett m (pad (flat ss))) q ≤ 100 := by
      have h1 := blen_lt (t := lett m (pad (flat ss))) hq.2.2
      have h2 := hg.le25
      omega
    have HCell := hid (show ∀ j w', j < blen n m (lett m (pad (flat ss))) q → Strs w' B A ss → Calls Try.prog 60 #[.slice A ss.length c, .int .i64 ((cellN m (bway n m (lett m (pad (flat ss))) q j) : Nat) : Int)] w' fun e w'' => e = .returned (.int .u8 (lett m (pad (flat ss)) (bway n m (lett m (pad (flat ss))) q j).i (bway n m (lett m (pad (flat ss))) q j).k).toNat) ∧ ∃ d, w'' = w'.drewN d from
      fun j w' hj hst => l2Cell_any A c B n m _ ss _ w' hst hg (cellN_lt (blen_in hj)) (lett_flat hg (blen_in hj)))
    have HR := hid (show ((((turnsTo (lett m (pad (flat ss))) (bway n m (lett m (pad (flat ss))) q) (blen n m (lett m (pad (flat ss))) q)) : Nat) : Int), true) = turnsR n m (lett m (pad (flat ss))) q from rfl)
    have HQ := hid hq
    clear hq hg
    go_wp2_with fail
    refine c1.out.mono ?_
    generalize bway n m (lett m (pad (flat ss))) q = bw at HCell HR
    generalize blen n m (lett m (pad (flat ss))) q = L at HCell HR hL100
    rintro e w1 ⟨v, v', rfl, hv, _, hb1⟩
    obtain ⟨A1, cc, rfl, hint⟩ := hv.ints
    rw [cellsI_length]
    have HB1 := hid (HBd.out.trans hb1)
    have HS1 := hid ((HD.out.drewN d).below hb1 hB)
    have HIn := hid hint
    clear hb1 hv hint
    go_wp2_with fail
    go_loopw [6, 10] (TurnRel (lett m (pad (flat ss))) bw L w1) (fun _ i _ => L - (intOf i).toNat)
    case atStart => exact ⟨0, Nat.zero_le _, rfl, rfl, 0, rfl⟩
    case round =>
      obtain ⟨k, hk, rfl, rfl, d2, rfl⟩ := hrel
      have hle := turnsTo_le (lett m (pad (flat ss))) bw k
      have hsuc := turnsTo_succ (lett m (pad (flat ss))) bw k
      obtain ⟨tk, htk⟩ : ∃ tk, turnsTo (lett m (pad (flat ss))) bw k = tk := ⟨_, rfl⟩
      rw [htk] at hle hsuc ⊢
      by_cases hlt : k < L
      · obtain ⟨b, off, x, rfl, hb, hx, hcx⟩ := HIn.out.at_ (k := k) (by rw [cellsI_length]; exact hlt)
        rw [cellsI_atT hlt] at hx
        obtain rfl := Option.some.inj hx
        have hcd : (w1.drewN d2).cell? ⟨b, off + k, none⟩ = some (.int .i64 ((cellN m (bw k) : Nat) : Int)) := hcx
        have hcall := hid (HCell.out k (w1.drewN d2) hlt (HS1.out.drewN d2))
        have hbn := byte_bne (lett m (pad (flat ss)) (bw k).i (bw k).k)
        have hmi : mirrorAt (lett m (pad (flat ss))) bw k = (lett m (pad (flat ss)) (bw k).i (bw k).k != 46) := rfl
        rw [hmi] at hsuc
        generalize lett m (pad (flat ss)) (bw k).i (bw k).k = bt at hcall hbn hsuc
        clear hx hcx hmi htk
        obtain ⟨bv, hbv⟩ : ∃ bv : Int, (bt.toNat : Int) = bv := ⟨_, rfl⟩
        rw [hbv] at hcall hbn
        have HSU := hid hsuc
        clear hbv hsuc
        go_wp2_with fail
        refine hcall.out.mono ?_
        rintro e w3 ⟨rfl, d3, rfl⟩
        cases hb46 : (bt != 46) with
        | true =>
          rw [hb46] at hbn
          have HSX := hid (show turnsTo (lett m (pad (flat ss))) bw (k + 1) = tk + 1 by rw [HSU.out, if_pos hb46])
          clear hb46
          go_wp2_with fail
          go_roundw
          case rel => exact ⟨k + 1, by omega, by rw [HSX.out]; go_num, by go_num, d2 + d3, rfl⟩
          case measure => simp [intOf]; omega
        | false =>
          rw [hb46] at hbn
          have HSX := hid (show turnsTo (lett m (pad (flat ss))) bw (k + 1) = tk by rw [HSU.out, if_neg (by rw [hb46]; decide), Nat.add_zero])
          clear hb46
          go_wp2_with fail
          go_roundw
          case rel => exact ⟨k + 1, by omega, by rw [HSX.out], by go_num, d2 + d3, rfl⟩
          case measure => simp [intOf]; omega
      · obtain rfl : k = L := by omega
        have HTK := hid htk
        clear htk hsuc
        go_wp2_with fail
        refine bodyPost_ret (results_tmp2 rfl _ _ _) rfl ?_
        refine ⟨below_drewN' HB1.out d2, _, true, rfl, .inl ⟨n, m, q, HQ.out, ?_⟩⟩
        rw [← HR.out, HTK.out]
  · have HNo := hid hno
    clear hno
    go_wp2_with fail
    refine bodyPost_ret (results_tmp2 rfl _ _ _) rfl ?_
    exact ⟨HBd.out, 0, false, rfl, .inr ⟨HNo.out, rfl, rfl⟩⟩

set_option maxRecDepth 100000 in
set_option maxHeartbeats 2000000 in
theorem specBeamFirst_any (A : Option Addr) (c B : Nat) (ss : List ByteArray) (p : Int) (w : World) (h : Strs w B A ss) (hB : B ≤ w.heap.size) (hn : ss.length ≤ 1048576) (hs : ∀ s ∈ ss, s.size ≤ 1048576) :
    Calls Try.prog 45 #[.slice A ss.length c, .int .i64 p] w fun e w' => Below w.heap.size w w' ∧ ∃ x ok, e = .returned (.tuple #[.int .i64 x, .bool ok]) ∧ BeamOut firstR ss p x ok := by
  have HI := hid (l2Given_any A c B ss p w h hn hs)
  have HD := hid h
  clear h hs
  go_enter Try.func45, Try.ntmps45
  go_wp2_with fail
  refine HI.out.mono ?_
  rintro e w' ⟨ok, rfl, hok, d, rfl⟩
  have HBd := hid (below_drewN' (Below.refl w.heap.size w) d)
  rcases hok with ⟨rfl, n, m, q, hq⟩ | ⟨rfl, hno⟩
  · obtain rfl := hq.2.1
    have hg := hq.1
    have c1 := hid (l2Way_port A c B n m q ss (w.drewN d) (HD.out.drewN d) hB hg hq.2.2)
    have hL100 : blen n m (lett m (pad (flat ss))) q ≤ 100 := by
      have h1 := blen_lt (t := lett m (pad (flat ss))) hq.2.2
      have h2 := hg.le25
      omega
    have HCell := hid (show ∀ j w', j < blen n m (lett m (pad (flat ss))) q → Strs w' B A ss → Calls Try.prog 60 #[.slice A ss.length c, .int .i64 ((cellN m (bway n m (lett m (pad (flat ss))) q j) : Nat) : Int)] w' fun e w'' => e = .returned (.int .u8 (lett m (pad (flat ss)) (bway n m (lett m (pad (flat ss))) q j).i (bway n m (lett m (pad (flat ss))) q j).k).toNat) ∧ ∃ d, w'' = w'.drewN d from
      fun j w' hj hst => l2Cell_any A c B n m _ ss _ w' hst hg (cellN_lt (blen_in hj)) (lett_flat hg (blen_in hj)))
    have HR := hid (show (match (List.range (blen n m (lett m (pad (flat ss))) q)).find? (mirrorAt (lett m (pad (flat ss))) (bway n m (lett m (pad (flat ss))) q)) with
      | some j => (((cellN m (bway n m (lett m (pad (flat ss))) q j) : Nat) : Int), true)
      | none => (0, false)) = firstR n m (lett m (pad (flat ss))) q from rfl)
    have HQ := hid hq
    clear hq hg
    go_wp2_with fail
    refine c1.out.mono ?_
    generalize bway n m (lett m (pad (flat ss))) q = bw at HCell HR
    generalize blen n m (lett m (pad (flat ss))) q = L at HCell HR hL100
    rintro e w1 ⟨v, v', rfl, hv, _, hb1⟩
    obtain ⟨A1, cc, rfl, hint⟩ := hv.ints
    rw [cellsI_length]
    have HB1 := hid (HBd.out.trans hb1)
    have HS1 := hid ((HD.out.drewN d).below hb1 hB)
    have HIn := hid hint
    clear hb1 hv hint
    go_wp2_with fail
    go_loopw [9] (FirstRel (lett m (pad (flat ss))) bw L w1) (fun i _ => L - (intOf i).toNat)
    case atStart => exact ⟨0, Nat.zero_le _, rfl, fun j hj => absurd hj (by omega), 0, rfl⟩
    case round =>
      obtain ⟨k, hk, rfl, hno, d2, rfl⟩ := hrel
      have HNO := hid hno
      clear hno
      by_cases hlt : k < L
      · obtain ⟨b, off, x, rfl, hb, hx, hcx⟩ := HIn.out.at_ (k := k) (by rw [cellsI_length]; exact hlt)
        rw [cellsI_atT hlt] at hx
        obtain rfl := Option.some.inj hx
        have hcd : (w1.drewN d2).cell? ⟨b, off + k, none⟩ = some (.int .i64 ((cellN m (bw k) : Nat) : Int)) := hcx
        have hcall := hid (HCell.out k (w1.drewN d2) hlt (HS1.out.drewN d2))
        have hbn := byte_bne (lett m (pad (flat ss)) (bw k).i (bw k).k)
        have hmi : mirrorAt (lett m (pad (flat ss))) bw k = (lett m (pad (flat ss)) (bw k).i (bw k).k != 46) := rfl
        generalize lett m (pad (flat ss)) (bw k).i (bw k).k = bt at hcall hbn hmi
        have HCX := hid hcx
        clear hx hcx
        obtain ⟨bv, hbv⟩ : ∃ bv : Int, (bt.toNat : Int) = bv := ⟨_, rfl⟩
        rw [hbv] at hcall hbn
        have HMI := hid hmi
        clear hbv hmi
        go_wp2_with fail
        refine hcall.out.mono ?_
        rintro e w3 ⟨rfl, d3, rfl⟩
        have hcd4 : (w1.drewN (d2 + d3)).cell? ⟨b, off + k, none⟩ = some (.int .i64 ((cellN m (bw k) : Nat) : Int)) := HCX.out
        cases hb46 : (bt != 46) with
        | true =>
          rw [hb46] at hbn
          have HF := hid (show (List.range L).find? (mirrorAt (lett m (pad (flat ss))) bw) = some k from List.find?_range_eq_some.2 ⟨by rw [HMI.out]; exact hb46, List.mem_range.2 hlt, fun j hj => by rw [HNO.out j hj]; rfl⟩)
          clear hb46
          go_wp2_with fail
          refine bodyPost_ret (results_tmp2 rfl _ _ _) rfl ?_
          refine ⟨below_drewN' HB1.out (d2 + d3), _, true, rfl, .inl ⟨n, m, q, HQ.out, ?_⟩⟩
          rw [← HR.out, HF.out]
        | false =>
          rw [hb46] at hbn
          have HNX := hid (show ∀ j, j < k + 1 → mirrorAt (lett m (pad (flat ss))) bw j = false from fun j hj => by
            by_cases hjk : j < k
            · exact HNO.out j hjk
            · obtain rfl : j = k := by omega
              rw [HMI.out]; exact hb46)
          clear hb46
          go_wp2_with fail
          go_roundw
          case rel => exact ⟨k + 1, by omega, by go_num, HNX.out, d2 + d3, rfl⟩
          case measure => simp [intOf]; omega
      · obtain rfl : k = L := by omega
        have HF := hid (show (List.range k).find? (mirrorAt (lett m (pad (flat ss))) bw) = none from List.find?_eq_none.2 (fun j hj => by rw [HNO.out j (List.mem_range.1 hj)]; decide))
        go_wp2_with fail
        refine bodyPost_ret (results_tmp2 rfl _ _ _) rfl ?_
        refine ⟨below_drewN' HB1.out d2, _, false, rfl, .inl ⟨n, m, q, HQ.out, ?_⟩⟩
        rw [← HR.out, HF.out]
  · have HNo := hid hno
    clear hno
    go_wp2_with fail
    refine bodyPost_ret (results_tmp2 rfl _ _ _) rfl ?_
    exact ⟨HBd.out, 0, false, rfl, .inr ⟨HNo.out, rfl, rfl⟩⟩


end Go.Proofs.Ytpbppkidglmacaa
