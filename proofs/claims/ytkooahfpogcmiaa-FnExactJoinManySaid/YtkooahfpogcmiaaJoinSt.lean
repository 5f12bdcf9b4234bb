/- JoinFlip, JoinTurn of the specification, by their contracts. -/
import Derived.Test.YtkooahfpogcmiaaJoinS
namespace Go.Proofs.Ytkooahfpogcmiaa
open Go.RowKit Go.Shelf

/-- The first numbers. -/
def numsI (f : Nat → Nat) (k : Nat) : List Int := (List.range k).map fun q => ((f q : Nat) : Int)
theorem numsI_length (f : Nat → Nat) (k : Nat) : (numsI f k).length = k := by simp [numsI]
theorem numsI_at {f : Nat → Nat} {k q : Nat} (h : q < k) : (numsI f k)[q]? = some ((f q : Nat) : Int) := by simp [numsI, h]
theorem numsI_succ (f : Nat → Nat) (k : Nat) : numsI f (k + 1) = numsI f k ++ [((f k : Nat) : Int)] := by simp [numsI, List.range_succ]

/-- Ports with numbers k greater. -/
def spinF (p k i : Nat) : Nat := (i + k) % p
def spinG (p k j : Nat) : Nat := (j + (p - k % p)) % p
set_option maxRecDepth 100000 in
set_option maxHeartbeats 4000000 in
theorem specJoinFlip_any (n m : Int) (A : Option Addr) (c B : Nat) (l : List Int) (w : World) (h : Ints w B A l) (hB : B ≤ w.heap.size) (hn : l.length ≤ 1048576) :
    Calls Try.prog 23 #[.int .i64 n, .int .i64 m, .slice A l.length c] w fun e w' => Below w.heap.size w w' ∧ ∃ A' c' res ok, e = .returned (.tuple #[.slice A' res.length c', .bool ok]) ∧ LOut (PairOf n m l) (flipL l m.toNat) res ok ∧ Ints w' w'.heap.size A' res := by
  have H := hid (fun W (hh : Ints W B A l) => l6jOf_any n m A c B l W hh hn)
  have HI := hid h
  have HBW := hid hB
  obtain ⟨P, hP⟩ : ∃ P, l.length = P := ⟨_, rfl⟩
  clear h hB
  by_cases hp : PairOf n m l
  · have ha := hp.1
    have hb := hp.2.1
    have hll := hp.2.2.2
    obtain ⟨a, rfl⟩ : ∃ a : Nat, n = (a : Int) := ⟨n.toNat, by omega⟩
    obtain ⟨b, rfl⟩ : ∃ b : Nat, m = (b : Int) := ⟨m.toNat, by omega⟩
    have HD := hid hp
    rw [pairOfB_true hp, hP] at H
    have h20 : P ≤ 20 := by rw [← hP]; exact hp.2.2.1.2.1
    have hb1 : 1 ≤ b := by omega
    have hb5 : b ≤ 5 := by omega
    have hbl : b ≤ P := by omega
    have hP4 : 4 ≤ P := by omega
    have HMP := hid (show ∀ A2 c2 W, Ints W W.heap.size A l → Ints W W.heap.size A2 (numsI (flipN P b) P) → Calls Try.prog 47 #[.slice A P c, .slice A2 P c2] W fun e w' => e = .returned (.slice (some ⟨W.heap.size, 0, none⟩) P P) ∧ Below W.heap.size W w' ∧ Row8 w' W.heap.size (flipL l b) from fun A2 c2 W h1 h2 => by
      have := l6jMap_any A A2 c c2 W.heap.size l (numsI (flipN P b) P) P (flipN P b) (flipN P b) (mateN l) W h1 h2 (Nat.le_refl _) hP (numsI_length _ _) h20 (fun q hq => by rw [← hP] at hq ⊢; exact ⟨(hp.2.2.1.mates hq).1, (hp.2.2.1.mates hq).2.2.1⟩) (fun q hq => numsI_at hq) (flipN_names hbl hb1)
      rw [numsI_length, hP, show listS P (renS (flipN P b) (flipN P b) (mateN l)) = flipL l b by unfold flipL; rw [hP]] at this
      exact this)
    have HLEN := hid ((flipL_length l b).trans hP)
    have HFR := hid (show flipL l (b : Int).toNat = flipL l b by rw [Int.toNat_natCast])
    have HNS := hid (numsI_succ (flipN P b))
    have HNL := hid (numsI_length (flipN P b))
    rw [hP]
    generalize flipL l b = FR at *
    generalize hNI : numsI (flipN P b) = NI at *
    have HNI := hid hNI
    have HPP := hid hP
    have hPz : ¬ P = 0 := by omega
    have hmi : (b : Int) ≤ 5 := by omega
    have hmi1 : 1 ≤ (b : Int) := by omega
    have hPi : (P : Int) ≤ 20 := by omega
    have hPi4 : 4 ≤ (P : Int) := by omega
    have hPz2 : ((P : Int) == 0) = false := by simp; omega
    have N0 := hid (show NI 0 = [] by rw [← hNI]; rfl)
    have HG0 := hid (growI_new w w.heap.size (Nat.le_refl _))
    have HB0 := hid ((Below.refl w.heap.size w).alloc (Nat.le_refl _) (.cells #[] 3))
    rw [← N0.out] at HG0
    clear hp hP hNI hll ha hb
    go_enter Try.func23, Try.ntmps23
    go_wp2_with fail
    refine (H.out _ HI.out).mono ?_
    rintro e w1 ⟨rfl, d, rfl⟩
    have HI1 := hid (HI.out.drewN d)
    have HG1 := hid (growI_new (w.drewN d) w.heap.size (Nat.le_refl _))
    have HB1 := hid ((below_drewN' (Below.refl w.heap.size w) d).alloc (show w.heap.size ≤ (w.drewN d).heap.size from Nat.le_refl _) (.cells #[] 3))
    rw [← N0.out] at HG1
    go_wp2_with fail
    generalize World.alloc (w.drewN d) _ = Y at HG1 HB1 ⊢
    rw [show (w.drewN d).heap.size = w.heap.size from rfl] at HG1
    go_loopw [9, 10] (fun (v i : Value) (wr : World) => ∃ k : Nat, k ≤ P ∧ i = .int .i64 k ∧ GrowI wr w.heap.size v (NI k) ∧ Below w.heap.size w wr) (fun _ i _ => P - (intOf i).toNat)
    case atStart => exact ⟨0, by omega, rfl, HG1.out, HB1.out⟩
    case round =>
      obtain ⟨k, hk, rfl, hg, hb⟩ := hrel
      have HG := hid hg
      have HB := hid hb
      clear hg hb
      by_cases hlt : k < P
      · have hki : (k : Int) < (P : Int) := by omega
        have hki0 : (0 : Int) ≤ (k : Int) := by omega
        obtain ⟨z, hz⟩ : ∃ z, flipN P b k = z := ⟨_, rfl⟩
        have HZ := hid (show ((b : Int) - 1 - (k : Int)) % (P : Int) = (z : Int) by
          have e : ((b : Int) - 1 - (k : Int) + (P : Int)) % (P : Int) = (z : Int) := by
            rw [show (b : Int) - 1 - (k : Int) + (P : Int) = ((P + b - 1 - k : Nat) : Int) by omega, ← hz]
            rfl
          simpa using e)
        have HS := hid (show NI (k + 1) = NI k ++ [(z : Int)] by rw [HNS.out, hz])
        have HL := hid (HNL.out k)
        have hs0 : 0 ≤ (b : Int) - 1 - (k : Int) + (P : Int) := by omega
        clear hz
        go_wp2_with (first
          | (at_builtin; refine wpList_appendI rfl _ _ rfl w.heap.size u9 (NI k) rfl (World.ownsRow.alloc HG.out _) _ 1 rfl (z : Int) ?c1 ?c3 (Nat.le_trans HB.out.size (by simp)) ?_))
        case c1 => rw [← HZ.out]; exact cell_newI _ _
        case c3 => have := HL.out; omega
        intro v3 w3 hgr3 hgw3 _
        have HG3 := hid (hgr3)
        have HB3 := hid ((HB.out.alloc HB.out.size _).grown hgw3 (Nat.le_trans HB.out.size (by simp)) (fun k e => (World.ownsRow.lt HG.out k e).1))
        rw [← HS.out] at HG3
        clear hgr3 hgw3
        go_wp2_with fail
        go_roundw
        case rel => exact ⟨k + 1, by omega, by go_num, HG3.out, HB3.out⟩
        case measure => simp [intOf]; omega
      · obtain rfl : k = P := by omega
        obtain ⟨A2, c2, rfl, hints⟩ := HG.out.ints
        rw [HNL.out]
        have HIT := hid hints
        have HIL := hid ((HI.out.below HB.out HBW.out).more (Nat.le_trans HBW.out HB.out.size))
        clear hints
        go_wp2_with fail
        refine (HMP.out A2 c2 _ HIL.out HIT.out).mono ?_
        rintro e w2 ⟨rfl, hb2, hr2⟩
        have HR2 := hid (hr2.ints hr2.lt)
        have HB2 := hid (HB.out.trans (hb2.mono HB.out.size))
        clear hb2 hr2
        go_wp2_with fail
        refine bodyPost_ret (results_tmp2 rfl _ _ _) rfl ?_
        exact ⟨HB2.out, some ⟨wr.heap.size, 0, none⟩, k, FR, true, by rw [HLEN.out]; rfl, .inl ⟨HD.out, HFR.out.symm, rfl⟩, HR2.out⟩
  · rw [pairOfB_false hp] at H
    have HNo := hid hp
    clear hp hP
    go_enter Try.func23, Try.ntmps23
    go_wp2_with fail
    refine (H.out _ HI.out).mono ?_
    rintro e w1 ⟨rfl, d, rfl⟩
    go_wp2_with fail
    refine bodyPost_ret (results_tmp2 rfl _ _ _) rfl ?_
    exact ⟨(below_drewN' (Below.refl _ _) d).alloc (Nat.le_refl _) _, _, _, [], false, rfl, .inr ⟨HNo.out, rfl, rfl⟩, fun h => absurd h (by simp)⟩
set_option maxRecDepth 100000 in
set_option maxHeartbeats 4000000 in
theorem specJoinTurn_any (n m : Int) (A : Option Addr) (c B : Nat) (l : List Int) (w : World) (h : Ints w B A l) (hB : B ≤ w.heap.size) (hn : l.length ≤ 1048576) :
    Calls Try.prog 25 #[.int .i64 n, .int .i64 m, .slice A l.length c] w fun e w' => Below w.heap.size w w' ∧ ∃ A' c' res ok, e = .returned (.tuple #[.slice A' res.length c', .bool ok]) ∧ LOut (PairOf n m l) (turnL l n.toNat) res ok ∧ Ints w' w'.heap.size A' res := by
  have H := hid (fun W (hh : Ints W B A l) => l6jOf_any n m A c B l W hh hn)
  have HI := hid h
  have HBW := hid hB
  obtain ⟨P, hP⟩ : ∃ P, l.length = P := ⟨_, rfl⟩
  clear h hB
  by_cases hp : PairOf n m l
  · have ha := hp.1
    have hb := hp.2.1
    have hll := hp.2.2.2
    obtain ⟨a, rfl⟩ : ∃ a : Nat, n = (a : Int) := ⟨n.toNat, by omega⟩
    obtain ⟨b, rfl⟩ : ∃ b : Nat, m = (b : Int) := ⟨m.toNat, by omega⟩
    have HD := hid hp
    rw [pairOfB_true hp, hP] at H
    have h20 : P ≤ 20 := by rw [← hP]; exact hp.2.2.1.2.1
    have hP4 : 4 ≤ P := by omega
    have HMP := hid (show ∀ A2 c2 W, Ints W W.heap.size A l → Ints W W.heap.size A2 (numsI (spinF P a) P) → Calls Try.prog 47 #[.slice A P c, .slice A2 P c2] W fun e w' => e = .returned (.slice (some ⟨W.heap.size, 0, none⟩) P P) ∧ Below W.heap.size W w' ∧ Row8 w' W.heap.size (turnL l a) from fun A2 c2 W h1 h2 => by
      have := l6jMap_any A A2 c c2 W.heap.size l (numsI (spinF P a) P) P (spinF P a) (spinG P a) (mateN l) W h1 h2 (Nat.le_refl _) hP (numsI_length _ _) h20 (fun q hq => by rw [← hP] at hq ⊢; exact ⟨(hp.2.2.1.mates hq).1, (hp.2.2.1.mates hq).2.2.1⟩) (fun q hq => numsI_at hq) turn_names
      rw [numsI_length, hP, show listS P (renS (spinF P a) (spinG P a) (mateN l)) = turnL l a by rw [turnL_ren, hP]; rfl] at this
      exact this)
    have HLEN := hid ((turnL_length l a).trans hP)
    have HFR := hid (show turnL l (a : Int).toNat = turnL l a by rw [Int.toNat_natCast])
    have HNS := hid (numsI_succ (spinF P a))
    have HNL := hid (numsI_length (spinF P a))
    rw [hP]
    generalize turnL l a = FR at *
    generalize hNI : numsI (spinF P a) = NI at *
    have HNI := hid hNI
    have HPP := hid hP
    have hPz : ¬ P = 0 := by omega
    have hmi : (a : Int) ≤ 5 := by omega
    have hmi1 : 1 ≤ (a : Int) := by omega
    have hPi : (P : Int) ≤ 20 := by omega
    have hPi4 : 4 ≤ (P : Int) := by omega
    have hPz2 : ((P : Int) == 0) = false := by simp; omega
    have N0 := hid (show NI 0 = [] by rw [← hNI]; rfl)
    have HG0 := hid (growI_new w w.heap.size (Nat.le_refl _))
    have HB0 := hid ((Below.refl w.heap.size w).alloc (Nat.le_refl _) (.cells #[] 3))
    rw [← N0.out] at HG0
    clear hp hP hNI hll ha hb
    go_enter Try.func25, Try.ntmps25
    go_wp2_with fail
    refine (H.out _ HI.out).mono ?_
    rintro e w1 ⟨rfl, d, rfl⟩
    have HI1 := hid (HI.out.drewN d)
    have HG1 := hid (growI_new (w.drewN d) w.heap.size (Nat.le_refl _))
    have HB1 := hid ((below_drewN' (Below.refl w.heap.size w) d).alloc (show w.heap.size ≤ (w.drewN d).heap.size from Nat.le_refl _) (.cells #[] 3))
    rw [← N0.out] at HG1
    go_wp2_with fail
    generalize World.alloc (w.drewN d) _ = Y at HG1 HB1 ⊢
    rw [show (w.drewN d).heap.size = w.heap.size from rfl] at HG1
    go_loopw [9, 10] (fun (v i : Value) (wr : World) => ∃ k : Nat, k ≤ P ∧ i = .int .i64 k ∧ GrowI wr w.heap.size v (NI k) ∧ Below w.heap.size w wr) (fun _ i _ => P - (intOf i).toNat)
    case atStart => exact ⟨0, by omega, rfl, HG1.out, HB1.out⟩
    case round =>
      obtain ⟨k, hk, rfl, hg, hb⟩ := hrel
      have HG := hid hg
      have HB := hid hb
      clear hg hb
      by_cases hlt : k < P
      · have hki : (k : Int) < (P : Int) := by omega
        have hki0 : (0 : Int) ≤ (k : Int) := by omega
        obtain ⟨z, hz⟩ : ∃ z, spinF P a k = z := ⟨_, rfl⟩
        have HZ := hid (show ((k : Int) + (a : Int)) % (P : Int) = (z : Int) by
          rw [← hz]
          rfl)
        have HS := hid (show NI (k + 1) = NI k ++ [(z : Int)] by rw [HNS.out, hz])
        have HL := hid (HNL.out k)
        have hs0 : 0 ≤ (k : Int) + (a : Int) := by omega
        clear hz
        go_wp2_with (first
          | (at_builtin; refine wpList_appendI rfl _ _ rfl w.heap.size u9 (NI k) rfl (World.ownsRow.alloc HG.out _) _ 1 rfl (z : Int) ?c1 ?c3 (Nat.le_trans HB.out.size (by simp)) ?_))
        case c1 => rw [← HZ.out]; exact cell_newI _ _
        case c3 => have := HL.out; omega
        intro v3 w3 hgr3 hgw3 _
        have HG3 := hid (hgr3)
        have HB3 := hid ((HB.out.alloc HB.out.size _).grown hgw3 (Nat.le_trans HB.out.size (by simp)) (fun k e => (World.ownsRow.lt HG.out k e).1))
        rw [← HS.out] at HG3
        clear hgr3 hgw3
        go_wp2_with fail
        go_roundw
        case rel => exact ⟨k + 1, by omega, by go_num, HG3.out, HB3.out⟩
        case measure => simp [intOf]; omega
      · obtain rfl : k = P := by omega
        obtain ⟨A2, c2, rfl, hints⟩ := HG.out.ints
        rw [HNL.out]
        have HIT := hid hints
        have HIL := hid ((HI.out.below HB.out HBW.out).more (Nat.le_trans HBW.out HB.out.size))
        clear hints
        go_wp2_with fail
        refine (HMP.out A2 c2 _ HIL.out HIT.out).mono ?_
        rintro e w2 ⟨rfl, hb2, hr2⟩
        have HR2 := hid (hr2.ints hr2.lt)
        have HB2 := hid (HB.out.trans (hb2.mono HB.out.size))
        clear hb2 hr2
        go_wp2_with fail
        refine bodyPost_ret (results_tmp2 rfl _ _ _) rfl ?_
        exact ⟨HB2.out, some ⟨wr.heap.size, 0, none⟩, k, FR, true, by rw [HLEN.out]; rfl, .inl ⟨HD.out, HFR.out.symm, rfl⟩, HR2.out⟩
  · rw [pairOfB_false hp] at H
    have HNo := hid hp
    clear hp hP
    go_enter Try.func25, Try.ntmps25
    go_wp2_with fail
    refine (H.out _ HI.out).mono ?_
    rintro e w1 ⟨rfl, d, rfl⟩
    go_wp2_with fail
    refine bodyPost_ret (results_tmp2 rfl _ _ _) rfl ?_
    exact ⟨(below_drewN' (Below.refl _ _) d).alloc (Nat.le_refl _) _, _, _, [], false, rfl, .inr ⟨HNo.out, rfl, rfl⟩, fun h => absurd h (by simp)⟩
end Go.Proofs.Ytkooahfpogcmiaa
