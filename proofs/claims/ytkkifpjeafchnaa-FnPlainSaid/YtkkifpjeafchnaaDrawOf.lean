/- l91Of: a grid that is drawn, by a loose contract: texts of letters. -/
import Derived.Test.YtkkifpjeafchnaaDraw
import Derived.Test.YtkkifpjeafchnaaBunC
namespace Go.Proofs.Ytkkifpjeafchnaa
open Go.RowKit Go.Shelf

/-- Texts of m letters each. -/
def Txts (m : Nat) (ts : List ByteArray) : Prop := ∀ s ∈ ts, s.size = m ∧ ∀ b ∈ s.data.toList, isLet b = true
theorem Txts.grid {n m : Nat} {ts : List ByteArray} (h : Txts m ts) (hl : ts.length = n) (hn : 1 ≤ n) (hn5 : n ≤ 5) (hm : 1 ≤ m) (hm5 : m ≤ 5) : IsGrid n m ts := ⟨hl, hn, hn5, hm, hm5, h⟩
theorem dlet3 {v : Nat} (hv : v < 3) : ∃ bt : UInt8, (∀ h : v < (⟨#[46, 114, 102]⟩ : ByteArray).size, (⟨#[46, 114, 102]⟩ : ByteArray)[v] = bt) ∧ isLet bt = true := by
  match v, hv with
  | 0, _ => exact ⟨46, fun _ => rfl, rfl⟩
  | 1, _ => exact ⟨114, fun _ => rfl, rfl⟩
  | 2, _ => exact ⟨102, fun _ => rfl, rfl⟩
theorem dlet2 {v : Nat} (hv : v < 2) : ∃ bt : UInt8, (∀ h : v < (⟨#[114, 102]⟩ : ByteArray).size, (⟨#[114, 102]⟩ : ByteArray)[v] = bt) ∧ isLet bt = true := by
  match v, hv with
  | 0, _ => exact ⟨114, fun _ => rfl, rfl⟩
  | 1, _ => exact ⟨102, fun _ => rfl, rfl⟩
theorem beq46 (b : UInt8) : (((b.toNat : Nat) : Int) == 46) = (b == 46) := by
  rw [Bool.eq_iff_iff, beq_iff_eq, beq_iff_eq]
  constructor
  · intro h; exact UInt8.toNat_inj.1 (by have : (46 : UInt8).toNat = 46 := rfl; omega)
  · rintro rfl; rfl

set_option maxRecDepth 100000 in
set_option maxHeartbeats 4000000 in
theorem l91Of_any (g P n m : Nat) (w : World) (h : Rd w g P) (hP : P ≤ 90000) (hn : n ≤ 10) (hm1 : 1 ≤ m) (hm : m ≤ 10) :
    Calls Try.prog 98 #[.pointer (some ⟨g, 0, none⟩), .int .i64 n, .int .i64 m] w fun e w' => (∃ v ts, e = .returned v ∧ GrowS w' w.heap.size v ts ∧ ts.length = n ∧ Txts m ts) ∧ Rd w' g (P + 201) ∧ w.grownBy w' (some g) := by
  have HGO := hid h.lt
  have HRA := hid (h.below ((Below.refl _ w).alloc (Nat.le_refl _) (.cells #[] 9)))
  have HPK := hid (fun p q W (hr : Rd W g p) (hp : p ≤ 99999) (hq : 1 ≤ q) (hq2 : q ≤ 1000) => pick_rd g p q W hr hp hq hq2)
  have HP4 := hid (HPK.out P 4 _ HRA.out (by omega) (by omega) (by omega))
  clear h
  go_enter Try.func98, Try.ntmps98
  go_wp2_with fail
  refine HP4.out.mono ?_
  rintro e w1 ⟨⟨kd, _, rfl⟩, hrd, hgw, hsz⟩
  obtain ⟨kI, hkI⟩ : ∃ kI : Int, ((kd : Nat) : Int) = kI := ⟨_, rfl⟩
  rw [hkI]
  clear hkI
  have HRD1 := hid hrd
  have HW1 := hid (gby_trans (World.grownBy_alloc w (.cells #[] 9) (some g)) hgw)
  have HG1 := hid (show GrowS w1 w.heap.size (.slice (some ⟨w.heap.size, 0, none⟩) 0 0) [] from World.ownsRow.kept (growS_new w w.heap.size (Nat.le_refl _)) hgw (.inr (fun e => by have h1 : w.heap.size = g := Option.some.inj e; have h2 := HGO.out; omega)))
  clear hrd hgw hsz HP4 HRA
  go_wp2_with fail
  go_loopw [7, 9] (fun (v iv : Value) (wr : World) => ∃ (i : Nat) (ts : List ByteArray), i ≤ n ∧ iv = .int .i64 i ∧ GrowS wr w.heap.size v ts ∧ ts.length = i ∧ Hid (Txts m ts) ∧ Rd wr g (P + 1 + 20 * i) ∧ w.grownBy wr (some g)) (fun _ iv _ => n - (intOf iv).toNat)
  case atStart => exact ⟨0, [], by omega, rfl, HG1.out, rfl, hid (fun s hs => by simp at hs), HRD1.out, HW1.out⟩
  case round =>
    obtain ⟨i, ts, hi, rfl, hgs, hts, hal, hrd, hw⟩ := hrel
    have HS := hid hgs
    have HTS := hid hts
    have HAL := hal
    have HRD := hid hrd
    have HWO := hid hw
    clear hgs hts hal hrd hw
    by_cases hlt : i < n
    · have hii : (i : Int) < (n : Int) := by omega
      obtain ⟨wo, rfl⟩ : ∃ wo : World, wo = wr := ⟨_, rfl⟩
      obtain ⟨ov, rfl⟩ : ∃ ov : Value, ov = u7 := ⟨_, rfl⟩
      go_wp2_with fail
      go_loopw [10, 11] (fun (v kv : Value) (wi : World) => ∃ (k : Nat) (l : List UInt8), k ≤ m ∧ kv = .int .i64 k ∧ GrowB wi wo.heap.size v l ∧ l.length = k ∧ Hid (∀ b ∈ l, isLet b = true) ∧ GrowS wi w.heap.size ov ts ∧ Rd wi g (P + 1 + 20 * i + 2 * k) ∧ w.grownBy wi (some g) ∧ wo.heap.size ≤ wi.heap.size) (fun _ kv _ => m - (intOf kv).toNat)
      case atStart =>
        exact ⟨0, [], by omega, rfl, growB_new wo _ (Nat.le_refl _), rfl, hid (fun b hb => by simp at hb), World.ownsRow.alloc HS.out _, HRD.out.below ((Below.refl _ wo).alloc (Nat.le_refl _) _), gby_trans HWO.out (World.grownBy_alloc wo _ (some g)), by simp⟩
      case round =>
        obtain ⟨k, l, hk, rfl, hgb, hll, hlb, hgs, hrd, hw, hz⟩ := hrel
        have HGB := hid hgb
        have HLL := hid hll
        have HLB := hlb
        have HGS := hid hgs
        have HRK := hid hrd
        have HWK := hid hw
        have HZK := hid hz
        clear hgb hll hlb hgs hrd hw hz
        by_cases hkm : k < m
        · have hkk : (k : Int) < (m : Int) := by omega
          have HP3 := hid (HPK.out _ 3 wr HRK.out (by omega) (by omega) (by omega))
          obtain ⟨r, hr⟩ : ∃ r, (i + k) % 2 = r := ⟨_, rfl⟩
          have hr2 : r < 2 := by omega
          have hrm : ((i : Int) + (k : Int)) % 2 = (r : Int) := by omega
          have hik0 : (0 : Int) ≤ (i : Int) + (k : Int) := by omega
          have hr2i : (r : Int) < 2 := by omega
          have hr0i : (0 : Int) ≤ (r : Int) := by omega
          obtain ⟨b2, hb2, hl2⟩ := dlet2 hr2
          have HL2 := hid hl2
          clear hr hl2
          go_wp2_with fail
          refine HP3.out.mono ?_
          rintro e w2 ⟨⟨v, hv, rfl⟩, hrd, hgw, hsz⟩
          obtain ⟨bt, hbt, hlt3⟩ := dlet3 hv
          have HL3 := hid hlt3
          have hvi : (v : Int) < 3 := by omega
          have hvi0 : (0 : Int) ≤ (v : Int) := by omega
          have HRD2 := hid hrd
          have HW2 := hid (gby_trans HWK.out hgw)
          have HGB2 := hid (show GrowB w2 wo.heap.size u10 l from World.ownsRow.kept HGB.out hgw (.inr (fun e => by have h1 := (World.ownsRow.lt HGB.out g e).1; have h2 := HGO.out; have h3 := HWO.out.size; omega)))
          have HGS2 := hid (show GrowS w2 w.heap.size ov ts from World.ownsRow.kept HGS.out hgw (.inr (fun e => by have h1 := (World.ownsRow.lt HGS.out g e).1; have h2 := HGO.out; omega)))
          have HZ2 := hid (Nat.le_trans HZK.out (Nat.le_of_eq hsz.symm))
          have hbe := beq46 bt
          clear hrd hgw hsz hlt3 HP3 HGB HGS HRK HWK HZK
          by_cases hk0 : kI = 0
          · have hkb0 : (kI == 0) = true := by simpa using hk0
            have hkb1 : (kI == 1) = false := by simp; omega
            clear hk0
            cases hq : (bt == 46) with
            | true =>
              rw [hq] at hbe
              go_wp2_with (at_builtin; refine wpList_appendB rfl _ _ rfl wo.heap.size u10 l rfl (World.ownsRow.alloc HGB2.out _) w2.heap.size 1 rfl b2 (cell_newB w2 _) ?c3 (Nat.le_trans HZ2.out (by simp)) ?_)
              case c3 => have := HLL.out; omega
              intro v' w' hgr hgw
              have HGR := hid hgr
              have HSS := hid (grown_other (World.ownsRow.alloc HGS2.out _) (World.ownsRow.alloc HGB2.out _) (fun k e => (ownBlock_lt HS.out k e).2) (Nat.le_refl _) hgw)
              have HRR := hid ((HRD2.out.below ((Below.refl _ w2).alloc (Nat.le_refl _) (.cells #[.int .u8 b2.toNat] 5))).kept hgw (fun k e => Nat.lt_of_lt_of_le HGO.out (Nat.le_trans HWO.out.size (World.ownsRow.lt HGB2.out k e).1)))
              have HNW := hid (gby_new (gby_trans HW2.out (World.grownBy_alloc w2 (.cells #[.int .u8 b2.toNat] 5) (some g))) hgw (fun k e => Nat.le_trans HWO.out.size (World.ownsRow.lt HGB2.out k e).1))
              have HZZ := hid (Nat.le_trans HZ2.out (Nat.le_trans (by simp : w2.heap.size ≤ (w2.alloc (.cells #[.int .u8 b2.toNat] 5)).heap.size) hgw.size))
              have HLE := hid HL2.out
              clear hgr hgw
              go_wp2
              go_roundw
              case rel => exact ⟨k + 1, l ++ [b2], by omega, by go_num, HGR.out, by have := HLL.out; simp; omega, fun b hb => (by
                rcases List.mem_append.1 hb with h | h
                · exact HLB.out b h
                · rw [List.mem_singleton.1 h]; exact HLE.out), HSS.out, HRR.out.more (by omega), HNW.out, HZZ.out⟩
              case measure => simp [intOf]; omega
            | false =>
              rw [hq] at hbe
              go_wp2_with (at_builtin; refine wpList_appendB rfl _ _ rfl wo.heap.size u10 l rfl (World.ownsRow.alloc HGB2.out _) w2.heap.size 1 rfl bt (cell_newB w2 _) ?c3 (Nat.le_trans HZ2.out (by simp)) ?_)
              case c3 => have := HLL.out; omega
              intro v' w' hgr hgw
              have HGR := hid hgr
              have HSS := hid (grown_other (World.ownsRow.alloc HGS2.out _) (World.ownsRow.alloc HGB2.out _) (fun k e => (ownBlock_lt HS.out k e).2) (Nat.le_refl _) hgw)
              have HRR := hid ((HRD2.out.below ((Below.refl _ w2).alloc (Nat.le_refl _) (.cells #[.int .u8 bt.toNat] 5))).kept hgw (fun k e => Nat.lt_of_lt_of_le HGO.out (Nat.le_trans HWO.out.size (World.ownsRow.lt HGB2.out k e).1)))
              have HNW := hid (gby_new (gby_trans HW2.out (World.grownBy_alloc w2 (.cells #[.int .u8 bt.toNat] 5) (some g))) hgw (fun k e => Nat.le_trans HWO.out.size (World.ownsRow.lt HGB2.out k e).1))
              have HZZ := hid (Nat.le_trans HZ2.out (Nat.le_trans (by simp : w2.heap.size ≤ (w2.alloc (.cells #[.int .u8 bt.toNat] 5)).heap.size) hgw.size))
              have HLE := hid HL3.out
              clear hgr hgw
              go_wp2
              go_roundw
              case rel => exact ⟨k + 1, l ++ [bt], by omega, by go_num, HGR.out, by have := HLL.out; simp; omega, fun b hb => (by
                rcases List.mem_append.1 hb with h | h
                · exact HLB.out b h
                · rw [List.mem_singleton.1 h]; exact HLE.out), HSS.out, HRR.out.more (by omega), HNW.out, HZZ.out⟩
              case measure => simp [intOf]; omega
          · have hkb0 : (kI == 0) = false := by simpa using hk0
            by_cases hk1 : kI = 1
            · have hkb1 : (kI == 1) = true := by simpa using hk1
              clear hk0 hk1
              have HP5 := hid (HPK.out _ 3 w2 HRD2.out (by omega) (by omega) (by omega))
              go_wp2_with fail
              refine HP5.out.mono ?_
              rintro e w3 ⟨⟨q, hq, rfl⟩, hrd, hgw, hsz⟩
              have HRD3 := hid hrd
              have HW3 := hid (gby_trans HW2.out hgw)
              have HGB3 := hid (show GrowB w3 wo.heap.size u10 l from World.ownsRow.kept HGB2.out hgw (.inr (fun e => by have h1 := (World.ownsRow.lt HGB2.out g e).1; have h2 := HGO.out; have h3 := HWO.out.size; omega)))
              have HGS3 := hid (show GrowS w3 w.heap.size ov ts from World.ownsRow.kept HGS2.out hgw (.inr (fun e => by have h1 := (World.ownsRow.lt HGS2.out g e).1; have h2 := HGO.out; omega)))
              have HZ3 := hid (Nat.le_trans HZ2.out (Nat.le_of_eq hsz.symm))
              clear hrd hgw hsz HP5
              by_cases hq0 : 0 < q
              · have hqi : (0 : Int) < (q : Int) := by omega
                go_wp2_with (at_builtin; refine wpList_appendB rfl _ _ rfl wo.heap.size u10 l rfl (World.ownsRow.alloc HGB3.out _) w3.heap.size 1 rfl b2 (cell_newB w3 _) ?c3 (Nat.le_trans HZ3.out (by simp)) ?_)
                case c3 => have := HLL.out; omega
                intro v' w' hgr hgw
                have HGR := hid hgr
                have HSS := hid (grown_other (World.ownsRow.alloc HGS3.out _) (World.ownsRow.alloc HGB3.out _) (fun k e => (ownBlock_lt HS.out k e).2) (Nat.le_refl _) hgw)
                have HRR := hid ((HRD3.out.below ((Below.refl _ w3).alloc (Nat.le_refl _) (.cells #[.int .u8 b2.toNat] 5))).kept hgw (fun k e => Nat.lt_of_lt_of_le HGO.out (Nat.le_trans HWO.out.size (World.ownsRow.lt HGB3.out k e).1)))
                have HNW := hid (gby_new (gby_trans HW3.out (World.grownBy_alloc w3 (.cells #[.int .u8 b2.toNat] 5) (some g))) hgw (fun k e => Nat.le_trans HWO.out.size (World.ownsRow.lt HGB3.out k e).1))
                have HZZ := hid (Nat.le_trans HZ3.out (Nat.le_trans (by simp : w3.heap.size ≤ (w3.alloc (.cells #[.int .u8 b2.toNat] 5)).heap.size) hgw.size))
                have HLE := hid HL2.out
                clear hgr hgw
                go_wp2
                go_roundw
                case rel => exact ⟨k + 1, l ++ [b2], by omega, by go_num, HGR.out, by have := HLL.out; simp; omega, fun b hb => (by
                  rcases List.mem_append.1 hb with h | h
                  · exact HLB.out b h
                  · rw [List.mem_singleton.1 h]; exact HLE.out), HSS.out, HRR.out.more (by omega), HNW.out, HZZ.out⟩
                case measure => simp [intOf]; omega
              · have hqi : ¬ ((0 : Int) < (q : Int)) := by omega
                go_wp2_with (at_builtin; refine wpList_appendB rfl _ _ rfl wo.heap.size u10 l rfl (World.ownsRow.alloc HGB3.out _) w3.heap.size 1 rfl bt (cell_newB w3 _) ?c3 (Nat.le_trans HZ3.out (by simp)) ?_)
                case c3 => have := HLL.out; omega
                intro v' w' hgr hgw
                have HGR := hid hgr
                have HSS := hid (grown_other (World.ownsRow.alloc HGS3.out _) (World.ownsRow.alloc HGB3.out _) (fun k e => (ownBlock_lt HS.out k e).2) (Nat.le_refl _) hgw)
                have HRR := hid ((HRD3.out.below ((Below.refl _ w3).alloc (Nat.le_refl _) (.cells #[.int .u8 bt.toNat] 5))).kept hgw (fun k e => Nat.lt_of_lt_of_le HGO.out (Nat.le_trans HWO.out.size (World.ownsRow.lt HGB3.out k e).1)))
                have HNW := hid (gby_new (gby_trans HW3.out (World.grownBy_alloc w3 (.cells #[.int .u8 bt.toNat] 5) (some g))) hgw (fun k e => Nat.le_trans HWO.out.size (World.ownsRow.lt HGB3.out k e).1))
                have HZZ := hid (Nat.le_trans HZ3.out (Nat.le_trans (by simp : w3.heap.size ≤ (w3.alloc (.cells #[.int .u8 bt.toNat] 5)).heap.size) hgw.size))
                have HLE := hid HL3.out
                clear hgr hgw
                go_wp2
                go_roundw
                case rel => exact ⟨k + 1, l ++ [bt], by omega, by go_num, HGR.out, by have := HLL.out; simp; omega, fun b hb => (by
                  rcases List.mem_append.1 hb with h | h
                  · exact HLB.out b h
                  · rw [List.mem_singleton.1 h]; exact HLE.out), HSS.out, HRR.out.more (by omega), HNW.out, HZZ.out⟩
                case measure => simp [intOf]; omega
            · have hkb1 : (kI == 1) = false := by simpa using hk1
              clear hk0 hk1
              go_wp2_with (at_builtin; refine wpList_appendB rfl _ _ rfl wo.heap.size u10 l rfl (World.ownsRow.alloc HGB2.out _) w2.heap.size 1 rfl bt (cell_newB w2 _) ?c3 (Nat.le_trans HZ2.out (by simp)) ?_)
              case c3 => have := HLL.out; omega
              intro v' w' hgr hgw
              have HGR := hid hgr
              have HSS := hid (grown_other (World.ownsRow.alloc HGS2.out _) (World.ownsRow.alloc HGB2.out _) (fun k e => (ownBlock_lt HS.out k e).2) (Nat.le_refl _) hgw)
              have HRR := hid ((HRD2.out.below ((Below.refl _ w2).alloc (Nat.le_refl _) (.cells #[.int .u8 bt.toNat] 5))).kept hgw (fun k e => Nat.lt_of_lt_of_le HGO.out (Nat.le_trans HWO.out.size (World.ownsRow.lt HGB2.out k e).1)))
              have HNW := hid (gby_new (gby_trans HW2.out (World.grownBy_alloc w2 (.cells #[.int .u8 bt.toNat] 5) (some g))) hgw (fun k e => Nat.le_trans HWO.out.size (World.ownsRow.lt HGB2.out k e).1))
              have HZZ := hid (Nat.le_trans HZ2.out (Nat.le_trans (by simp : w2.heap.size ≤ (w2.alloc (.cells #[.int .u8 bt.toNat] 5)).heap.size) hgw.size))
              have HLE := hid HL3.out
              clear hgr hgw
              go_wp2
              go_roundw
              case rel => exact ⟨k + 1, l ++ [bt], by omega, by go_num, HGR.out, by have := HLL.out; simp; omega, fun b hb => (by
                rcases List.mem_append.1 hb with h | h
                · exact HLB.out b h
                · rw [List.mem_singleton.1 h]; exact HLE.out), HSS.out, HRR.out.more (by omega), HNW.out, HZZ.out⟩
              case measure => simp [intOf]; omega
        · obtain rfl : k = m := by omega
          have hcv := growB_text HGB.out (by rw [HLL.out]; exact hm1)
          obtain ⟨tx, htx⟩ : ∃ tx : ByteArray, (⟨l.toArray⟩ : ByteArray) = tx := ⟨_, rfl⟩
          rw [htx] at hcv
          have HTX := hid (show tx.size = k ∧ ∀ b ∈ tx.data.toList, isLet b = true by
            rw [← htx]
            exact ⟨by rw [Lib.size_eq]; simpa using HLL.out, fun b hb => HLB.out b (by simpa using hb)⟩)
          clear htx
          go_wp2_with (at_builtin; refine wpList_appendS rfl _ _ rfl w.heap.size ov ts rfl (World.ownsRow.alloc HGS.out _) wr.heap.size 1 rfl tx (cell_new wr tx) ?c3 (Nat.le_trans HWK.out.size (by simp)) ?_)
          case c3 => have := HTS.out; omega
          intro v' w' hgr hgw
          have HGR := hid hgr
          have HRR := hid ((HRK.out.below ((Below.refl _ wr).alloc (Nat.le_refl _) (.cells #[.string tx] 9))).kept hgw (fun k e => Nat.lt_of_lt_of_le HGO.out (World.ownsRow.lt HGS.out k e).1))
          have HNW := hid (gby_new (gby_trans HWK.out (World.grownBy_alloc wr (.cells #[.string tx] 9) (some g))) hgw (fun k e => (World.ownsRow.lt HGS.out k e).1))
          clear hgr hgw hcv
          go_wp2
          go_roundw
          case rel => exact ⟨i + 1, ts ++ [tx], by omega, by go_num, HGR.out, by have := HTS.out; simp; omega, hid (fun s hs => by
            rcases List.mem_append.1 hs with h | h
            · exact HAL.out s h
            · rw [List.mem_singleton.1 h]; exact HTX.out), HRR.out.more (by omega), HNW.out⟩
          case measure => simp [intOf]; omega
    · obtain rfl : i = n := by omega
      go_wp2_with fail
      go_ret
      exact ⟨⟨_, ts, rfl, HS.out, HTS.out, HAL.out⟩, HRD.out.more (by omega), HWO.out⟩
end Go.Proofs.Ytkkifpjeafchnaa
