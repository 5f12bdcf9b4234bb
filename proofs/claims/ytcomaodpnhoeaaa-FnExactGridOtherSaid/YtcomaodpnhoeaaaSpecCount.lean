/- Counting letters, in the specification; plain words on counts and numbers. -/
import Derived.Test.YtcomaodpnhoeaaaSpecIn
import Derived.Test.YtcomaodpnhoeaaaNumber
namespace Go.Proofs.Ytcomaodpnhoeaaa
open Go.RowKit

/-- How often a letter comes. -/
def cntOf (b : UInt8) (l : List UInt8) : Nat := l.countP fun x => x == b
theorem cntOf_step {fl : List UInt8} {q : Nat} {b x : UInt8} (h : fl[q]? = some x) : cntOf b (fl.take (q + 1)) = cntOf b (fl.take q) + (if (x == b) = true then 1 else 0) := by
  obtain ⟨hlt, rfl⟩ := List.getElem?_eq_some_iff.1 h
  unfold cntOf
  rw [List.take_succ_eq_append_getElem hlt, List.countP_append, List.countP_cons, List.countP_nil, Nat.zero_add]
theorem cntOf_le (b : UInt8) (l : List UInt8) : cntOf b l ≤ l.length := List.countP_le_length

def CntRel (ss : List ByteArray) (m : Nat) (b : UInt8) (x i : Value) : Prop :=
  ∃ r : Nat, r ≤ ss.length ∧ i = .int .i64 r ∧ x = .int .i64 ((cntOf b ((flat ss).take (r * m)) : Nat) : Int)
def CntIn (ss : List ByteArray) (m r : Nat) (b : UInt8) (x i : Value) : Prop :=
  ∃ k : Nat, k ≤ m ∧ i = .int .i64 k ∧ x = .int .i64 ((cntOf b ((flat ss).take (r * m + k)) : Nat) : Int)

set_option maxRecDepth 100000 in
set_option maxHeartbeats 1000000 in
theorem l1Count_any (A : Option Addr) (c B n m : Nat) (ss : List ByteArray) (b : UInt8) (w : World) (h : Strs w B A ss) (hg : IsGrid n m ss) :
    Calls Try.prog 100 #[.slice A ss.length c, .int .u8 b.toNat] w fun e w' => e = .returned (.int .i64 ((cntOf b (flat ss) : Nat) : Int)) ∧ w = w' := by
  have hfl := hg.flen
  have hle := hg.le25
  have hn : ss.length ≤ 5 := by rw [hg.1]; exact hg.2.2.1
  have hm5 := hg.2.2.2.2.1
  have hnl := hg.1
  have HG := hid hg
  have HH := hid h
  have hc25 : ∀ q, cntOf b ((flat ss).take q) ≤ 25 := fun q => Nat.le_trans (cntOf_le _ _) (by rw [List.length_take]; omega)
  have HC := hid hc25
  clear hg h hc25
  go_enter Try.func100, Try.ntmps100
  go_wp2_with fail
  go_loop [5, 6] (CntRel ss m b) (fun _ i => ss.length - (intOf i).toNat)
  case atStart => exact ⟨0, Nat.zero_le _, rfl, by simp [cntOf]⟩
  case round =>
    obtain ⟨r, hr, rfl, rfl⟩ := hrel
    by_cases hlt : r < ss.length
    · obtain ⟨b', off', s, rfl, hb', hks, hc⟩ := HH.out.at_ hlt
      have hsm : s.size = m := (HG.out.2.2.2.2.2 s (List.mem_of_getElem? hks)).1
      have HKs := hid hks
      obtain ⟨cv, hcv⟩ : ∃ cv : Int, ((cntOf b ((flat ss).take (r * m)) : Nat) : Int) = cv := ⟨_, rfl⟩
      have HCV := hid hcv
      rw [hcv]
      clear hks hcv
      go_wp2_with fail
      go_loop [5, 7] (CntIn ss m r b) (fun _ i => m - (intOf i).toNat)
      case atStart => exact ⟨0, Nat.zero_le _, rfl, by rw [Nat.add_zero, HCV.out]⟩
      case round =>
        obtain ⟨k, hk, rfl, rfl⟩ := hrel
        by_cases hlk : k < m
        · have hks : k < s.size := by rw [hsm]; exact hlk
          obtain ⟨bt, hbt⟩ : ∃ bt, s.data.toList[k]? = some bt := ⟨_, List.getElem?_eq_getElem (by rw [← Lib.size_eq]; exact hks)⟩
          have hbyte : s[k] = bt := byte_of hbt hks
          have hq : (flat ss)[r * m + k]? = some bt := by
            rw [flat_at ss r k s (fun i t _ ht => (HG.out.2.2.2.2.2 t (List.mem_of_getElem? ht)).1) HKs.out hks]; exact hbt
          have hst := cntOf_step (b := b) hq
          have hcl := HC.out (r * m + k)
          obtain ⟨dv, hdv⟩ : ∃ dv : Int, ((cntOf b ((flat ss).take (r * m + k)) : Nat) : Int) = dv := ⟨_, rfl⟩
          have hd0 : 0 ≤ dv := by omega
          have hd1 : dv ≤ 25 := by omega
          have hbq := byte_beq bt b
          rw [hdv]
          cases hbb : (bt == b) with
          | true =>
            rw [hbb] at hst hbq
            rw [if_pos rfl] at hst
            have HST := hid hst
            have HDV := hid hdv
            clear hbt hst hdv hq hcl hbb
            go_wp2_with fail
            go_round
            case rel => exact ⟨k + 1, by omega, by go_num, by rw [← Nat.add_assoc, HST.out, Int.natCast_add, HDV.out]; rfl⟩
            case measure => simp [intOf]; omega
          | false =>
            rw [hbb] at hst hbq
            rw [if_neg (by decide)] at hst
            have HST := hid hst
            have HDV := hid hdv
            clear hbt hst hdv hq hcl hbb
            go_wp2_with fail
            go_round
            case rel => exact ⟨k + 1, by omega, by go_num, by rw [← Nat.add_assoc, HST.out, Nat.add_zero, HDV.out]⟩
            case measure => simp [intOf]; omega
        · obtain rfl : k = m := by omega
          go_wp2_with fail
          go_round
          case rel => exact ⟨r + 1, by omega, by go_num, by rw [Nat.add_mul, Nat.one_mul]⟩
          case measure => simp [intOf]; omega
    · obtain rfl : r = ss.length := by omega
      go_wp2_with fail
      go_ret
      exact ⟨by rw [List.take_of_length_le (by rw [hfl]; first | done | exact Nat.le_refl _)]; rfl, rfl⟩

/-- The cells of a full list, one by one. -/
theorem cells_map (fl : List UInt8) (N : Nat) (hN : fl.length = N) : (List.finRange N).map (fun x => (pad fl).getD x.val 0) = fl := by
  apply List.ext_getElem
  · simp [hN]
  · intro i h1 h2
    simp [pad, List.getElem?_append_left h2, List.getElem?_eq_getElem h2]
theorem mirr_flat (fl : List UInt8) (N : Nat) (hN : fl.length = N) : mirr (pad fl) (List.finRange N) = fl.countP (fun b => b != 46) := by
  conv => rhs; rw [← cells_map fl N hN]
  rw [List.countP_map]
  rfl
theorem mirr_two (fl : List UInt8) (h : ∀ b ∈ fl, isLet b = true) : fl.countP (fun b => b != 46) = cntOf 114 fl + cntOf 102 fl := by
  induction fl with
  | nil => rfl
  | cons b fl ih =>
    have ih' := ih (fun x hx => h x (by simp [hx]))
    have hb := h b (by simp)
    simp only [isLet, Bool.or_eq_true, beq_iff_eq] at hb
    unfold cntOf at ih' ⊢
    rcases hb with (rfl | rfl) | rfl <;> simp only [List.countP_cons] <;> rw [ih'] <;> simp <;> omega
theorem mirr_all (fl : List UInt8) : fl.countP (fun b => b != 46) + cntOf 46 fl = fl.length := by
  induction fl with
  | nil => rfl
  | cons b fl ih =>
    unfold cntOf at ih ⊢
    by_cases hb : b = 46
    · subst hb; simp; omega
    · simp [hb]; omega
theorem IsGrid.lets {n m : Nat} {ss : List ByteArray} (h : IsGrid n m ss) : ∀ b ∈ flat ss, isLet b = true := fun b hb => by
  unfold flat at hb
  obtain ⟨s, hs, hb⟩ := List.mem_flatMap.1 hb
  exact (h.2.2.2.2.2 s hs).2 b hb
theorem IsGrid.mirrors {n m : Nat} {ss : List ByteArray} (h : IsGrid n m ss) : mirr (pad (flat ss)) (List.finRange (n * m)) = cntOf 114 (flat ss) + cntOf 102 (flat ss) := by
  rw [mirr_flat _ _ h.flen, mirr_two _ h.lets]
theorem IsGrid.full {n m : Nat} {ss : List ByteArray} (h : IsGrid n m ss) : (mirr (pad (flat ss)) (List.finRange (n * m)) == n * m) = (cntOf 46 (flat ss) == 0) := by
  have h1 := mirr_all (flat ss)
  rw [← mirr_flat _ _ h.flen, h.flen] at h1
  rw [Bool.eq_iff_iff, beq_iff_eq, beq_iff_eq]; omega
/-- The number of a list of letters. -/
def numOf (fl : List UInt8) : Nat := fl.foldr (fun b a => dig b + 3 * a) 0
theorem numOf_fold (fl : List UInt8) : ∀ (s v : Nat), (fl.foldl (fun (a : Nat × Nat) b => (a.1 + a.2 * dig b, a.2 * 3)) (s, v)).1 = s + v * numOf fl := by
  induction fl with
  | nil => intro s v; simp [numOf]
  | cons b fl ih =>
    intro s v
    rw [List.foldl_cons, ih]
    show s + v * dig b + v * 3 * numOf fl = s + v * (dig b + 3 * numOf fl)
    rw [Nat.mul_add, Nat.mul_assoc]; omega
theorem IsGrid.number {n m : Nat} {ss : List ByteArray} (h : IsGrid n m ss) : (numP (pad (flat ss)) (List.finRange (n * m))).1 = numOf (flat ss) := by
  have e := numOf_fold (flat ss) 0 1
  rw [Nat.zero_add, Nat.one_mul] at e
  rw [← e]
  conv => rhs; rw [← cells_map (flat ss) (n * m) h.flen, List.foldl_map]
  rfl
theorem numOf_drop {fl : List UInt8} {q : Nat} {b : UInt8} (h : fl[q]? = some b) : numOf (fl.drop q) = dig b + 3 * numOf (fl.drop (q + 1)) := by
  obtain ⟨hlt, rfl⟩ := List.getElem?_eq_some_iff.1 h
  rw [List.drop_eq_getElem_cons hlt]
  rfl
theorem numOf_lt (fl : List UInt8) : numOf fl < 3 ^ fl.length := by
  induction fl with
  | nil => decide
  | cons b fl ih =>
    have := dig_le b
    show dig b + 3 * numOf fl < 3 ^ (fl.length + 1)
    rw [Nat.pow_succ]; omega

end Go.Proofs.Ytcomaodpnhoeaaa
