/- MakePlain of the specification and of the program, by their contracts. -/
import Derived.Test.YtkkifpjeafchnaaBunD
namespace Go.Proofs.Ytkkifpjeafchnaa
open Go.RowKit Go.Shelf

/-- How many pairings of so many pairs have none that cross. -/
def catN : Nat → Nat
  | 0 => 1
  | 1 => 1
  | 2 => 2
  | 3 => 5
  | 4 => 14
  | 5 => 42
  | 6 => 132
  | 7 => 429
  | 8 => 1430
  | _ => 0
theorem catN_le {i : Nat} (h : i ≤ 8) : catN i ≤ 1430 := by
  have : i = 0 ∨ i = 1 ∨ i = 2 ∨ i = 3 ∨ i = 4 ∨ i = 5 ∨ i = 6 ∨ i = 7 ∨ i = 8 := by omega
  rcases this with rfl | rfl | rfl | rfl | rfl | rfl | rfl | rfl | rfl <;> decide
theorem catN_step {i : Nat} (h : i < 8) : ∃ A : Nat, catN i * 2 * (2 * i + 1) = A ∧ A ≤ 100000 ∧ A / (i + 2) = catN (i + 1) := by
  have : i = 0 ∨ i = 1 ∨ i = 2 ∨ i = 3 ∨ i = 4 ∨ i = 5 ∨ i = 6 ∨ i = 7 := by omega
  rcases this with rfl | rfl | rfl | rfl | rfl | rfl | rfl | rfl <;> exact ⟨_, rfl, by decide, by decide⟩
/-- The numbers from k + 2 on, so many of them, multiplied. -/
def prodN (k : Nat) : Nat → Nat
  | 0 => 1
  | d + 1 => prodN k d * (k + 2 + d)
theorem prodN_le {k d : Nat} (hk : k ≤ 8) (hd : d + 1 ≤ k ∨ d = 0) : prodN k d ≤ 60000000 := by
  have h1 : k = 0 ∨ k = 1 ∨ k = 2 ∨ k = 3 ∨ k = 4 ∨ k = 5 ∨ k = 6 ∨ k = 7 ∨ k = 8 := by omega
  have h2 : d = 0 ∨ d = 1 ∨ d = 2 ∨ d = 3 ∨ d = 4 ∨ d = 5 ∨ d = 6 ∨ d = 7 := by omega
  rcases h1 with rfl | rfl | rfl | rfl | rfl | rfl | rfl | rfl | rfl <;> rcases h2 with rfl | rfl | rfl | rfl | rfl | rfl | rfl | rfl <;> first | decide | omega
/-- The numbers from 1 on, so many of them, multiplied. -/
def factN : Nat → Nat
  | 0 => 1
  | d + 1 => factN d * (d + 1)
theorem factN_le {d : Nat} (hd : d ≤ 8) : 1 ≤ factN d ∧ factN d ≤ 40320 := by
  have h2 : d = 0 ∨ d = 1 ∨ d = 2 ∨ d = 3 ∨ d = 4 ∨ d = 5 ∨ d = 6 ∨ d = 7 ∨ d = 8 := by omega
  rcases h2 with rfl | rfl | rfl | rfl | rfl | rfl | rfl | rfl | rfl <;> decide
theorem cat_quot {k : Nat} (hk : k ≤ 8) : prodN k (k - 1) / factN k = catN k := by
  have h1 : k = 0 ∨ k = 1 ∨ k = 2 ∨ k = 3 ∨ k = 4 ∨ k = 5 ∨ k = 6 ∨ k = 7 ∨ k = 8 := by omega
  rcases h1 with rfl | rfl | rfl | rfl | rfl | rfl | rfl | rfl | rfl <;> decide
/-- What MakePlain comes to. -/
def PlainOut (a x : Int) (ok : Bool) : Prop := (∃ k : Nat, a = (k : Int) ∧ k ≤ 8 ∧ x = ((catN k : Nat) : Int) ∧ ok = true) ∨ (¬ (0 ≤ a ∧ a ≤ 8) ∧ x = 0 ∧ ok = false)
theorem PlainOut.uniq {a x x' : Int} {ok ok' : Bool} (h : PlainOut a x ok) (h' : PlainOut a x' ok') : x' = x ∧ ok' = ok := by
  rcases h with ⟨k, rfl, h1, rfl, rfl⟩ | ⟨h1, rfl, rfl⟩ <;> rcases h' with ⟨k', e, h1', rfl, rfl⟩ | ⟨h1', rfl, rfl⟩
  · obtain rfl : k = k' := by omega
    exact ⟨rfl, rfl⟩
  · exact absurd h1' (by omega)
  · exact absurd h1 (by omega)
  · exact ⟨rfl, rfl⟩

/-- It hands back what MakePlain comes to. -/
def PlainRet (a : Int) (e : Ending) : Prop := ∃ x ok, e = .returned (.tuple #[.int .i64 x, .bool ok]) ∧ PlainOut a x ok

set_option maxRecDepth 100000 in
set_option maxHeartbeats 1000000 in
theorem specMakePlain_any (a : Int) (w : World) :
    Calls Try.prog 30 #[.int .i64 a] w fun e w' => w = w' ∧ PlainRet a e := by
  have HIN := hid (l6In_any a 0 8 w)
  go_enter Try.func30, Try.ntmps30
  go_wp2_with fail
  refine HIN.out.mono ?_
  rintro e w' ⟨rfl, rfl⟩
  by_cases hin : 0 ≤ a ∧ a ≤ 8
  · rw [show decide (0 ≤ a ∧ a ≤ 8) = true by simpa using hin]
    obtain ⟨k, rfl⟩ : ∃ k : Nat, a = (k : Int) := ⟨a.toNat, by omega⟩
    have hk8 : k ≤ 8 := by omega
    have hk8i : (k : Int) ≤ 8 := by omega
    clear hin
    go_wp2_with fail
    go_loopw [4, 5] (fun (v iv : Value) (wr : World) => ∃ i : Nat, i ≤ k ∧ iv = .int .i64 i ∧ v = .int .i64 ((catN i : Nat) : Int) ∧ w = wr) (fun _ i _ => k - (intOf i).toNat)
    case atStart => exact ⟨0, by omega, rfl, rfl, rfl⟩
    case round =>
      obtain ⟨i, hi, rfl, rfl, rfl⟩ := hrel
      by_cases hlt : i < k
      · have hii : (i : Int) < (k : Int) := by omega
        obtain ⟨A, h1, h2, h3⟩ := catN_step (i := i) (by omega)
        have hC := catN_le (i := i) (by omega)
        have HST := hid h3
        obtain ⟨C, hCe⟩ : ∃ C, catN i = C := ⟨_, rfl⟩
        rw [hCe] at h1 hC ⊢
        obtain ⟨C2, hC2⟩ : ∃ C2, C * 2 = C2 := ⟨_, rfl⟩
        have hC2i : (C : Int) * 2 = (C2 : Int) := by omega
        obtain ⟨D, hD⟩ : ∃ D, 2 * i + 1 = D := ⟨_, rfl⟩
        have hDi : 2 * (i : Int) + 1 = (D : Int) := by omega
        rw [hC2, hD] at h1
        have h1i : (C2 : Int) * (D : Int) = (A : Int) := by rw [← Int.natCast_mul, h1]
        obtain ⟨E, hE⟩ : ∃ E, A / (i + 2) = E := ⟨_, rfl⟩
        have hEi : (A : Int) / ((i : Int) + 2) = (E : Int) := by rw [← hE]; rfl
        have HE := hid hE
        have hnz : ((i : Int) + 2 == 0) = false := by simp; omega
        have hAi : (A : Int) ≤ 100000 := by omega
        have hEl : (E : Int) ≤ 1430 := by have h4 := catN_le (i := i + 1) (by omega); rw [← h3, hE] at h4; omega
        have hCi : (C : Int) ≤ 1430 := by omega
        have hC2l : (C2 : Int) ≤ 2860 := by omega
        have hDl : (D : Int) ≤ 100 := by omega
        clear h1 h3 hCe hC2 hD hE
        go_wp2_with fail
        go_roundw
        case rel => exact ⟨i + 1, by omega, by go_num, by rw [← HST.out, HE.out], trivial⟩
        case measure => simp [intOf]; omega
      · obtain rfl : i = k := by omega
        go_wp2_with fail
        refine bodyPost_ret (results_tmp2 rfl _ _ _) rfl ?_
        exact ⟨rfl, _, true, rfl, .inl ⟨i, rfl, hk8, rfl, rfl⟩⟩
  · rw [show decide (0 ≤ a ∧ a ≤ 8) = false by simpa using hin]
    have HIN2 := hid hin
    clear hin
    go_wp2_with fail
    refine bodyPost_ret (results_tmp2 rfl _ _ _) rfl ?_
    exact ⟨rfl, 0, false, rfl, .inr ⟨HIN2.out, rfl, rfl⟩⟩

set_option maxRecDepth 100000 in
set_option maxHeartbeats 1000000 in
theorem implMakePlain_any (a : Int) (w : World) :
    Calls Try.prog 31 #[.int .i64 a] w fun e w' => w = w' ∧ PlainRet a e := by
  go_enter Try.func31, Try.ntmps31
  by_cases hneg : a < 0
  · go_wp2_with fail
    refine bodyPost_ret (results_tmp2 rfl _ _ _) rfl ?_
    exact ⟨rfl, 0, false, rfl, .inr ⟨by omega, rfl, rfl⟩⟩
  by_cases hbig : 8 < a
  · go_wp2_with fail
    refine bodyPost_ret (results_tmp2 rfl _ _ _) rfl ?_
    exact ⟨rfl, 0, false, rfl, .inr ⟨by omega, rfl, rfl⟩⟩
  obtain ⟨k, rfl⟩ : ∃ k : Nat, a = (k : Int) := ⟨a.toNat, by omega⟩
  have hk8 : k ≤ 8 := by omega
  have hk8i : (k : Int) ≤ 8 := by omega
  go_wp2_with fail
  go_loopw [4, 6] (fun (v iv : Value) (wr : World) => ∃ d : Nat, (d + 1 ≤ k ∨ d = 0) ∧ iv = .int .i64 ((k + 2 + d : Nat) : Int) ∧ v = .int .i64 ((prodN k d : Nat) : Int) ∧ w = wr) (fun _ i _ => 2 * k + 1 - (intOf i).toNat)
  case atStart => exact ⟨0, .inr rfl, by go_num, rfl, rfl⟩
  case round =>
    obtain ⟨d, hd, rfl, rfl, rfl⟩ := hrel
    obtain ⟨x, hx⟩ : ∃ x, k + 2 + d = x := ⟨_, rfl⟩
    obtain ⟨P, hP⟩ : ∃ P, prodN k d = P := ⟨_, rfl⟩
    have hPl := prodN_le hk8 hd
    rw [hx, hP]
    rw [hP] at hPl
    by_cases hlt : x ≤ 2 * k
    · have hlti : (x : Int) ≤ 2 * (k : Int) := by omega
      have hx16 : (x : Int) ≤ 16 := by omega
      have hPi : (P : Int) ≤ 60000000 := by omega
      obtain ⟨Q, hQ⟩ : ∃ Q, P * x = Q := ⟨_, rfl⟩
      have hQi : (P : Int) * (x : Int) = (Q : Int) := by rw [← Int.natCast_mul, hQ]
      have hQl : Q ≤ 60000000 * 16 := by rw [← hQ]; exact Nat.mul_le_mul hPl (by omega)
      have hQli : (Q : Int) ≤ 960000000 := by omega
      have HQ := hid (show prodN k (d + 1) = Q by rw [prodN, hP, hx, hQ])
      have HX := hid hx
      clear hx hP hQ
      go_wp2_with fail
      go_roundw
      case rel => exact ⟨d + 1, by have := HX.out; omega, by have := HX.out; go_num, by rw [HQ.out], trivial⟩
      case measure => simp [intOf]; omega
    · have hlti : ¬ (x : Int) ≤ 2 * (k : Int) := by omega
      have hde : d = k - 1 := by omega
      have hPi : (P : Int) ≤ 60000000 := by omega
      have HP := hid (show prodN k (k - 1) = P by rw [← hde]; exact hP)
      clear hx hP hd hde
      go_wp2_with fail
      go_loopw [5, 7] (fun (v iv : Value) (wr : World) => ∃ d : Nat, d ≤ k ∧ iv = .int .i64 ((d + 1 : Nat) : Int) ∧ v = .int .i64 ((factN d : Nat) : Int) ∧ w = wr) (fun _ i _ => k + 1 - (intOf i).toNat)
      case atStart => exact ⟨0, by omega, rfl, rfl, rfl⟩
      case round =>
        obtain ⟨d, hd, rfl, rfl, rfl⟩ := hrel
        obtain ⟨y, hy⟩ : ∃ y, d + 1 = y := ⟨_, rfl⟩
        obtain ⟨F, hF⟩ : ∃ F, factN d = F := ⟨_, rfl⟩
        obtain ⟨hF0, hFl⟩ := factN_le (d := d) (by omega)
        rw [hy, hF]
        rw [hF] at hFl hF0
        by_cases hlt : y ≤ k
        · have hlti : (y : Int) ≤ (k : Int) := by omega
          have hFi : (F : Int) ≤ 40320 := by omega
          obtain ⟨Q, hQ⟩ : ∃ Q, F * y = Q := ⟨_, rfl⟩
          have hQi : (F : Int) * (y : Int) = (Q : Int) := by rw [← Int.natCast_mul, hQ]
          have hQl : Q ≤ 40320 * 8 := by rw [← hQ]; exact Nat.mul_le_mul hFl (by omega)
          have hQli : (Q : Int) ≤ 322560 := by omega
          have HQ := hid (show factN (d + 1) = Q by rw [factN, hF, hy, hQ])
          have HY := hid hy
          clear hy hF hQ
          go_wp2_with fail
          go_roundw
          case rel => exact ⟨d + 1, by have := HY.out; omega, by have := HY.out; go_num, by rw [HQ.out], trivial⟩
          case measure => simp [intOf]; omega
        · have hlti : ¬ (y : Int) ≤ (k : Int) := by omega
          obtain rfl : d = k := by omega
          have hq := cat_quot hk8
          rw [HP.out, hF] at hq
          obtain ⟨E, hE⟩ : ∃ E, catN d = E := ⟨_, rfl⟩
          have HE := hid hE
          rw [hE] at hq
          have hEl : (E : Int) ≤ 1430 := by have h4 := catN_le hk8; rw [hE] at h4; omega
          have hqi : (P : Int) / (F : Int) = (E : Int) := by rw [← hq]; rfl
          have hnz : ((F : Int) == 0) = false := by simp; omega
          have hnz' : ¬ F = 0 := by omega
          have hF1 : 1 ≤ (F : Int) := by omega
          clear hq hE hF hy
          go_wp2_with fail
          refine bodyPost_ret (results_tmp2 rfl _ _ _) rfl ?_
          exact ⟨rfl, _, true, rfl, .inl ⟨d, rfl, hk8, by rw [HE.out], rfl⟩⟩
end Go.Proofs.Ytkkifpjeafchnaa
