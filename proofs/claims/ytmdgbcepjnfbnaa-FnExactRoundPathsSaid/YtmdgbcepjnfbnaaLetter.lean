/- letterIn, and what it calls of the library: the searched text is the three letters, the sought one has one byte. -/
import Derived.Test.YtmdgbcepjnfbnaaKit1
import Derived.Test.YtmdgbcepjnfbnaaGridM
import Derived.Lib.Bytealg
import Derived.Lib.Strings
namespace Go.Proofs.Ytmdgbcepjnfbnaa
open Go.RowKit


theorem three_index (b : UInt8) : decide (0 ≤ Lib.indexByte [46, 114, 102] b) = isLet b := by
  simp only [Lib.indexByte, isLet]
  by_cases h1 : (46 : UInt8) == b
  · have : b = 46 := by simpa using (beq_iff_eq.1 h1).symm
    subst this; decide
  by_cases h2 : (114 : UInt8) == b
  · have : b = 114 := by simpa using (beq_iff_eq.1 h2).symm
    subst this; decide
  by_cases h3 : (102 : UInt8) == b
  · have : b = 102 := by simpa using (beq_iff_eq.1 h3).symm
    subst this; decide
  have e1 : (b == 46) = false := by rw [beq_eq_false_iff_ne]; rintro rfl; simp at h1
  have e2 : (b == 114) = false := by rw [beq_eq_false_iff_ne]; rintro rfl; simp at h2
  have e3 : (b == 102) = false := by rw [beq_eq_false_iff_ne]; rintro rfl; simp at h3
  simp [h1, h2, h3, e1, e2, e3]

set_option maxRecDepth 100000 in
set_option maxHeartbeats 400000 in
theorem stringslite_IndexByte (s : ByteArray) (c : Int) (w : World) :
    Calls Try.prog 164 #[.string s, .int .u8 c] w fun e w' => e = .returned (.int .i64 (Lib.indexByte s.data.toList c.toNat.toUInt8)) ∧ w = w' := by
  go_enter Try.func164, Try.ntmps164
  go_wp2
  rw [run_callFunc_extern Try.func168 (by kernel_rfl) (by kernel_rfl) (by kernel_rfl) (e := Extern.BytealgIndexByte.indexByte) (by kernel_rfl), Lib.run_indexByteString]
  simp only [Result.andThen]
  rw [Oper.upon_value]
  go_wp2
  go_ret
  exact ⟨rfl, rfl⟩

theorem byte0 {t : ByteArray} {b : UInt8} (ht : t.data.toList = [b]) (h : 0 < t.size) : t[0]'h = b := by
  obtain ⟨⟨l⟩⟩ := t
  simp at ht
  subst ht
  rfl

set_option maxRecDepth 100000 in
set_option maxHeartbeats 400000 in
theorem stringslite_Index (t : ByteArray) (b : UInt8) (ht : t.data.toList = [b]) (w : World) :
    Calls Try.prog 162 #[.string ⟨#[46, 114, 102]⟩, .string t] w fun e w' => e = .returned (.int .i64 (Lib.indexByte [46, 114, 102] b)) ∧ w = w' := by
  have hsz : t.size = 1 := by rw [Lib.size_eq, ht]; rfl
  have h0 := byte0 ht (by omega)
  have hne : (t.toList == [46, 114, 102]) = false := by rw [Lib.toList_data, ht]; simp
  have HT := hid ht
  clear ht
  go_enter Try.func162, Try.ntmps162
  go_wp2_with fail
  refine (stringslite_IndexByte _ _ _).mono ?_
  rintro e w' ⟨rfl, rfl⟩
  go_wp2
  go_ret
  simp

set_option maxRecDepth 100000 in
set_option maxHeartbeats 400000 in
theorem strings_Contains (t : ByteArray) (b : UInt8) (ht : t.data.toList = [b]) (w : World) :
    Calls Try.prog 133 #[.string ⟨#[46, 114, 102]⟩, .string t] w fun e w' => e = .returned (.bool (isLet b)) ∧ w = w' := by
  have HT := hid ht
  clear ht
  have hp : Calls Try.prog 152 #[.string ⟨#[46, 114, 102]⟩, .string t] w fun e w' => e = .returned (.int .i64 (Lib.indexByte [46, 114, 102] b)) ∧ w = w' := by
    go_enter Try.func152, Try.ntmps152
    go_wp2_with fail
    refine (stringslite_Index t b HT.out _).mono ?_
    rintro e w' ⟨rfl, rfl⟩
    go_wp2
    go_ret
    exact ⟨rfl, rfl⟩
  have h3 := hid (three_index b)
  generalize Lib.indexByte [46, 114, 102] b = x at hp h3
  have HP := hid hp
  clear hp
  go_enter Try.func133, Try.ntmps133
  go_wp2_with fail
  refine HP.out.mono ?_
  rintro e w' ⟨rfl, rfl⟩
  go_wp2
  go_ret
  rw [← h3.out]
  exact ⟨rfl, rfl⟩

set_option maxHeartbeats 400000 in
theorem letterIn_one (t : ByteArray) (b : UInt8) (ht : t.data.toList = [b]) (w : World) :
    Calls Try.prog 113 #[.string t] w fun e w' => e = .returned (.bool (isLet b)) ∧ w = w' := by
  have hsz : t.size = 1 := by rw [Lib.size_eq, ht]; rfl
  have HT := hid ht
  clear ht
  go_enter Try.func113, Try.ntmps113
  go_wp2_with fail
  refine (strings_Contains t b HT.out _).mono ?_
  rintro e w' ⟨rfl, rfl⟩
  go_wp2
  go_ret
  exact ⟨rfl, rfl⟩

theorem sideIn_any (n : Int) (w : World) :
    Calls Try.prog 112 #[.int .i64 n] w fun e w' => e = .returned (.bool (decide (1 ≤ n ∧ n ≤ 5))) ∧ w = w' := by
  by_cases h1 : 1 ≤ n
  · by_cases h2 : n ≤ 5
    · have e : decide (1 ≤ n ∧ n ≤ 5) = true := by simp; omega
      rw [e]
      go_enter Try.func112, Try.ntmps112
      go_wp2
      go_ret
      exact ⟨rfl, rfl⟩
    · have e : decide (1 ≤ n ∧ n ≤ 5) = false := by simp; omega
      rw [e]
      have h3 : ¬ n ≤ 5 := h2
      go_enter Try.func112, Try.ntmps112
      go_wp2
      go_ret
      exact ⟨rfl, rfl⟩
  · have e : decide (1 ≤ n ∧ n ≤ 5) = false := by simp; omega
    rw [e]
    go_enter Try.func112, Try.ntmps112
    go_wp2
    go_ret
    exact ⟨rfl, rfl⟩

end Go.Proofs.Ytmdgbcepjnfbnaa
