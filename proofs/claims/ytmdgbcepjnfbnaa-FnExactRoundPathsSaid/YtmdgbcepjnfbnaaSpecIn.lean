/- spec.GridIn, by its contract. -/
import Derived.Test.YtmdgbcepjnfbnaaGridM
import Derived.Test.YtmdgbcepjnfbnaaKit1
namespace Go.Proofs.Ytmdgbcepjnfbnaa
open Go.RowKit

theorem l6In_any (n lo hi : Int) (w : World) :
    Calls Try.prog 74 #[.int .i64 n, .int .i64 lo, .int .i64 hi] w fun e w' => e = .returned (.bool (decide (lo ≤ n ∧ n ≤ hi))) ∧ w = w' := by
  by_cases h1 : lo ≤ n
  · by_cases h2 : n ≤ hi
    · have e : decide (lo ≤ n ∧ n ≤ hi) = true := by simp; omega
      rw [e]
      go_enter Try.func74, Try.ntmps74
      go_wp2
      go_ret
      exact ⟨rfl, rfl⟩
    · have e : decide (lo ≤ n ∧ n ≤ hi) = false := by simp; omega
      rw [e]
      go_enter Try.func74, Try.ntmps74
      go_wp2
      go_ret
      exact ⟨rfl, rfl⟩
  · have e : decide (lo ≤ n ∧ n ≤ hi) = false := by simp; omega
    rw [e]
    go_enter Try.func74, Try.ntmps74
    go_wp2
    go_ret
    exact ⟨rfl, rfl⟩

theorem byte_beq (b c : UInt8) : ((b.toNat : Int) == (c.toNat : Int)) = (b == c) := by
  by_cases h : b = c
  · subst h; simp
  · have h' : b.toNat ≠ c.toNat := fun e => h (UInt8.toNat_inj.1 e)
    rw [beq_eq_false_iff_ne.2 h, beq_eq_false_iff_ne]; omega

theorem l1Letter_any (b : UInt8) (w : World) :
    Calls Try.prog 108 #[.int .u8 b.toNat] w fun e w' => e = .returned (.bool (isLet b)) ∧ w = w' := by
  have e1 := byte_beq b 46
  have e2 := byte_beq b 114
  have e3 := byte_beq b 102
  unfold isLet
  rw [← e1, ← e2, ← e3]
  clear e1 e2 e3
  change Calls Try.prog 108 #[.int .u8 b.toNat] w fun e w' => e = .returned (.bool ((b.toNat : Int) == 46 || (b.toNat : Int) == 114 || (b.toNat : Int) == 102)) ∧ w = w'
  generalize (b.toNat : Int) = x
  by_cases h1 : (x == 46) = true
  · rw [h1]
    go_enter Try.func108, Try.ntmps108
    go_wp2
    go_ret
    exact ⟨rfl, rfl⟩
  have h1' : (x == 46) = false := by simpa using h1
  by_cases h2 : (x == 114) = true
  · rw [h1', h2]
    go_enter Try.func108, Try.ntmps108
    go_wp2
    go_ret
    exact ⟨rfl, rfl⟩
  have h2' : (x == 114) = false := by simpa using h2
  rw [h1', h2']
  go_enter Try.func108, Try.ntmps108
  go_wp2
  go_ret
  exact ⟨rfl, rfl⟩

theorem quiet_l {P : Program} {f : FuncId} {args : Array Value} {w : World} {n : Nat} {v : Value}
    (h : Calls P f args (w.drewN n) fun e w' => e = .returned v ∧ w.drewN n = w') : Calls P f args (w.drewN n) fun e w'' => e = .returned v ∧ ∃ m, w'' = w.drewN m :=
  h.mono fun _ _ ⟨he, hm⟩ => ⟨he, n, hm.symm⟩
theorem quiet_al {P : Program} {f : FuncId} {args : Array Value} {w : World} {a n : Nat} {v : Value}
    (h : Calls P f args (w.drewN (a + n)) fun e w' => e = .returned v ∧ w.drewN (a + n) = w') : Calls P f args (w.drewN (a + n)) fun e w'' => e = .returned v ∧ ∃ m, w'' = w.drewN (a + m) :=
  h.mono fun _ _ ⟨he, hm⟩ => ⟨he, n, hm.symm⟩

/-- What GridIn of the specification comes to. -/
def InEnd (ss : List ByteArray) (w : World) (e : Ending) (w' : World) : Prop :=
  ∃ ok : Bool, e = .returned (.bool ok) ∧ (ok = true ↔ ∃ n m, IsGrid n m ss) ∧ ∃ d, w' = w.drewN d
theorem InEnd.no {ss : List ByteArray} {w : World} (h : NoGrid ss) (d : Nat) : InEnd ss w (.returned (.bool false)) (w.drewN d) :=
  ⟨false, rfl, by simp; exact h, d, rfl⟩
def SOut (ss : List ByteArray) (m : Nat) (w : World) (i : Value) (wr : World) : Prop :=
  ∃ r : Nat, r ≤ ss.length ∧ i = .int .i64 r ∧ (∃ d, wr = w.drewN d) ∧ ∀ (j : Nat) (t : ByteArray), j < r → ss[j]? = some t → rowOk m t ∧ 1 ≤ m ∧ m ≤ 5
def SIn (s : ByteArray) (m : Nat) (w : World) (i : Value) (wr : World) : Prop :=
  ∃ c : Nat, c ≤ m ∧ i = .int .i64 c ∧ (∃ d, wr = w.drewN d) ∧ ∀ (j : Nat) (b : UInt8), j < c → s.data.toList[j]? = some b → isLet b = true

set_option maxRecDepth 100000 in
set_option maxHeartbeats 1000000 in
theorem specGridIn_core (b off c B m : Nat) (s0 : ByteArray) (ss : List ByteArray) (w : World) (h : Strs w B (some ⟨b, off, none⟩) ss) (h1 : 0 < ss.length) (hm0 : s0.size = m) (hk0 : ss[0]? = some s0) (hn : ss.length ≤ 1048576) (hs : ∀ s ∈ ss, s.size ≤ 1048576)
    (hc0 : w.cell? ⟨b, off, none⟩ = some (.string s0)) :
    Calls Try.prog 58 #[.slice (some ⟨b, off, none⟩) ss.length c] w (InEnd ss w) := by
  have hm1 : m ≤ 1048576 := by rw [← hm0]; exact hs s0 (List.mem_of_getElem? hk0)
  have HK := hid hk0
  have HH := hid h
  have HS := hid hs
  have HM0 := hid hm0
  have hl0 : (0 : Int) < (ss.length : Int) := by omega
  clear hk0 h hs hm0
  go_enter Try.func58, Try.ntmps58
  go_wp2_with fail
  go_loopw [3] (SOut ss m w) (fun i _ => ss.length - (intOf i).toNat)
  case atStart => exact ⟨0, Nat.zero_le _, rfl, ⟨0, rfl⟩, fun j t hj => absurd hj (by omega)⟩
  case round =>
    obtain ⟨r, hr, rfl, ⟨d, rfl⟩, hrows⟩ := hrel
    have HR := hid hrows
    clear hrows
    by_cases hlt : r < ss.length
    · obtain ⟨b', off', s, hA, hb', hks, hc⟩ := HH.out.at_ hlt
      obtain ⟨rfl, rfl⟩ : b = b' ∧ off = off' := by cases hA; exact ⟨rfl, rfl⟩
      have hssz := HS.out s (List.mem_of_getElem? hks)
      have HKs := hid hks
      have hri : (r : Int) < (ss.length : Int) := by omega
      have hri0 : (0 : Int) ≤ (r : Int) := by omega
      have hmi : ((s0.size : Nat) : Int) = m := by rw [HM0.out]
      clear hks hA
      by_cases hsm : s.size = m
      · have hsm' : ((s.size : Int) != (m : Int)) = false := by simp [hsm]
        have HM := hid hsm
        have hlin := hid (l6In_any (s.size : Int) 1 5)
        by_cases h15 : 1 ≤ m ∧ m ≤ 5
        · have d1 : decide (1 ≤ (s.size : Int) ∧ (s.size : Int) ≤ 5) = true := by simp; omega
          rw [d1] at hlin
          clear hsm d1
          go_wp2_with fail
          go_quiet ((go_at_call 74; exact quiet_al (hlin.out _)))
          go_wp2_with fail
          go_loopw [4] (SIn s m w) (fun i _ => m - (intOf i).toNat)
          case atStart => exact ⟨0, Nat.zero_le _, rfl, ⟨d + nq, by rw [World.drewN_drewN]⟩, fun j t hj => absurd hj (by omega)⟩
          case round =>
            obtain ⟨k, hk, rfl, ⟨d2, rfl⟩, hlet⟩ := hrel
            have HL := hid hlet
            clear hlet
            by_cases hlk : k < m
            · have hks : k < s.size := by rw [HM.out]; exact hlk
              obtain ⟨bt, hbt⟩ : ∃ bt, s.data.toList[k]? = some bt := ⟨_, List.getElem?_eq_getElem (by rw [← Lib.size_eq]; exact hks)⟩
              have hbyte : s[k] = bt := byte_of hbt hks
              have gl := hid (l1Letter_any bt)
              have HB := hid hbt
              clear hbt
              cases hlb : isLet bt with
              | false =>
                rw [hlb] at gl
                have HF := hid hlb
                clear hlb
                go_wp2_with fail
                refine (gl.out _).mono ?_
                rintro e w' ⟨rfl, rfl⟩
                go_wp2
                go_ret
                exact InEnd.no (noGrid_letter HKs.out HB.out HF.out) _
              | true =>
                rw [hlb] at gl
                have HF := hid hlb
                clear hlb
                go_wp2_with fail
                refine (gl.out _).mono ?_
                rintro e w' ⟨rfl, rfl⟩
                go_wp2
                go_roundw
                case rel => exact ⟨k + 1, by omega, by go_num, ⟨d2, rfl⟩, fun j b hj hb => by
                  by_cases hjk : j < k
                  · exact HL.out j b hjk hb
                  · obtain rfl : j = k := by omega
                    rw [HB.out] at hb; cases hb; exact HF.out⟩
                case measure => simp [intOf]; omega
            · obtain rfl : k = m := by omega
              have hks : ¬ k < s.size := by rw [HM.out]; omega
              have hki : decide ((k : Int) < (s.size : Int)) = false := by simp; omega
              go_wp2
              go_roundw
              case rel => exact ⟨r + 1, by omega, by go_num, ⟨d2, rfl⟩, fun j t hj ht => by
                by_cases hjr : j < r
                · exact HR.out j t hjr ht
                · obtain rfl : j = r := by omega
                  rw [HKs.out] at ht; cases ht
                  exact ⟨⟨HM.out, fun b hb => by
                    obtain ⟨i, hi, rfl⟩ := List.mem_iff_getElem.1 hb
                    exact HL.out i _ (by rw [← HM.out, Lib.size_eq]; exact hi) (List.getElem?_eq_getElem hi)⟩, h15⟩⟩
              case measure => simp [intOf]; omega
        · have d1 : decide (1 ≤ (s.size : Int) ∧ (s.size : Int) ≤ 5) = false := by simp; omega
          rw [d1] at hlin
          have HN := hid (noGrid_first HK.out (by rw [HM0.out]; exact h15))
          clear hsm d1
          go_wp2_with fail
          go_quiet ((go_at_call 74; exact quiet_al (hlin.out _)))
          go_wp2
          go_ret
          exact World.drewN_drewN w d nq ▸ InEnd.no HN.out _
      · have hsm' : ((s.size : Int) != (m : Int)) = true := by simp; omega
        have HN := hid (noGrid_size HK.out HKs.out (by rw [HM0.out]; exact hsm))
        clear hsm
        go_wp2_with fail
        go_quiet (fail)
        go_wp2
        go_ret
        exact World.drewN_drewN w d nq ▸ InEnd.no HN.out _
    · obtain rfl : r = ss.length := by omega
      have hlin := hid (l6In_any (ss.length : Int) 1 5)
      have hall : ∀ s ∈ ss, rowOk m s ∧ 1 ≤ m ∧ m ≤ 5 := fun s hs => by
        obtain ⟨i, hi, rfl⟩ := List.mem_iff_getElem.1 hs
        exact HR.out i _ hi (List.getElem?_eq_getElem hi)
      have HA := hid hall
      clear hall
      go_wp2_with fail
      refine (hlin.out _).mono ?_
      rintro e w' ⟨rfl, rfl⟩
      go_wp2
      go_ret
      refine ⟨_, rfl, ?_, d, rfl⟩
      rw [Bool.and_eq_true, decide_eq_true_iff, decide_eq_true_iff]
      refine ⟨fun hx => ⟨ss.length, m, rfl, by omega, by omega, (HA.out s0 (List.mem_of_getElem? HK.out)).2.1, (HA.out s0 (List.mem_of_getElem? HK.out)).2.2, fun s hs => (HA.out s hs).1⟩, ?_⟩
      rintro ⟨n, m', hg⟩
      have := hg.1; have := hg.2.1; have := hg.2.2.1
      omega

set_option maxHeartbeats 400000 in
theorem specGridIn_any (A : Option Addr) (c B : Nat) (ss : List ByteArray) (w : World) (h : Strs w B A ss) (hn : ss.length ≤ 1048576) (hs : ∀ s ∈ ss, s.size ≤ 1048576) :
    Calls Try.prog 58 #[.slice A ss.length c] w (InEnd ss w) := by
  by_cases h1 : 0 < ss.length
  · obtain ⟨b, off, s0, rfl, hb, hk0, hc0⟩ := h.at_ (k := 0) (by omega)
    rw [Nat.add_zero] at hc0
    exact specGridIn_core b off c B s0.size s0 ss w h h1 rfl hk0 hn hs hc0
  · obtain rfl : ss = [] := List.eq_nil_of_length_eq_zero (by omega)
    have hlin := hid (l6In_any 0 1 5)
    clear h hs
    simp only [List.length_nil]
    go_enter Try.func58, Try.ntmps58
    go_wp2_with fail
    refine wp_loop_rounds 1 ?_
    rw [rounds_succ]
    go_wp2_with fail
    refine (hlin.out _).mono ?_
    rintro e w' ⟨rfl, rfl⟩
    go_wp2
    go_ret
    exact InEnd.no (noGrid_len (by simp)) 0

end Go.Proofs.Ytmdgbcepjnfbnaa
