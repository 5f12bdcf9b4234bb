/- AimGo of the specification, by its contract. -/
import Derived.Test.YtminailbhgimkaaAimS
import Derived.Test.YtminailbhgimkaaAimT
import Derived.Test.YtminailbhgimkaaAimG
import Derived.Test.YtminailbhgimkaaBunO
namespace Go.Proofs.Ytminailbhgimkaa
open Go.RowKit Go.Shelf

/-- What l9Given comes to, at most 9 cells. -/
def AimGiven (ss : List ByteArray) (p q : Int) (w : World) (e : Ending) (w' : World) : Prop :=
  ∃ ok : Bool, e = .returned (.bool ok) ∧ ((ok = true ∧ ∃ n m p' q' : Nat, IsGrid n m ss ∧ p = (p' : Int) ∧ q = (q' : Int) ∧ AimsAt n m p q) ∨ (ok = false ∧ ∀ n m, IsGrid n m ss → ¬ AimsAt n m p q)) ∧ ∃ d, w' = w.drewN d
theorem aims_no_p {ss : List ByteArray} {p q : Int} (h : NoPort ss p) : ∀ n m, IsGrid n m ss → ¬ AimsAt n m p q := fun n m hg ha => by
  obtain ⟨⟨a1, a2⟩, _⟩ := ha
  obtain ⟨p', rfl⟩ := Int.eq_ofNat_of_zero_le a1
  exact h n m p' ⟨hg, rfl, by omega⟩
theorem aims_no_q {ss : List ByteArray} {p q : Int} (h : NoPort ss q) : ∀ n m, IsGrid n m ss → ¬ AimsAt n m p q := fun n m hg ha => by
  obtain ⟨_, ⟨a1, a2⟩, _⟩ := ha
  obtain ⟨q', rfl⟩ := Int.eq_ofNat_of_zero_le a1
  exact h n m q' ⟨hg, rfl, by omega⟩

set_option maxRecDepth 100000 in
set_option maxHeartbeats 4000000 in
theorem l9Given_any (A : Option Addr) (c B : Nat) (ss : List ByteArray) (p q : Int) (w : World) (h : Strs w B A ss) (hn : ss.length ≤ 1048576) (hs : ∀ s ∈ ss, s.size ≤ 1048576) :
    Calls Try.prog 69 #[.slice A ss.length c, .int .i64 p, .int .i64 q, .int .i64 9] w (AimGiven ss p q w) := by
  have HI := hid (l2Given_any A c B ss p w h hn hs)
  have HI2 := hid (fun d => l2Given_any A c B ss q (w.drewN d) (h.drewN d) hn hs)
  have HD := hid h
  clear h hs
  go_enter Try.func69, Try.ntmps69
  go_wp2_with fail
  refine HI.out.mono ?_
  rintro e w' ⟨ok, rfl, hok, d, rfl⟩
  rcases hok with ⟨rfl, n, m, a, ha⟩ | ⟨rfl, hno⟩
  · have HA := hid ha
    clear ha
    go_wp2_with fail
    refine (HI2.out d).mono ?_
    rintro e w' ⟨ok, rfl, hok, d2, rfl⟩
    rcases hok with ⟨rfl, n', m', b, hb⟩ | ⟨rfl, hno⟩
    · obtain ⟨rfl, rfl⟩ := HA.out.1.uniq hb.1
      have HBq := hid hb
      clear hb
      have hpa := HA.out.2.1
      have hqb := HBq.out.2.1
      subst hpa
      subst hqb
      obtain ⟨b0, off, s0, rfl, hb0, hk0, hc0⟩ := HD.out.at_ (k := 0) (by have := HA.out.1.1; have := HA.out.1.2.1; omega)
      rw [Nat.add_zero] at hc0
      have hmi : ((s0.size : Nat) : Int) = (m : Int) := by rw [(HA.out.1.2.2.2.2.2 s0 (List.mem_of_getElem? hk0)).1]
      have hni : ((ss.length : Nat) : Int) = (n : Int) := by rw [HA.out.1.1]
      have hn5 := HA.out.1.2.2.1
      have hm5 := HA.out.1.2.2.2.2.1
      have hn1 := HA.out.1.2.1
      have hl0 : 0 < ss.length := by omega
      have hl0i : (0 : Int) < ((ss.length : Nat) : Int) := by omega
      have hmul : (n : Int) * (m : Int) ≤ 25 ∧ 0 ≤ (n : Int) * (m : Int) ∧ (n : Int) * (m : Int) = ((n * m : Nat) : Int) := by
        have h1 : n * m ≤ 5 * 5 := Nat.mul_le_mul hn5 hm5
        have h2 : ((n * m : Nat) : Int) = (n : Int) * (m : Int) := Int.natCast_mul n m
        omega
      obtain ⟨hmu1, hmu2, hmu3⟩ := hmul
      have HMU := hid hmu3
      clear hb0 hk0 hmu3
      by_cases hpq : a = b
      · have hpq' : (a : Int) = (b : Int) := by omega
        have hbe : ((a : Int) != (b : Int)) = false := by rw [hpq']; simp
        go_wp2_with fail
        go_ret
        exact ⟨false, rfl, .inr ⟨rfl, fun n' m' _ ha => ha.2.2.1 hpq'⟩, d + d2, rfl⟩
      · have hpq' : ¬ (a : Int) = (b : Int) := by omega
        have hbe : ((a : Int) != (b : Int)) = true := bne_iff_ne.2 hpq'
        by_cases h9 : (n : Int) * (m : Int) ≤ 9
        · go_wp2_with fail
          go_ret
          exact ⟨true, rfl, .inl ⟨rfl, n, m, a, b, HA.out.1, rfl, rfl, ⟨⟨by omega, by have := HA.out.2.2; omega⟩, ⟨by omega, by have := HBq.out.2.2; omega⟩, hpq', by have := HMU.out; omega⟩⟩, d + d2, rfl⟩
        · have hd9 : decide ((n : Int) * (m : Int) ≤ 9) = false := decide_eq_false h9
          go_wp2_with fail
          go_ret
          exact ⟨false, by first | rfl | (simp only [hd9]; rfl) | (trace_state; rfl), .inr ⟨rfl, fun n' m' hg' ha => by
            obtain ⟨rfl, rfl⟩ := HA.out.1.uniq hg'
            have := HMU.out
            have := ha.2.2.2
            omega⟩, d + d2, rfl⟩
    · have HNo := hid hno
      clear hno
      go_wp2_with fail
      go_ret
      exact ⟨false, rfl, .inr ⟨rfl, aims_no_q HNo.out⟩, d + d2, rfl⟩
  · have HNo := hid hno
    clear hno
    go_wp2_with fail
    go_ret
    exact ⟨false, rfl, .inr ⟨rfl, aims_no_p HNo.out⟩, d, rfl⟩

theorem aimV_go {n m p q : Nat} {ss : List ByteArray} (hg : IsGrid n m ss) (h9 : n * m ≤ 9) (hp : p < 2 * (n + m)) (hq : q < 2 * (n + m)) (hpq : p ≠ q) :
    min 100 (0 + aimA 1000 n m q (4 * (n * m) + 1) (flat ss) (fun _ => false) (entr n m p)) = aimV n m p q (pad (flat ss)) := by
  have e : (pad (flat ss)).take (n * m) = flat ss := by
    unfold pad
    rw [← hg.flen, List.take_left']
    rfl
  have hl : n * m ≤ (flat ss).length := by rw [hg.flen]; exact Nat.le_refl _
  unfold aimV
  rw [e, ← aim_any (s := 1000) (S := n * m + 1) (f := 4 * (n * m) + 1) (g := 4 * (n * m) + 1) hg.2.1 hg.2.2.1 hg.2.2.2.1 hg.2.2.2.2.1 h9 hp hq hpq hl (by omega) (by omega) (by omega) (by omega)]
  have c := aim_cells (S := 1000) (f := 4 * (n * m) + 1) (ls := flat ss) hg.2.1 hg.2.2.1 hg.2.2.2.1 hg.2.2.2.2.1 h9 hp hq hpq hl (by omega)
  omega

set_option maxRecDepth 100000 in
set_option maxHeartbeats 4000000 in
theorem l9Least_any (n m p q c B : Nat) (A : Option Addr) (ss : List ByteArray) (w : World) (h : Strs w B A ss) (hB : B ≤ w.heap.size) (hg : IsGrid n m ss) (h9 : n * m ≤ 9) (hp : p < 2 * (n + m)) (hq : q < 2 * (n + m)) (hpq : p ≠ q) :
    Calls Try.prog 70 #[.slice A ss.length c, .int .i64 p, .int .i64 q] w fun e w' => e = .returned (.int .i64 ((aimV n m p q (pad (flat ss)) : Nat) : Int)) ∧ Below w.heap.size w w' := by
  have hn1 := hg.2.1
  have hn5 := hg.2.2.1
  have hm1 := hg.2.2.2.1
  have hm5 := hg.2.2.2.2.1
  obtain ⟨b0, off, s0, rfl, hb0, hk0, hc0⟩ := h.at_ (k := 0) (by have := hg.1; omega)
  rw [Nat.add_zero] at hc0
  have hmi : ((s0.size : Nat) : Int) = (m : Int) := by rw [(hg.2.2.2.2.2 s0 (List.mem_of_getElem? hk0)).1]
  have hni : ((ss.length : Nat) : Int) = (n : Int) := by rw [hg.1]
  have hl0 : 0 < ss.length := by have := hg.1; omega
  have hl0i : (0 : Int) < ((ss.length : Nat) : Int) := by omega
  obtain ⟨N, hN⟩ : ∃ N, n * m = N := ⟨_, rfl⟩
  have hNi : (n : Int) * (m : Int) = (N : Int) := by rw [← hN, Int.natCast_mul]
  have hN9 : N ≤ 9 := by omega
  have hN0 : (0 : Int) ≤ (N : Int) := Int.natCast_nonneg _
  have hmk := run_make_row' (P := Try.prog) 96 4 (.bool false) 1 Try.underlying96 Try.info_bool rfl .i64 .i64 N (by omega) (by omega)
  have HEN := hid (fun W => l2Enter_any n m p W hn5 hm5 hp)
  have hv := aimV_go hg h9 hp hq hpq
  rw [Nat.zero_add, hN] at hv
  have HV := hid hv
  clear hv
  have HGO := hid (show ∀ W c2, Below w.heap.size w W → BoolsAt W w.heap.size (n * m) (fun _ => false) → Calls Try.prog 106 #[.slice (some ⟨b0, off, none⟩) ss.length c, .slice (some ⟨w.heap.size, 0, none⟩) (n * m) c2, .int .i64 (entr n m p).i, .int .i64 (entr n m p).k, .int .i64 (((entr n m p).d : Nat) : Int), .int .i64 (q : Int), .int .i64 ((0 : Nat) : Int), .int .i64 ((100 : Nat) : Int)] W (GoEnd n m q (4 * (n * m)) 0 100 (flat ss) (fun _ => false) (entr n m p) W) from fun W c2 hb hf =>
    l9Go_any n m q hn1 hn5 hm1 hm5 (4 * (n * m)) ss (fun _ => false) (entr n m p) 0 100 c c2 w.heap.size B _ W ⟨h.below hb hB, Nat.le_trans hB hb.size, hg, hf⟩ (aim_deep (n := n) (m := m) hp (4 * (n * m)) 0 (flat ss) (fun _ => false) (by omega) (fun i hi => by omega)) (entr_d n m p) (.inl (entr_in hn1 hm1 hp)) (by omega) (by omega))
  have HBW := hid ((Below.refl w.heap.size w).alloc (Nat.le_refl _) (.cells (madeCells #[.bool false] N) 4))
  have HFW := hid (show BoolsAt (w.alloc (.cells (madeCells #[.bool false] N) 4)) w.heap.size N (fun _ => false) from ⟨by simp, fun k hk => by
    rw [cell_of_row _ _ _ _ _ _ (heap_new0 w _)]
    simp [madeCells, hk, Nat.mod_one]⟩)
  rw [hN] at HGO
  clear h hB hb0 hk0 hg hN
  generalize entr n m p = x at *
  go_enter Try.func70, Try.ntmps70
  go_wp2_with fail
  refine (HEN.out _).mono ?_
  rintro e w' ⟨rfl, rfl⟩
  unfold wayT
  go_wp2_with fail
  refine (HGO.out _ _ HBW.out HFW.out).mono ?_
  rintro e w2 ⟨rfl, hb2⟩
  have HB2 := hid (HBW.out.trans (hb2.mono HBW.out.size))
  clear hb2
  go_wp2_with fail
  go_ret
  exact ⟨by rw [← HV.out]; rfl, HB2.out⟩

set_option maxRecDepth 100000 in
set_option maxHeartbeats 4000000 in
theorem specAimGo_any (A : Option Addr) (c B : Nat) (ss : List ByteArray) (p q : Int) (w : World) (h : Strs w B A ss) (hB : B ≤ w.heap.size) (hn : ss.length ≤ 1048576) (hs : ∀ s ∈ ss, s.size ≤ 1048576) :
    Calls Try.prog 39 #[.slice A ss.length c, .int .i64 p, .int .i64 q] w fun e w' => Below w.heap.size w w' ∧ ∃ x ok, e = .returned (.tuple #[.int .i64 x, .bool ok]) ∧ AimOut ss p q x ok := by
  have HI := hid (l9Given_any A c B ss p q w h hn hs)
  have HD := hid h
  clear h hs
  go_enter Try.func39, Try.ntmps39
  go_wp2_with fail
  refine HI.out.mono ?_
  rintro e w' ⟨ok, rfl, hok, d, rfl⟩
  have HBd := hid (below_drewN' (Below.refl w.heap.size w) d)
  rcases hok with ⟨rfl, n, m, p', q', hg, rfl, rfl, ha⟩ | ⟨rfl, hno⟩
  · have HG := hid hg
    have HA := hid ha
    have HL := hid (l9Least_any n m p' q' c B A ss (w.drewN d) (HD.out.drewN d) hB hg ha.2.2.2 (by have := ha.1.2; omega) (by have := ha.2.1.2; omega) (fun e => ha.2.2.1 (by rw [e])))
    clear hg ha
    go_wp2_with fail
    refine HL.out.mono ?_
    rintro e w2 ⟨rfl, hb2⟩
    have HB2 := hid (HBd.out.trans (hb2.mono HBd.out.size))
    clear hb2
    go_wp2_with fail
    refine bodyPost_ret (results_tmp2 rfl _ _ _) rfl ?_
    exact ⟨HB2.out, _, true, rfl, .inl ⟨n, m, p', q', HG.out, rfl, rfl, HA.out, rfl, rfl⟩⟩
  · have HNo := hid hno
    clear hno
    go_wp2_with fail
    refine bodyPost_ret (results_tmp2 rfl _ _ _) rfl ?_
    exact ⟨HBd.out, 0, false, rfl, .inr ⟨HNo.out, rfl, rfl⟩⟩
end Go.Proofs.Ytminailbhgimkaa
