/- AimEmpty of the program and of the specification, by their contracts. -/
import Derived.Test.YtminailbhgimkaaAimU
import Derived.Test.YtminailbhgimkaaBunW
import Derived.Test.YtminailbhgimkaaBunA
namespace Go.Proofs.Ytminailbhgimkaa
open Go.RowKit Go.Shelf

/-- What AimEmpty comes to. -/
def AimEOut (a b p q x : Int) (ok : Bool) : Prop :=
  (∃ n m p' q' : Nat, a = (n : Int) ∧ b = (m : Int) ∧ 1 ≤ n ∧ n ≤ 5 ∧ 1 ≤ m ∧ m ≤ 5 ∧ p = (p' : Int) ∧ q = (q' : Int) ∧ AimsAt n m p q ∧ x = ((aimV n m p' q' (pad (ofL 0 (n * m))) : Nat) : Int) ∧ ok = true) ∨
    ((∀ n m : Nat, a = (n : Int) → b = (m : Int) → 1 ≤ n → n ≤ 5 → 1 ≤ m → m ≤ 5 → ¬ AimsAt n m p q) ∧ x = 0 ∧ ok = false)
theorem AimEOut.uniq {s t p q x x' : Int} {ok ok' : Bool} (h : AimEOut s t p q x ok) (h' : AimEOut s t p q x' ok') : x' = x ∧ ok' = ok := by
  rcases h with ⟨n, m, a, b, h1, h2, h3, h4, h5, h6, h7, h8, h9, rfl, rfl⟩ | ⟨h1, rfl, rfl⟩ <;> rcases h' with ⟨n', m', a', b', h1', h2', h3', h4', h5', h6', h7', h8', h9', rfl, rfl⟩ | ⟨h1', rfl, rfl⟩
  · obtain rfl : n = n' := by omega
    obtain rfl : m = m' := by omega
    obtain rfl : a = a' := by omega
    obtain rfl : b = b' := by omega
    exact ⟨rfl, rfl⟩
  · exact absurd h9 (h1' n m h1 h2 h3 h4 h5 h6)
  · exact absurd h9' (h1 n' m' h1' h2' h3' h4' h5' h6')
  · exact ⟨rfl, rfl⟩

theorem empty_flat {n m : Nat} (hm : 0 < m) : flat (ruleG n m (ofF m 0)) = ofL 0 (n * m) := by
  rw [← of_same, (flat_texts hm (ofL_length _ _)).1]
theorem empty_let (d : Nat) (h : d < 3) : isLet (letD d) = true := by
  rcases (by omega : d = 0 ∨ d = 1 ∨ d = 2) with rfl | rfl | rfl <;> rfl
theorem empty_grid {n m : Nat} (hn : 1 ≤ n) (hn5 : n ≤ 5) (hm : 1 ≤ m) (hm5 : m ≤ 5) : IsGrid n m (ruleG n m (ofF m 0)) :=
  rule_grid hn hn5 hm hm5 fun _ _ _ _ => empty_let _ (Nat.mod_lt _ (by omega))

set_option maxRecDepth 100000 in
set_option maxHeartbeats 4000000 in
theorem implAimEmpty_any (a b p q : Int) (w : World) :
    Calls Try.prog 42 #[.int .i64 a, .int .i64 b, .int .i64 p, .int .i64 q] w fun e w' => Below w.heap.size w w' ∧ ∃ x ok, e = .returned (.tuple #[.int .i64 x, .bool ok]) ∧ AimEOut a b p q x ok := by
  have HR := hid (numberedGrid_any a b 0 w (by decide))
  go_enter Try.func42, Try.ntmps42
  go_wp2_with fail
  refine HR.out.mono ?_
  rintro e w1 ⟨hbel, ⟨n, m, k, hg, rfl⟩ | ⟨hno, rfl⟩⟩
  · obtain ⟨rfl, rfl, hk, hn1, hn5, hm1, hm5, _⟩ := hg
    obtain rfl : k = 0 := by omega
    clear hk
    have HB := hid hbel
    obtain ⟨ls, hls⟩ : ∃ ls, pad (ofL 0 (n * m)) = ls := ⟨_, rfl⟩
    have hl25 : ls.length = 25 := by rw [← hls]; exact pad_length (by rw [ofL_length]; exact Nat.mul_le_mul hn5 hm5)
    have HLS := hid hls
    rw [hls]
    clear hls
    have HS := hid (show (Try.prog.info? 57).map (·.size) = some (gcells n m ls).size by rw [gcells_size hl25]; exact Try.size_grid)
    have HZ := hid (show zeroG.size = (gcells n m ls).size by rw [gcells_size hl25]; rfl)
    have HL := hid (setRow_heap (w1.alloc (.cells zeroG 57)) w1.heap.size zeroG (gcells n m ls) 57 (0, 0) (heap_new0 w1 _))
    have HW := hid (HB.out.trans (below_setRow' ((Below.refl _ w1).alloc HB.out.size (.cells zeroG 57)) HB.out.size (gcells n m ls)))
    have HAI := hid (fun W => aimsIn_any n m ls p q W hl25 hn5 hm5)
    have HCO := hid (fun (p' q' : Nat) W (h9 : n * m ≤ 9) h1 h2 => costAlong_any n m p' q' ls W hl25 hn1 hn5 hm1 hm5 h9 h1 h2)
    have HNM := hid (And.intro (And.intro hn1 hn5) (And.intro hm1 hm5))
    clear hbel hl25
    go_wp2_with (first
      | refine wpList_store_row rfl 57 _ _ rfl w1.heap.size (gcells n m ls) rfl rfl 57 zeroG (heap_new0 w1 _) HS.out HZ.out (gcells_one _ _ _) ?_
      | refine wpList_load_row_g (by rfl) 57 _ rfl w1.heap.size rfl 57 (gcells n m ls) (0, 0) _ HL.out Try.underlying57 rfl HS.out ?_
      | fail)
    generalize ((w1.alloc (.cells zeroG 57)).setRow w1.heap.size (gcells n m ls)) = w2 at HL HW ⊢
    refine (HAI.out w2).mono ?_
    rintro e w3 ⟨rfl, hb3⟩
    have HL3 := hid ((hb3.block _ (lt_of_block HL.out)).trans HL.out)
    have HB3 := hid (HW.out.trans (hb3.mono HW.out.size))
    clear hb3 HL HW HAI
    by_cases ha : AimsAt n m p q
    · rw [show decide (AimsAt n m p q) = true from decide_eq_true ha]
      obtain ⟨⟨a1, a2⟩, ⟨a3, a4⟩, a5, a6⟩ := ha
      obtain ⟨p', rfl⟩ := Int.eq_ofNat_of_zero_le a1
      obtain ⟨q', rfl⟩ := Int.eq_ofNat_of_zero_le a3
      have HA := hid (show AimsAt n m (p' : Int) (q' : Int) from ⟨⟨a1, a2⟩, ⟨a3, a4⟩, a5, a6⟩)
      have HC := hid (fun W => HCO.out p' q' W a6 (by omega) (by omega))
      clear a1 a2 a3 a4 a5 a6 HCO
      go_wp2_with (first
        | refine wpList_load_row rfl 57 _ rfl w1.heap.size rfl 57 (gcells n m ls) (0, 0) _ HL3.out Try.underlying57 rfl HS.out ?_
        | fail)
      refine (HC.out w3).mono ?_
      rintro e w4 ⟨rfl, hb4⟩
      have HB4 := hid (HB3.out.trans (hb4.mono HB3.out.size))
      clear hb4
      go_wp2_with fail
      refine bodyPost_ret (results_tmp2 rfl _ _ _) rfl ?_
      exact ⟨HB4.out, _, true, rfl, .inl ⟨n, m, p', q', rfl, rfl, HNM.out.1.1, HNM.out.1.2, HNM.out.2.1, HNM.out.2.2, rfl, rfl, HA.out, by rw [HLS.out]; rfl, rfl⟩⟩
    · rw [show decide (AimsAt n m p q) = false from decide_eq_false ha]
      have HA := hid ha
      clear ha
      go_wp2_with fail
      refine bodyPost_ret (results_tmp2 rfl _ _ _) rfl ?_
      exact ⟨HB3.out, _, false, rfl, .inr ⟨fun n' m' h1 h2 _ _ _ _ => by
        obtain rfl : n = n' := by omega
        obtain rfl : m = m' := by omega
        exact HA.out, rfl, rfl⟩⟩
  · have HB := hid hbel
    have HNo := hid hno
    clear hbel hno
    go_wp2_with (refine wpList_store_row rfl 57 _ _ rfl w1.heap.size zeroG rfl rfl 57 zeroG (heap_new0 w1 _) Try.size_grid rfl (gcells_one 0 0 (pad [])) ?_)
    refine bodyPost_ret (results_tmp2 rfl _ _ _) rfl ?_
    exact ⟨HB.out.trans (below_setRow' ((Below.refl _ w1).alloc HB.out.size _) HB.out.size _), _, false, rfl, .inr ⟨fun n' m' h1 h2 h3 h4 h5 h6 => absurd ⟨h1, h2, rfl, h3, h4, h5, h6, Nat.pow_pos (by decide)⟩ (HNo.out n' m' 0), rfl, rfl⟩⟩

set_option maxRecDepth 100000 in
set_option maxHeartbeats 4000000 in
theorem specAimEmpty_any (a b p q : Int) (w : World) :
    Calls Try.prog 41 #[.int .i64 a, .int .i64 b, .int .i64 p, .int .i64 q] w fun e w' => Below w.heap.size w w' ∧ ∃ x ok, e = .returned (.tuple #[.int .i64 x, .bool ok]) ∧ AimEOut a b p q x ok := by
  have HI1 := hid (fun W => l6In_any a 1 5 W)
  have HI2 := hid (fun W => l6In_any b 1 5 W)
  by_cases ha : 1 ≤ a ∧ a ≤ 5
  rotate_left
  · have HNO := hid ha
    rw [show decide (1 ≤ a ∧ a ≤ 5) = false from decide_eq_false ha] at HI1
    clear ha
    go_enter Try.func41, Try.ntmps41
    go_wp2_with fail
    refine (HI1.out _).mono ?_
    rintro e w' ⟨rfl, rfl⟩
    go_wp2_with fail
    refine bodyPost_ret (results_tmp2 rfl _ _ _) rfl ?_
    exact ⟨Below.refl _ _, _, false, rfl, .inr ⟨fun n' m' h1 h2 h3 h4 h5 h6 => absurd ⟨by omega, by omega⟩ HNO.out, rfl, rfl⟩⟩
  rw [show decide (1 ≤ a ∧ a ≤ 5) = true from decide_eq_true ha] at HI1
  by_cases hb : 1 ≤ b ∧ b ≤ 5
  rotate_left
  · have HNO := hid hb
    rw [show decide (1 ≤ b ∧ b ≤ 5) = false from decide_eq_false hb] at HI2
    clear ha hb
    go_enter Try.func41, Try.ntmps41
    go_wp2_with fail
    refine (HI1.out _).mono ?_
    rintro e w' ⟨rfl, rfl⟩
    go_wp2_with fail
    refine (HI2.out _).mono ?_
    rintro e w' ⟨rfl, rfl⟩
    go_wp2_with fail
    refine bodyPost_ret (results_tmp2 rfl _ _ _) rfl ?_
    exact ⟨Below.refl _ _, _, false, rfl, .inr ⟨fun n' m' h1 h2 h3 h4 h5 h6 => absurd ⟨by omega, by omega⟩ HNO.out, rfl, rfl⟩⟩
  rw [show decide (1 ≤ b ∧ b ≤ 5) = true from decide_eq_true hb] at HI2
  obtain ⟨ha1, ha5⟩ := ha
  obtain ⟨hb1, hb5⟩ := hb
  obtain ⟨n, rfl⟩ := Int.eq_ofNat_of_zero_le (show 0 ≤ a by omega)
  obtain ⟨m, rfl⟩ := Int.eq_ofNat_of_zero_le (show 0 ≤ b by omega)
  have hmul : (n : Int) * (m : Int) ≤ 25 ∧ 0 ≤ (n : Int) * (m : Int) ∧ (n : Int) * (m : Int) = ((n * m : Nat) : Int) := by
    have h1 : n * m ≤ 5 * 5 := Nat.mul_le_mul (by omega) (by omega)
    have h2 : ((n * m : Nat) : Int) = (n : Int) * (m : Int) := Int.natCast_mul n m
    omega
  obtain ⟨hmu1, hmu2, hmu3⟩ := hmul
  have HMU := hid hmu3
  have HG := hid (empty_grid (n := n) (m := m) (by omega) (by omega) (by omega) (by omega))
  have HF := hid (empty_flat (n := n) (m := m) (by omega))
  have HOF := hid (fun W => l1Of_any n m 0 W (by omega) (by omega) (by omega) (by decide))
  have HNM := hid (And.intro (show 1 ≤ n ∧ n ≤ 5 by omega) (show 1 ≤ m ∧ m ≤ 5 by omega))
  clear hmu3
  by_cases h9 : (n : Int) * (m : Int) > 9
  · have hd9 : decide ((n : Int) * (m : Int) > 9) = true := decide_eq_true h9
    go_enter Try.func41, Try.ntmps41
    go_wp2_with fail
    refine (HI1.out _).mono ?_
    rintro e w' ⟨rfl, rfl⟩
    go_wp2_with fail
    refine (HI2.out _).mono ?_
    rintro e w' ⟨rfl, rfl⟩
    go_wp2_with fail
    refine bodyPost_ret (results_tmp2 rfl _ _ _) rfl ?_
    exact ⟨Below.refl _ _, _, false, rfl, .inr ⟨fun n' m' h1 h2 h3 h4 h5 h6 h7 => by
      obtain rfl : n = n' := by omega
      obtain rfl : m = m' := by omega
      have := h7.2.2.2
      have := HMU.out
      omega, rfl, rfl⟩⟩
  · have hd9 : decide ((n : Int) * (m : Int) > 9) = false := decide_eq_false h9
    go_enter Try.func41, Try.ntmps41
    go_wp2_with fail
    refine (HI1.out _).mono ?_
    rintro e w' ⟨rfl, rfl⟩
    go_wp2_with fail
    refine (HI2.out _).mono ?_
    rintro e w' ⟨rfl, rfl⟩
    go_wp2_with fail
    refine (HOF.out _).mono ?_
    rintro e w1 ⟨⟨v, rfl, hgr⟩, hbel⟩
    obtain ⟨A, c, rfl, hstr⟩ := hgr.strs
    have HB := hid hbel
    have HST := hid hstr
    obtain ⟨ss, hss⟩ : ∃ ss, ruleG n m (ofF m 0) = ss := ⟨_, rfl⟩
    rw [hss] at HG HF HST
    rw [hss]
    have hs5 := HG.out.1
    have HGI := hid (l9Given_any A c w1.heap.size ss p q w1 HST.out (by have := HNM.out.1; omega) (fun s hs => by have := (HG.out.2.2.2.2.2 s hs).1; have := HNM.out.2; omega))
    clear hgr hbel hstr hss hs5
    go_wp2_with fail
    refine HGI.out.mono ?_
    rintro e w' ⟨ok, rfl, hok, d, rfl⟩
    have HBd := hid (below_drewN' HB.out d)
    rcases hok with ⟨rfl, n', m', p', q', hg, rfl, rfl, ha⟩ | ⟨rfl, hno⟩
    · obtain ⟨rfl, rfl⟩ := HG.out.uniq hg
      have HA := hid ha
      have HL := hid (l9Least_any n m p' q' c w1.heap.size A ss (w1.drewN d) (HST.out.drewN d) (Nat.le_refl _) hg ha.2.2.2 (by have := ha.1.2; omega) (by have := ha.2.1.2; omega) (fun e => ha.2.2.1 (by rw [e])))
      clear hg ha
      go_wp2_with fail
      refine HL.out.mono ?_
      rintro e w2 ⟨rfl, hb2⟩
      have HB2 := hid (HBd.out.trans (hb2.mono HBd.out.size))
      clear hb2
      go_wp2_with fail
      refine bodyPost_ret (results_tmp2 rfl _ _ _) rfl ?_
      exact ⟨HB2.out, _, true, rfl, .inl ⟨n, m, p', q', rfl, rfl, HNM.out.1.1, HNM.out.1.2, HNM.out.2.1, HNM.out.2.2, rfl, rfl, HA.out, by rw [← HF.out], rfl⟩⟩
    · have HNo := hid hno
      clear hno
      go_wp2_with fail
      refine bodyPost_ret (results_tmp2 rfl _ _ _) rfl ?_
      exact ⟨HBd.out, 0, false, rfl, .inr ⟨fun n' m' h1 h2 _ _ _ _ => by
        obtain rfl : n = n' := by omega
        obtain rfl : m = m' := by omega
        exact HNo.out n m HG.out, rfl, rfl⟩⟩
end Go.Proofs.Ytminailbhgimkaa
