/- AimGo of the program, by their contracts. -/
import Derived.Test.YtminailbhgimkaaAimC
import Derived.Test.YtminailbhgimkaaBunO
import Derived.Test.YtminailbhgimkaaBunC
namespace Go.Proofs.Ytminailbhgimkaa
open Go.RowKit Go.Shelf

/-- Two different ports of a grid of nine cells at most. -/
def AimsAt (n m : Nat) (p q : Int) : Prop := (0 ≤ p ∧ p < ((2 * (n + m) : Nat) : Int)) ∧ (0 ≤ q ∧ q < ((2 * (n + m) : Nat) : Int)) ∧ p ≠ q ∧ n * m ≤ 9
instance (n m : Nat) (p q : Int) : Decidable (AimsAt n m p q) := by unfold AimsAt; infer_instance
/-- The least cost of aiming. -/
def aimV (n m p q : Nat) (ls : List UInt8) : Nat := aimA (n * m + 1) n m q (4 * (n * m) + 1) (ls.take (n * m)) (fun _ => false) (entr n m p)
/-- What AimGo comes to. -/
def AimOut (ss : List ByteArray) (p q x : Int) (ok : Bool) : Prop :=
  (∃ n m p' q' : Nat, IsGrid n m ss ∧ p = (p' : Int) ∧ q = (q' : Int) ∧ AimsAt n m p q ∧ x = ((aimV n m p' q' (pad (flat ss)) : Nat) : Int) ∧ ok = true) ∨ ((∀ n m, IsGrid n m ss → ¬ AimsAt n m p q) ∧ x = 0 ∧ ok = false)
theorem AimOut.uniq {ss : List ByteArray} {p q x x' : Int} {ok ok' : Bool} (h : AimOut ss p q x ok) (h' : AimOut ss p q x' ok') : x' = x ∧ ok' = ok := by
  rcases h with ⟨n, m, a, b, h1, h2, h3, h4, rfl, rfl⟩ | ⟨h1, rfl, rfl⟩ <;> rcases h' with ⟨n', m', a', b', h1', h2', h3', h4', rfl, rfl⟩ | ⟨h1', rfl, rfl⟩
  · obtain ⟨rfl, rfl⟩ := h1.uniq h1'
    obtain rfl : a = a' := by omega
    obtain rfl : b = b' := by omega
    exact ⟨rfl, rfl⟩
  · exact absurd h4 (h1' _ _ h1)
  · exact absurd h4' (h1 _ _ h1')
  · exact ⟨rfl, rfl⟩
set_option maxRecDepth 100000 in
set_option maxHeartbeats 4000000 in
theorem aimsIn_any (n m : Nat) (ls : List UInt8) (p q : Int) (w : World) (hl : ls.length = 25) (hn5 : n ≤ 5) (hm5 : m ≤ 5) :
    Calls Try.prog 71 #[.agg (gcells n m ls), .int .i64 p, .int .i64 q, .int .i64 9] w fun e w' => e = .returned (.bool (decide (AimsAt n m p q))) ∧ Below w.heap.size w w' := by
  have HG := hid (show (Try.prog.info? 57).map (·.size) = some (gcells n m ls).size by rw [gcells_size hl]; exact Try.size_grid)
  have HP := hid (fun x W => hasPort_any n m ls x W hl hn5 hm5)
  have HS := hid (fun W => size_any n m ls W hn5 hm5)
  have H0 := hid (heap_new0 w (.cells (gcells n m ls) 57))
  have HB0 := hid ((Below.refl w.heap.size w).alloc (Nat.le_refl _) (.cells (gcells n m ls) 57))
  obtain ⟨Ni, hNi⟩ : ∃ Ni : Int, ((2 * (n + m) : Nat) : Int) = Ni := ⟨_, rfl⟩
  rw [hNi] at HP
  have HNI := hid hNi
  clear hNi
  go_enter Try.func71, Try.ntmps71
  go_wp2_with (refine wpList_load_row_g (by rfl) 57 _ rfl w.heap.size rfl 57 (gcells n m ls) (0, 0) _ H0.out Try.underlying57 rfl HG.out ?_)
  refine (HP.out p _).mono ?_
  rintro e w1 ⟨rfl, hb1⟩
  have H1 := hid ((hb1.block _ (lt_of_block H0.out)).trans H0.out)
  have HB1 := hid (HB0.out.trans (hb1.mono HB0.out.size))
  clear hb1 H0 HB0
  by_cases h1 : 0 ≤ p ∧ p < Ni
  · rw [show decide (0 ≤ p ∧ p < Ni) = true from decide_eq_true h1]
    have HH1 := hid h1
    clear h1
    go_wp2_with (refine wpList_load_row_g (by rfl) 57 _ rfl w.heap.size rfl 57 (gcells n m ls) (0, 0) _ H1.out Try.underlying57 rfl HG.out ?_)
    refine (HP.out q _).mono ?_
    rintro e w2 ⟨rfl, hb2⟩
    have H2 := hid ((hb2.block _ (lt_of_block H1.out)).trans H1.out)
    have HB2 := hid (HB1.out.trans (hb2.mono HB1.out.size))
    clear hb2 H1 HB1
    by_cases h2 : 0 ≤ q ∧ q < Ni
    · rw [show decide (0 ≤ q ∧ q < Ni) = true from decide_eq_true h2]
      have HH2 := hid h2
      clear h2
      by_cases h3 : p = q
      · subst h3
        go_wp2_with fail
        go_ret
        exact ⟨by rw [decide_eq_false (fun h => h.2.2.1 rfl)]; rfl, HB2.out⟩
      · have h3d : decide (p = q) = false := decide_eq_false h3
        have h3b : (p == q) = false := by simpa using h3
        have h3e : (p != q) = true := by simpa using h3
        have HH3 := hid h3
        go_wp2_with (refine wpList_load_row_g (by rfl) 57 _ rfl w.heap.size rfl 57 (gcells n m ls) (0, 0) _ H2.out Try.underlying57 rfl HG.out ?_)
        refine (HS.out _).mono ?_
        rintro e w3 ⟨rfl, hb3⟩
        have HB3 := hid (HB2.out.trans (hb3.mono HB2.out.size))
        clear hb3 HB2
        obtain ⟨N, hN⟩ : ∃ N, n * m = N := ⟨_, rfl⟩
        have HN := hid hN
        rw [hN]
        clear hN
        by_cases h9 : N ≤ 9
        · have h9i : (N : Int) ≤ 9 := by omega
          have h9d : decide ((N : Int) ≤ 9) = true := decide_eq_true h9i
          go_wp2_with fail
          go_ret
          exact ⟨by rw [decide_eq_true (show AimsAt n m p q from ⟨by rw [HNI.out]; exact HH1.out, by rw [HNI.out]; exact HH2.out, HH3.out, by rw [HN.out]; exact h9⟩)]; rfl, HB3.out⟩
        · have h9i : ¬ (N : Int) ≤ 9 := by omega
          have h9d : decide ((N : Int) ≤ 9) = false := decide_eq_false h9i
          go_wp2_with fail
          go_ret
          exact ⟨by rw [decide_eq_false (fun h : AimsAt n m p q => h9 (by rw [← HN.out]; exact h.2.2.2))]; rfl, HB3.out⟩
    · rw [show decide (0 ≤ q ∧ q < Ni) = false from decide_eq_false h2]
      have HH2 := hid h2
      clear h2
      go_wp2_with fail
      go_ret
      exact ⟨by rw [decide_eq_false (fun h : AimsAt n m p q => HH2.out (by rw [← HNI.out]; exact h.2.1))]; rfl, HB2.out⟩
  · rw [show decide (0 ≤ p ∧ p < Ni) = false from decide_eq_false h1]
    have HH1 := hid h1
    clear h1
    go_wp2_with fail
    go_ret
    exact ⟨by rw [decide_eq_false (fun h : AimsAt n m p q => HH1.out (by rw [← HNI.out]; exact h.1))]; rfl, HB1.out⟩

set_option maxRecDepth 100000 in
set_option maxHeartbeats 4000000 in
theorem implAimGo_any (A : Option Addr) (c : Nat) (ss : List ByteArray) (p q : Int) (w : World) (h : Strs w w.heap.size A ss) (hn : ss.length ≤ 1048576) (hs : ∀ s ∈ ss, s.size ≤ 1048576) :
    Calls Try.prog 40 #[.slice A ss.length c, .int .i64 p, .int .i64 q] w fun e w' => Below w.heap.size w w' ∧ ∃ x ok, e = .returned (.tuple #[.int .i64 x, .bool ok]) ∧ AimOut ss p q x ok := by
  have HR := hid (readGrid_any A c ss w h hn hs)
  clear h hs
  go_enter Try.func40, Try.ntmps40
  go_wp2_with fail
  refine HR.out.mono ?_
  rintro e w1 ⟨hbel, ⟨n, m, hg, rfl⟩ | ⟨hno, rfl⟩⟩
  · have HB := hid hbel
    have HGr := hid hg
    have HS := hid (show (Try.prog.info? 57).map (·.size) = some (gcells n m (pad (flat ss))).size by rw [hg.csize]; exact Try.size_grid)
    have HZ := hid (show zeroG.size = (gcells n m (pad (flat ss))).size by rw [hg.csize]; rfl)
    have HL := hid (setRow_heap (w1.alloc (.cells zeroG 57)) w1.heap.size zeroG (gcells n m (pad (flat ss))) 57 (0, 0) (heap_new0 w1 _))
    have HW := hid (HB.out.trans (below_setRow' ((Below.refl _ w1).alloc HB.out.size (.cells zeroG 57)) HB.out.size (gcells n m (pad (flat ss)))))
    have HAI := hid (fun W => aimsIn_any n m (pad (flat ss)) p q W hg.plen hg.2.2.1 hg.2.2.2.2.1)
    have HCO := hid (fun (p' q' : Nat) W (h9 : n * m ≤ 9) h1 h2 => costAlong_any n m p' q' (pad (flat ss)) W hg.plen hg.2.1 hg.2.2.1 hg.2.2.2.1 hg.2.2.2.2.1 h9 h1 h2)
    clear hbel hg
    go_wp2_with (first
      | refine wpList_store_row rfl 57 _ _ rfl w1.heap.size (gcells n m (pad (flat ss))) rfl rfl 57 zeroG (heap_new0 w1 _) HS.out HZ.out (gcells_one _ _ _) ?_
      | refine wpList_load_row_g (by rfl) 57 _ rfl w1.heap.size rfl 57 (gcells n m (pad (flat ss))) (0, 0) _ HL.out Try.underlying57 rfl HS.out ?_
      | fail)
    generalize ((w1.alloc (.cells zeroG 57)).setRow w1.heap.size (gcells n m (pad (flat ss)))) = w2 at HL HW ⊢
    refine (HAI.out w2).mono ?_
    rintro e w3 ⟨rfl, hb3⟩
    have HL3 := hid ((hb3.block _ (lt_of_block HL.out)).trans HL.out)
    have HB3 := hid (HW.out.trans (hb3.mono HW.out.size))
    clear hb3 HL HW HAI
    by_cases ha : AimsAt n m p q
    · rw [show decide (AimsAt n m p q) = true from decide_eq_true ha]
      obtain ⟨⟨a1, a2⟩, ⟨a3, a4⟩, a5, a6⟩ := ha
      obtain ⟨p', rfl⟩ := Int.eq_ofNat_of_zero_le a1
      obtain ⟨q', rfl⟩ := Int.eq_ofNat_of_zero_le a3
      have HA := hid (show AimsAt n m (p' : Int) (q' : Int) from ⟨⟨a1, a2⟩, ⟨a3, a4⟩, a5, a6⟩)
      have HC := hid (fun W => HCO.out p' q' W a6 (by omega) (by omega))
      clear a1 a2 a3 a4 a5 a6 HCO
      go_wp2_with (first
        | refine wpList_load_row rfl 57 _ rfl w1.heap.size rfl 57 (gcells n m (pad (flat ss))) (0, 0) _ HL3.out Try.underlying57 rfl HS.out ?_
        | fail)
      refine (HC.out w3).mono ?_
      rintro e w4 ⟨rfl, hb4⟩
      have HB4 := hid (HB3.out.trans (hb4.mono HB3.out.size))
      clear hb4
      go_wp2_with fail
      refine bodyPost_ret (results_tmp2 rfl _ _ _) rfl ?_
      exact ⟨HB4.out, _, true, rfl, .inl ⟨n, m, p', q', HGr.out, rfl, rfl, HA.out, rfl, rfl⟩⟩
    · rw [show decide (AimsAt n m p q) = false from decide_eq_false ha]
      have HA := hid ha
      clear ha
      go_wp2_with fail
      refine bodyPost_ret (results_tmp2 rfl _ _ _) rfl ?_
      exact ⟨HB3.out, _, false, rfl, .inr ⟨fun n' m' hg' => by obtain ⟨rfl, rfl⟩ := HGr.out.uniq hg'; exact HA.out, rfl, rfl⟩⟩
  · have HB := hid hbel
    have HGr := hid hno
    clear hbel hno
    go_wp2_with (refine wpList_store_row rfl 57 _ _ rfl w1.heap.size zeroG rfl rfl 57 zeroG (heap_new0 w1 _) Try.size_grid rfl (gcells_one 0 0 (pad [])) ?_)
    refine bodyPost_ret (results_tmp2 rfl _ _ _) rfl ?_
    exact ⟨HB.out.trans (below_setRow' ((Below.refl _ w1).alloc HB.out.size _) HB.out.size _), _, false, rfl, .inr ⟨fun n' m' hg' => absurd hg' (HGr.out _ _), rfl, rfl⟩⟩
end Go.Proofs.Ytminailbhgimkaa
