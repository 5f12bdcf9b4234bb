/- Pairs that cross, counted: of the program and of the specification, by their contracts. -/
import Derived.Test.YtkkifpjeafchnaaPairS
import Derived.Test.YtkkifpjeafchnaaSkips
namespace Go.Proofs.Ytkkifpjeafchnaa
open Go.RowKit Go.Shelf

/-- The pairs of p and q cross, p being the first of the four ports, q the second. -/
def crossB (f : Nat → Int) (p q : Nat) : Bool := decide (p < q ∧ (q : Int) < f p ∧ f p < f q)
def rowC (f : Nat → Int) (p M : Nat) : Nat := (List.range M).countP (crossB f p)
theorem rowC_succ (f : Nat → Int) (p M : Nat) : rowC f p (M + 1) = rowC f p M + (if crossB f p M = true then 1 else 0) := by
  unfold rowC
  rw [List.range_succ, List.countP_append, List.countP_cons, List.countP_nil]
  omega
theorem rowC_le (f : Nat → Int) (p M : Nat) : rowC f p M ≤ M := by
  have := List.countP_le_length (p := crossB f p) (l := List.range M)
  rwa [List.length_range] at this
theorem rowC_low (f : Nat → Int) (p : Nat) : ∀ M, M ≤ p + 1 → rowC f p M = 0
  | 0, _ => rfl
  | M + 1, h => by
    rw [rowC_succ, rowC_low f p M (by omega), if_neg]
    unfold crossB
    rw [decide_eq_true_iff]
    omega
theorem rowC_high (f : Nat → Int) (p s : Nat) (h : f p ≤ (s : Int)) : ∀ M, s ≤ M → rowC f p M = rowC f p s := fun M hM => by
  obtain ⟨d, rfl⟩ : ∃ d, M = s + d := ⟨M - s, by omega⟩
  clear hM
  induction d with
  | zero => rfl
  | succ d ih =>
    rw [← Nat.add_assoc, rowC_succ, ih, if_neg]
    · rfl
    · unfold crossB
      rw [decide_eq_true_iff]
      omega
/-- All pairs that cross, among the first N and M ports. -/
def chordsC (f : Nat → Int) (M N : Nat) : Nat := sumN (fun p => rowC f p M) N
theorem chordsC_le (f : Nat → Int) (M : Nat) : ∀ N, chordsC f M N ≤ N * M
  | 0 => by simp [chordsC, sumN]
  | N + 1 => by
    have h1 := chordsC_le f M N
    have h2 := rowC_le f N M
    unfold chordsC at h1 ⊢
    rw [sumN, Nat.add_mul]
    omega
def intAt (l : List Int) (k : Nat) : Int := l.getD k 0
theorem intAt_eq {l : List Int} {k : Nat} {x : Int} (h : l[k]? = some x) : intAt l k = x := by
  unfold intAt
  rw [List.getD_eq_getElem?_getD, h]
  rfl
/-- The same of the filled list. -/
theorem chords_pad {l : List Int} (h : IsPair l) : chordsC (intAt (padTo l)) 20 20 = chordsC (intAt l) l.length l.length := by
  have h20 := h.2.1
  have e1 : ∀ p, p < l.length → intAt (padTo l) p = intAt l p := fun p hp => by
    rw [intAt_eq (padTo_at (List.getElem?_eq_getElem hp)), intAt_eq (List.getElem?_eq_getElem hp)]
  have e2 : ∀ p, l.length ≤ p → p < 20 → intAt (padTo l) p = p := fun p hp hk => intAt_eq (padTo_behind hp hk)
  have e3 : ∀ p, p < l.length → intAt l p < l.length := fun p hp => by
    obtain ⟨q, h1, _, h3, _⟩ := h.2.2 p hp
    rw [intAt_eq h3]
    omega
  have hrow : ∀ p, p < l.length → rowC (intAt (padTo l)) p 20 = rowC (intAt l) p l.length := fun p hp => by
    rw [rowC_high _ p l.length (by rw [e1 p hp]; have := e3 p hp; omega) 20 h20]
    unfold rowC
    refine List.countP_congr fun q hq => ?_
    have hq := List.mem_range.1 hq
    unfold crossB
    rw [e1 p hp, e1 q hq]
  have hzero : ∀ p, l.length ≤ p → p < 20 → rowC (intAt (padTo l)) p 20 = 0 := fun p hp hk => by
    rw [rowC_high _ p p (by rw [e2 p hp hk]; exact Int.le_refl _) 20 (by omega)]
    exact rowC_low _ p p (by omega)
  have main : ∀ d, l.length + d ≤ 20 → chordsC (intAt (padTo l)) 20 (l.length + d) = chordsC (intAt l) l.length l.length := fun d => by
    induction d with
    | zero =>
      intro _
      exact sumN_congr _ fun p hp => hrow p hp
    | succ d ih =>
      intro hd
      have := ih (by omega)
      unfold chordsC at this ⊢
      rw [← Nat.add_assoc, sumN, this, hzero _ (by omega) (by omega), Nat.add_zero]
  have := main (20 - l.length) (by omega)
  rwa [show l.length + (20 - l.length) = 20 by omega] at this

set_option maxRecDepth 100000 in
set_option maxHeartbeats 2000000 in
theorem chords_any (l : List Int) (w : World) (hl : l.length = 20) (hx : ∀ k : Nat, k < 20 → ∃ q : Nat, q < 20 ∧ l[k]? = some (q : Int)) :
    Calls Try.prog 78 #[.agg (pairC l)] w fun e w' => e = .returned (.int .i64 ((chordsC (intAt l) 20 20 : Nat) : Int)) ∧ Below w.heap.size w w' := by
  have HS := hid (show (Try.prog.info? 60).map (·.size) = some (pairC l).size by rw [pairC_size, hl]; exact Try.size_pair)
  have HX := hid (show ∀ k : Nat, k < 20 → ∃ q : Nat, q < 20 ∧ (pairC l)[k]? = some (.int .i64 (q : Int)) ∧ intAt l k = (q : Int) from fun k hk => by
    obtain ⟨q, h1, h2⟩ := hx k hk
    exact ⟨q, h1, pairC_at h2, intAt_eq h2⟩)
  clear hx
  generalize intAt l = f at *
  generalize pairC l = cs at *
  have H0 := hid (heap_new0 w (.cells cs 60))
  have HB := hid ((Below.refl w.heap.size w).alloc (Nat.le_refl _) (.cells cs 60))
  go_enter Try.func78, Try.ntmps78
  go_wp2_with (refine wpList_load_row rfl 60 _ rfl w.heap.size rfl 60 cs (0, 0) _ H0.out Try.underlying60 rfl HS.out ?_)
  generalize World.alloc w _ = Y at H0 HB ⊢
  go_loopw [3, 8] (fun (v iv : Value) (wr : World) => ∃ k : Nat, k ≤ 20 ∧ iv = .int .i64 k ∧ v = .int .i64 ((chordsC f 20 k : Nat) : Int) ∧ wr = Y) (fun _ i _ => 20 - (intOf i).toNat)
  case atStart => exact ⟨0, by omega, rfl, rfl, rfl⟩
  case round =>
    obtain ⟨k, hk, rfl, rfl, rfl⟩ := hrel
    have hle := chordsC_le f 20 k
    have hsn : chordsC f 20 (k + 1) = chordsC f 20 k + rowC f k 20 := rfl
    have hle' : chordsC f 20 k ≤ 400 := by omega
    obtain ⟨gk, hgk⟩ : ∃ gk, chordsC f 20 k = gk := ⟨_, rfl⟩
    have HGK := hid hgk
    have HSN := hid hsn
    rw [hgk] at hle' ⊢
    clear hle hsn hgk
    by_cases hlt : k < 20
    · obtain ⟨t, ht, hct, hft⟩ := HX.out k hlt
      have hidx := run_index_pair wr hlt hct
      have HFT := hid hft
      clear hct hft
      go_wp2_with fail
      go_loopw [3, 6] (fun (v iv : Value) (wr2 : World) => ∃ s : Nat, k + 1 ≤ s ∧ (s ≤ t ∨ s = k + 1) ∧ iv = .int .i64 s ∧ v = .int .i64 ((gk + rowC f k s : Nat) : Int) ∧ wr2 = wr) (fun _ i _ => 20 - (intOf i).toNat)
      case atStart => exact ⟨k + 1, by omega, .inr rfl, by go_num, by rw [rowC_low f k (k + 1) (by omega)]; rfl, rfl⟩
      case round =>
        obtain ⟨s, hs1, hs2, rfl, rfl, rfl⟩ := hrel
        have hrl := rowC_le f k s
        have hrs := rowC_succ f k s
        obtain ⟨rs, hrs2⟩ : ∃ rs, rowC f k s = rs := ⟨_, rfl⟩
        rw [hrs2] at hrl hrs ⊢
        obtain ⟨tot, htot⟩ : ∃ tot, gk + rs = tot := ⟨_, rfl⟩
        have HTOT := hid htot
        have HRS2 := hid hrs2
        rw [htot]
        clear hrs2
        by_cases hst : s < t
        · obtain ⟨y, hy, hcy, hfy⟩ := HX.out s (by omega)
          have hcell : wr.cell? ⟨w.heap.size, s, none⟩ = some (.int .i64 (y : Int)) := by rw [cell_of_row _ _ _ _ _ _ H0.out]; exact hcy
          have HY := hid hfy
          have htot2 : tot ≤ 420 := by omega
          clear hcy hfy
          by_cases hyt : t < y
          · have HC := hid (show rowC f k (s + 1) = rs + 1 by
              rw [hrs, if_pos]
              unfold crossB
              rw [decide_eq_true_iff, HFT.out, HY.out]
              omega)
            have hyi : (t : Int) < (y : Int) := by omega
            clear hrs htot
            go_wp2_with fail
            go_roundw
            case rel => exact ⟨s + 1, by omega, .inl (by omega), by go_num, by rw [HC.out, ← Nat.add_assoc, HTOT.out]; go_num, (by first | rfl | trivial)⟩
            case measure => simp [intOf]; omega
          · have HC := hid (show rowC f k (s + 1) = rs by
              rw [hrs, if_neg, Nat.add_zero]
              unfold crossB
              rw [decide_eq_true_iff, HFT.out, HY.out]
              omega)
            have hyi : ¬ (t : Int) < (y : Int) := by omega
            clear hrs htot
            go_wp2_with fail
            go_roundw
            case rel => exact ⟨s + 1, by omega, .inl (by omega), by go_num, by rw [HC.out, HTOT.out], (by first | rfl | trivial)⟩
            case measure => simp [intOf]; omega
        · have HC := hid (show chordsC f 20 (k + 1) = tot by
            rw [HSN.out, HGK.out, ← HTOT.out, ← HRS2.out]
            congr 1
            exact rowC_high f k s (by rw [HFT.out]; omega) 20 (by omega))
          have hsti : ¬ (s : Int) < (t : Int) := by omega
          clear hrs htot
          go_wp2_with fail
          go_roundw
          case rel => exact ⟨k + 1, by omega, by go_num, by rw [HC.out], (by first | rfl | trivial)⟩
          case measure => simp [intOf]; omega
    · obtain rfl : k = 20 := by omega
      go_wp2_with fail
      go_ret
      exact ⟨by rw [HGK.out]; rfl, HB.out⟩

/-- What CrossChords comes to. -/
def ChordOut (l : List Int) (x : Int) (ok : Bool) : Prop := (IsPair l ∧ x = ((chordsC (intAt l) l.length l.length : Nat) : Int) ∧ ok = true) ∨ (¬ IsPair l ∧ x = 0 ∧ ok = false)
theorem ChordOut.uniq {l : List Int} {x x' : Int} {ok ok' : Bool} (h : ChordOut l x ok) (h' : ChordOut l x' ok') : x' = x ∧ ok' = ok := by
  rcases h with ⟨h1, rfl, rfl⟩ | ⟨h1, rfl, rfl⟩ <;> rcases h' with ⟨h1', rfl, rfl⟩ | ⟨h1', rfl, rfl⟩
  · exact ⟨rfl, rfl⟩
  · exact absurd h1 h1'
  · exact absurd h1' h1
  · exact ⟨rfl, rfl⟩

set_option maxRecDepth 100000 in
set_option maxHeartbeats 2000000 in
theorem implCrossChords_any (A : Option Addr) (c : Nat) (l : List Int) (w : World) (h : Ints w w.heap.size A l) (hn : l.length ≤ 1048576) :
    Calls Try.prog 37 #[.slice A l.length c] w fun e w' => Below w.heap.size w w' ∧ ∃ x ok, e = .returned (.tuple #[.int .i64 x, .bool ok]) ∧ ChordOut l x ok := by
  have H := hid (readPairing_any A c l w h hn)
  have HSP := hid (fun (h : l.length ≤ 20) => show (Try.prog.info? 60).map (·.size) = some (pairC (padTo l)).size by rw [pairC_size, padTo_length h]; exact Try.size_pair)
  have HZP := hid (fun (h : l.length ≤ 20) => show zeroP.size = (pairC (padTo l)).size by rw [pairC_size, padTo_length h]; rfl)
  go_enter Try.func37, Try.ntmps37
  go_wp2_with fail
  refine H.out.mono ?_
  rintro e w1 ⟨⟨hp, rfl⟩ | ⟨hp, rfl⟩, hb⟩
  · have HP := hid hp
    have HSP2 := hid (HSP.out hp.2.1)
    have HZP2 := hid (HZP.out hp.2.1)
    have HB := hid hb
    have HCH := hid (fun w' => chords_any (padTo l) w' (padTo_length hp.2.1) (pad_in hp.2.1 fun p h => by obtain ⟨q, a1, a2, a3, _⟩ := hp.2.2 p h; exact ⟨q, a1, a2, a3⟩))
    rw [chords_pad hp] at HCH
    clear hb hp
    have N0 := hid (heap_new0 w1 (.cells zeroP 60))
    have NB := hid (below_setRow' (HB.out.alloc HB.out.size (.cells zeroP 60)) HB.out.size (pairC (padTo l)))
    have N1 := hid (setRow_heap _ _ _ (pairC (padTo l)) _ _ N0.out)
    generalize hY : World.setRow (w1.alloc (.cells zeroP 60)) w1.heap.size (pairC (padTo l)) = Y at NB N1
    have HY := hid hY
    clear hY
    go_wp2_with (first
      | (refine wpList_store_row rfl 60 _ _ rfl w1.heap.size (pairC (padTo l)) rfl rfl 60 zeroP N0.out HSP2.out HZP2.out (pairC_one (padTo l)) ?_; rw [HY.out])
      | refine wpList_load_row rfl 60 _ rfl w1.heap.size rfl 60 (pairC (padTo l)) (0, 0) _ N1.out Try.underlying60 rfl HSP2.out ?_)
    refine (HCH.out _).mono ?_
    rintro e w2 ⟨rfl, hb2⟩
    have B2 := hid (NB.out.trans (hb2.mono NB.out.size))
    clear hb2
    go_wp2_with fail
    refine bodyPost_ret (results_tmp2 rfl _ _ _) rfl ?_
    exact ⟨B2.out, _, true, rfl, .inl ⟨HP.out, rfl, rfl⟩⟩
  · have HP := hid hp
    have HB := hid hb
    clear hb hp
    have N0 := hid (heap_new0 w1 (.cells zeroP 60))
    have NB := hid (below_setRow' (HB.out.alloc HB.out.size (.cells zeroP 60)) HB.out.size zeroP)
    go_wp2_with (refine wpList_store_row rfl 60 _ _ rfl w1.heap.size zeroP rfl rfl 60 zeroP N0.out Try.size_pair rfl (pairC_one (List.replicate 20 0)) ?_)
    refine bodyPost_ret (results_tmp2 rfl _ _ _) rfl ?_
    exact ⟨NB.out, 0, false, rfl, .inr ⟨HP.out, rfl, rfl⟩⟩
end Go.Proofs.Ytkkifpjeafchnaa
