/- JoinFlip, JoinTurn of the program, by their contracts. -/
import Derived.Test.YtkooahfpogcmiaaJoinFl
namespace Go.Proofs.Ytkooahfpogcmiaa
open Go.RowKit Go.Shelf

/-- A list is told just if a condition holds. -/
def LOut (D : Prop) (R res : List Int) (ok : Bool) : Prop := (D ∧ res = R ∧ ok = true) ∨ (¬ D ∧ res = [] ∧ ok = false)
theorem LOut.uniq {D : Prop} {R r r' : List Int} {ok ok' : Bool} (h : LOut D R r ok) (h' : LOut D R r' ok') : ok' = ok ∧ r' = r := by
  rcases h with ⟨h1, rfl, rfl⟩ | ⟨h1, rfl, rfl⟩ <;> rcases h' with ⟨h2, rfl, rfl⟩ | ⟨h2, rfl, rfl⟩
  · exact ⟨rfl, rfl⟩
  · exact absurd h1 h2
  · exact absurd h2 h1
  · exact ⟨rfl, rfl⟩
theorem LOut.len {D : Prop} {R r : List Int} {ok : Bool} (h : LOut D R r ok) (hR : D → R.length ≤ 1048576) : r.length ≤ 1048576 := by
  rcases h with ⟨h1, rfl, _⟩ | ⟨_, rfl, _⟩
  · exact hR h1
  · simp
/-- An integer is told just if a condition holds. -/
def IOut (D : Prop) (V res : Int) (ok : Bool) : Prop := (D ∧ res = V ∧ ok = true) ∨ (¬ D ∧ res = 0 ∧ ok = false)
theorem IOut.uniq {D : Prop} {V r r' : Int} {ok ok' : Bool} (h : IOut D V r ok) (h' : IOut D V r' ok') : ok' = ok ∧ r' = r := by
  rcases h with ⟨h1, rfl, rfl⟩ | ⟨h1, rfl, rfl⟩ <;> rcases h' with ⟨h2, rfl, rfl⟩ | ⟨h2, rfl, rfl⟩
  · exact ⟨rfl, rfl⟩
  · exact absurd h1 h2
  · exact absurd h2 h1
  · exact ⟨rfl, rfl⟩
theorem pair_plist (l : List Int) (w : World) (hp : IsPair l) :
    Calls Try.prog 41 #[.agg (pairC (padTo l))] w fun e w' => ∃ v, e = .returned v ∧ GrowI w' w.heap.size v l ∧ Below w.heap.size w w' := plist_any l w hp.2.1 hp.ports
theorem turnL_pair {l : List Int} (k : Nat) (h : IsPair l) : IsPair (turnL l k) := by
  rw [turnL_ren]
  exact listS_pair (renS_mates turn_names h.mates_of) h.1 h.2.1

set_option maxRecDepth 100000 in
set_option maxHeartbeats 4000000 in
theorem implJoinFlip_any (n m : Int) (A : Option Addr) (c : Nat) (l : List Int) (w : World) (h : Ints w w.heap.size A l) (hn : l.length ≤ 1048576) :
    Calls Try.prog 24 #[.int .i64 n, .int .i64 m, .slice A l.length c] w fun e w' => Below w.heap.size w w' ∧ ∃ A' c' res ok, e = .returned (.tuple #[.slice A' res.length c', .bool ok]) ∧ LOut (PairOf n m l) (flipL l m.toNat) res ok ∧ Own3 w' w.heap.size A' res := by
  have H := hid (readJoined_any n m A c l w h hn)
  go_enter Try.func24, Try.ntmps24
  go_wp2_with fail
  refine H.out.mono ?_
  rintro e w1 ⟨⟨a, b, rfl, rfl, hp, rfl⟩ | ⟨hp, rfl⟩, hb⟩
  · have hpl := padTo_length hp.2.2.1.2.1
    have hb1 : 1 ≤ b := by have := hp.2.1.1; omega
    have hb5 : b ≤ 5 := by have := hp.2.1.2; omega
    have hbl : b ≤ l.length := by have := hp.2.2.2; have := hp.1.1; omega
    have HD := hid hp
    have HPF := hid (flipL_pair hp.2.2.1 hbl hb1)
    have HFL := hid (padTo_length HPF.out.2.1)
    have HSJ := hid (size_joinL hpl a b 0)
    have HZJ := hid (zero_joinL hpl a b 0)
    have HF := hid (fun W => jflipped_any l a b 0 W hp.2.2.1 hb1 hb5 hbl)
    have HLI := hid (fun W => pair_plist (flipL l b) W HPF.out)
    have N0 := hid (heap_new0 w1 (.cells zeroJ 51))
    have NB := hid (below_setRow' (hb.alloc hb.size (.cells zeroJ 51)) hb.size (pairC (joinL (padTo l) a b 0)))
    have N1 := hid (setRow_heap _ _ _ (pairC (joinL (padTo l) a b 0)) _ _ N0.out)
    clear hb hp hpl hbl
    generalize hY : World.setRow (w1.alloc (.cells zeroJ 51)) w1.heap.size (pairC (joinL (padTo l) a b 0)) = Y at NB N1
    have HY := hid hY
    clear hY
    generalize hFR : flipL l b = FR at *
    have HFR := hid hFR
    clear hFR
    go_wp2_with (first
      | (refine wpList_store_row rfl 51 _ _ rfl w1.heap.size (pairC (joinL (padTo l) a b 0)) rfl rfl 51 zeroJ N0.out HSJ.out HZJ.out (pairC_one _) ?_; rw [HY.out])
      | refine wpList_load_row rfl 51 _ rfl w1.heap.size rfl 51 (pairC (joinL (padTo l) a b 0)) (0, 0) _ N1.out Try.underlying51 rfl HSJ.out ?_)
    refine (HF.out _).mono ?_
    rintro e w2 ⟨rfl, hb2⟩
    have B2 := hid (NB.out.trans (hb2.mono NB.out.size))
    clear hb2
    go_wp2_with (refine wpList_exec rfl (exec_field0 _ rfl (padTo FR) a b 0 HFL.out rfl) ?_)
    refine (HLI.out _).mono ?_
    rintro e w3 ⟨v, rfl, hg3, hb3⟩
    obtain ⟨A', c', rfl, hown⟩ := (hg3.lower B2.out.size).own
    have HOW := hid hown
    have B3 := hid (B2.out.trans (hb3.mono B2.out.size))
    clear hg3 hb3 hown
    go_wp2_with fail
    refine bodyPost_ret (results_tmp2 rfl _ _ _) rfl ?_
    exact ⟨B3.out, A', c', FR, true, rfl, .inl ⟨HD.out, by rw [Int.toNat_natCast]; exact HFR.out.symm, rfl⟩, HOW.out⟩
  · have HNo := hid hp
    have HB := hid hb
    clear hb hp
    have N0 := hid (heap_new0 w1 (.cells zeroJ 51))
    have NB := hid (below_setRow' (HB.out.alloc HB.out.size (.cells zeroJ 51)) HB.out.size zeroJ)
    go_wp2_with (refine wpList_store_row rfl 51 _ _ rfl w1.heap.size zeroJ rfl rfl 51 zeroJ N0.out Try.size_joined rfl zeroJ_one ?_)
    refine bodyPost_ret (results_tmp2 rfl _ _ _) rfl ?_
    exact ⟨NB.out, none, 0, [], false, rfl, .inr ⟨HNo.out, rfl, rfl⟩, .inl ⟨rfl, rfl⟩⟩

set_option maxRecDepth 100000 in
set_option maxHeartbeats 4000000 in
theorem implJoinTurn_any (n m : Int) (A : Option Addr) (c : Nat) (l : List Int) (w : World) (h : Ints w w.heap.size A l) (hn : l.length ≤ 1048576) :
    Calls Try.prog 26 #[.int .i64 n, .int .i64 m, .slice A l.length c] w fun e w' => Below w.heap.size w w' ∧ ∃ A' c' res ok, e = .returned (.tuple #[.slice A' res.length c', .bool ok]) ∧ LOut (PairOf n m l) (turnL l n.toNat) res ok ∧ Own3 w' w.heap.size A' res := by
  have H := hid (readJoined_any n m A c l w h hn)
  go_enter Try.func26, Try.ntmps26
  go_wp2_with fail
  refine H.out.mono ?_
  rintro e w1 ⟨⟨a, b, rfl, rfl, hp, rfl⟩ | ⟨hp, rfl⟩, hb⟩
  · have hpl := padTo_length hp.2.2.1.2.1
    have ha5 : a ≤ 5 := by have := hp.1.2; omega
    have HD := hid hp
    have HSJ := hid (size_joinL hpl a b 0)
    have HZJ := hid (zero_joinL hpl a b 0)
    have HSP := hid (size_pairL hpl)
    have HPRE := hid (fun (j : Nat) (v : Value) (h : (pairC (padTo l))[j]? = some v) => joinL_pre (n := a) (m := b) (r := 0) h)
    have HC := hid (joinL_rows hpl a b 0)
    have HF := hid (fun W => pturned_any l a W hp.2.2.1 (by omega))
    have HLI := hid (fun W => pair_plist (turnL l a) W (turnL_pair a hp.2.2.1))
    have N0 := hid (heap_new0 w1 (.cells zeroJ 51))
    have NB := hid (below_setRow' (hb.alloc hb.size (.cells zeroJ 51)) hb.size (pairC (joinL (padTo l) a b 0)))
    have N1 := hid (setRow_heap _ _ _ (pairC (joinL (padTo l) a b 0)) _ _ N0.out)
    have hcell : (World.setRow (w1.alloc (.cells zeroJ 51)) w1.heap.size (pairC (joinL (padTo l) a b 0))).cell? ⟨w1.heap.size, 20, none⟩ = some (.int .i64 (a : Int)) := by rw [cell_of_row _ _ _ _ _ _ N1.out]; exact HC.out
    clear hb hp hpl
    generalize hY : World.setRow (w1.alloc (.cells zeroJ 51)) w1.heap.size (pairC (joinL (padTo l) a b 0)) = Y at NB N1 hcell
    have HY := hid hY
    clear hY
    generalize hFR : turnL l a = FR at *
    have HFR := hid hFR
    clear hFR
    go_wp2_with (first
      | (refine wpList_store_row rfl 51 _ _ rfl w1.heap.size (pairC (joinL (padTo l) a b 0)) rfl rfl 51 zeroJ N0.out HSJ.out HZJ.out (pairC_one _) ?_; rw [HY.out])
      | refine wpList_exec rfl (exec_load_head 49 _ rfl w1.heap.size rfl 51 (pairC (joinL (padTo l) a b 0)) (0, 0) (pairC (padTo l)) _ N1.out HPRE.out Try.underlying49 rfl HSP.out) ?_)
    refine (HF.out _).mono ?_
    rintro e w2 ⟨rfl, hb2⟩
    have B2 := hid (NB.out.trans (hb2.mono NB.out.size))
    clear hb2
    go_wp2_with fail
    refine (HLI.out _).mono ?_
    rintro e w3 ⟨v, rfl, hg3, hb3⟩
    obtain ⟨A', c', rfl, hown⟩ := (hg3.lower B2.out.size).own
    have HOW := hid hown
    have B3 := hid (B2.out.trans (hb3.mono B2.out.size))
    clear hg3 hb3 hown
    go_wp2_with fail
    refine bodyPost_ret (results_tmp2 rfl _ _ _) rfl ?_
    exact ⟨B3.out, A', c', FR, true, rfl, .inl ⟨HD.out, by rw [Int.toNat_natCast]; exact HFR.out.symm, rfl⟩, HOW.out⟩
  · have HNo := hid hp
    have HB := hid hb
    clear hb hp
    have N0 := hid (heap_new0 w1 (.cells zeroJ 51))
    have NB := hid (below_setRow' (HB.out.alloc HB.out.size (.cells zeroJ 51)) HB.out.size zeroJ)
    go_wp2_with (refine wpList_store_row rfl 51 _ _ rfl w1.heap.size zeroJ rfl rfl 51 zeroJ N0.out Try.size_joined rfl zeroJ_one ?_)
    refine bodyPost_ret (results_tmp2 rfl _ _ _) rfl ?_
    exact ⟨NB.out, none, 0, [], false, rfl, .inr ⟨HNo.out, rfl, rfl⟩, .inl ⟨rfl, rfl⟩⟩
end Go.Proofs.Ytkooahfpogcmiaa
