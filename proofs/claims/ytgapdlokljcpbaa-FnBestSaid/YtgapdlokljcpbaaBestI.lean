/- ChangeBest of the program, by its contract. -/
import Derived.Test.YtgapdlokljcpbaaBest
namespace Go.Proofs.Ytgapdlokljcpbaa
open Go.RowKit Go.Shelf

/-- The best exchange of a grid. -/
def bestR (n m : Nat) (ls : List UInt8) : Option (Wy × UInt8) × Int := bestTo n m ls (mirI m ls (List.finRange (n * m)))
theorem bestTo_or (n m : Nat) (ls : List UInt8) (hn : 1 ≤ n) (l : List (Wy × UInt8)) : (l = [] ∧ bestTo n m ls l = (none, 0)) ∨ ∃ e, e ∈ l ∧ (bestTo n m ls l).1 = some e ∧ (bestTo n m ls l).2 = pathsX n m ls e ∧ 0 < (bestTo n m ls l).2 := by
  have key : ∀ (l : List (Wy × UInt8)) (s : Option (Wy × UInt8) × Int) (q : List (Wy × UInt8)), (∃ e, e ∈ q ∧ s.1 = some e ∧ s.2 = pathsX n m ls e ∧ 0 < s.2) → ∃ e, e ∈ q ++ l ∧ (l.foldl (fun s e => if s.2 < pathsX n m ls e then (some e, pathsX n m ls e) else s) s).1 = some e ∧ (l.foldl (fun s e => if s.2 < pathsX n m ls e then (some e, pathsX n m ls e) else s) s).2 = pathsX n m ls e ∧ 0 < (l.foldl (fun s e => if s.2 < pathsX n m ls e then (some e, pathsX n m ls e) else s) s).2 := by
    intro l
    induction l with
    | nil => intro s q h; rw [List.append_nil]; exact h
    | cons e l ih =>
      intro s q h
      rw [List.foldl_cons]
      have e1 : q ++ e :: l = (q ++ [e]) ++ l := by simp
      rw [e1]
      refine ih _ _ ?_
      split
      · exact ⟨e, by simp, rfl, rfl, pathsX_pos hn⟩
      · obtain ⟨x, h1, h2⟩ := h
        exact ⟨x, by simp [h1], h2⟩
  cases l with
  | nil => exact .inl ⟨rfl, rfl⟩
  | cons e l =>
    refine .inr ?_
    unfold bestTo
    rw [List.foldl_cons, if_pos (pathsX_pos hn)]
    exact key l _ [e] ⟨e, by simp, rfl, rfl, pathsX_pos hn⟩
/-- What ChangeBest comes to. -/
def BestOut (ss : List ByteArray) (x y : Int) (ok : Bool) : Prop :=
  (∃ n m e, IsGrid n m ss ∧ bestR n m (pad (flat ss)) = (some e, y) ∧ x = ((cellN m e.1 : Nat) : Int) ∧ ok = true) ∨ ((∀ n m, IsGrid n m ss → mirI m (pad (flat ss)) (List.finRange (n * m)) = []) ∧ x = 0 ∧ y = 0 ∧ ok = false)
theorem BestOut.uniq {ss : List ByteArray} {x y x' y' : Int} {ok ok' : Bool} (h : BestOut ss x y ok) (h' : BestOut ss x' y' ok') : x' = x ∧ y' = y ∧ ok' = ok := by
  rcases h with ⟨n, m, e, h1, h2, rfl, rfl⟩ | ⟨h1, rfl, rfl, rfl⟩ <;> rcases h' with ⟨n', m', e', h1', h2', rfl, rfl⟩ | ⟨h1', rfl, rfl, rfl⟩
  · obtain ⟨rfl, rfl⟩ := h1.uniq h1'
    have := h2.symm.trans h2'
    cases this
    exact ⟨rfl, rfl, rfl⟩
  · have h3 := h1' _ _ h1
    unfold bestR at h2
    rw [h3] at h2
    cases h2
  · have h3 := h1 _ _ h1'
    unfold bestR at h2'
    rw [h3] at h2'
    cases h2'
  · exact ⟨rfl, rfl, rfl⟩

set_option maxRecDepth 100000 in
set_option maxHeartbeats 2000000 in
theorem implChangeBest_any (A : Option Addr) (c : Nat) (ss : List ByteArray) (w : World) (h : Strs w w.heap.size A ss) (hn : ss.length ≤ 1048576) (hs : ∀ s ∈ ss, s.size ≤ 1048576) :
    Calls Try.prog 46 #[.slice A ss.length c] w fun e w' => Below w.heap.size w w' ∧ ∃ x y ok, e = .returned (.tuple #[.int .i64 x, .int .i64 y, .bool ok]) ∧ BestOut ss x y ok := by
  have HR := hid (readGrid_any A c ss w h hn hs)
  clear h hs
  go_enter Try.func46, Try.ntmps46
  go_wp2_with fail
  refine HR.out.mono ?_
  rintro e w1 ⟨hbel, ⟨n, m, hg, rfl⟩ | ⟨hno, rfl⟩⟩
  · have HB := hid hbel
    have HGr := hid hg
    have HS := hid (show (Try.prog.info? 54).map (·.size) = some (gcells n m (pad (flat ss))).size by rw [hg.csize]; exact Try.size_grid)
    have HZ := hid (show zeroG.size = (gcells n m (pad (flat ss))).size by rw [hg.csize]; rfl)
    have HL := hid (setRow_heap (w1.alloc (.cells zeroG 54)) w1.heap.size zeroG (gcells n m (pad (flat ss))) 54 (0, 0) (heap_new0 w1 _))
    have HW := hid (HB.out.trans (below_setRow' ((Below.refl _ w1).alloc HB.out.size (.cells zeroG 54)) HB.out.size (gcells n m (pad (flat ss)))))
    have HBE := hid (fun W => best_any n m (pad (flat ss)) W hg.plen hg.2.2.1 hg.2.2.2.1 hg.2.2.2.2.1)
    have HBO := hid (bestTo_or n m (pad (flat ss)) hg.2.1 (mirI m (pad (flat ss)) (List.finRange (n * m))))
    clear hbel hg
    go_wp2_with (first
      | refine wpList_store_row rfl 54 _ _ rfl w1.heap.size (gcells n m (pad (flat ss))) rfl rfl 54 zeroG (heap_new0 w1 _) HS.out HZ.out (gcells_one _ _ _) ?_
      | refine wpList_load_row rfl 54 _ rfl w1.heap.size rfl 54 (gcells n m (pad (flat ss))) (0, 0) _ HL.out Try.underlying54 rfl HS.out ?_
      | fail)
    refine (HBE.out _).mono ?_
    rintro e w2 ⟨cs, rfl, hbv, hb2⟩
    have HB2 := hid (HW.out.trans (hb2.mono HW.out.size))
    clear hb2
    rcases HBO.out with ⟨hnil, hbn⟩ | ⟨e, _, he1, he2, hpos⟩
    · have HNil := hid hnil
      have hsz := hbv.size
      have HSZ := hid (show (Try.prog.info? 73).map (·.size) = some cs.size by rw [hsz.1]; exact Try.size_change)
      have HS2 := hid (show (#[.int .i64 0, .nilFunc] : Array Value).size = cs.size from hsz.1.symm)
      have HS1 := hid hsz.2
      rw [hbn]
      clear hnil hbn hbv hsz
      simp only [show decide ((0 : Int) < 0) = false from rfl]
      go_wp2_with (guard_target =~ wpList _ _ _ _ _ _; first
        | refine wpList_store_row rfl 73 _ _ rfl w2.heap.size cs rfl rfl 73 #[.int .i64 0, .nilFunc] (heap_new0 w2 _) HSZ.out HS2.out HS1.out ?_
        | fail)
      go_ret3
      exact ⟨below_setRow' (HB2.out.alloc HB2.out.size _) HB2.out.size _, 0, 0, false, rfl, .inr ⟨fun n' m' hg' => by
        obtain ⟨rfl, rfl⟩ := HGr.out.uniq hg'
        exact HNil.out, rfl, rfl, rfl⟩⟩
    · obtain ⟨y, hy⟩ : ∃ y, (bestTo n m (pad (flat ss)) (mirI m (pad (flat ss)) (List.finRange (n * m)))).2 = y := ⟨_, rfl⟩
      have HE := hid (show bestR n m (pad (flat ss)) = (some e, y) by
        unfold bestR
        rw [← he1, ← hy])
      rw [he1] at hbv
      rw [hy] at hpos ⊢
      obtain ⟨x, b, g0, g1, g2, hx, rfl, _⟩ : ∃ x b g0 g1 g2, some e = some (x, b) ∧ cs = changeC ((cellN m x : Nat) : Int) g0 g1 g2 ∧ True := by
        rcases hbv with ⟨h, _⟩ | ⟨x, b, g0, g1, g2, h1, h2, _⟩
        · cases h
        · exact ⟨x, b, g0, g1, g2, h1, h2, trivial⟩
      cases hx
      have L3 := hid (setRow_heap (w2.alloc (.cells #[.int .i64 0, .nilFunc] 73)) w2.heap.size #[.int .i64 0, .nilFunc] (changeC ((cellN m x : Nat) : Int) g0 g1 g2) 73 (0, 0) (heap_new0 w2 _))
      have hc3 : ((w2.alloc (.cells #[.int .i64 0, .nilFunc] 73)).setRow w2.heap.size (changeC ((cellN m x : Nat) : Int) g0 g1 g2)).cell? ⟨w2.heap.size, 0, none⟩ = some (.int .i64 ((cellN m x : Nat) : Int)) := by rw [cell_of_row _ _ _ _ _ _ L3.out]; rfl
      have hdp : decide ((0 : Int) < y) = true := by simpa using hpos
      rw [hdp]
      clear he1 he2 hpos hbv hy hdp
      go_wp2_with (guard_target =~ wpList _ _ _ _ _ _; first
        | refine wpList_store_row rfl 73 _ _ rfl w2.heap.size (changeC ((cellN m x : Nat) : Int) g0 g1 g2) rfl rfl 73 #[.int .i64 0, .nilFunc] (heap_new0 w2 _) Try.size_change rfl (changeC_one _ _ _ _) ?_
        | fail)
      go_ret3
      exact ⟨below_setRow' (HB2.out.alloc HB2.out.size _) HB2.out.size _, _, _, true, rfl, .inl ⟨n, m, (x, b), HGr.out, HE.out, rfl, rfl⟩⟩
  · have HB := hid hbel
    have HGr := hid hno
    clear hbel hno
    go_wp2_with (refine wpList_store_row rfl 54 _ _ rfl w1.heap.size zeroG rfl rfl 54 zeroG (heap_new0 w1 _) Try.size_grid rfl (gcells_one 0 0 (pad [])) ?_)
    go_ret3
    exact ⟨HB.out.trans (below_setRow' ((Below.refl _ w1).alloc HB.out.size _) HB.out.size _), 0, 0, false, rfl, .inr ⟨fun n m hg => absurd hg (HGr.out n m), rfl, rfl, rfl⟩⟩
end Go.Proofs.Ytgapdlokljcpbaa
