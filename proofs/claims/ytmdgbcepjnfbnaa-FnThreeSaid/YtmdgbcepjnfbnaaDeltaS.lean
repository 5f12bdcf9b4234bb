/- l4Given, l4Mirror, l4Exchange, ChangeDelta and ChangeEmpty of the specification, by their contracts. -/
import Derived.Test.YtmdgbcepjnfbnaaPutG
import Derived.Test.YtmdgbcepjnfbnaaDeltaI
namespace Go.Proofs.Ytmdgbcepjnfbnaa
open Go.RowKit Go.Shelf

/-- What l4Given comes to. -/
def CellEnd (ss : List ByteArray) (cell : Int) (w : World) (e : Ending) (w' : World) : Prop :=
  ∃ ok : Bool, e = .returned (.bool ok) ∧ ((ok = true ∧ ∃ n m c, CellIn ss cell n m c) ∨ (ok = false ∧ ∀ n m c, ¬ CellIn ss cell n m c)) ∧ ∃ d, w' = w.drewN d
/-- What l4Mirror comes to. -/
def MirBEnd (ss : List ByteArray) (cell : Int) (w : World) (e : Ending) (w' : World) : Prop :=
  ∃ ok : Bool, e = .returned (.bool ok) ∧ ((ok = true ∧ ∃ n m c, MirrorIn ss cell n m c) ∨ (ok = false ∧ ∀ n m c, ¬ MirrorIn ss cell n m c)) ∧ ∃ d, w' = w.drewN d

set_option maxRecDepth 100000 in
set_option maxHeartbeats 1000000 in
theorem l4Given_any (A : Option Addr) (c B : Nat) (ss : List ByteArray) (cell : Int) (w : World) (h : Strs w B A ss) (hn : ss.length ≤ 1048576) (hs : ∀ s ∈ ss, s.size ≤ 1048576) :
    Calls Try.prog 82 #[.slice A ss.length c, .int .i64 cell] w (CellEnd ss cell w) := by
  have HI := hid (specGridIn_any A c B ss w h hn hs)
  have HD := hid h
  clear h hs
  go_enter Try.func82, Try.ntmps82
  go_wp2_with fail
  refine HI.out.mono ?_
  rintro e w' ⟨ok, rfl, hok, d, rfl⟩
  have HO := hid hok
  clear hok
  cases ok with
  | false =>
    go_wp2_with fail
    go_ret
    exact ⟨false, rfl, .inr ⟨rfl, fun n m c hq => noGrid_of HO.out n m hq.1⟩, d, rfl⟩
  | true =>
    obtain ⟨n, m, hg⟩ := HO.out.1 rfl
    obtain ⟨b, off, s0, rfl, hb, hk0, hc0⟩ := (HD.out.drewN d).at_ (k := 0) (by have := hg.1; have := hg.2.1; omega)
    rw [Nat.add_zero] at hc0
    have hm0 : s0.size = m := (hg.2.2.2.2.2 s0 (List.mem_of_getElem? hk0)).1
    have hmi : ((s0.size : Nat) : Int) = (m : Int) := by rw [hm0]
    have hl0 : (0 : Int) < (ss.length : Int) := by have := hg.1; have := hg.2.1; omega
    have hle := hg.le25
    obtain ⟨N, hN⟩ : ∃ N, n * m = N := ⟨_, rfl⟩
    have hNi : (ss.length : Int) * (m : Int) = (N : Int) := by rw [hg.1, ← Int.natCast_mul, hN]
    rw [hN] at hle
    have HN := hid hN
    have HG := hid hg
    have g3 := hid (l6In_any cell 0 ((N : Int) - 1))
    clear hg hk0 hm0 hN
    go_wp2_with fail
    refine (g3.out _).mono ?_
    rintro e w' ⟨rfl, rfl⟩
    by_cases hin : 0 ≤ cell ∧ cell ≤ (N : Int) - 1
    · rw [show decide (0 ≤ cell ∧ cell ≤ (N : Int) - 1) = true by simpa using hin]
      obtain ⟨cc, rfl⟩ : ∃ cc : Nat, cell = cc := ⟨cell.toNat, by omega⟩
      have HCC := hid (show cc < n * m by rw [HN.out]; have := hin.2; omega)
      clear hin
      go_wp2_with fail
      go_ret
      exact ⟨true, rfl, .inl ⟨rfl, n, m, cc, HG.out, rfl, HCC.out⟩, d, rfl⟩
    · rw [show decide (0 ≤ cell ∧ cell ≤ (N : Int) - 1) = false by simpa using hin]
      have HNo := hid (show ∀ n' m' c', ¬ CellIn ss cell n' m' c' from fun n' m' c' hc => by
        obtain ⟨rfl, rfl⟩ := HG.out.uniq hc.1
        have h2 := hc.2.2
        have h3 := hc.2.1
        rw [HN.out] at h2
        exact hin ⟨by omega, by omega⟩)
      clear hin
      go_wp2_with fail
      go_ret
      exact ⟨false, rfl, .inr ⟨rfl, HNo.out⟩, d, rfl⟩

/-- The letter of a cell, as the list of all letters has it. -/
theorem lett_cell {n m c : Nat} {ss : List ByteArray} (hg : IsGrid n m ss) (hc : c < n * m) : (flat ss)[c]? = some (lett m (pad (flat ss)) ((c / m : Nat) : Int) ((c % m : Nat) : Int)) := by
  have h := lett_flat hg (placeN_in hc)
  rw [cellN_place] at h
  exact h

set_option maxRecDepth 100000 in
set_option maxHeartbeats 1000000 in
theorem l4Mirror_any (A : Option Addr) (c B : Nat) (ss : List ByteArray) (cell : Int) (w : World) (h : Strs w B A ss) (hn : ss.length ≤ 1048576) (hs : ∀ s ∈ ss, s.size ≤ 1048576) :
    Calls Try.prog 90 #[.slice A ss.length c, .int .i64 cell] w (MirBEnd ss cell w) := by
  have HI := hid (l4Given_any A c B ss cell w h hn hs)
  have HD := hid h
  clear h hs
  go_enter Try.func90, Try.ntmps90
  go_wp2_with fail
  refine HI.out.mono ?_
  rintro e w' ⟨ok, rfl, hok, d, rfl⟩
  rcases hok with ⟨rfl, n, m, cc, hc⟩ | ⟨rfl, hno⟩
  · have HC := hid hc
    obtain rfl := hc.2.1
    have HCE := hid (l2Cell_any A c B n m cc ss _ (w.drewN d) (HD.out.drewN d) hc.1 hc.2.2 (lett_cell hc.1 hc.2.2))
    generalize hbb : lett m (pad (flat ss)) ((cc / m : Nat) : Int) ((cc % m : Nat) : Int) = b at HCE
    have HBB := hid hbb
    have hbq := byte_bne b
    obtain ⟨bv, hbv⟩ : ∃ bv : Int, ((b.toNat : Nat) : Int) = bv := ⟨_, rfl⟩
    rw [hbv] at HCE hbq
    clear hc hbb hbv
    go_wp2_with fail
    refine HCE.out.mono ?_
    rintro e w' ⟨rfl, d2, rfl⟩
    cases hb : (b != 46) with
    | true =>
      rw [hb] at hbq
      have HB := hid hb
      clear hb
      go_wp2_with fail
      go_ret
      exact ⟨true, rfl, .inl ⟨rfl, n, m, cc, HC.out, by rw [HBB.out]; exact bne_iff_ne.1 HB.out⟩, _, rfl⟩
    | false =>
      rw [hb] at hbq
      have HB := hid hb
      clear hb
      go_wp2_with fail
      go_ret
      refine ⟨false, rfl, .inr ⟨rfl, fun n' m' c' hm => ?_⟩, _, rfl⟩
      obtain ⟨rfl, rfl, rfl⟩ := HC.out.uniq hm.1
      have h2 := hm.2
      rw [HBB.out] at h2
      have h3 := HB.out
      rw [bne_iff_ne.2 h2] at h3
      cases h3
  · have HNo := hid hno
    clear hno
    go_wp2_with fail
    go_ret
    exact ⟨false, rfl, .inr ⟨rfl, fun n m c hm => HNo.out _ _ _ hm.1⟩, d, rfl⟩

set_option maxRecDepth 100000 in
set_option maxHeartbeats 1000000 in
theorem l4Exchange_any (b off c B n m cc : Nat) (ss : List ByteArray) (w : World) (h : Strs w B (some ⟨b, off, none⟩) ss) (hB : B ≤ w.heap.size) (hg : IsGrid n m ss) (hcc : cc < n * m) :
    Calls Try.prog 91 #[.slice (some ⟨b, off, none⟩) ss.length c, .int .i64 cc] w fun e w' => (∃ g cap, e = .returned (.slice (some ⟨g, 0, none⟩) ss.length cap) ∧ Row9 w' g (textsOf n m ((pad (flat ss)).set cc (oth (lett m (pad (flat ss)) ((cc / m : Nat) : Int) ((cc % m : Nat) : Int)))))) ∧ Below w.heap.size w w' := by
  have HCE := hid (l2Cell_any (some ⟨b, off, none⟩) c B n m cc ss _ w h hg hcc (lett_cell hg hcc))
  generalize lett m (pad (flat ss)) ((cc / m : Nat) : Int) ((cc % m : Nat) : Int) = bt at HCE ⊢
  have HO := hid (l1Other_any bt)
  have HP := hid (fun d => l1Put_any b off c B n m cc ss (oth bt) (w.drewN d) (h.drewN d) hB hg hcc)
  clear h hg
  go_enter Try.func91, Try.ntmps91
  go_wp2_with fail
  refine HCE.out.mono ?_
  rintro e w' ⟨rfl, d2, rfl⟩
  go_wp2_with fail
  refine (HO.out _).mono ?_
  rintro e w' ⟨rfl, rfl⟩
  go_wp2_with fail
  refine (HP.out d2).mono ?_
  rintro e w1 ⟨⟨g, cap, rfl, hrow⟩, hb1⟩
  have HR := hid hrow
  have HB1 := hid ((below_drewN' (Below.refl w.heap.size w) d2).trans hb1)
  clear hrow hb1
  go_wp2_with fail
  go_ret
  exact ⟨⟨g, cap, rfl, HR.out⟩, HB1.out⟩

set_option maxRecDepth 100000 in
set_option maxHeartbeats 1000000 in
theorem specChangeDelta_any (A : Option Addr) (c B : Nat) (ss : List ByteArray) (cell : Int) (w : World) (h : Strs w B A ss) (hB : B ≤ w.heap.size) (hn : ss.length ≤ 1048576) (hs : ∀ s ∈ ss, s.size ≤ 1048576) :
    Calls Try.prog 42 #[.slice A ss.length c, .int .i64 cell] w fun e w' => Below w.heap.size w w' ∧ ∃ x ok, e = .returned (.tuple #[.int .i64 x, .bool ok]) ∧ MirOut deltaR ss cell x ok := by
  have HI := hid (l4Mirror_any A c B ss cell w h hn hs)
  have HD := hid h
  clear h hs
  go_enter Try.func42, Try.ntmps42
  go_wp2_with fail
  refine HI.out.mono ?_
  rintro e w' ⟨ok, rfl, hok, d, rfl⟩
  have HBd := hid (below_drewN' (Below.refl w.heap.size w) d)
  rcases hok with ⟨rfl, n, m, cc, hmi⟩ | ⟨rfl, hno⟩
  · have HMI := hid hmi
    have hg := hmi.1.1
    have hcc := hmi.1.2.2
    obtain rfl := hmi.1.2.1
    obtain ⟨b, off, s0, rfl, _, _, _⟩ := HD.out.at_ (k := 0) (by have := hg.1; have := hg.2.1; omega)
    have HP := hid (l4Exchange_any b off c B n m cc ss (w.drewN d) (HD.out.drewN d) hB hg hcc)
    obtain ⟨hg2, hp2⟩ := put_grid (b := oth (lett m (pad (flat ss)) ((cc / m : Nat) : Int) ((cc % m : Nat) : Int))) hg hcc (isLet_oth _ (by obtain ⟨b', e, hb'⟩ := hg.let_at hcc; rw [lett_cell hg hcc] at e; cases e; exact hb'))
    have HPA := hid (fun A c w h => l3Paths_any A c w.heap.size n m (textsOf n m ((pad (flat ss)).set cc (oth (lett m (pad (flat ss)) ((cc / m : Nat) : Int) ((cc % m : Nat) : Int))))) w h (Nat.le_refl _) hg2)
    have HPB := hid (fun w h hB => l3Paths_any (some ⟨b, off, none⟩) c B n m ss w h hB hg)
    rw [hp2, hg2.1] at HPA
    have hdv : diffR n m (pad (flat ss)) cc (oth (lett m (pad (flat ss)) ((cc / m : Nat) : Int) ((cc % m : Nat) : Int))) = (pathsR n m (lett m ((pad (flat ss)).set cc (oth (lett m (pad (flat ss)) ((cc / m : Nat) : Int) ((cc % m : Nat) : Int)))))).1 - (pathsR n m (lett m (pad (flat ss)))).1 := rfl
    have ba := pathsR_le (n := n) (m := m) (t := lett m ((pad (flat ss)).set cc (oth (lett m (pad (flat ss)) ((cc / m : Nat) : Int) ((cc % m : Nat) : Int))))) hg.2.2.1 hg.2.2.2.2.1
    have bb := pathsR_le (n := n) (m := m) (t := lett m (pad (flat ss))) hg.2.2.1 hg.2.2.2.2.1
    have hnl := hg.1
    generalize (pathsR n m (lett m ((pad (flat ss)).set cc (oth (lett m (pad (flat ss)) ((cc / m : Nat) : Int) ((cc % m : Nat) : Int)))))).1 = pa at *
    generalize (pathsR n m (lett m (pad (flat ss)))).1 = pb at *
    have HDV := hid hdv
    generalize textsOf n m ((pad (flat ss)).set cc (oth (lett m (pad (flat ss)) ((cc / m : Nat) : Int) ((cc % m : Nat) : Int)))) = tt at *
    have ba1 := ba.1
    have ba2 := ba.2
    have bb1 := bb.1
    have bb2 := bb.2
    rw [hnl] at HP ⊢
    clear hmi hg hg2 hp2 hdv ba bb
    go_wp2_with fail
    refine HP.out.mono ?_
    rintro e w1 ⟨⟨g, cap, rfl, hrow⟩, hb1⟩
    have HB1 := hid (HBd.out.trans hb1)
    have HS1 := hid (hrow.strs (B := w1.heap.size) hrow.lt)
    clear hb1 hrow
    go_wp2_with fail
    refine (HPA.out _ cap w1 HS1.out).mono ?_
    rintro e w2 ⟨rfl, hb2⟩
    have HB2 := hid (HB1.out.trans (hb2.mono HB1.out.size))
    have HC2 := hid (HPB.out w2 (HD.out.below HB2.out hB) (Nat.le_trans hB HB2.out.size))
    rw [hnl] at HC2
    clear hb2
    go_wp2_with fail
    refine HC2.out.mono ?_
    rintro e w3 ⟨rfl, hb3⟩
    have HB3 := hid (HB2.out.trans (hb3.mono HB2.out.size))
    clear hb3
    go_wp2_with fail
    refine bodyPost_ret (results_tmp2 rfl _ _ _) rfl ?_
    exact ⟨HB3.out, _, true, rfl, .inl ⟨n, m, cc, HMI.out, by unfold deltaR; rw [HDV.out]⟩⟩
  · have HNo := hid hno
    clear hno
    go_wp2_with fail
    refine bodyPost_ret (results_tmp2 rfl _ _ _) rfl ?_
    exact ⟨HBd.out, 0, false, rfl, .inr ⟨HNo.out, rfl, rfl⟩⟩

set_option maxRecDepth 100000 in
set_option maxHeartbeats 1000000 in
theorem specChangeEmpty_any (A : Option Addr) (c B : Nat) (ss : List ByteArray) (cell : Int) (w : World) (h : Strs w B A ss) (hB : B ≤ w.heap.size) (hn : ss.length ≤ 1048576) (hs : ∀ s ∈ ss, s.size ≤ 1048576) :
    Calls Try.prog 44 #[.slice A ss.length c, .int .i64 cell] w fun e w' => Below w.heap.size w w' ∧ ∃ x ok, e = .returned (.tuple #[.int .i64 x, .bool ok]) ∧ MirOut emptyR ss cell x ok := by
  have HI := hid (l4Mirror_any A c B ss cell w h hn hs)
  have HD := hid h
  clear h hs
  go_enter Try.func44, Try.ntmps44
  go_wp2_with fail
  refine HI.out.mono ?_
  rintro e w' ⟨ok, rfl, hok, d, rfl⟩
  have HBd := hid (below_drewN' (Below.refl w.heap.size w) d)
  rcases hok with ⟨rfl, n, m, cc, hmi⟩ | ⟨rfl, hno⟩
  · have HMI := hid hmi
    have hg := hmi.1.1
    have hcc := hmi.1.2.2
    obtain rfl := hmi.1.2.1
    obtain ⟨b, off, s0, rfl, _, _, _⟩ := HD.out.at_ (k := 0) (by have := hg.1; have := hg.2.1; omega)
    have HP := hid (l1Put_any b off c B n m cc ss 46 (w.drewN d) (HD.out.drewN d) hB hg hcc)
    obtain ⟨hg2, hp2⟩ := put_grid (b := 46) hg hcc rfl
    have HPA := hid (fun A c w h => l3Paths_any A c w.heap.size n m (textsOf n m ((pad (flat ss)).set cc (46))) w h (Nat.le_refl _) hg2)
    have HPB := hid (fun w h hB => l3Paths_any (some ⟨b, off, none⟩) c B n m ss w h hB hg)
    rw [hp2, hg2.1] at HPA
    have hdv : diffR n m (pad (flat ss)) cc (46) = (pathsR n m (lett m ((pad (flat ss)).set cc (46)))).1 - (pathsR n m (lett m (pad (flat ss)))).1 := rfl
    have ba := pathsR_le (n := n) (m := m) (t := lett m ((pad (flat ss)).set cc (46))) hg.2.2.1 hg.2.2.2.2.1
    have bb := pathsR_le (n := n) (m := m) (t := lett m (pad (flat ss))) hg.2.2.1 hg.2.2.2.2.1
    have hnl := hg.1
    generalize (pathsR n m (lett m ((pad (flat ss)).set cc (46)))).1 = pa at *
    generalize (pathsR n m (lett m (pad (flat ss)))).1 = pb at *
    have HDV := hid hdv
    generalize textsOf n m ((pad (flat ss)).set cc (46)) = tt at *
    have ba1 := ba.1
    have ba2 := ba.2
    have bb1 := bb.1
    have bb2 := bb.2
    rw [hnl] at HP ⊢
    have h46 : (((46 : UInt8).toNat : Nat) : Int) = 46 := rfl
    rw [h46] at HP
    clear h46
    clear hmi hg hg2 hp2 hdv ba bb
    go_wp2_with fail
    refine HP.out.mono ?_
    rintro e w1 ⟨⟨g, cap, rfl, hrow⟩, hb1⟩
    have HB1 := hid (HBd.out.trans hb1)
    have HS1 := hid (hrow.strs (B := w1.heap.size) hrow.lt)
    clear hb1 hrow
    go_wp2_with fail
    refine (HPA.out _ cap w1 HS1.out).mono ?_
    rintro e w2 ⟨rfl, hb2⟩
    have HB2 := hid (HB1.out.trans (hb2.mono HB1.out.size))
    have HC2 := hid (HPB.out w2 (HD.out.below HB2.out hB) (Nat.le_trans hB HB2.out.size))
    rw [hnl] at HC2
    clear hb2
    go_wp2_with fail
    refine HC2.out.mono ?_
    rintro e w3 ⟨rfl, hb3⟩
    have HB3 := hid (HB2.out.trans (hb3.mono HB2.out.size))
    clear hb3
    go_wp2_with fail
    refine bodyPost_ret (results_tmp2 rfl _ _ _) rfl ?_
    exact ⟨HB3.out, _, true, rfl, .inl ⟨n, m, cc, HMI.out, by unfold emptyR; rw [HDV.out]⟩⟩
  · have HNo := hid hno
    clear hno
    go_wp2_with fail
    refine bodyPost_ret (results_tmp2 rfl _ _ _) rfl ?_
    exact ⟨HBd.out, 0, false, rfl, .inr ⟨HNo.out, rfl, rfl⟩⟩

end Go.Proofs.Ytmdgbcepjnfbnaa
