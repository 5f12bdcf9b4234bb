/- ChangePaths of the specification, by its contract. -/
import Derived.Test.YtmdgbcepjnfbnaaPathsI
import Derived.Test.YtmdgbcepjnfbnaaDeltaS
namespace Go.Proofs.Ytmdgbcepjnfbnaa
open Go.RowKit Go.Shelf

set_option maxRecDepth 100000 in
set_option maxHeartbeats 1000000 in
theorem specChangePaths_any (A : Option Addr) (c B : Nat) (ss : List ByteArray) (cell : Int) (w : World) (h : Strs w B A ss) (hB : B ≤ w.heap.size) (hn : ss.length ≤ 1048576) (hs : ∀ s ∈ ss, s.size ≤ 1048576) :
    Calls Try.prog 28 #[.slice A ss.length c, .int .i64 cell] w fun e w' => Below w.heap.size w w' ∧ ∃ A c l ok, e = .returned (.tuple #[.slice A l.length c, .bool ok]) ∧ CPOut ss cell l ok ∧ Ints w' w'.heap.size A l := by
  have HI := hid (l4Given_any A c B ss cell w h hn hs)
  have HD := hid h
  clear h hs
  go_enter Try.func28, Try.ntmps28
  go_wp2_with fail
  refine HI.out.mono ?_
  rintro e w' ⟨ok, rfl, hok, d, rfl⟩
  have HBd := hid (below_drewN' (Below.refl w.heap.size w) d)
  rcases hok with ⟨rfl, n, m, cc, hmi⟩ | ⟨rfl, hno⟩
  · have HMI := hid hmi
    have hg := hmi.1
    have hcc := hmi.2.2
    obtain rfl := hmi.2.1
    obtain ⟨b, off, s0, rfl, _, _, _⟩ := HD.out.at_ (k := 0) (by have := hg.1; have := hg.2.1; omega)
    have hnl := hg.1
    have HP := hid (show ∀ (lt : UInt8) (W : World), Below w.heap.size w W → _ from fun lt W hW => l1Put_any b off c B n m cc ss lt W (HD.out.below hW hB) (Nat.le_trans hB hW.size) hg hcc)
    have HPA := hid (show ∀ (lt : UInt8) (hl : isLet lt = true) (A : Option Addr) (c : Nat) (w : World), Strs w w.heap.size A (textsOf n m ((pad (flat ss)).set cc lt)) → Calls Try.prog 83 #[.slice A n c] w fun e w' => e = .returned (.int .i64 (pathsR n m (lett m ((pad (flat ss)).set cc lt))).1) ∧ Below w.heap.size w w' from fun lt hl A c w h => by
      obtain ⟨hg2, hp2⟩ := put_grid (b := lt) hg hcc hl
      have := l3Paths_any A c w.heap.size n m _ w h (Nat.le_refl _) hg2
      rwa [hp2, hg2.1] at this)
    have q1 := hid (HP.out 46)
    have q2 := hid (HP.out 114)
    have q3 := hid (HP.out 102)
    have e1 : (((46 : UInt8).toNat : Nat) : Int) = 46 := rfl
    have e2 : (((114 : UInt8).toNat : Nat) : Int) = 114 := rfl
    have e3 : (((102 : UInt8).toNat : Nat) : Int) = 102 := rfl
    rw [e1] at q1
    rw [e2] at q2
    rw [e3] at q3
    have p1 := hid (HPA.out 46 rfl)
    have p2 := hid (HPA.out 114 rfl)
    have p3 := hid (HPA.out 102 rfl)
    have HL := hid (show pathsL n m (pad (flat ss)) cc = [(pathsR n m (lett m ((pad (flat ss)).set cc 46))).1, (pathsR n m (lett m ((pad (flat ss)).set cc 114))).1, (pathsR n m (lett m ((pad (flat ss)).set cc 102))).1] from rfl)
    generalize (pathsR n m (lett m ((pad (flat ss)).set cc 46))).1 = x1 at *
    generalize (pathsR n m (lett m ((pad (flat ss)).set cc 114))).1 = x2 at *
    generalize (pathsR n m (lett m ((pad (flat ss)).set cc 102))).1 = x3 at *
    generalize textsOf n m ((pad (flat ss)).set cc 46) = t1 at *
    generalize textsOf n m ((pad (flat ss)).set cc 114) = t2 at *
    generalize textsOf n m ((pad (flat ss)).set cc 102) = t3 at *
    rw [hnl] at q1 q2 q3 ⊢
    clear hmi hg HP HPA e1 e2 e3
    go_wp2_with fail
    refine (q1.out _ HBd.out).mono ?_
    rintro e w1 ⟨⟨g, cap, rfl, hrow⟩, hb1⟩
    have HB1 := hid (HBd.out.trans hb1)
    have HS1 := hid (hrow.strs (B := w1.heap.size) hrow.lt)
    clear hb1 hrow
    go_wp2_with fail
    refine (p1.out _ cap w1 HS1.out).mono ?_
    rintro e w2 ⟨rfl, hb2⟩
    have HB2 := hid (HB1.out.trans (hb2.mono HB1.out.size))
    clear hb2
    go_wp2_with fail
    refine (q2.out _ HB2.out).mono ?_
    rintro e w3 ⟨⟨g2, cap2, rfl, hrow⟩, hb3⟩
    have HB3 := hid (HB2.out.trans (hb3.mono HB2.out.size))
    have HS3 := hid (hrow.strs (B := w3.heap.size) hrow.lt)
    clear hb3 hrow
    go_wp2_with fail
    refine (p2.out _ cap2 w3 HS3.out).mono ?_
    rintro e w4 ⟨rfl, hb4⟩
    have HB4 := hid (HB3.out.trans (hb4.mono HB3.out.size))
    clear hb4
    go_wp2_with fail
    refine (q3.out _ HB4.out).mono ?_
    rintro e w5 ⟨⟨g3, cap3, rfl, hrow⟩, hb5⟩
    have HB5 := hid (HB4.out.trans (hb5.mono HB4.out.size))
    have HS5 := hid (hrow.strs (B := w5.heap.size) hrow.lt)
    clear hb5 hrow
    go_wp2_with fail
    refine (p3.out _ cap3 w5 HS5.out).mono ?_
    rintro e w6 ⟨rfl, hb6⟩
    have HB6 := hid (HB5.out.trans (hb6.mono HB5.out.size))
    clear hb6
    go_wp2_with fail
    refine bodyPost_ret (results_tmp2 rfl _ _ _) rfl ?_
    exact ⟨HB6.out.alloc HB6.out.size _, _, _, [x1, x2, x3], true, rfl, .inl ⟨n, m, cc, HMI.out, HL.out.symm, rfl⟩, Own3.ints (.inr ⟨w6.heap.size, rfl, HB6.out.size, _, heap_new0 w6 _, fun k v hk => by
      match k, hk with
      | 0, hk => cases hk; rfl
      | 1, hk => cases hk; rfl
      | 2, hk => cases hk; rfl
      | k + 3, hk => simp at hk⟩)⟩
  · have HNo := hid hno
    clear hno
    go_wp2_with fail
    refine bodyPost_ret (results_tmp2 rfl _ _ _) rfl ?_
    exact ⟨HBd.out.alloc HBd.out.size _, _, _, [], false, rfl, .inr ⟨HNo.out, rfl, rfl⟩, Own3.ints (.inr ⟨_, rfl, HBd.out.size, _, heap_new0 _ _, fun k v hk => by simp at hk⟩)⟩
end Go.Proofs.Ytmdgbcepjnfbnaa
