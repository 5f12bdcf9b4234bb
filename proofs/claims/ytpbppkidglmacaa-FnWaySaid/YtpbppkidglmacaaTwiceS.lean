/- BeamTwice of the specification and of the program, by their contracts. -/
import Derived.Test.YtpbppkidglmacaaTwiceM
namespace Go.Proofs.Ytpbppkidglmacaa
open Go.RowKit Go.Shelf

def SpareRel (l : List Nat) (w : World) (nv iv : Value) (wr : World) : Prop :=
  ∃ k : Nat, k ≤ l.length ∧ nv = .int .i64 ((spare l k : Nat) : Int) ∧ iv = .int .i64 (k : Int) ∧ ∃ d, wr = w.drewN d
theorem cellsI_bcells (n m : Nat) (t : Int → Int → UInt8) (p k : Nat) (h : k < blen n m t p) : (cellsI m (bway n m t p) (blen n m t p))[k]? = some (((cellN m (bway n m t p k) : Nat)) : Int) ∧ (bcells n m t p)[k]? = some (cellN m (bway n m t p k)) := by
  constructor
  · exact cellsI_atT h
  · simp [bcells, h]

set_option maxRecDepth 100000 in
set_option maxHeartbeats 2000000 in
theorem specBeamTwice_any (A : Option Addr) (c B : Nat) (ss : List ByteArray) (p : Int) (w : World) (h : Strs w B A ss) (hB : B ≤ w.heap.size) (hn : ss.length ≤ 1048576) (hs : ∀ s ∈ ss, s.size ≤ 1048576) :
    Calls Try.prog 32 #[.slice A ss.length c, .int .i64 p] w fun e w' => Below w.heap.size w w' ∧ ∃ x ok, e = .returned (.tuple #[.int .i64 x, .bool ok]) ∧ BeamOut twiceR ss p x ok := by
  have HI := hid (l2Given_any A c B ss p w h hn hs)
  have HD := hid h
  clear h hs
  go_enter Try.func32, Try.ntmps32
  go_wp2_with fail
  refine HI.out.mono ?_
  rintro e w' ⟨ok, rfl, hok, d, rfl⟩
  have HBd := hid (below_drewN' (Below.refl w.heap.size w) d)
  rcases hok with ⟨rfl, n, m, q, hq⟩ | ⟨rfl, hno⟩
  · obtain rfl := hq.2.1
    have hg := hq.1
    have c1 := hid (l2Way_port A c B n m q ss (w.drewN d) (HD.out.drewN d) hB hg hq.2.2)
    have hL100 : blen n m (lett m (pad (flat ss))) q ≤ 100 := by
      have h1 := blen_lt (t := lett m (pad (flat ss))) hq.2.2
      have h2 := hg.le25
      omega
    have HC := hid (count_cells n m (lett m (pad (flat ss))) q)
    have HAT := hid (fun k hk => cellsI_bcells n m (lett m (pad (flat ss))) q k hk)
    have HLI := hid (cellsI_length m (bway n m (lett m (pad (flat ss))) q) (blen n m (lett m (pad (flat ss))) q))
    have HLB := hid (bcells_length n m (lett m (pad (flat ss))) q)
    have HC2 := hid (fun c => count_le2 (n := n) (m := m) (t := lett m (pad (flat ss))) (p := q) (c := c) hq.2.2 hg.2.2.2.1)
    have HALL := hid (spare_all (n := n) (m := m) (t := lett m (pad (flat ss))) (p := q) hq.2.2 hg.2.2.2.1)
    have HR := hid (show ((((List.range (n * m)).countP fun c => (bcells n m (lett m (pad (flat ss))) q).count c == 2 : Nat) : Int), true) = twiceR n m (lett m (pad (flat ss))) q from rfl)
    have HQ := hid hq
    clear hq hg
    go_wp2_with fail
    refine c1.out.mono ?_
    rintro e w1 ⟨v, v', rfl, hv, _, hb1⟩
    obtain ⟨A1, cc, rfl, hint⟩ := hv.ints
    have HB1 := hid (HBd.out.trans hb1)
    have HIn := hid hint
    clear hb1 hv hint
    generalize (List.range (n * m)).countP (fun c => (bcells n m (lett m (pad (flat ss))) q).count c == 2) = T at *
    generalize bcells n m (lett m (pad (flat ss))) q = bc at *
    generalize cellsI m (bway n m (lett m (pad (flat ss))) q) (blen n m (lett m (pad (flat ss))) q) = ci at *
    have HLC := hid (show ci.length = bc.length by rw [HLI.out, HLB.out])
    have HCell := hid (show ∀ k, k < bc.length → ∃ x : Nat, ci[k]? = some ((x : Nat) : Int) ∧ bc[k]? = some x from fun k hk => ⟨_, HAT.out k (by rw [← HLB.out]; exact hk)⟩)
    have hbl : bc.length ≤ 100 := by rw [HLB.out]; exact hL100
    have HALL2 := hid (show spare bc bc.length = 2 * T by rw [HLB.out]; exact HALL.out)
    have HOF := hid (fun (x : Int) (w' : World) (h : Ints w' w1.heap.size A1 ci) => l2Often_any A1 cc w1.heap.size ci x w' h (by rw [HLC.out]; omega))
    clear HAT HLI HLB HALL hL100
    go_wp2_with fail
    go_loopw [6, 10] (SpareRel bc w1) (fun _ i _ => bc.length - (intOf i).toNat)
    case atStart => exact ⟨0, Nat.zero_le _, rfl, rfl, 0, rfl⟩
    case round =>
      obtain ⟨k, hk, rfl, rfl, d2, rfl⟩ := hrel
      have hle := spare_le bc k HC2.out
      obtain ⟨tk, htk⟩ : ∃ tk, spare bc k = tk := ⟨_, rfl⟩
      rw [htk] at hle ⊢
      by_cases hlt : k < bc.length
      · obtain ⟨x, hx1, hx2⟩ := HCell.out k hlt
        have hsuc := spare_succ bc k x hx2
        rw [htk] at hsuc
        obtain ⟨b, off, s, rfl, hb, hx, hcx⟩ := HIn.out.at_ (k := k) (by rw [HLC.out]; exact hlt)
        rw [hx1] at hx
        obtain rfl := Option.some.inj hx
        have hcd : (w1.drewN d2).cell? ⟨b, off + k, none⟩ = some (.int .i64 ((x : Nat) : Int)) := hcx
        have hcall := HOF.out ((x : Nat) : Int) (w1.drewN d2) (HIn.out.drewN d2)
        rw [HC.out] at hcall
        have hcl : ci.length = bc.length := HLC.out
        have hc1 : 1 ≤ bc.count x := List.count_pos_iff.2 (List.mem_of_getElem? hx2)
        have hc2 := HC2.out x
        obtain ⟨cx, hcxx⟩ : ∃ cx, bc.count x = cx := ⟨_, rfl⟩
        rw [hcxx] at hcall hc1 hc2 hsuc
        have HCALL := hid hcall
        have HSU := hid hsuc
        clear hx hcx hx1 hx2 htk hcxx hcall hsuc
        rw [hcl] at *
        go_wp2_with fail
        refine HCALL.out.mono ?_
        rintro e w3 ⟨rfl, d3, rfl⟩
        go_wp2_with fail
        go_roundw
        case rel => exact ⟨k + 1, by omega, by rw [HSU.out]; simp only [Value.int.injEq, true_and]; omega, by go_num, d2 + d3, rfl⟩
        case measure => simp [intOf]; omega
      · obtain rfl : k = bc.length := by omega
        have HTK := hid (show tk = 2 * T by rw [← htk]; exact HALL2.out)
        have hcl : ci.length = bc.length := HLC.out
        have hq2 : ((tk : Nat) : Int) / 2 = ((T : Nat) : Int) := by
          have := HTK.out
          omega
        have HQ2 := hid hq2
        clear htk hq2
        rw [hcl] at *
        go_wp2_with fail
        refine bodyPost_ret (results_tmp2 rfl _ _ _) rfl ?_
        refine ⟨below_drewN' HB1.out d2, ((T : Nat) : Int), .inr ⟨?_, .inl ⟨n, m, q, HQ.out, by rw [← HR.out]⟩⟩⟩
        rw [← HQ2.out]
        rfl
  · have HNo := hid hno
    clear hno
    go_wp2_with fail
    refine bodyPost_ret (results_tmp2 rfl _ _ _) rfl ?_
    exact ⟨HBd.out, 0, false, rfl, .inr ⟨HNo.out, rfl, rfl⟩⟩

end Go.Proofs.Ytpbppkidglmacaa
