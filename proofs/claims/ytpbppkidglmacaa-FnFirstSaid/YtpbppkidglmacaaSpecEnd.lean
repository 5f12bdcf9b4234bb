/- l2Given and BeamEnd of the specification, by their contracts. -/
import Derived.Test.YtpbppkidglmacaaBunE
import Derived.Test.YtpbppkidglmacaaPort
import Derived.Test.YtpbppkidglmacaaBunD
namespace Go.Proofs.Ytpbppkidglmacaa
open Go.RowKit Go.Shelf

/-- What l2Given comes to. -/
def GivenEnd (ss : List ByteArray) (p : Int) (w : World) (e : Ending) (w' : World) : Prop :=
  ∃ ok : Bool, e = .returned (.bool ok) ∧ ((ok = true ∧ ∃ n m q, PortIn ss p n m q) ∨ (ok = false ∧ NoPort ss p)) ∧ ∃ d, w' = w.drewN d

set_option maxRecDepth 100000 in
set_option maxHeartbeats 1000000 in
theorem l2Given_any (A : Option Addr) (c B : Nat) (ss : List ByteArray) (p : Int) (w : World) (h : Strs w B A ss) (hn : ss.length ≤ 1048576) (hs : ∀ s ∈ ss, s.size ≤ 1048576) :
    Calls Try.prog 52 #[.slice A ss.length c, .int .i64 p] w (GivenEnd ss p w) := by
  have HI := hid (specGridIn_any A c B ss w h hn hs)
  have HD := hid h
  clear h hs
  go_enter Try.func52, Try.ntmps52
  go_wp2_with fail
  refine HI.out.mono ?_
  rintro e w' ⟨ok, rfl, hok, d, rfl⟩
  have HO := hid hok
  clear hok
  cases ok with
  | false =>
    go_wp2_with fail
    go_ret
    exact ⟨false, rfl, .inr ⟨rfl, fun n m q hq => noGrid_of HO.out n m hq.1⟩, d, rfl⟩
  | true =>
    obtain ⟨n, m, hg⟩ := HO.out.1 rfl
    have hn1 := hg.2.1
    have hn5 := hg.2.2.1
    have hm5 := hg.2.2.2.2.1
    have hnl := hg.1
    obtain ⟨b, off, s0, rfl, hb, hk0, hc0⟩ := (HD.out.drewN d).at_ (k := 0) (by omega)
    rw [Nat.add_zero] at hc0
    have hs0 : s0.size = m := (hg.2.2.2.2.2 s0 (List.mem_of_getElem? hk0)).1
    have hs0i : ((s0.size : Nat) : Int) = (m : Int) := by rw [hs0]
    have hl0 : (0 : Int) < (ss.length : Int) := by omega
    have HG := hid hg
    have HP := hid (fun w => l2Ports_any n m w hn5 hm5)
    have HL := hid (fun w => l6In_any p 0 (2 * ((n : Int) + (m : Int)) - 1) w)
    have HNL := hid hnl
    clear hs0 hk0 hg hnl
    rw [HNL.out] at hl0 ⊢
    go_wp2_with fail
    refine (HP.out _).mono ?_
    rintro e w' ⟨rfl, rfl⟩
    go_wp2_with fail
    refine (HL.out _).mono ?_
    rintro e w' ⟨rfl, rfl⟩
    by_cases hin : 0 ≤ p ∧ p ≤ 2 * ((n : Int) + (m : Int)) - 1
    · rw [decide_eq_true hin]
      have HIN := hid hin
      clear hin
      go_wp2_with fail
      go_ret
      exact ⟨true, rfl, .inl ⟨rfl, n, m, p.toNat, HG.out, by have := HIN.out; omega, by have := HIN.out; omega⟩, d, rfl⟩
    · rw [decide_eq_false hin]
      have HIN := hid hin
      clear hin
      go_wp2_with fail
      go_ret
      refine ⟨false, rfl, .inr ⟨rfl, ?_⟩, d, rfl⟩
      rintro n' m' q ⟨h1, rfl, h3⟩
      obtain ⟨rfl, rfl⟩ := HG.out.uniq h1
      exact HIN.out ⟨by omega, by omega⟩

set_option maxRecDepth 100000 in
set_option maxHeartbeats 1000000 in
theorem specBeamEnd_any (A : Option Addr) (c B : Nat) (ss : List ByteArray) (p : Int) (w : World) (h : Strs w B A ss) (hB : B ≤ w.heap.size) (hn : ss.length ≤ 1048576) (hs : ∀ s ∈ ss, s.size ≤ 1048576) :
    Calls Try.prog 17 #[.slice A ss.length c, .int .i64 p] w fun e w' => Below w.heap.size w w' ∧ ∃ x ok, e = .returned (.tuple #[.int .i64 x, .bool ok]) ∧ EndOut ss p x ok := by
  have HI := hid (l2Given_any A c B ss p w h hn hs)
  have HD := hid h
  clear h hs
  go_enter Try.func17, Try.ntmps17
  go_wp2_with fail
  refine HI.out.mono ?_
  rintro e w' ⟨ok, rfl, hok, d, rfl⟩
  have HBd := hid (below_drewN' (Below.refl w.heap.size w) d)
  rcases hok with ⟨rfl, n, m, q, hq⟩ | ⟨rfl, hno⟩
  · obtain rfl := hq.2.1
    have c1 := hid (l2Way_port A c B n m q ss (w.drewN d) (HD.out.drewN d) hB hq.1 hq.2.2)
    have HQ := hid hq
    clear hq
    go_wp2_with fail
    refine c1.out.mono ?_
    rintro e w1 ⟨v, v', rfl, _, _, hb1⟩
    have HB1 := hid (HBd.out.trans hb1)
    clear hb1
    go_wp2_with fail
    refine bodyPost_ret (results_tmp2 rfl _ _ _) rfl ?_
    exact ⟨HB1.out, _, true, rfl, .inl ⟨n, m, q, HQ.out, rfl, rfl⟩⟩
  · have HNo := hid hno
    clear hno
    go_wp2_with fail
    refine bodyPost_ret (results_tmp2 rfl _ _ _) rfl ?_
    exact ⟨HBd.out, 0, false, rfl, .inr ⟨HNo.out, rfl, rfl⟩⟩

end Go.Proofs.Ytpbppkidglmacaa
