/- l91Chords: the drawing of a pairing, often of a grid. Written by plaws3.py. -/
import Derived.Test.YtgapdlokljcpbaaPKP
import Derived.Test.YtgapdlokljcpbaaBunP
namespace Go.Proofs.Ytgapdlokljcpbaa
open Go.RowKit Go.Shelf

theorem dBeamPairs {w0 w : World} {g P c : Nat} {A : Option Addr} {ts : List ByteArray} (h : Dr w0 g P w) (hl : LD g w A ts) (hd : Drawn 4 4 ts) :
    Calls Try.prog 28 #[.slice A ts.length c] w fun e w' => w.grownBy w' (some g) ∧ Dr w0 g P w' ∧ ∃ A' c' l ok, e = .returned (.tuple #[.slice A' l.length c', .bool ok]) ∧ PairsOut ts l ok ∧ LI w' A' l ∧ l.length ≤ 20 :=
  (specBeamPairs_any A c w.heap.size ts w hl.1 (Nat.le_refl _) (hd.small (by decide) (by decide)).1 (hd.small (by decide) (by decide)).2).mono fun _ _ ⟨hb, A', c', l, ok, he, ho, hi⟩ => by
    have hg := gby_below (some g) hb
    refine ⟨hg, h.grown (h.1.below hb) hg, A', c', l, ok, he, ho, hi, ?_⟩
    rcases ho with ⟨n, m, hgd, rfl, _⟩ | ⟨_, rfl, _⟩
    · have h1 := hgd.2.2.1
      have h2 := hgd.2.2.2.2.1
      rw [pairsR_length]; omega
    · simp

set_option maxRecDepth 100000 in
set_option maxHeartbeats 2000000 in
theorem l91Chords_any (A : Option Addr) (len cap : Nat) (w : World) (h : CodeAt w A len) (hl : len ≤ 1048576) (hc : len ≤ cap) (hc2 : cap ≤ 9223372036854775807) :
    Calls Try.prog 83 #[.slice A len cap] w fun e w' => Below w.heap.size w w' ∧ ∃ A c l, e = .returned (.slice A l.length c) ∧ LI w' A l ∧ l.length ≤ 20 := by
  have HOP := hid (dOpen A len cap w h hl hc hc2)
  clear h
  go_enter Try.func83, Try.ntmps83
  go_wp2_with fail
  refine HOP.out.mono ?_
  rintro e w1 ⟨rfl, hd⟩
  have HD1 := hid hd
  clear hd HOP
  have HC1 := hid (dPick 2 HD1.out (by omega) (by omega) (by omega))
  go_wp2_with fail
  refine HC1.out.mono ?_
  rintro e w2 ⟨hg, hd, v, hv, rfl⟩
  have HD2 := hid hd
  clear hg hd HC1 HD1
  rcases Nat.eq_zero_or_pos v with rfl | hv0
  · skip
    have HC2 := hid (dSome 4 4 HD2.out (by omega) (by omega) (by omega) (by omega) (by omega))
    go_wp2_with fail
    refine HC2.out.mono ?_
    rintro e w3 ⟨hg, hd, A1, c1, ts, hdr, hcap, hl, rfl⟩
    have Xts3 := hid hl
    clear hl
    have HD3 := hid hd
    clear hg hd HC2 HD2
    have HDRW := hid hdr
    clear hdr
    have HC3 := hid (dBeamPairs (c := c1) HD3.out Xts3.out HDRW.out)
    go_wp2_with fail
    refine HC3.out.mono ?_
    rintro e w4 ⟨hg, hd, A2, c2, l, ok, rfl, ho, hli, hl20⟩
    have Xts4 := hid (Xts3.out.step hg)
    clear Xts3
    have HD4 := hid hd
    clear hg hd HC3 HD3
    have HLI := hid hli
    clear hli ho
    cases ok with
    | true =>
      go_wp2_with fail
      go_ret
      exact ⟨HD4.out.below, A2, c2, l, rfl, HLI.out, hl20⟩
    | false =>
      have HC4 := hid (dPick 7 HD4.out (by omega) (by omega) (by omega))
      go_wp2_with fail
      refine HC4.out.mono ?_
      rintro e w5 ⟨hg, hd, v7, hv7, rfl⟩
      have Xts5 := hid (Xts4.out.step hg)
      clear Xts4
      have HD5 := hid hd
      clear hg hd HC4 HD4
      have HC5 := hid (dPick 24 HD5.out (by omega) (by omega) (by omega))
      go_wp2_with fail
      refine HC5.out.mono ?_
      rintro e w6 ⟨hg, hd, v24, hv24, rfl⟩
      have Xts6 := hid (Xts5.out.step hg)
      clear Xts5
      have HD6 := hid hd
      clear hg hd HC5 HD5
      obtain ⟨q, hq, hq23⟩ := q23 v24 (by omega)
      obtain ⟨N, hN⟩ : ∃ N : Nat, 4 + 2 * v7 - q = N := ⟨_, rfl⟩
      have hNi : (4 : Int) + 2 * (v7 : Int) - (q : Int) = (N : Int) := by omega
      have hN3 : 3 ≤ N := by omega
      have hN20 : N ≤ 20 := by omega
      clear hN
      have HC6 := hid (dPairs N HD6.out (by omega) hN3 hN20)
      go_wp2_with fail
      refine HC6.out.mono ?_
      rintro e w7 ⟨hg, hd, A3, c3, l, hl, hx, rfl⟩
      have Xts7 := hid (Xts6.out.step hg)
      clear Xts6
      have Xl7 := hid hx
      clear hx
      have HD7 := hid hd
      clear hg hd HC6 HD6
      have HL := hid hl
      clear hl
      go_wp2_with fail
      go_ret
      exact ⟨HD7.out.below, A3, c3, l, by rw [HL.out]; rfl, Xl7.out.1, by rw [HL.out]; exact hN20⟩
  · have hvi : ¬ (v : Int) = 0 := by omega
    have HC2 := hid (dPick 7 HD2.out (by omega) (by omega) (by omega))
    go_wp2_with fail
    refine HC2.out.mono ?_
    rintro e w3 ⟨hg, hd, v7, hv7, rfl⟩
    have HD3 := hid hd
    clear hg hd HC2 HD2
    have HC3 := hid (dPick 24 HD3.out (by omega) (by omega) (by omega))
    go_wp2_with fail
    refine HC3.out.mono ?_
    rintro e w4 ⟨hg, hd, v24, hv24, rfl⟩
    have HD4 := hid hd
    clear hg hd HC3 HD3
    obtain ⟨q, hq, hq23⟩ := q23 v24 (by omega)
    obtain ⟨N, hN⟩ : ∃ N : Nat, 4 + 2 * v7 - q = N := ⟨_, rfl⟩
    have hNi : (4 : Int) + 2 * (v7 : Int) - (q : Int) = (N : Int) := by omega
    have hN3 : 3 ≤ N := by omega
    have hN20 : N ≤ 20 := by omega
    clear hN
    have HC4 := hid (dPairs N HD4.out (by omega) hN3 hN20)
    go_wp2_with fail
    refine HC4.out.mono ?_
    rintro e w5 ⟨hg, hd, A3, c3, l, hl, hx, rfl⟩
    have Xl5 := hid hx
    clear hx
    have HD5 := hid hd
    clear hg hd HC4 HD4
    have HL := hid hl
    clear hl
    go_wp2_with fail
    go_ret
    exact ⟨HD5.out.below, A3, c3, l, by rw [HL.out]; rfl, Xl5.out.1, by rw [HL.out]; exact hN20⟩

end Go.Proofs.Ytgapdlokljcpbaa
