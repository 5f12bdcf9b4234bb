/- l91One, l91At: a grid that is drawn from a code; a cell's number that is drawn. -/
import Derived.Test.YtmdgbcepjnfbnaaDrawSome
namespace Go.Proofs.Ytmdgbcepjnfbnaa
open Go.RowKit Go.Shelf

/-- A code: bytes that read. -/
def CodeAt (w : World) (A : Option Addr) (len : Nat) : Prop := len = 0 ∨ ∃ b off, A = some ⟨b, off, none⟩ ∧ b < w.heap.size ∧ Bytes w b off len
/-- A drawn list of texts. -/
def Drawn (R C : Nat) (ts : List ByteArray) : Prop := 1 ≤ ts.length ∧ ts.length ≤ R ∧ ∀ s ∈ ts, 1 ≤ s.size ∧ s.size ≤ C + 1
theorem open_rd {w : World} {A : Option Addr} {len len' cap : Nat} (h : CodeAt w A len) (h1 : len' ≤ len) (h2 : len' ≤ 2000) : Rd (w.alloc (.cells #[.slice A len' cap, .int .i64 0] 124)) w.heap.size 0 := by
  refine ⟨A, len', cap, 0, Nat.le_refl _, h2, heap_new0 w _, ?_⟩
  rcases h with rfl | ⟨b, off, rfl, hb, hr⟩
  · exact .inl (by omega)
  · refine .inr ⟨b, off, rfl, hb, fun k hk => ?_⟩
    obtain ⟨v, v0, v1, hv⟩ := hr k (by omega)
    exact ⟨v, v0, v1, (((Below.refl _ w).alloc (Nat.le_refl _) _).cell (p := ⟨b, off + k, none⟩) hb).trans hv⟩

set_option maxRecDepth 100000 in
set_option maxHeartbeats 1000000 in
theorem l91One_any (A : Option Addr) (len cap : Nat) (w : World) (h : CodeAt w A len) (hl : len ≤ 1048576) (hc : len ≤ cap) (hc2 : cap ≤ 9223372036854775807) :
    Calls Try.prog 55 #[.slice A len cap] w fun e w' => (∃ A c ts, e = .returned (.slice A ts.length c) ∧ Strs w' w'.heap.size A ts ∧ Drawn 4 4 ts) ∧ Below w.heap.size w w' := by
  have HOP := hid (l6Open_any A len cap w (by omega) hc hc2)
  have HRD := hid (fun len' (h1 : len' ≤ len) (h2 : len' ≤ 2000) => open_rd (cap := cap) h h1 h2)
  have HSO := hid (fun W (hr : Rd W w.heap.size 0) => l91Some_any w.heap.size 0 4 4 W hr (by omega) (by omega) (by omega) (by omega) (by omega))
  clear h
  go_enter Try.func55, Try.ntmps55
  go_wp2_with fail
  refine HOP.out.mono ?_
  rintro e w1 ⟨rfl, len', h1, h2, _, rfl⟩
  have HS := hid (HSO.out _ (HRD.out len' h1 h2))
  go_wp2_with fail
  refine HS.out.mono ?_
  rintro e w2 ⟨⟨gb, c1, ts, rfl, _, hst, h3, h4, h5⟩, _, hgw⟩
  have HST := hid (hst.strs hst.lt)
  have HD := hid (show Drawn 4 4 ts from ⟨h3, h4, h5⟩)
  have HB := hid (((Below.refl _ w).alloc (Nat.le_refl _) (.cells #[.slice A len' cap, .int .i64 0] 124)).grown hgw (by simp) (fun k e => by cases e; exact Nat.le_refl _))
  clear hst h3 h4 h5 hgw
  go_wp2_with fail
  go_ret
  exact ⟨⟨_, c1, ts, rfl, HST.out, HD.out⟩, HB.out⟩

/-- The texts lie as they lay: another block has grown. -/
theorem Row9.kept {w w' : World} {g b : Nat} {ts : List ByteArray} (h : Row9 w b ts) (hg : w.grownBy w' (some g)) (hne : b ≠ g) : Row9 w' b ts := by
  obtain ⟨cs, h1, h2⟩ := h
  exact ⟨cs, (hg.block b (lt_of_block h1) (fun e => hne (Option.some.inj e))).trans h1, h2⟩

set_option maxRecDepth 100000 in
set_option maxHeartbeats 1000000 in
theorem l91At_any (g P c B : Nat) (A : Option Addr) (ts : List ByteArray) (w : World) (h : Rd w g P) (hs : Strs w B A ts) (hd : Drawn 4 4 ts) (hP : P ≤ 90000) :
    Calls Try.prog 66 #[.pointer (some ⟨g, 0, none⟩), .slice A ts.length c] w fun e w' => (∃ x : Int, -100 ≤ x ∧ x ≤ 100 ∧ e = .returned (.int .i64 x)) ∧ Rd w' g (P + 3) ∧ w.grownBy w' (some g) ∧ w'.heap.size = w.heap.size := by
  obtain ⟨b, off, s0, rfl, hb, hk0, hc0⟩ := hs.at_ (k := 0) hd.1
  rw [Nat.add_zero] at hc0
  have hs0 := hd.2.2 s0 (List.mem_of_getElem? hk0)
  have hl1 := hd.1
  have hl4 := hd.2.1
  obtain ⟨L, hL⟩ : ∃ L, ts.length = L := ⟨_, rfl⟩
  rw [hL] at hl1 hl4 ⊢
  obtain ⟨M, hM⟩ : ∃ M, s0.size = M := ⟨_, rfl⟩
  have hMi : ((s0.size : Nat) : Int) = (M : Int) := by rw [hM]
  rw [hM] at hs0
  obtain ⟨hM1, hM5⟩ := hs0
  have hL0 : (0 : Int) < (L : Int) := by omega
  obtain ⟨N, hN⟩ : ∃ N, L * M = N := ⟨_, rfl⟩
  have hNi : (L : Int) * (M : Int) = (N : Int) := by rw [← Int.natCast_mul, hN]
  have hN1 : 1 ≤ N := by rw [← hN]; exact Nat.mul_pos hl1 hM1
  have hN20 : N ≤ 20 := by rw [← hN]; exact Nat.mul_le_mul hl4 hM5
  have HP1 := hid (pick_rd g P N w h (by omega) hN1 (by omega))
  have HPK := hid (fun p W (hr : Rd W g p) (hp : p ≤ 99999) => pick_rd g p 24 W hr hp (by omega) (by omega))
  have hq : ∀ v : Nat, v < 24 → ∃ q : Nat, q ≤ 1 ∧ (v : Int) / 23 = (q : Int) := fun v hv => ⟨v / 23, by omega, by omega⟩
  have HQ := hid hq
  clear h hs hd hk0 hM hL hN hq
  go_enter Try.func66, Try.ntmps66
  go_wp2_with fail
  refine HP1.out.mono ?_
  rintro e w1 ⟨⟨v1, hv1, rfl⟩, hrd, hgw, hsz⟩
  have HW1 := hid hgw
  have HZ1 := hid hsz
  have HP2 := hid (HPK.out _ w1 hrd (by omega))
  clear hrd hgw hsz HP1
  go_wp2_with fail
  refine HP2.out.mono ?_
  rintro e w2 ⟨⟨v2, hv2, rfl⟩, hrd, hgw, hsz⟩
  have HW2 := hid (gby_trans HW1.out hgw)
  have HZ2 := hid (hsz.trans HZ1.out)
  obtain ⟨q2, hq2, hd2⟩ := HQ.out v2 hv2
  have HP3 := hid (HPK.out _ w2 hrd (by omega))
  clear hrd hgw hsz HP2
  go_wp2_with fail
  refine HP3.out.mono ?_
  rintro e w3 ⟨⟨v3, hv3, rfl⟩, hrd, hgw, hsz⟩
  have HW3 := hid (gby_trans HW2.out hgw)
  have HZ3 := hid (hsz.trans HZ2.out)
  have HR3 := hid hrd
  obtain ⟨q3, hq3, hd3⟩ := HQ.out v3 hv3
  clear hrd hgw hsz HP3
  go_wp2_with fail
  go_ret
  refine ⟨⟨_, ?_, ?_, rfl⟩, HR3.out, HW3.out, HZ3.out⟩
  · omega
  · omega
end Go.Proofs.Ytmdgbcepjnfbnaa
