/- GridTurn, GridFlip, GridOther of the specification, by their contracts. -/
import Derived.Test.YtmdgbcepjnfbnaaSame
namespace Go.Proofs.Ytmdgbcepjnfbnaa
open Go.RowKit Go.Shelf

/-- What the specification comes to: a list that reads as the changed grid, or nothing. -/
def SpecEnd (G : Nat → Nat → List UInt8 → List ByteArray) (ss : List ByteArray) (w : World) (e : Ending) (w' : World) : Prop :=
  Below w.heap.size w w' ∧ ((∃ n m A c, IsGrid n m ss ∧ Strs w' w'.heap.size A (G n m (pad (flat ss))) ∧ e = .returned (.tuple #[.slice A (G n m (pad (flat ss))).length c, .bool true])) ∨ (NoGrid ss ∧ ∃ A c, e = .returned (.tuple #[.slice A 0 c, .bool false])))
theorem noGrid_of {ss : List ByteArray} (h : false = true ↔ ∃ n m, IsGrid n m ss) : NoGrid ss := fun n m hg => by
  have := h.2 ⟨n, m, hg⟩; cases this

theorem l1None_any (w : World) :
    Calls Try.prog 59 #[] w fun e w' => (∃ A c, e = .returned (.tuple #[.slice A 0 c, .bool false])) ∧ Below w.heap.size w w' := by
  go_enter Try.func59, Try.ntmps59
  go_wp2
  refine bodyPost_ret (results_tmp2 rfl _ _ _) rfl ?_
  exact ⟨⟨_, _, rfl⟩, (Below.refl _ w).alloc (Nat.le_refl _) _⟩

set_option maxRecDepth 100000 in
set_option maxHeartbeats 1000000 in
theorem specGridFlip_any (A : Option Addr) (c B : Nat) (ss : List ByteArray) (w : World) (h : Strs w B A ss) (hB : B ≤ w.heap.size) (hn : ss.length ≤ 1048576) (hs : ∀ s ∈ ss, s.size ≤ 1048576) :
    Calls Try.prog 18 #[.slice A ss.length c] w (SpecEnd flipG ss w) := by
  have HI := hid (specGridIn_any A c B ss w h hn hs)
  have HD := hid h
  clear h hs
  go_enter Try.func18, Try.ntmps18
  go_wp2_with fail
  refine HI.out.mono ?_
  rintro e w' ⟨ok, rfl, hok, d, rfl⟩
  have HO := hid hok
  clear hok
  have HBd := hid (below_drewN' (Below.refl w.heap.size w) d)
  cases ok with
  | false =>
    go_wp2_with fail
    refine (l1None_any _).mono ?_
    rintro e w1 ⟨⟨A1, c1, rfl⟩, hb1⟩
    have HB1 := hid (HBd.out.trans hb1)
    clear hb1
    go_wp2_with fail
    refine bodyPost_ret (results_tmp2 rfl _ _ _) rfl ?_
    exact ⟨HB1.out, .inr ⟨noGrid_of HO.out, A1, c1, rfl⟩⟩
  | true =>
    obtain ⟨n, m, hg⟩ := HO.out.1 rfl
    have c1 := hid (l1Flip_any A c B n m ss (w.drewN d) (HD.out.drewN d) hB hg (flipF m (flat ss)) (fun _ _ => rfl))
    have HG := hid hg
    clear hg
    go_wp2_with fail
    refine c1.out.mono ?_
    rintro e w1 ⟨⟨v, rfl, hgr⟩, hb1⟩
    rw [← flip_same HG.out] at hgr
    obtain ⟨A1, cc, rfl, hst⟩ := hgr.strs
    have HB1 := hid (HBd.out.trans hb1)
    have HST := hid hst
    clear hb1 hgr hst
    go_wp2_with fail
    refine bodyPost_ret (results_tmp2 rfl _ _ _) rfl ?_
    exact ⟨HB1.out, .inl ⟨n, m, A1, cc, HG.out, HST.out, rfl⟩⟩

end Go.Proofs.Ytmdgbcepjnfbnaa
