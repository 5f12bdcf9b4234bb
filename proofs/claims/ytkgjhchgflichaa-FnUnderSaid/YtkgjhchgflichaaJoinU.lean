/- GridUnder of the specification, by its contract. -/
import Derived.Test.YtkgjhchgflichaaJoinUa
import Derived.Test.YtkgjhchgflichaaJoinUb
import Derived.Test.YtkgjhchgflichaaJoinUc
namespace Go.Proofs.Ytkgjhchgflichaa
open Go.RowKit Go.Shelf

set_option maxRecDepth 100000 in
set_option maxHeartbeats 1000000 in
theorem specGridUnder_any (A A' : Option Addr) (c c' B : Nat) (ss tt : List ByteArray) (w : World) (h : Strs w B A ss) (h' : Strs w B A' tt) (hB : B ≤ w.heap.size) (hn : ss.length ≤ 1048576) (hs : ∀ s ∈ ss, s.size ≤ 1048576) (hn' : tt.length ≤ 1048576) (hs' : ∀ s ∈ tt, s.size ≤ 1048576) :
    Calls Try.prog 32 #[.slice A ss.length c, .slice A' tt.length c'] w fun e w' => Below w.heap.size w w' ∧ ∃ A c res ok, e = .returned (.tuple #[.slice A res.length c, .bool ok]) ∧ UnderOut ss tt ok res ∧ Strs w' w'.heap.size A res := by
  have HI := hid (fun (b1 : Bool) (hb : b1 = true ↔ ∃ n m, IsGrid n m ss) (w' : World) (hw : ∃ k, w' = w.drewN k) => show Calls Try.prog 17 #[.slice A ss.length c] w' fun e w'' => e = .returned (.bool b1) ∧ ∃ k, w'' = w.drewN k from by
    obtain ⟨k, rfl⟩ := hw
    refine (specGridIn_any A c B ss (w.drewN k) (h.drewN k) hn hs).mono ?_
    rintro e w'' ⟨ok, rfl, hok, d, rfl⟩
    exact ⟨by rw [show ok = b1 from Bool.eq_iff_iff.2 (hok.trans hb.symm)], k + d, by simp [World.drewN, Nat.add_assoc]⟩)
  have HI2 := hid (fun (b1 : Bool) (hb : b1 = true ↔ ∃ n m, IsGrid n m tt) (w' : World) (hw : ∃ k, w' = w.drewN k) => show Calls Try.prog 17 #[.slice A' tt.length c'] w' fun e w'' => e = .returned (.bool b1) ∧ ∃ k, w'' = w.drewN k from by
    obtain ⟨k, rfl⟩ := hw
    refine (specGridIn_any A' c' B tt (w.drewN k) (h'.drewN k) hn' hs').mono ?_
    rintro e w'' ⟨ok, rfl, hok, d, rfl⟩
    exact ⟨by rw [show ok = b1 from Bool.eq_iff_iff.2 (hok.trans hb.symm)], k + d, by simp [World.drewN, Nat.add_assoc]⟩)
  have HJ := hid (fun (b1 : Bool) (hb : b1 = true ↔ ∃ n m, IsGrid n m ss) (w' : World) (hw : Below w.heap.size w w') => show Calls Try.prog 17 #[.slice A ss.length c] w' fun e w'' => ∃ u, e = .returned u ∧ u = .bool b1 ∧ Below w'.heap.size w' w'' from by
    refine (specGridIn_any A c B ss w' (h.below hw hB) hn hs).mono ?_
    rintro e w'' ⟨ok, rfl, hok, d, rfl⟩
    exact ⟨_, rfl, by rw [show ok = b1 from Bool.eq_iff_iff.2 (hok.trans hb.symm)], below_drewN' (Below.refl _ _) d⟩)
  have HJ2 := hid (fun (b1 : Bool) (hb : b1 = true ↔ ∃ n m, IsGrid n m tt) (w' : World) (hw : Below w.heap.size w w') => show Calls Try.prog 17 #[.slice A' tt.length c'] w' fun e w'' => ∃ u, e = .returned u ∧ u = .bool b1 ∧ Below w'.heap.size w' w'' from by
    refine (specGridIn_any A' c' B tt w' (h'.below hw hB) hn' hs').mono ?_
    rintro e w'' ⟨ok, rfl, hok, d, rfl⟩
    exact ⟨_, rfl, by rw [show ok = b1 from Bool.eq_iff_iff.2 (hok.trans hb.symm)], below_drewN' (Below.refl _ _) d⟩)
  have HD := hid h
  have HD' := hid h'
  have HBd := hid (fun k => below_drewN' (Below.refl w.heap.size w) k)
  by_cases hgs : ∃ n m, IsGrid n m ss
  · have H1 := hid (HI.out true ⟨fun _ => hgs, fun _ => rfl⟩)
    by_cases hgt : ∃ n m, IsGrid n m tt
    · have H2 := hid (HI2.out true ⟨fun _ => hgt, fun _ => rfl⟩)
      obtain ⟨n, m, hg⟩ := hgs
      obtain ⟨n', m', hg'⟩ := hgt
      obtain ⟨b, off, s0, rfl, hb, hk0, hc0⟩ := HD.out.at_ (k := 0) (by have := hg.1; have := hg.2.1; omega)
      obtain ⟨b', off', t0, rfl, hb', hk0', hc0'⟩ := HD'.out.at_ (k := 0) (by have := hg'.1; have := hg'.2.1; omega)
      rw [Nat.add_zero] at hc0 hc0'
      have hm0 : s0.size = m := (hg.2.2.2.2.2 s0 (List.mem_of_getElem? hk0)).1
      have hm0' : t0.size = m' := (hg'.2.2.2.2.2 t0 (List.mem_of_getElem? hk0')).1
      exact specGridUnder_yes b off b' off' c c' B n m n' m' ss tt s0 t0 w HD HD' hB (hid hg) (hid hg') H1 H2 HBd (by rw [hm0]) (by rw [hm0']) (hid fun w' ⟨k, e⟩ => by rw [e]; exact hc0) (hid fun w' ⟨k, e⟩ => by rw [e]; exact hc0') _ rfl
    · exact specGridUnder_no2 _ _ ss tt w (hid (HJ.out true ⟨fun _ => hgs, fun _ => rfl⟩)) (hid (HJ2.out false ⟨fun e => (by cases e), fun e => absurd e hgt⟩)) (hid fun n m n' m' h => hgt ⟨_, _, h.2.1⟩)
  · exact specGridUnder_no1 _ _ ss tt w (hid (HJ.out false ⟨fun e => (by cases e), fun e => absurd e hgs⟩)) (hid fun n m n' m' h => hgs ⟨_, _, h.1⟩)

end Go.Proofs.Ytkgjhchgflichaa
