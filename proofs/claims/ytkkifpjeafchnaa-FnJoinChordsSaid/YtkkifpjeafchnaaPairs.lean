/- BeamPairs of the specification and of the program, by their contracts. -/
import Derived.Test.YtkkifpjeafchnaaBunF
namespace Go.Proofs.Ytkkifpjeafchnaa
open Go.RowKit Go.Shelf

def pairsR (n m : Nat) (t : Int → Int → UInt8) : List Int := (List.range (2 * (n + m))).map fun p => ((bend_ n m t p : Nat) : Int)
theorem pairsR_length (n m : Nat) (t : Int → Int → UInt8) : (pairsR n m t).length = 2 * (n + m) := by simp [pairsR]
theorem pairsR_at {n m p : Nat} {t : Int → Int → UInt8} (h : p < 2 * (n + m)) : (pairsR n m t)[p]? = some ((bend_ n m t p : Nat) : Int) := by simp [pairsR, h]
/-- What BeamPairs comes to. -/
def PairsOut (ss : List ByteArray) (l : List Int) (ok : Bool) : Prop :=
  (∃ n m, IsGrid n m ss ∧ l = pairsR n m (lett m (pad (flat ss))) ∧ ok = true) ∨ (NoGrid ss ∧ l = [] ∧ ok = false)
theorem PairsOut.uniq {ss : List ByteArray} {l l' : List Int} {ok ok' : Bool} (h : PairsOut ss l ok) (h' : PairsOut ss l' ok') : ok' = ok ∧ l' = l := by
  rcases h with ⟨n, m, h1, rfl, rfl⟩ | ⟨h1, rfl, rfl⟩ <;> rcases h' with ⟨n', m', h1', rfl, rfl⟩ | ⟨h1', rfl, rfl⟩
  · obtain ⟨rfl, rfl⟩ := h1.uniq h1'
    exact ⟨rfl, rfl⟩
  · exact absurd h1 (h1' _ _)
  · exact absurd h1' (h1 _ _)
  · exact ⟨rfl, rfl⟩
theorem PairsOut.len {ss : List ByteArray} {l : List Int} {ok : Bool} (h : PairsOut ss l ok) : l.length ≤ 1048576 := by
  rcases h with ⟨n, m, h1, rfl, _⟩ | ⟨_, rfl, _⟩
  · have h2 := h1.2.2.1
    have h3 := h1.2.2.2.2.1
    rw [pairsR_length]; omega
  · simp
theorem GrowI.below' {w w' : World} {base : Nat} {v : Value} {l : List Int} (h : GrowI w base v l) (hb : Below w.heap.size w w') : GrowI w' base v l := by
  refine World.ownsRow.kept h (Cls.grown hb) ?_
  cases v.ownBlock with
  | none => exact .inl rfl
  | some k => exact .inr (fun e => by cases e)

def PrRel (l : List Int) (w : World) (v i : Value) (wr : World) : Prop :=
  ∃ k : Nat, k ≤ l.length ∧ i = .int .i64 k ∧ GrowI wr w.heap.size v (l.take k) ∧ Below w.heap.size w wr

set_option maxRecDepth 100000 in
set_option maxHeartbeats 2000000 in
theorem l2Pairs_any (A : Option Addr) (c B n m : Nat) (ss : List ByteArray) (w : World) (h : Strs w B A ss) (hB : B ≤ w.heap.size) (hg : IsGrid n m ss) :
    Calls Try.prog 50 #[.slice A ss.length c] w fun e w' => ∃ v, e = .returned v ∧ GrowI w' w.heap.size v (pairsR n m (lett m (pad (flat ss)))) ∧ Below w.heap.size w w' := by
  have hn1 := hg.2.1
  have hn5 := hg.2.2.1
  have hm5 := hg.2.2.2.2.1
  have hnl := hg.1
  obtain ⟨b, off, s0, rfl, hb, hk0, hc0'⟩ := h.at_ (k := 0) (by omega)
  have hs0 : s0.size = m := (hg.2.2.2.2.2 s0 (List.mem_of_getElem? hk0)).1
  have hs0i : ((s0.size : Nat) : Int) = (m : Int) := by rw [hs0]
  have hl0 : (0 : Int) < (ss.length : Int) := by omega
  have HP := hid (fun w => l2Ports_any n m w hn5 hm5)
  have HW := hid (fun q w' (hst : Strs w' B (some ⟨b, off, none⟩) ss) hB' hq => l2Way_port (some ⟨b, off, none⟩) c B n m q ss w' hst hB' hg hq)
  have HPL := hid (pairsR_length n m (lett m (pad (flat ss))))
  have HPA := hid (fun p hp => pairsR_at (n := n) (m := m) (p := p) (t := lett m (pad (flat ss))) hp)
  have HH := hid h
  have HBB := hid hB
  have HKs := hid hk0
  have HNL := hid hnl
  clear hs0 hk0 h hB hg hc0'
  generalize pairsR n m (lett m (pad (flat ss))) = l at HPL HPA ⊢
  rw [HNL.out] at hl0 HW ⊢
  clear hnl
  go_enter Try.func50, Try.ntmps50
  go_wp2
  go_loopw [3, 4] (PrRel l w) (fun _ i _ => l.length - (intOf i).toNat)
  case atStart => exact ⟨0, Nat.zero_le _, rfl, growI_new w _ (Nat.le_refl _), (Below.refl _ w).alloc (Nat.le_refl _) _⟩
  case round =>
    obtain ⟨k, hk, rfl, hgr, hbel⟩ := hrel
    have HG := hid hgr
    have HB := hid hbel
    have hst := hid (HH.out.below hbel HBB.out)
    have hc0 := hst.out.cell_ HKs.out
    rw [Nat.add_zero] at hc0
    clear hgr hbel
    have hkN : k ≤ 2 * (n + m) := by rw [← HPL.out]; exact hk
    go_wp2_with fail
    refine (HP.out _).mono ?_
    rintro e w' ⟨rfl, rfl⟩
    by_cases hlt : k < 2 * (n + m)
    · have hli : (k : Int) < 2 * ((n : Int) + (m : Int)) := by omega
      have hway := hid (HW.out k wr hst.out (Nat.le_trans HBB.out HB.out.size) hlt)
      have htk : l.take (k + 1) = l.take k ++ [((bend_ n m (lett m (pad (flat ss))) k : Nat) : Int)] := by
        have hkl : k < l.length := by rw [HPL.out]; exact hlt
        have e := HPA.out k hlt
        rw [List.getElem?_eq_getElem hkl] at e
        rw [List.take_succ_eq_append_getElem hkl]
        rw [Option.some.inj e]
      generalize ((bend_ n m (lett m (pad (flat ss))) k : Nat) : Int) = bv at hway htk
      have HTK := hid htk
      clear htk hc0
      go_wp2_with fail
      refine hway.out.mono ?_
      rintro e w2 ⟨v, v', rfl, _, _, hb2⟩
      have HG2 := hid (HG.out.below' hb2)
      have HB2 := hid (HB.out.trans (hb2.mono HB.out.size))
      clear hb2
      go_wp2_with (at_builtin; refine wpList_appendI rfl _ _ rfl w.heap.size u3 (l.take k) rfl (World.ownsRow.alloc HG2.out _) w2.heap.size 1 rfl bv (cell_newI w2 _) ?c3 (Nat.le_trans HB2.out.size (by simp)) ?_)
      case c3 => rw [List.length_take, HPL.out]; omega
      intro v3 w3 hgr3 hgw3 _
      have HG3 := hid hgr3
      have HB3 := hid ((HB2.out.alloc HB2.out.size _).grown hgw3 (Nat.le_trans HB2.out.size (by simp)) (fun k e => (World.ownsRow.lt HG2.out k e).1))
      clear hgr3 hgw3
      go_wp2_with fail
      go_roundw
      case rel => exact ⟨k + 1, by rw [HPL.out]; omega, by go_num, by rw [HTK.out]; exact HG3.out, HB3.out⟩
      case measure => simp [intOf]; have := HPL.out; omega
    · have hli : ¬ (k : Int) < 2 * ((n : Int) + (m : Int)) := by omega
      have hkl : k = l.length := by rw [HPL.out]; omega
      have HG' := hid (show GrowI wr w.heap.size u3 l by have := HG.out; rwa [hkl, List.take_length] at this)
      clear hkl
      go_wp2_with fail
      go_ret
      exact ⟨_, rfl, HG'.out, HB.out⟩

def PiRel (l : List Int) (N R g : Nat) (cs : Array Value) (w : World) (i : Value) (wr : World) : Prop :=
  ∃ k : Nat, k ≤ N ∧ i = .int .i64 k ∧ wr.heap[g]? = some (.cells cs 58 (0, 0)) ∧ Below w.heap.size w wr ∧
    ∃ rs : Array Value, wr.heap[R]? = some (.cells rs 3 (0, 0)) ∧ rs.size = N ∧ (∀ j x, j < k → l[j]? = some x → rs[j]? = some (.int .i64 x)) ∧ ∀ j, j < N → ∃ u : Int, rs[j]? = some (.int .i64 u)

end Go.Proofs.Ytkkifpjeafchnaa
