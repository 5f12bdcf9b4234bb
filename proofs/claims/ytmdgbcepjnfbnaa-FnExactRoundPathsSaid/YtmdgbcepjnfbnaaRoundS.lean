/- RoundMany, RoundLeast of the specification, by their contracts. -/
import Derived.Test.YtmdgbcepjnfbnaaSpecRounds
import Derived.Test.YtmdgbcepjnfbnaaSpecTF
import Derived.Deep.QuietTactic
namespace Go.Proofs.Ytmdgbcepjnfbnaa
open Go.RowKit Go.Shelf

/-- What a question on a grid comes to, where the answer is an integer and a bool. -/
def GridOut (R : Nat → Nat → (Int → Int → UInt8) → Int × Bool) (ss : List ByteArray) (x : Int) (ok : Bool) : Prop :=
  (∃ n m, IsGrid n m ss ∧ (x, ok) = R n m (lett m (pad (flat ss)))) ∨ (NoGrid ss ∧ x = 0 ∧ ok = false)
theorem GridOut.uniq {R : Nat → Nat → (Int → Int → UInt8) → Int × Bool} {ss : List ByteArray} {x x' : Int} {ok ok' : Bool} (h : GridOut R ss x ok) (h' : GridOut R ss x' ok') : x' = x ∧ ok' = ok := by
  rcases h with ⟨n, m, h1, h2⟩ | ⟨h1, rfl, rfl⟩ <;> rcases h' with ⟨n', m', h1', h2'⟩ | ⟨h1', rfl, rfl⟩
  · obtain ⟨rfl, rfl⟩ := h1.uniq h1'
    have := h2'.trans h2.symm
    cases this
    exact ⟨rfl, rfl⟩
  · exact absurd h1 (h1' _ _)
  · exact absurd h1' (h1 _ _)
  · exact ⟨rfl, rfl⟩
def manyR (n m : Nat) (t : Int → Int → UInt8) : Int × Bool := (((leads n m t).length : Int), true)
def pathsR (n m : Nat) (t : Int → Int → UInt8) : Int × Bool := (((leads n m t).length : Int) + (n : Int) + (m : Int), true)
def leastR (n m : Nat) (t : Int → Int → UInt8) : Int × Bool :=
  match (leads n m t).head? with
  | some l => (((l / 4 : Nat) : Int), true)
  | none => (0, false)
theorem lensTo_length (n m : Nat) (t : Int → Int → UInt8) (x : Nat) : (lensTo n m t x).length = (leadsTo n m t x).length := by simp [lensTo]

set_option maxRecDepth 100000 in
set_option maxHeartbeats 1000000 in
theorem specRoundLeast_any (A : Option Addr) (c B : Nat) (ss : List ByteArray) (w : World) (h : Strs w B A ss) (hB : B ≤ w.heap.size) (hn : ss.length ≤ 1048576) (hs : ∀ s ∈ ss, s.size ≤ 1048576) :
    Calls Try.prog 64 #[.slice A ss.length c] w fun e w' => Below w.heap.size w w' ∧ ∃ x ok, e = .returned (.tuple #[.int .i64 x, .bool ok]) ∧ GridOut leastR ss x ok := by
  have HI := hid (specGridIn_any A c B ss w h hn hs)
  have HD := hid h
  clear h hs
  go_enter Try.func64, Try.ntmps64
  go_wp2_with fail
  refine HI.out.mono ?_
  rintro e w' ⟨ok, rfl, hok, d, rfl⟩
  have HO := hid hok
  clear hok
  have HBd := hid (below_drewN' (Below.refl w.heap.size w) d)
  cases ok with
  | false =>
    go_wp2_with fail
    refine bodyPost_ret (results_tmp2 rfl _ _ _) rfl ?_
    exact ⟨HBd.out, 0, false, rfl, .inr ⟨noGrid_of HO.out, rfl, rfl⟩⟩
  | true =>
    obtain ⟨n, m, hg⟩ := HO.out.1 rfl
    have c1 := hid (l3Marks_any A c B n m ss (w.drewN d) (HD.out.drewN d) hB hg)
    have HG := hid hg
    have h25 := hg.le25
    obtain ⟨N, hN⟩ : ∃ N, 4 * (n * m) = N := ⟨_, rfl⟩
    have HN := hid hN
    rw [hN] at c1
    clear hg
    go_wp2_with fail
    refine c1.out.mono ?_
    rintro e w1 ⟨g, _, rfl, hma, hb1⟩
    have HB1 := hid (HBd.out.trans hb1)
    have HMA := hid hma
    clear hb1 hma
    go_wp2_with fail
    go_loopw [5] (fun (i : Value) (wr : World) => ∃ x : Nat, x ≤ N ∧ i = .int .i64 x ∧ (∀ k, k < x → onR n m (lett m (pad (flat ss))) (wayN m k) = false) ∧ w1 = wr) (fun i _ => N - (intOf i).toNat)
    case atStart => exact ⟨0, Nat.zero_le _, rfl, fun k hk => absurd hk (Nat.not_lt_zero k), rfl⟩
    case round =>
      obtain ⟨x, hx, rfl, hno, rfl⟩ := hrel
      have HNo := hid hno
      clear hno
      by_cases hlt : x < N
      · obtain ⟨bx, hcx, hbx, _⟩ := HMA.out.cell hlt
        have hxi : (x : Int) < (N : Int) := by omega
        have hxi0 : (0 : Int) ≤ (x : Int) := by omega
        have HBX := hid hbx
        clear hbx
        cases bx with
        | true =>
          have HF := hid (HBX.out.1 rfl)
          go_wp2_with fail
          go_roundw
          case rel => exact ⟨x + 1, by omega, by go_num, fun k hk => by
            rcases Nat.lt_or_ge k x with h1 | h1
            · exact HNo.out k h1
            · obtain rfl : k = x := by omega
              exact HF.out, by first | rfl | trivial⟩
          case measure => simp [intOf]; omega
        | false =>
          have hon : onR n m (lett m (pad (flat ss))) (wayN m x) = true := by
            cases hb : onR n m (lett m (pad (flat ss))) (wayN m x) with
            | true => rfl
            | false => have := HBX.out.2 hb; cases this
          have HF := hid (first_lead (by rw [HN.out]; exact hlt) HNo.out hon)
          obtain ⟨p4, hp4⟩ : ∃ p4, x / 4 = p4 := ⟨_, rfl⟩
          have hdiv : (x : Int) / 4 = (p4 : Int) := by omega
          have HP4 := hid hp4
          clear hon hp4
          go_wp2_with fail
          refine bodyPost_ret (results_tmp2 rfl _ _ _) rfl ?_
          exact ⟨HB1.out, _, true, rfl, .inl ⟨n, m, HG.out, by unfold leastR; rw [HF.out]; simp only [HP4.out]⟩⟩
      · obtain rfl : x = N := by omega
        have HF := hid (no_lead (by rw [HN.out]; exact HNo.out))
        go_wp2_with fail
        refine bodyPost_ret (results_tmp2 rfl _ _ _) rfl ?_
        exact ⟨HB1.out, 0, false, rfl, .inl ⟨n, m, HG.out, by unfold leastR; rw [HF.out]; rfl⟩⟩

end Go.Proofs.Ytmdgbcepjnfbnaa
