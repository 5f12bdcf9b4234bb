/- A slice of integers that reads as a list; l2Cell of the specification; outcomes of questions on a port. -/
import Derived.Test.YtmdgbcepjnfbnaaSpecPort
namespace Go.Proofs.Ytmdgbcepjnfbnaa
open Go.RowKit Go.Shelf

/-- The slice at address A reads as the integers l, below block B. -/
def Ints (w : World) (B : Nat) (A : Option Addr) (l : List Int) : Prop :=
  0 < l.length → ∃ b off, A = some ⟨b, off, none⟩ ∧ b < B ∧ ∀ (k : Nat) (x : Int), l[k]? = some x → w.cell? ⟨b, off + k, none⟩ = some (.int .i64 x)
theorem Ints.at_ {w : World} {B : Nat} {A : Option Addr} {l : List Int} {k : Nat} (h : Ints w B A l) (hk : k < l.length) :
    ∃ b off x, A = some ⟨b, off, none⟩ ∧ b < B ∧ l[k]? = some x ∧ w.cell? ⟨b, off + k, none⟩ = some (.int .i64 x) := by
  obtain ⟨b, off, e, hb, hc⟩ := h (by omega)
  exact ⟨b, off, l[k], e, hb, List.getElem?_eq_getElem hk, hc k _ (List.getElem?_eq_getElem hk)⟩
theorem Ints.below {w w' : World} {B : Nat} {A : Option Addr} {l : List Int} (h : Ints w B A l) {B' : Nat} (hb : Below B' w w') (hB : B ≤ B') : Ints w' B A l := fun hn => by
  obtain ⟨b, off, e, hlt, hc⟩ := h hn
  exact ⟨b, off, e, hlt, fun k s hk => (hb.cell (p := ⟨b, off + k, none⟩) (by show b < B'; omega)).trans (hc k s hk)⟩
theorem Ints.more {w : World} {B B' : Nat} {A : Option Addr} {l : List Int} (h : Ints w B A l) (hB : B ≤ B') : Ints w B' A l := fun hn => by
  obtain ⟨b, off, e, hlt, hc⟩ := h hn
  exact ⟨b, off, e, by omega, hc⟩
theorem Ints.drewN {w : World} {B : Nat} {A : Option Addr} {l : List Int} (h : Ints w B A l) (n : Nat) : Ints (w.drewN n) B A l := h
/-- The integers are read. -/
theorem GrowI.ints {w : World} {base : Nat} {v : Value} {l : List Int} (h : GrowI w base v l) : ∃ A c, v = .slice A l.length c ∧ Ints w w.heap.size A l := by
  rcases h.2 with ⟨rfl, h0⟩ | ⟨g, cap, cur, rfl, _, hg, _, _, _, ht⟩
  · rw [h0]; exact ⟨none, 0, rfl, fun hl => by omega⟩
  · refine ⟨_, _, rfl, fun _ => ⟨g, 0, rfl, lt_of_block hg, fun k s hk => ?_⟩⟩
    rw [Nat.zero_add, cell_of_row _ _ _ _ _ _ hg]
    have hl := (List.getElem?_eq_some_iff.1 hk).1
    have e : (intsV l)[k]? = some (.int .i64 s) := by simp [intsV, hk]
    rw [← ht, List.getElem?_take_of_lt (by omega)] at e
    rw [← Array.getElem?_toList, e]

set_option maxRecDepth 100000 in
set_option maxHeartbeats 1000000 in
/-- The letter of a cell. -/
theorem l2Cell_any (A : Option Addr) (c B n m p : Nat) (ss : List ByteArray) (bt : UInt8) (w : World) (h : Strs w B A ss) (hg : IsGrid n m ss) (hp : p < n * m) (hfq : (flat ss)[p]? = some bt) :
    Calls Try.prog 122 #[.slice A ss.length c, .int .i64 p] w fun e w' => e = .returned (.int .u8 bt.toNat) ∧ ∃ d, w' = w.drewN d := by
  obtain ⟨b, off, s0, rfl, hb, hk0, hc0⟩ := h.at_ (k := 0) (by have := hg.1; have := hg.2.1; omega)
  rw [Nat.add_zero] at hc0
  have hm0 : s0.size = m := (hg.2.2.2.2.2 s0 (List.mem_of_getElem? hk0)).1
  have hmi : ((s0.size : Nat) : Int) = (m : Int) := by rw [hm0]
  have hm1 := hg.2.2.2.1
  have hm5 := hg.2.2.2.2.1
  have hle := hg.le25
  have hnl := hg.1
  have hn1 := hg.2.1
  obtain ⟨r, hr⟩ : ∃ r, p / m = r := ⟨_, rfl⟩
  obtain ⟨cc, hcc⟩ : ∃ cc, p % m = cc := ⟨_, rfl⟩
  have hdiv : (p : Int) / (m : Int) = (r : Int) := by rw [← hr]; rfl
  have hmod : (p : Int) % (m : Int) = (cc : Int) := by rw [← hcc]; rfl
  have hrm : r * m + cc = p := by rw [← hr, ← hcc, Nat.mul_comm]; exact Nat.div_add_mod p m
  have hrn : r < n := by rw [← hr, Nat.div_lt_iff_lt_mul (by omega)]; exact hp
  have hcm : cc < m := by rw [← hcc]; exact Nat.mod_lt _ (by omega)
  obtain ⟨b', off', s, hA, hb', hks, hc⟩ := h.at_ (k := r) (by omega)
  obtain ⟨rfl, rfl⟩ : b = b' ∧ off = off' := by cases hA; exact ⟨rfl, rfl⟩
  have hsm : s.size = m := (hg.2.2.2.2.2 s (List.mem_of_getElem? hks)).1
  have hcs : cc < s.size := by rw [hsm]; exact hcm
  have hbt : s.data.toList[cc]? = some bt := by
    have e := flat_at ss r cc s (fun i t _ ht => (hg.2.2.2.2.2 t (List.mem_of_getElem? ht)).1) hks hcs
    rw [hrm, hfq] at e
    exact e.symm
  have hbyte : s[cc] = bt := byte_of hbt hcs
  have hl0 : (0 : Int) < (ss.length : Int) := by omega
  have hl0n : 0 < ss.length := by omega
  have hri : (r : Int) < (ss.length : Int) := by omega
  have hri0 : (0 : Int) ≤ (r : Int) := by omega
  have hci : (cc : Int) < ((s.size : Nat) : Int) := by omega
  have hci0 : (0 : Int) ≤ (cc : Int) := by omega
  have hp0 : (0 : Int) ≤ (p : Int) := by omega
  have hm0i : (1 : Int) ≤ (m : Int) := by omega
  have hmz : ((m : Int) == 0) = false := by simp; omega
  have hmz' : ¬ m = 0 := by omega
  have hn5 := hg.2.2.1
  have hr5 : (r : Int) < 5 := by omega
  have hc5 : (cc : Int) < 5 := by omega
  have hp25 : (p : Int) ≤ 25 := by omega
  clear hr hcc hrm hk0 hks hA hm0 hsm hbt hfq hg h hnl hp
  go_enter Try.func122, Try.ntmps122
  go_wp2_with fail
  go_quiet (fail)
  go_wp2
  go_ret
  exact ⟨rfl, _, rfl⟩

/-- The letter of a way's cell, as the list of letters has it. -/
theorem lett_flat {n m : Nat} {ss : List ByteArray} (hg : IsGrid n m ss) {x : Wy} (hx : inG n m x) : (flat ss)[cellN m x]? = some (lett m (pad (flat ss)) x.i x.k) := by
  have h1 := cellN_int hx
  have h2 := cellN_lt hx
  unfold lett
  rw [h1, Int.toNat_natCast, pad_getD _ _ (by rw [hg.flen]; exact h2), List.getD_eq_getElem?_getD, List.getElem?_eq_getElem (by rw [hg.flen]; exact h2)]
  rfl

end Go.Proofs.Ytmdgbcepjnfbnaa
