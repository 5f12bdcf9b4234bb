/- empties of the program, by its contract. -/
import Derived.Test.YtagnecclhmbofaaPlaces
import Derived.Test.YtagnecclhmbofaaBunB
import Derived.Test.YtagnecclhmbofaaBunG
import Derived.Deep.MidRow
namespace Go.Proofs.Ytagnecclhmbofaa
open Go.RowKit Go.Shelf

/-- How many of some places are those of empty cells. -/
def emptN (m : Nat) (ls : List UInt8) (l : List (Int × Int)) : Nat := l.countP fun p => lett m ls p.1 p.2 == 46
theorem emptN_snoc (m : Nat) (ls : List UInt8) (l : List (Int × Int)) (k : Nat) (p : Int × Int) (h : l[k]? = some p) : emptN m ls (l.take (k + 1)) = emptN m ls (l.take k) + (if (lett m ls p.1 p.2 == 46) = true then 1 else 0) := by
  obtain ⟨hlt, rfl⟩ := List.getElem?_eq_some_iff.1 h
  unfold emptN
  rw [List.take_succ_eq_append_getElem hlt, List.countP_append, List.countP_cons, List.countP_nil]
  omega

set_option maxRecDepth 100000 in
set_option maxHeartbeats 2000000 in
theorem empties_any (n m : Nat) (ls : List UInt8) (A : Option Addr) (c : Nat) (l : List (Int × Int)) (w : World) (hl : ls.length = 25) (hn : n ≤ 5) (hm : m ≤ 5) (hlen : l.length ≤ 100) (hin : ∀ p ∈ l, 0 ≤ p.1 ∧ p.1 < n ∧ 0 ≤ p.2 ∧ p.2 < m) (h : Plcs w A l) :
    Calls Try.prog 50 #[.agg (gcells n m ls), .slice A l.length c] w fun e w' => e = .returned (.int .i64 ((emptN m ls l : Nat) : Int)) ∧ Below w.heap.size w w' := by
  have HS := hid (show (Try.prog.info? 46).map (·.size) = some (gcells n m ls).size by rw [gcells_size hl]; exact Try.size_grid)
  have HAT := hid (show ∀ (p : Int × Int) (w' : World), p ∈ l → Calls Try.prog 77 #[.agg (gcells n m ls), .agg #[.int .i64 p.1, .int .i64 p.2]] w' fun e w'' => e = .returned (.int .u8 ((lett m ls p.1 p.2).toNat : Int)) ∧ Below w'.heap.size w' w'' from fun p w' hp => by
    have h1 := hin p hp
    have hx : inG n m ⟨p.1, p.2, 0⟩ := h1
    have e1 := cellN_int hx
    have e2 := cellN_lt hx
    have h25 : n * m ≤ 25 := Nat.mul_le_mul hn hm
    refine at_any n m ls p.1 p.2 (cellN m ⟨p.1, p.2, 0⟩) (lett m ls p.1 p.2) w' hl (by omega) e1 ⟨h1.1, by omega⟩ hm ?_
    have e3 : lett m ls p.1 p.2 = ls.getD (cellN m ⟨p.1, p.2, 0⟩) 0 := by
      unfold lett
      rw [show p.1 * (m : Int) + p.2 = ((cellN m ⟨p.1, p.2, 0⟩ : Nat) : Int) from e1, Int.toNat_natCast]
    rw [e3, List.getD_eq_getElem?_getD, List.getElem?_eq_getElem (by omega)]
    rfl)
  have HPL := hid (fun w' (hb : Below w.heap.size w w') => h.below hb)
  have HSN := hid (fun k p hk => emptN_snoc m ls l k p hk)
  have HLE := hid (show ∀ k, emptN m ls (l.take k) ≤ l.length from fun k => Nat.le_trans List.countP_le_length (by rw [List.length_take]; omega))
  have HALL := hid (show emptN m ls (l.take l.length) = emptN m ls l by rw [List.take_length])
  have HB46 := hid (show ∀ b : UInt8, ((b.toNat : Int) == 46) = (b == 46) from fun b => by
    rw [Bool.eq_iff_iff, beq_iff_eq, beq_iff_eq]
    constructor
    · intro e
      have : b.toNat = 46 := by omega
      exact UInt8.toNat_inj.1 this
    · rintro rfl; rfl)
  clear h hin
  generalize gcells n m ls = cs at *
  have H0 := hid (heap_new0 w (.cells cs 46))
  have HB := hid ((Below.refl w.heap.size w).alloc (Nat.le_refl _) (.cells cs 46))
  go_enter Try.func50, Try.ntmps50
  go_wp2_with fail
  generalize World.alloc w _ = Y at H0 HB ⊢
  go_loopw [5, 10] (fun (v iv : Value) (wr : World) => ∃ k : Nat, k ≤ l.length ∧ iv = .int .i64 k ∧ v = .int .i64 ((emptN m ls (l.take k) : Nat) : Int) ∧ wr.heap[w.heap.size]? = some (.cells cs 46 (0, 0)) ∧ Below w.heap.size w wr) (fun _ i _ => l.length - (intOf i).toNat)
  case atStart => exact ⟨0, by omega, rfl, rfl, H0.out, HB.out⟩
  case round =>
    obtain ⟨k, hk, rfl, rfl, h0, hb⟩ := hrel
    have B0 := hid h0
    have BB := hid hb
    clear h0 hb
    have hle := HLE.out k
    by_cases hlt : k < l.length
    · obtain ⟨p, hp⟩ : ∃ p, l[k]? = some p := ⟨_, List.getElem?_eq_getElem hlt⟩
      have hsn := HSN.out k p hp
      obtain ⟨g, rfl, hgw, hcc⟩ := HPL.out wr BB.out (by omega)
      have hr := hcc k p hp
      have HCA := hid (fun w' => HAT.out p w' (List.mem_of_getElem? hp))
      have hb46 := HB46.out (lett m ls p.1 p.2)
      obtain ⟨gk, hgk⟩ : ∃ gk, emptN m ls (l.take k) = gk := ⟨_, rfl⟩
      rw [hgk] at hle hsn ⊢
      obtain ⟨pi, pk⟩ := p
      simp only at HCA hsn hb46
      have hc0 : wr.cell? ⟨g, k * 2, none⟩ = some (.int .i64 pi) := by rw [Nat.mul_comm]; exact hr 0 _ rfl
      have hc1 : wr.cell? ⟨g, k * 2 + 1, none⟩ = some (.int .i64 pk) := by rw [Nat.mul_comm]; exact hr 1 _ rfl
      generalize lett m ls pi pk = bt at *
      have HGK := hid hgk
      have HSN2 := hid hsn
      have HB46' := hid hb46
      clear hp hgk hcc hgw hr hsn hb46
      have NB := hid (BB.out.alloc (show w.heap.size ≤ wr.heap.size from BB.out.size) (.cells #[.int .i64 pi, .int .i64 pk] 90))
      have N0 := hid ((Below.heap_alloc wr (.cells #[.int .i64 pi, .int .i64 pk] 90) _ (lt_of_block B0.out)).trans B0.out)
      have N1 := hid (heap_new0 wr (.cells #[.int .i64 pi, .int .i64 pk] 90))
      go_wp2_with (refine wpList_load_row rfl 46 _ rfl w.heap.size rfl 46 cs (0, 0) _ N0.out Try.underlying46 rfl HS.out ?_)
      refine (HCA.out _).mono ?_
      rintro e w3 ⟨rfl, hb3⟩
      have C0 := hid ((hb3.block _ (lt_of_block N0.out)).trans N0.out)
      have CB := hid (NB.out.trans (hb3.mono NB.out.size))
      clear hb3
      have hb46 := HB46'.out
      cases hbb : (bt == 46) with
      | true =>
        rw [hbb] at hb46
        have HX := hid (show emptN m ls (l.take (k + 1)) = gk + 1 by rw [HSN2.out, if_pos hbb])
        clear hbb
        go_wp2_with fail
        go_roundw
        case rel => exact ⟨k + 1, by omega, by go_num, by rw [HX.out]; go_num, C0.out, CB.out⟩
        case measure => simp [intOf]; omega
      | false =>
        rw [hbb] at hb46
        have HX := hid (show emptN m ls (l.take (k + 1)) = gk by rw [HSN2.out, if_neg (by rw [hbb]; decide), Nat.add_zero])
        clear hbb
        go_wp2_with fail
        go_roundw
        case rel => exact ⟨k + 1, by omega, by go_num, by rw [HX.out], C0.out, CB.out⟩
        case measure => simp [intOf]; omega
    · obtain rfl : k = l.length := by omega
      rw [HALL.out]
      go_wp2_with fail
      go_ret
      exact ⟨rfl, BB.out⟩
end Go.Proofs.Ytagnecclhmbofaa
