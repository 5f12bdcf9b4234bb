/- Settled texts in one file. Each begins with what it holds. -/
import Derived.Test.YtonhnmpgikmlpaaBunF
import Derived.Test.YtonhnmpgikmlpaaBunO
import Derived.Test.YtonhnmpgikmlpaaBunC
import Derived.Test.YtonhnmpgikmlpaaBunB
import Derived.Test.YtonhnmpgikmlpaaBunG
import Derived.Deep.MidRow
import Derived.Test.YtonhnmpgikmlpaaTwiceS
/- Slices of places: grown by append, read; empties of the program, by its contract. -/
namespace Go.Proofs.Ytonhnmpgikmlpaa
open Go.RowKit Go.Shelf

theorem Try.info_place3 : (Try.prog.info? 97).map (fun i => (i.zero, i.size, i.bytes)) = some (some (.agg #[.int .i64 0, .int .i64 0]), 2, 16) := by kernel_rfl
/-- The cells of places. -/
def plV (l : List (Int × Int)) : List Value := l.flatMap fun p => [.int .i64 p.1, .int .i64 p.2]
theorem plV_length : ∀ l : List (Int × Int), (plV l).length = l.length * 2
  | [] => rfl
  | p :: l => by
    have ih := plV_length l
    unfold plV at ih ⊢
    rw [List.flatMap_cons, List.length_append, ih, List.length_cons]
    simp
    omega
theorem plV_snoc (l : List (Int × Int)) (p : Int × Int) : plV (l ++ [p]) = plV l ++ [.int .i64 p.1, .int .i64 p.2] := by
  unfold plV
  rw [List.flatMap_append]
  rfl
theorem plV_at : ∀ (l : List (Int × Int)) (k : Nat) (p : Int × Int), l[k]? = some p → (plV l)[k * 2]? = some (.int .i64 p.1) ∧ (plV l)[k * 2 + 1]? = some (.int .i64 p.2)
  | [], k, p, h => by simp at h
  | q :: l, 0, p, h => by
    simp at h
    subst h
    exact ⟨rfl, rfl⟩
  | q :: l, k + 1, p, h => by
    obtain ⟨h1, h2⟩ := plV_at l k p (by simpa using h)
    unfold plV at h1 h2 ⊢
    rw [List.flatMap_cons, show (k + 1) * 2 = k * 2 + 2 by omega, show k * 2 + 2 + 1 = k * 2 + 1 + 2 by omega]
    exact ⟨h1, h2⟩
/-- A slice of places of the call's own. -/
def GrowPl (w : World) (base : Nat) (v : Value) (l : List (Int × Int)) : Prop := w.ownsRow base 97 2 v l.length (plV l)
theorem growPl_new (w : World) (base : Nat) (hb : base ≤ w.heap.size) : GrowPl (w.alloc (.cells #[] 97)) base (.slice (some ⟨w.heap.size, 0, none⟩) 0 0) [] :=
  World.ownsRow_made w #[] 0 hb (by unfold maxLen; omega) rfl
theorem GrowPl.below {w w' : World} {base : Nat} {v : Value} {l : List (Int × Int)} (h : GrowPl w base v l) (hb : Below w.heap.size w w') : GrowPl w' base v l := by
  refine World.ownsRow.kept h (Cls.grown hb) ?_
  cases v.ownBlock with
  | none => exact .inl rfl
  | some k => exact .inr (fun e => by cases e)
theorem GrowPl.lower {w : World} {b b' : Nat} {v : Value} {l : List (Int × Int)} (h : GrowPl w b v l) (hb : b' ≤ b) : GrowPl w b' v l :=
  ⟨h.1, h.2.imp id fun ⟨g, cap, cur, e, hlo, r⟩ => ⟨g, cap, cur, e, Nat.le_trans hb hlo, r⟩⟩
theorem GrowPl.slice {w : World} {base : Nat} {v : Value} {l : List (Int × Int)} (h : GrowPl w base v l) : ∃ A c, v = .slice A l.length c := by
  rcases h.2 with ⟨rfl, h0⟩ | ⟨g, cap, cur, rfl, _⟩
  · exact ⟨none, 0, by rw [h0]⟩
  · exact ⟨_, _, rfl⟩
/-- The slice reads as the places. -/
def Plcs (w : World) (A : Option Addr) (l : List (Int × Int)) : Prop :=
  0 < l.length → ∃ g, A = some ⟨g, 0, none⟩ ∧ g < w.heap.size ∧ ∀ (k : Nat) (p : Int × Int), l[k]? = some p → w.rangeAt g (2 * k) [.int .i64 p.1, .int .i64 p.2]
theorem Plcs.below {w w' : World} {A : Option Addr} {l : List (Int × Int)} (h : Plcs w A l) (hb : Below w.heap.size w w') : Plcs w' A l := fun hn => by
  obtain ⟨g, e, hlt, hc⟩ := h hn
  refine ⟨g, e, Nat.lt_of_lt_of_le hlt hb.size, fun k p hk j u hj => ?_⟩
  have := hc k p hk j u hj
  exact (hb.cell (p := ⟨g, 2 * k + j, none⟩) hlt).trans this
theorem GrowPl.plcs {w : World} {base : Nat} {v : Value} {l : List (Int × Int)} (h : GrowPl w base v l) : ∃ A c, v = .slice A l.length c ∧ Plcs w A l := by
  rcases h.2 with ⟨rfl, h0⟩ | ⟨g, cap, cur, rfl, _, hg, _⟩
  · exact ⟨none, 0, by rw [h0], fun hl => by omega⟩
  · refine ⟨_, _, rfl, fun _ => ⟨g, rfl, lt_of_block hg, fun k p hk j u hj => ?_⟩⟩
    obtain ⟨h1, h2⟩ := plV_at l k p hk
    have hcc : ∀ i u, (plV l)[i]? = some u → w.cell? ⟨g, i, none⟩ = some u := fun i u hi => by
      have := World.ownsRow.cells h (g := g) rfl i u hi
      have ea : (Addr.add ⟨g, 0, none⟩ i : Addr) = ⟨g, i, none⟩ := by unfold Addr.add; split <;> simp_all
      rwa [ea] at this
    match j, hj with
    | 0, hj =>
      simp at hj; subst hj
      have := hcc _ _ h1
      rw [Nat.mul_comm] at this
      exact this
    | 1, hj =>
      simp at hj; subst hj
      have := hcc _ _ h2
      rw [Nat.mul_comm] at this
      exact this
    | j + 2, hj => simp at hj
theorem grownPl_heap {base b : Nat} {W W' : World} {v : Value} {l : List (Int × Int)} {cs : Array Value} {t : TypeId} (hrow : GrowPl W base v l) (hg : W.grownBy W' v.ownBlock) (hb : W.heap[b]? = some (.cells cs t (0, 0))) (ht : t ≠ 97) : W'.heap[b]? = some (.cells cs t (0, 0)) := by
  refine (hg.block b (lt_of_block hb) ?_).trans hb
  rcases hrow.2 with ⟨rfl, _⟩ | ⟨g', cap, cur, rfl, _, hgb, _⟩
  · simp [Value.ownBlock]
  · intro e'
    have : b = g' := by simpa [Value.ownBlock] using e'
    subst this
    rw [hb] at hgb
    cases hgb
    exact ht rfl

section
variable {F : Fence} {n : Nat} {ops : Array Oper} {rest : List Oper} {o : Oper} {a : Act} {w : World} {Q : Exit → Act → World → Prop}
theorem wpListIn_appendP (hgd : o.guard = none) (s x : Operand) (ho : o.op = .call { callee := .builtin .append, args := #[s, x], argTypes := #[67, 67] })
    (base : Nat) (v : Value) (l : List (Int × Int)) (hs : a.eval s = v) (hown : GrowPl w base v l) (h c : Nat) (hx : a.eval x = .slice (some ⟨h, 0, none⟩) 1 c) (p : Int × Int) (hc : w.heap[h]? = some (.cells #[.int .i64 p.1, .int .i64 p.2] 97 (0, 0)))
    (hl : l.length ≤ 1000000) (hbase : base ≤ w.heap.size)
    (hk : ∀ g cap w', GrowPl w' base (.slice (some ⟨g, 0, none⟩) (l.length + 1) cap) (l ++ [p]) → w.grownBy w' v.ownBlock → wpListIn F n Try.prog ops Q rest (a.put o.dst (.slice (some ⟨g, 0, none⟩) (l.length + 1) cap)) w') : wpListIn F n Try.prog ops Q (o :: rest) a w := by
  obtain ⟨i0, hi, hz0, hz1, hz2⟩ := info_parts Try.info_place3
  refine wpListIn_append_own w hgd s x 67 ho base 97 i0 (.agg #[.int .i64 0, .int .i64 0]) 2 16 Try.underlying67 hi hz0 hz1 hz2 rfl (by decide) v l.length (plV l) hs hown ⟨h, 0, none⟩ 1 c [.int .i64 p.1, .int .i64 p.2] hx rfl ?_ ?_ (by unfold maxLen; omega) (by omega) hbase ?_
  · intro j u hj
    have ea : (Addr.add ⟨h, 0, none⟩ j : Addr) = ⟨h, j, none⟩ := by unfold Addr.add; split <;> simp_all
    rw [ea, cell_of_row _ _ _ _ _ _ hc]
    match j, hj with
    | 0, hj => exact hj
    | 1, hj => exact hj
    | j + 2, hj => simp at hj
  · intro u hu
    simp at hu
    rcases hu with rfl | rfl <;> rfl
  · intro v' w' h1 h2 _
    obtain ⟨g, cap, rfl⟩ := ownsRow_succ h1
    refine hk g cap w' ?_ h2
    unfold GrowPl
    rw [List.length_append, plV_snoc]
    exact h1
end
end Go.Proofs.Ytonhnmpgikmlpaa

/- empties of the program, by its contract. -/
namespace Go.Proofs.Ytonhnmpgikmlpaa
open Go.RowKit Go.Shelf

/-- How many of some places are those of empty cells. -/
def emptN (m : Nat) (ls : List UInt8) (l : List (Int × Int)) : Nat := l.countP fun p => lett m ls p.1 p.2 == 46
theorem emptN_snoc (m : Nat) (ls : List UInt8) (l : List (Int × Int)) (k : Nat) (p : Int × Int) (h : l[k]? = some p) : emptN m ls (l.take (k + 1)) = emptN m ls (l.take k) + (if (lett m ls p.1 p.2 == 46) = true then 1 else 0) := by
  obtain ⟨hlt, rfl⟩ := List.getElem?_eq_some_iff.1 h
  unfold emptN
  rw [List.take_succ_eq_append_getElem hlt, List.countP_append, List.countP_cons, List.countP_nil]
  omega

set_option maxRecDepth 100000 in
set_option maxHeartbeats 2000000 in
theorem empties_any (n m : Nat) (ls : List UInt8) (A : Option Addr) (c : Nat) (l : List (Int × Int)) (w : World) (hl : ls.length = 25) (hn : n ≤ 5) (hm : m ≤ 5) (hlen : l.length ≤ 100) (hin : ∀ p ∈ l, 0 ≤ p.1 ∧ p.1 < n ∧ 0 ≤ p.2 ∧ p.2 < m) (h : Plcs w A l) :
    Calls Try.prog 65 #[.agg (gcells n m ls), .slice A l.length c] w fun e w' => e = .returned (.int .i64 ((emptN m ls l : Nat) : Int)) ∧ Below w.heap.size w w' := by
  have HS := hid (show (Try.prog.info? 63).map (·.size) = some (gcells n m ls).size by rw [gcells_size hl]; exact Try.size_grid)
  have HAT := hid (show ∀ (p : Int × Int) (w' : World), p ∈ l → Calls Try.prog 116 #[.agg (gcells n m ls), .agg #[.int .i64 p.1, .int .i64 p.2]] w' fun e w'' => e = .returned (.int .u8 ((lett m ls p.1 p.2).toNat : Int)) ∧ Below w'.heap.size w' w'' from fun p w' hp => by
    have h1 := hin p hp
    have hx : inG n m ⟨p.1, p.2, 0⟩ := h1
    have e1 := cellN_int hx
    have e2 := cellN_lt hx
    have h25 : n * m ≤ 25 := Nat.mul_le_mul hn hm
    refine at_any n m ls p.1 p.2 (cellN m ⟨p.1, p.2, 0⟩) (lett m ls p.1 p.2) w' hl (by omega) e1 ⟨h1.1, by omega⟩ hm ?_
    have e3 : lett m ls p.1 p.2 = ls.getD (cellN m ⟨p.1, p.2, 0⟩) 0 := by
      unfold lett
      rw [show p.1 * (m : Int) + p.2 = ((cellN m ⟨p.1, p.2, 0⟩ : Nat) : Int) from e1, Int.toNat_natCast]
    rw [e3, List.getD_eq_getElem?_getD, List.getElem?_eq_getElem (by omega)]
    rfl)
  have HPL := hid (fun w' (hb : Below w.heap.size w w') => h.below hb)
  have HSN := hid (fun k p hk => emptN_snoc m ls l k p hk)
  have HLE := hid (show ∀ k, emptN m ls (l.take k) ≤ l.length from fun k => Nat.le_trans List.countP_le_length (by rw [List.length_take]; omega))
  have HALL := hid (show emptN m ls (l.take l.length) = emptN m ls l by rw [List.take_length])
  have HB46 := hid (show ∀ b : UInt8, ((b.toNat : Int) == 46) = (b == 46) from fun b => by
    rw [Bool.eq_iff_iff, beq_iff_eq, beq_iff_eq]
    constructor
    · intro e
      have : b.toNat = 46 := by omega
      exact UInt8.toNat_inj.1 this
    · rintro rfl; rfl)
  clear h hin
  generalize gcells n m ls = cs at *
  have H0 := hid (heap_new0 w (.cells cs 63))
  have HB := hid ((Below.refl w.heap.size w).alloc (Nat.le_refl _) (.cells cs 63))
  go_enter Try.func65, Try.ntmps65
  go_wp2_with fail
  generalize World.alloc w _ = Y at H0 HB ⊢
  go_loopw [5, 10] (fun (v iv : Value) (wr : World) => ∃ k : Nat, k ≤ l.length ∧ iv = .int .i64 k ∧ v = .int .i64 ((emptN m ls (l.take k) : Nat) : Int) ∧ wr.heap[w.heap.size]? = some (.cells cs 63 (0, 0)) ∧ Below w.heap.size w wr) (fun _ i _ => l.length - (intOf i).toNat)
  case atStart => exact ⟨0, by omega, rfl, rfl, H0.out, HB.out⟩
  case round =>
    obtain ⟨k, hk, rfl, rfl, h0, hb⟩ := hrel
    have B0 := hid h0
    have BB := hid hb
    clear h0 hb
    have hle := HLE.out k
    by_cases hlt : k < l.length
    · obtain ⟨p, hp⟩ : ∃ p, l[k]? = some p := ⟨_, List.getElem?_eq_getElem hlt⟩
      have hsn := HSN.out k p hp
      obtain ⟨g, rfl, hgw, hcc⟩ := HPL.out wr BB.out (by omega)
      have hr := hcc k p hp
      have HCA := hid (fun w' => HAT.out p w' (List.mem_of_getElem? hp))
      have hb46 := HB46.out (lett m ls p.1 p.2)
      obtain ⟨gk, hgk⟩ : ∃ gk, emptN m ls (l.take k) = gk := ⟨_, rfl⟩
      rw [hgk] at hle hsn ⊢
      obtain ⟨pi, pk⟩ := p
      simp only at HCA hsn hb46
      have hc0 : wr.cell? ⟨g, k * 2, none⟩ = some (.int .i64 pi) := by rw [Nat.mul_comm]; exact hr 0 _ rfl
      have hc1 : wr.cell? ⟨g, k * 2 + 1, none⟩ = some (.int .i64 pk) := by rw [Nat.mul_comm]; exact hr 1 _ rfl
      generalize lett m ls pi pk = bt at *
      have HGK := hid hgk
      have HSN2 := hid hsn
      have HB46' := hid hb46
      clear hp hgk hcc hgw hr hsn hb46
      have NB := hid (BB.out.alloc (show w.heap.size ≤ wr.heap.size from BB.out.size) (.cells #[.int .i64 pi, .int .i64 pk] 97))
      have N0 := hid ((Below.heap_alloc wr (.cells #[.int .i64 pi, .int .i64 pk] 97) _ (lt_of_block B0.out)).trans B0.out)
      have N1 := hid (heap_new0 wr (.cells #[.int .i64 pi, .int .i64 pk] 97))
      go_wp2_with (refine wpList_load_row rfl 63 _ rfl w.heap.size rfl 63 cs (0, 0) _ N0.out Try.underlying63 rfl HS.out ?_)
      refine (HCA.out _).mono ?_
      rintro e w3 ⟨rfl, hb3⟩
      have C0 := hid ((hb3.block _ (lt_of_block N0.out)).trans N0.out)
      have CB := hid (NB.out.trans (hb3.mono NB.out.size))
      clear hb3
      have hb46 := HB46'.out
      cases hbb : (bt == 46) with
      | true =>
        rw [hbb] at hb46
        have HX := hid (show emptN m ls (l.take (k + 1)) = gk + 1 by rw [HSN2.out, if_pos hbb])
        clear hbb
        go_wp2_with fail
        go_roundw
        case rel => exact ⟨k + 1, by omega, by go_num, by rw [HX.out]; go_num, C0.out, CB.out⟩
        case measure => simp [intOf]; omega
      | false =>
        rw [hbb] at hb46
        have HX := hid (show emptN m ls (l.take (k + 1)) = gk by rw [HSN2.out, if_neg (by rw [hbb]; decide), Nat.add_zero])
        clear hbb
        go_wp2_with fail
        go_roundw
        case rel => exact ⟨k + 1, by omega, by go_num, by rw [HX.out], C0.out, CB.out⟩
        case measure => simp [intOf]; omega
    · obtain rfl : k = l.length := by omega
      rw [HALL.out]
      go_wp2_with fail
      go_ret
      exact ⟨rfl, BB.out⟩
end Go.Proofs.Ytonhnmpgikmlpaa

/- The places through which a traced beam goes twice, by the contract of twice. -/
namespace Go.Proofs.Ytonhnmpgikmlpaa
open Go.RowKit Go.Shelf
attribute [local go_sem] Oper.semAt_some

/-- The place of a cell. -/
def plcI (m c : Nat) : Int × Int := (((c / m : Nat) : Int), ((c % m : Nat) : Int))
/-- The places gone through twice among those that have come. -/
def twL {N : Nat} (m : Nat) (g : Nat → Nat) (pre : List (Fin N)) : List (Int × Int) := (pre.filter fun x => g x.val == 2).map fun x => plcI m x.val
theorem twL_yes {N m : Nat} (g : Nat → Nat) (pre : List (Fin N)) (x : Fin N) (h : (g x.val == 2) = true) : twL m g (pre ++ [x]) = twL m g pre ++ [plcI m x.val] := by
  simp [twL, List.filter_append, h]
theorem twL_no {N m : Nat} (g : Nat → Nat) (pre : List (Fin N)) (x : Fin N) (h : (g x.val == 2) = false) : twL m g (pre ++ [x]) = twL m g pre := by
  simp [twL, List.filter_append, h]
theorem twL_le {N m : Nat} (g : Nat → Nat) (pre : List (Fin N)) : (twL m g pre).length ≤ pre.length := by
  unfold twL
  rw [List.length_map]
  exact List.length_filter_le _ _
/-- All of them. -/
def twP (n m : Nat) (t : Int → Int → UInt8) (q : Nat) : List (Int × Int) := ((List.range (n * m)).filter fun c => (bcells n m t q).count c == 2).map (plcI m)
theorem twL_all (N m : Nat) (g : Nat → Nat) : twL m g (List.finRange N) = ((List.range N).filter fun c => g c == 2).map (plcI m) := by
  unfold twL
  have e := upto_val (N := N) (k := N) (Nat.le_refl _)
  rw [upto_all] at e
  rw [← e, List.filter_map, List.map_map]
  rfl
theorem nat_beq2' (a : Nat) : ((a : Int) == 2) = (a == 2) := by
  rw [Bool.eq_iff_iff, beq_iff_eq, beq_iff_eq]; omega
def placeC' (m x : Nat) : Array Value := #[.int .i64 ((x / m : Nat) : Int), .int .i64 ((x % m : Nat) : Int)]
theorem KeepsAt.grownPl {g base : Nat} {W W' : World} {v : Value} {l : List (Int × Int)} {cs : Array Value} (hrow : GrowPl W base v l) (hg : W.grownBy W' v.ownBlock) (hB : W.heap[g]? = some (.cells cs 63 (0, 0))) : KeepsAt g W W' :=
  ⟨hg.size, (grownPl_heap hrow hg hB (by decide)).trans hB.symm⟩
theorem grownPl_map {base b : Nat} {W W' : World} {v : Value} {l : List (Int × Int)} {xs : List Wy} (hrow : GrowPl W base v l) (hg : W.grownBy W' v.ownBlock) (h : MapOf W b xs) : MapOf W' b xs := by
  refine h.kept (hg.block b h.lt ?_)
  obtain ⟨es, clock, hb⟩ := h.isMap
  rcases hrow.2 with ⟨rfl, _⟩ | ⟨g', cap, cur, rfl, _, hgb, _⟩
  · simp [Value.ownBlock]
  · intro e'
    have : b = g' := by simpa [Value.ownBlock] using e'
    subst this
    rw [hb] at hgb
    cases hgb
theorem Plcs.put {W : World} {base D : Nat} {v : Value} {l : List (Int × Int)} {o' : Obj} (h : GrowPl W base v l) (hk : W.heap[D]? = some (.deferred (some []))) : GrowPl (W.putObj D o') base v l := by
  rcases h with ⟨h1, h | ⟨g, cap, cur, e, hlo, hg, r⟩⟩
  · exact ⟨h1, .inl h⟩
  · refine ⟨h1, .inr ⟨g, cap, cur, e, hlo, ?_, r⟩⟩
    rw [World.putObj_heap_other (fun e => by subst e; rw [hg] at hk; cases hk)]
    exact hg

end Go.Proofs.Ytonhnmpgikmlpaa

/- Plain words on crossings: cells that are empty, gone through twice, or by two beams. No program is named but the places. -/
namespace Go.Proofs.Ytonhnmpgikmlpaa

/-- The cell is empty. -/
def emptyC (m : Nat) (t : Int → Int → UInt8) (c : Nat) : Bool := t ((c / m : Nat) : Int) ((c % m : Nat) : Int) == 46
def selfN (n m : Nat) (t : Int → Int → UInt8) (q : Nat) : Nat := (List.range (n * m)).countP fun c => (bcells n m t q).count c == 2 && emptyC m t c
def bothN (n m : Nat) (t : Int → Int → UInt8) (p q : Nat) : Nat := (List.range (n * m)).countP fun c => goesC n m t p c && goesC n m t q c && emptyC m t c
theorem countP_filter_map {α β : Type} (p : α → Bool) (f : α → β) (q : β → Bool) (l : List α) : ((l.filter p).map f).countP q = l.countP fun x => p x && q (f x) := by
  rw [List.countP_map, List.countP_filter]
  refine List.countP_congr fun x _ => ?_
  simp [Bool.and_comm]
theorem empt_twP {n m : Nat} {ls : List UInt8} {q : Nat} : emptN m ls (twP n m (lett m ls) q) = selfN n m (lett m ls) q := by
  unfold emptN twP
  rw [countP_filter_map]
  rfl
theorem sumN_two' (f : Nat → Nat) (e : Nat → Bool) : ∀ N, (∀ c, c < N → f c ≤ 2) → sumN (fun c => f c * (if e c = true then f c - 1 else 0)) N = 2 * (List.range N).countP fun c => f c == 2 && e c
  | 0, _ => rfl
  | N + 1, h => by
    rw [sumN, sumN_two' f e N (fun c hc => h c (by omega)), List.range_succ, List.countP_append, List.countP_cons, List.countP_nil]
    have := h N (by omega)
    have h3 : f N = 0 ∨ f N = 1 ∨ f N = 2 := by omega
    cases he : e N <;> rcases h3 with e | e | e <;> simp [e] <;> omega
/-- What the specification adds up for one way. -/
def spareE (m : Nat) (t : Int → Int → UInt8) (l : List Nat) (k : Nat) : Nat := ((l.take k).map fun c => if emptyC m t c = true then l.count c - 1 else 0).sum
theorem spareE_succ (m : Nat) (t : Int → Int → UInt8) (l : List Nat) (k c : Nat) (h : l[k]? = some c) : spareE m t l (k + 1) = spareE m t l k + (if emptyC m t c = true then l.count c - 1 else 0) := by
  obtain ⟨hlt, rfl⟩ := List.getElem?_eq_some_iff.1 h
  unfold spareE
  rw [List.take_succ_eq_append_getElem hlt, List.map_append, List.sum_append]
  simp
theorem sum_le {α : Type} (f : α → Nat) (b : Nat) : ∀ xs : List α, (∀ x ∈ xs, f x ≤ b) → (xs.map f).sum ≤ b * xs.length
  | [], _ => by simp
  | x :: xs, h => by
    have h1 := h x (by simp)
    have h2 := sum_le f b xs (fun y hy => h y (by simp [hy]))
    rw [List.map_cons, List.sum_cons, List.length_cons, Nat.mul_add, Nat.mul_one]
    omega
theorem spareE_le (m : Nat) (t : Int → Int → UInt8) (l : List Nat) (k : Nat) (h : ∀ c, l.count c ≤ 2) : spareE m t l k ≤ k := by
  have := sum_le (fun c => if emptyC m t c = true then l.count c - 1 else 0) 1 (l.take k) (fun c _ => by
    have := h c
    split <;> omega)
  rw [Nat.one_mul, List.length_take] at this
  unfold spareE
  omega
theorem spareE_all {n m : Nat} {t : Int → Int → UInt8} {p : Nat} (hp : p < 2 * (n + m)) (hm : 1 ≤ m) : spareE m t (bcells n m t p) (blen n m t p) = 2 * selfN n m t p := by
  unfold spareE
  rw [List.take_of_length_le (by rw [bcells_length]; exact Nat.le_refl _), sum_swap _ (n * m) _ bcells_lt]
  exact sumN_two' _ _ _ fun c _ => count_le2 hp hm
/-- What the specification adds up for two ways. -/
def bothE (m : Nat) (t : Int → Int → UInt8) (a b : List Nat) (k : Nat) : Nat := ((a.take k).map fun c => if emptyC m t c = true then b.count c else 0).sum
theorem bothE_succ (m : Nat) (t : Int → Int → UInt8) (a b : List Nat) (k c : Nat) (h : a[k]? = some c) : bothE m t a b (k + 1) = bothE m t a b k + (if emptyC m t c = true then b.count c else 0) := by
  obtain ⟨hlt, rfl⟩ := List.getElem?_eq_some_iff.1 h
  unfold bothE
  rw [List.take_succ_eq_append_getElem hlt, List.map_append, List.sum_append]
  simp
theorem bothE_le (m : Nat) (t : Int → Int → UInt8) (a b : List Nat) (k : Nat) (h : ∀ c, b.count c ≤ 2) : bothE m t a b k ≤ 2 * k := by
  have := sum_le (fun c => if emptyC m t c = true then b.count c else 0) 2 (a.take k) (fun c _ => by
    have := h c
    split <;> omega)
  rw [List.length_take] at this
  unfold bothE
  omega
theorem bothE_all {n m : Nat} {t : Int → Int → UInt8} {p q : Nat} (hn : 1 ≤ n) (hm : 1 ≤ m) (hp : p < 2 * (n + m)) (hq : q < 2 * (n + m)) (h1 : p ≠ q) (h2 : bend_ n m t p ≠ q) (h3 : p ≠ bend_ n m t q) :
    bothE m t (bcells n m t p) (bcells n m t q) (blen n m t p) = bothN n m t p q := by
  unfold bothE
  rw [List.take_of_length_le (by rw [bcells_length]; exact Nat.le_refl _), sum_swap _ (n * m) _ bcells_lt]
  unfold bothN
  rw [← sumN_countP]
  refine sumN_congr _ fun c _ => ?_
  cases he : emptyC m t c with
  | false => simp
  | true =>
    by_cases hc : 0 < (bcells n m t p).count c
    · have h4 := count_other hn hm hp hq h1 h3 hc
      have hg : goesC n m t p c = true := decide_eq_true hc
      by_cases hd : 0 < (bcells n m t q).count c
      · have h5 := count_other hn hm hq hp (fun e => h1 e.symm) (fun e => h2 e.symm) hd
        have hg2 : goesC n m t q c = true := decide_eq_true hd
        rw [hg, hg2]
        simp
        have e1 : (bcells n m t p).count c = 1 := by omega
        have e2 : (bcells n m t q).count c = 1 := by omega
        rw [e1, e2]
      · have hg2 : goesC n m t q c = false := decide_eq_false hd
        rw [hg, hg2]
        simp
        rw [show List.count c (bcells n m t q) = 0 by omega, Nat.mul_zero]
    · have hg : goesC n m t p c = false := decide_eq_false hc
      rw [hg]
      simp
      rw [show List.count c (bcells n m t p) = 0 by omega, Nat.zero_mul]
end Go.Proofs.Ytonhnmpgikmlpaa

/- BeamTwice and CrossSelf of the program, by their contracts. -/
namespace Go.Proofs.Ytonhnmpgikmlpaa
open Go.RowKit Go.Shelf

theorem twP_length (n m : Nat) (t : Int → Int → UInt8) (q : Nat) : (twP n m t q).length = (List.range (n * m)).countP fun c => (bcells n m t q).count c == 2 := by
  unfold twP
  rw [List.length_map, List.countP_eq_length_filter]
theorem twP_in {n m : Nat} {t : Int → Int → UInt8} {q : Nat} : ∀ p ∈ twP n m t q, 0 ≤ p.1 ∧ p.1 < n ∧ 0 ≤ p.2 ∧ p.2 < m := fun p hp => by
  unfold twP at hp
  obtain ⟨c, hc, rfl⟩ := List.mem_map.1 hp
  have hlt := List.mem_range.1 (List.mem_filter.1 hc).1
  have hm : 0 < m := by
    rcases Nat.eq_zero_or_pos m with h0 | h0
    · subst h0; simp at hlt
    · exact h0
  have h2 : c / m < n := by rw [Nat.div_lt_iff_lt_mul hm]; exact hlt
  have h3 : c % m < m := Nat.mod_lt _ hm
  exact ⟨Int.natCast_nonneg _, Int.ofNat_lt.2 h2, Int.natCast_nonneg _, Int.ofNat_lt.2 h3⟩
def selfR (n m : Nat) (t : Int → Int → UInt8) (q : Nat) : Int × Bool := (((selfN n m t q : Nat) : Int), true)

/-- What the operations of CrossSelf's last statement hand back. -/
def crossSelfRel (m : Nat) (ls : List UInt8) (cs : Array Value) (b : Nat) (tp : List (Int × Int)) (i : Nat) (v : Value) (W : World) : Prop :=
  match i with
  | 0 => v = .agg cs
  | 1 => v = .agg (tcells cs b)
  | 2 => ∃ A c, v = .slice A tp.length c ∧ Plcs W A tp
  | 3 => v = .int .i64 ((emptN m ls tp : Nat) : Int)
  | 4 => v = .int .i64 ((emptN m ls tp : Nat) : Int)
  | 5 => v = .bool true
  | _ => True

end Go.Proofs.Ytonhnmpgikmlpaa

/- l5Self, l5Both, CrossSelf of the specification, by their contracts. -/
namespace Go.Proofs.Ytonhnmpgikmlpaa
open Go.RowKit Go.Shelf

/-- Numbers as integers. -/
def natI (l : List Nat) : List Int := l.map fun x : Nat => (x : Int)
theorem natI_length (l : List Nat) : (natI l).length = l.length := by simp [natI]
theorem natI_at {l : List Nat} {k x : Nat} (h : l[k]? = some x) : (natI l)[k]? = some (x : Int) := by simp [natI, h]
theorem natI_count (l : List Nat) (x : Nat) : (natI l).count (x : Int) = l.count x := by
  unfold natI
  rw [List.count, List.count, List.countP_map]
  refine List.countP_congr fun y _ => ?_
  simp only [Function.comp, beq_iff_eq]
  omega
theorem cellsI_nat (n m : Nat) (t : Int → Int → UInt8) (p : Nat) : cellsI m (bway n m t p) (blen n m t p) = natI (bcells n m t p) := by
  unfold cellsI natI bcells
  rw [List.map_map]
  rfl
theorem flat_empty {n m c : Nat} {ss : List ByteArray} (hg : IsGrid n m ss) (hc : c < n * m) : ∃ bt : UInt8, (flat ss)[c]? = some bt ∧ emptyC m (lett m (pad (flat ss))) c = (bt == 46) ∧ ((bt.toNat : Int) == 46) = (bt == 46) := by
  have hm : 0 < m := by
    rcases Nat.eq_zero_or_pos m with h0 | h0
    · subst h0; simp at hc
    · exact h0
  have hx : inG n m ⟨((c / m : Nat) : Int), ((c % m : Nat) : Int), 0⟩ := ⟨Int.natCast_nonneg _, Int.ofNat_lt.2 (by rw [Nat.div_lt_iff_lt_mul hm]; exact hc), Int.natCast_nonneg _, Int.ofNat_lt.2 (Nat.mod_lt _ hm)⟩
  have h1 := lett_flat hg hx
  have h2 : cellN m ⟨((c / m : Nat) : Int), ((c % m : Nat) : Int), 0⟩ = c := by
    unfold cellN
    simp only [Int.toNat_natCast]
    rw [Nat.mul_comm]
    exact Nat.div_add_mod c m
  rw [h2] at h1
  refine ⟨_, h1, rfl, ?_⟩
  generalize lett m (pad (flat ss)) _ _ = b
  rw [Bool.eq_iff_iff, beq_iff_eq, beq_iff_eq]
  constructor
  · intro e
    have : b.toNat = 46 := by omega
    exact UInt8.toNat_inj.1 this
  · rintro rfl; rfl

set_option maxRecDepth 100000 in
set_option maxHeartbeats 2000000 in
theorem l5Both_any (A : Option Addr) (c B n m : Nat) (ss : List ByteArray) (A1 : Option Addr) (c1 B1 : Nat) (a : List Nat) (w : World) (h : Strs w B A ss) (hg : IsGrid n m ss) (hi : Ints w B1 A1 (natI a)) (A2 : Option Addr) (c2 B2 : Nat) (al : List Nat) (hi2 : Ints w B2 A2 (natI al)) (hlen2 : al.length ≤ 100) (ha : ∀ x ∈ a, x < n * m) (hlen : a.length ≤ 100) (hc2 : ∀ c, al.count c ≤ 2) :
    Calls Try.prog 69 #[.slice A ss.length c, .slice A1 a.length c1, .slice A2 al.length c2] w fun e w' => e = .returned (.int .i64 ((bothE m (lett m (pad (flat ss))) a al a.length : Nat) : Int)) ∧ ∃ d, w' = w.drewN d := by
  have HI := hid hi
  have HCE := hid (show ∀ (k x d : Nat), a[k]? = some x → ∃ bt : UInt8, emptyC m (lett m (pad (flat ss))) x = (bt == 46) ∧ ((bt.toNat : Int) == 46) = (bt == 46) ∧ Calls Try.prog 75 #[.slice A ss.length c, .int .i64 (x : Int)] (w.drewN d) fun e w' => e = .returned (.int .u8 bt.toNat) ∧ ∃ d', w' = (w.drewN d).drewN d' from fun k x d hk => by
    have hx := ha x (List.mem_of_getElem? hk)
    obtain ⟨bt, h1, h2, h3⟩ := flat_empty hg hx
    exact ⟨bt, h2, h3, l2Cell_any A c B n m x ss bt (w.drewN d) (h.drewN d) hg hx h1⟩)
  have HOF := hid (show ∀ x d : Nat, Calls Try.prog 76 #[.slice A2 al.length c2, .int .i64 (x : Int)] (w.drewN d) fun e w' => e = .returned (.int .i64 ((al.count x : Nat) : Int)) ∧ ∃ d', w' = (w.drewN d).drewN d' from fun x d => by
    have := l2Often_any A2 c2 B2 (natI al) (x : Int) (w.drewN d) (hi2.drewN d) (by rw [natI_length]; omega)
    rwa [natI_count, natI_length] at this)
  have HLE := hid (fun k => bothE_le m (lett m (pad (flat ss))) a al k hc2)
  have HSU := hid (fun k x hk => bothE_succ m (lett m (pad (flat ss))) a al k x hk)
  have HC2 := hid hc2
  clear h hg hi ha hc2 hi2 hlen2
  generalize lett m (pad (flat ss)) = t at *
  go_enter Try.func69, Try.ntmps69
  go_wp2_with fail
  go_loopw [7, 8] (fun (v iv : Value) (wr : World) => ∃ k : Nat, k ≤ a.length ∧ iv = .int .i64 k ∧ v = .int .i64 ((bothE m t a al k : Nat) : Int) ∧ ∃ d, wr = w.drewN d) (fun _ i _ => a.length - (intOf i).toNat)
  case atStart => exact ⟨0, by omega, rfl, rfl, 0, rfl⟩
  case round =>
    obtain ⟨k, hk, rfl, rfl, d, rfl⟩ := hrel
    have hle := HLE.out k
    obtain ⟨tk, htk⟩ : ∃ tk, bothE m t a al k = tk := ⟨_, rfl⟩
    have HTK := hid htk
    rw [htk] at hle ⊢
    clear htk
    by_cases hlt : k < a.length
    · obtain ⟨x, hx⟩ : ∃ x, a[k]? = some x := ⟨_, List.getElem?_eq_getElem hlt⟩
      have hsu := HSU.out k x hx
      rw [HTK.out] at hsu
      obtain ⟨bt, he, h46, hcell⟩ := HCE.out k x d hx
      obtain ⟨b, off, x', rfl, hb, hx', hcx⟩ := HI.out.at_ (k := k) (by rw [natI_length]; exact hlt)
      have hxe : x' = (x : Int) := by rw [natI_at hx] at hx'; exact (Option.some.inj hx').symm
      rw [hxe] at hcx
      have hcd : ∀ d', (w.drewN d').cell? ⟨b, off + k, none⟩ = some (.int .i64 (x : Int)) := fun _ => hcx
      have hc2 := HC2.out x
      have HCELL := hid hcell
      have HCALL := hid (fun d => HOF.out x d)
      obtain ⟨cx, hcxx⟩ : ∃ cx, al.count x = cx := ⟨_, rfl⟩
      rw [hcxx] at HCALL hc2 hsu
      have HCD := hid hcd
      have hcd0 := hcd d
      cases hbt : (bt == 46) with
      | true =>
        rw [hbt] at h46 he
        rw [if_pos he] at hsu
        have HX := hid hsu
        clear hsu hx' hxe hb hcx hcell hcd hcxx hx he hbt
        go_wp2_with fail
        refine HCELL.out.mono ?_
        rintro e w1 ⟨rfl, d1, rfl⟩
        have hcd1 := HCD.out (d + d1)
        clear hcd0
        go_wp2_with fail
        refine (HCALL.out (d + d1)).mono ?_
        rintro e w2 ⟨rfl, d2, rfl⟩
        go_wp2_with fail
        go_roundw
        case rel => exact ⟨k + 1, by omega, by go_num, by rw [HX.out]; simp only [Value.int.injEq, true_and]; omega, d + d1 + d2, rfl⟩
        case measure => simp [intOf]; omega
      | false =>
        rw [hbt] at h46 he
        rw [if_neg (by rw [he]; decide), Nat.add_zero] at hsu
        have HX := hid hsu
        clear hsu hx' hxe hb hcx hcell hcd hcxx hx he hbt
        go_wp2_with fail
        refine HCELL.out.mono ?_
        rintro e w1 ⟨rfl, d1, rfl⟩
        clear hcd0
        go_wp2_with fail
        go_roundw
        case rel => exact ⟨k + 1, by omega, by go_num, by rw [HX.out]; rfl, d + d1, rfl⟩
        case measure => simp [intOf]; omega
    · obtain rfl : k = a.length := by omega
      go_wp2_with fail
      go_ret
      exact ⟨by rw [HTK.out]; rfl, d, rfl⟩

end Go.Proofs.Ytonhnmpgikmlpaa
