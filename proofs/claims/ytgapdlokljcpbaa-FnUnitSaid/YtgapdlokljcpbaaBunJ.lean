/- Settled texts in one file. Each begins with what it holds. -/
import Derived.Test.YtgapdlokljcpbaaBunF
import Derived.Test.YtgapdlokljcpbaaBunO
import Derived.Test.YtgapdlokljcpbaaBunC
import Derived.Test.YtgapdlokljcpbaaBunB
import Derived.Test.YtgapdlokljcpbaaBunG
import Derived.Deep.MidRow
import Derived.Test.YtgapdlokljcpbaaTwiceS
/- Slices of places: grown by append, read; empties of the program, by its contract. -/
namespace Go.Proofs.Ytgapdlokljcpbaa
open Go.RowKit Go.Shelf

theorem Try.info_place3 : (Try.prog.info? 67).map (fun i => (i.zero, i.size, i.bytes)) = some (some (.agg #[.int .i64 0, .int .i64 0]), 2, 16) := by kernel_rfl
/-- The cells of places. -/
def plV (l : List (Int × Int)) : List Value := l.flatMap fun p => [.int .i64 p.1, .int .i64 p.2]
theorem plV_length : ∀ l : List (Int × Int), (plV l).length = l.length * 2
  | [] => rfl
  | p :: l => by
    have ih := plV_length l
    unfold plV at ih ⊢
    rw [List.flatMap_cons, List.length_append, ih, List.length_cons]
    simp
    omega
theorem plV_snoc (l : List (Int × Int)) (p : Int × Int) : plV (l ++ [p]) = plV l ++ [.int .i64 p.1, .int .i64 p.2] := by
  unfold plV
  rw [List.flatMap_append]
  rfl
theorem plV_at : ∀ (l : List (Int × Int)) (k : Nat) (p : Int × Int), l[k]? = some p → (plV l)[k * 2]? = some (.int .i64 p.1) ∧ (plV l)[k * 2 + 1]? = some (.int .i64 p.2)
  | [], k, p, h => by simp at h
  | q :: l, 0, p, h => by
    simp at h
    subst h
    exact ⟨rfl, rfl⟩
  | q :: l, k + 1, p, h => by
    obtain ⟨h1, h2⟩ := plV_at l k p (by simpa using h)
    unfold plV at h1 h2 ⊢
    rw [List.flatMap_cons, show (k + 1) * 2 = k * 2 + 2 by omega, show k * 2 + 2 + 1 = k * 2 + 1 + 2 by omega]
    exact ⟨h1, h2⟩
/-- A slice of places of the call's own. -/
def GrowPl (w : World) (base : Nat) (v : Value) (l : List (Int × Int)) : Prop := w.ownsRow base 67 2 v l.length (plV l)
theorem growPl_new (w : World) (base : Nat) (hb : base ≤ w.heap.size) : GrowPl (w.alloc (.cells #[] 67)) base (.slice (some ⟨w.heap.size, 0, none⟩) 0 0) [] :=
  World.ownsRow_made w #[] 0 hb (by unfold maxLen; omega) rfl
theorem GrowPl.below {w w' : World} {base : Nat} {v : Value} {l : List (Int × Int)} (h : GrowPl w base v l) (hb : Below w.heap.size w w') : GrowPl w' base v l := by
  refine World.ownsRow.kept h (Cls.grown hb) ?_
  cases v.ownBlock with
  | none => exact .inl rfl
  | some k => exact .inr (fun e => by cases e)
theorem GrowPl.lower {w : World} {b b' : Nat} {v : Value} {l : List (Int × Int)} (h : GrowPl w b v l) (hb : b' ≤ b) : GrowPl w b' v l :=
  ⟨h.1, h.2.imp id fun ⟨g, cap, cur, e, hlo, r⟩ => ⟨g, cap, cur, e, Nat.le_trans hb hlo, r⟩⟩
theorem GrowPl.slice {w : World} {base : Nat} {v : Value} {l : List (Int × Int)} (h : GrowPl w base v l) : ∃ A c, v = .slice A l.length c := by
  rcases h.2 with ⟨rfl, h0⟩ | ⟨g, cap, cur, rfl, _⟩
  · exact ⟨none, 0, by rw [h0]⟩
  · exact ⟨_, _, rfl⟩
/-- The slice reads as the places. -/
def Plcs (w : World) (A : Option Addr) (l : List (Int × Int)) : Prop :=
  0 < l.length → ∃ g, A = some ⟨g, 0, none⟩ ∧ g < w.heap.size ∧ ∀ (k : Nat) (p : Int × Int), l[k]? = some p → w.rangeAt g (2 * k) [.int .i64 p.1, .int .i64 p.2]
theorem Plcs.below {w w' : World} {A : Option Addr} {l : List (Int × Int)} (h : Plcs w A l) (hb : Below w.heap.size w w') : Plcs w' A l := fun hn => by
  obtain ⟨g, e, hlt, hc⟩ := h hn
  refine ⟨g, e, Nat.lt_of_lt_of_le hlt hb.size, fun k p hk j u hj => ?_⟩
  have := hc k p hk j u hj
  exact (hb.cell (p := ⟨g, 2 * k + j, none⟩) hlt).trans this
theorem GrowPl.plcs {w : World} {base : Nat} {v : Value} {l : List (Int × Int)} (h : GrowPl w base v l) : ∃ A c, v = .slice A l.length c ∧ Plcs w A l := by
  rcases h.2 with ⟨rfl, h0⟩ | ⟨g, cap, cur, rfl, _, hg, _⟩
  · exact ⟨none, 0, by rw [h0], fun hl => by omega⟩
  · refine ⟨_, _, rfl, fun _ => ⟨g, rfl, lt_of_block hg, fun k p hk j u hj => ?_⟩⟩
    obtain ⟨h1, h2⟩ := plV_at l k p hk
    have hcc : ∀ i u, (plV l)[i]? = some u → w.cell? ⟨g, i, none⟩ = some u := fun i u hi => by
      have := World.ownsRow.cells h (g := g) rfl i u hi
      have ea : (Addr.add ⟨g, 0, none⟩ i : Addr) = ⟨g, i, none⟩ := by unfold Addr.add; split <;> simp_all
      rwa [ea] at this
    match j, hj with
    | 0, hj =>
      simp at hj; subst hj
      have := hcc _ _ h1
      rw [Nat.mul_comm] at this
      exact this
    | 1, hj =>
      simp at hj; subst hj
      have := hcc _ _ h2
      rw [Nat.mul_comm] at this
      exact this
    | j + 2, hj => simp at hj
theorem grownPl_heap {base b : Nat} {W W' : World} {v : Value} {l : List (Int × Int)} {cs : Array Value} {t : TypeId} (hrow : GrowPl W base v l) (hg : W.grownBy W' v.ownBlock) (hb : W.heap[b]? = some (.cells cs t (0, 0))) (ht : t ≠ 67) : W'.heap[b]? = some (.cells cs t (0, 0)) := by
  refine (hg.block b (lt_of_block hb) ?_).trans hb
  rcases hrow.2 with ⟨rfl, _⟩ | ⟨g', cap, cur, rfl, _, hgb, _⟩
  · simp [Value.ownBlock]
  · intro e'
    have : b = g' := by simpa [Value.ownBlock] using e'
    subst this
    rw [hb] at hgb
    cases hgb
    exact ht rfl

section
variable {F : Fence} {n : Nat} {ops : Array Oper} {rest : List Oper} {o : Oper} {a : Act} {w : World} {Q : Exit → Act → World → Prop}
theorem wpListIn_appendP (hgd : o.guard = none) (s x : Operand) (ho : o.op = .call { callee := .builtin .append, args := #[s, x], argTypes := #[104, 104] })
    (base : Nat) (v : Value) (l : List (Int × Int)) (hs : a.eval s = v) (hown : GrowPl w base v l) (h c : Nat) (hx : a.eval x = .slice (some ⟨h, 0, none⟩) 1 c) (p : Int × Int) (hc : w.heap[h]? = some (.cells #[.int .i64 p.1, .int .i64 p.2] 67 (0, 0)))
    (hl : l.length ≤ 1000000) (hbase : base ≤ w.heap.size)
    (hk : ∀ g cap w', GrowPl w' base (.slice (some ⟨g, 0, none⟩) (l.length + 1) cap) (l ++ [p]) → w.grownBy w' v.ownBlock → wpListIn F n Try.prog ops Q rest (a.put o.dst (.slice (some ⟨g, 0, none⟩) (l.length + 1) cap)) w') : wpListIn F n Try.prog ops Q (o :: rest) a w := by
  obtain ⟨i0, hi, hz0, hz1, hz2⟩ := info_parts Try.info_place3
  refine wpListIn_append_own w hgd s x 104 ho base 67 i0 (.agg #[.int .i64 0, .int .i64 0]) 2 16 Try.underlying104 hi hz0 hz1 hz2 rfl (by decide) v l.length (plV l) hs hown ⟨h, 0, none⟩ 1 c [.int .i64 p.1, .int .i64 p.2] hx rfl ?_ ?_ (by unfold maxLen; omega) (by omega) hbase ?_
  · intro j u hj
    have ea : (Addr.add ⟨h, 0, none⟩ j : Addr) = ⟨h, j, none⟩ := by unfold Addr.add; split <;> simp_all
    rw [ea, cell_of_row _ _ _ _ _ _ hc]
    match j, hj with
    | 0, hj => exact hj
    | 1, hj => exact hj
    | j + 2, hj => simp at hj
  · intro u hu
    simp at hu
    rcases hu with rfl | rfl <;> rfl
  · intro v' w' h1 h2 _
    obtain ⟨g, cap, rfl⟩ := ownsRow_succ h1
    refine hk g cap w' ?_ h2
    unfold GrowPl
    rw [List.length_append, plV_snoc]
    exact h1
end
end Go.Proofs.Ytgapdlokljcpbaa

/- empties of the program, by its contract. -/
namespace Go.Proofs.Ytgapdlokljcpbaa
open Go.RowKit Go.Shelf

/-- How many of some places are those of empty cells. -/
def emptN (m : Nat) (ls : List UInt8) (l : List (Int × Int)) : Nat := l.countP fun p => lett m ls p.1 p.2 == 46
theorem emptN_snoc (m : Nat) (ls : List UInt8) (l : List (Int × Int)) (k : Nat) (p : Int × Int) (h : l[k]? = some p) : emptN m ls (l.take (k + 1)) = emptN m ls (l.take k) + (if (lett m ls p.1 p.2 == 46) = true then 1 else 0) := by
  obtain ⟨hlt, rfl⟩ := List.getElem?_eq_some_iff.1 h
  unfold emptN
  rw [List.take_succ_eq_append_getElem hlt, List.countP_append, List.countP_cons, List.countP_nil]
  omega

set_option maxRecDepth 100000 in
set_option maxHeartbeats 2000000 in
theorem empties_any (n m : Nat) (ls : List UInt8) (A : Option Addr) (c : Nat) (l : List (Int × Int)) (w : World) (hl : ls.length = 25) (hn : n ≤ 5) (hm : m ≤ 5) (hlen : l.length ≤ 100) (hin : ∀ p ∈ l, 0 ≤ p.1 ∧ p.1 < n ∧ 0 ≤ p.2 ∧ p.2 < m) (h : Plcs w A l) :
    Calls Try.prog 96 #[.agg (gcells n m ls), .slice A l.length c] w fun e w' => e = .returned (.int .i64 ((emptN m ls l : Nat) : Int)) ∧ Below w.heap.size w w' := by
  have HS := hid (show (Try.prog.info? 54).map (·.size) = some (gcells n m ls).size by rw [gcells_size hl]; exact Try.size_grid)
  have HAT := hid (show ∀ (p : Int × Int) (w' : World), p ∈ l → Calls Try.prog 126 #[.agg (gcells n m ls), .agg #[.int .i64 p.1, .int .i64 p.2]] w' fun e w'' => e = .returned (.int .u8 ((lett m ls p.1 p.2).toNat : Int)) ∧ Below w'.heap.size w' w'' from fun p w' hp => by
    have h1 := hin p hp
    have hx : inG n m ⟨p.1, p.2, 0⟩ := h1
    have e1 := cellN_int hx
    have e2 := cellN_lt hx
    have h25 : n * m ≤ 25 := Nat.mul_le_mul hn hm
    refine at_any n m ls p.1 p.2 (cellN m ⟨p.1, p.2, 0⟩) (lett m ls p.1 p.2) w' hl (by omega) e1 ⟨h1.1, by omega⟩ hm ?_
    have e3 : lett m ls p.1 p.2 = ls.getD (cellN m ⟨p.1, p.2, 0⟩) 0 := by
      unfold lett
      rw [show p.1 * (m : Int) + p.2 = ((cellN m ⟨p.1, p.2, 0⟩ : Nat) : Int) from e1, Int.toNat_natCast]
    rw [e3, List.getD_eq_getElem?_getD, List.getElem?_eq_getElem (by omega)]
    rfl)
  have HPL := hid (fun w' (hb : Below w.heap.size w w') => h.below hb)
  have HSN := hid (fun k p hk => emptN_snoc m ls l k p hk)
  have HLE := hid (show ∀ k, emptN m ls (l.take k) ≤ l.length from fun k => Nat.le_trans List.countP_le_length (by rw [List.length_take]; omega))
  have HALL := hid (show emptN m ls (l.take l.length) = emptN m ls l by rw [List.take_length])
  have HB46 := hid (show ∀ b : UInt8, ((b.toNat : Int) == 46) = (b == 46) from fun b => by
    rw [Bool.eq_iff_iff, beq_iff_eq, beq_iff_eq]
    constructor
    · intro e
      have : b.toNat = 46 := by omega
      exact UInt8.toNat_inj.1 this
    · rintro rfl; rfl)
  clear h hin
  generalize gcells n m ls = cs at *
  have H0 := hid (heap_new0 w (.cells cs 54))
  have HB := hid ((Below.refl w.heap.size w).alloc (Nat.le_refl _) (.cells cs 54))
  go_enter Try.func96, Try.ntmps96
  go_wp2_with fail
  generalize World.alloc w _ = Y at H0 HB ⊢
  go_loopw [5, 10] (fun (v iv : Value) (wr : World) => ∃ k : Nat, k ≤ l.length ∧ iv = .int .i64 k ∧ v = .int .i64 ((emptN m ls (l.take k) : Nat) : Int) ∧ wr.heap[w.heap.size]? = some (.cells cs 54 (0, 0)) ∧ Below w.heap.size w wr) (fun _ i _ => l.length - (intOf i).toNat)
  case atStart => exact ⟨0, by omega, rfl, rfl, H0.out, HB.out⟩
  case round =>
    obtain ⟨k, hk, rfl, rfl, h0, hb⟩ := hrel
    have B0 := hid h0
    have BB := hid hb
    clear h0 hb
    have hle := HLE.out k
    by_cases hlt : k < l.length
    · obtain ⟨p, hp⟩ : ∃ p, l[k]? = some p := ⟨_, List.getElem?_eq_getElem hlt⟩
      have hsn := HSN.out k p hp
      obtain ⟨g, rfl, hgw, hcc⟩ := HPL.out wr BB.out (by omega)
      have hr := hcc k p hp
      have HCA := hid (fun w' => HAT.out p w' (List.mem_of_getElem? hp))
      have hb46 := HB46.out (lett m ls p.1 p.2)
      obtain ⟨gk, hgk⟩ : ∃ gk, emptN m ls (l.take k) = gk := ⟨_, rfl⟩
      rw [hgk] at hle hsn ⊢
      obtain ⟨pi, pk⟩ := p
      simp only at HCA hsn hb46
      have hc0 : wr.cell? ⟨g, k * 2, none⟩ = some (.int .i64 pi) := by rw [Nat.mul_comm]; exact hr 0 _ rfl
      have hc1 : wr.cell? ⟨g, k * 2 + 1, none⟩ = some (.int .i64 pk) := by rw [Nat.mul_comm]; exact hr 1 _ rfl
      generalize lett m ls pi pk = bt at *
      have HGK := hid hgk
      have HSN2 := hid hsn
      have HB46' := hid hb46
      clear hp hgk hcc hgw hr hsn hb46
      have NB := hid (BB.out.alloc (show w.heap.size ≤ wr.heap.size from BB.out.size) (.cells #[.int .i64 pi, .int .i64 pk] 67))
      have N0 := hid ((Below.heap_alloc wr (.cells #[.int .i64 pi, .int .i64 pk] 67) _ (lt_of_block B0.out)).trans B0.out)
      have N1 := hid (heap_new0 wr (.cells #[.int .i64 pi, .int .i64 pk] 67))
      go_wp2_with (refine wpList_load_row rfl 54 _ rfl w.heap.size rfl 54 cs (0, 0) _ N0.out Try.underlying54 rfl HS.out ?_)
      refine (HCA.out _).mono ?_
      rintro e w3 ⟨rfl, hb3⟩
      have C0 := hid ((hb3.block _ (lt_of_block N0.out)).trans N0.out)
      have CB := hid (NB.out.trans (hb3.mono NB.out.size))
      clear hb3
      have hb46 := HB46'.out
      cases hbb : (bt == 46) with
      | true =>
        rw [hbb] at hb46
        have HX := hid (show emptN m ls (l.take (k + 1)) = gk + 1 by rw [HSN2.out, if_pos hbb])
        clear hbb
        go_wp2_with fail
        go_roundw
        case rel => exact ⟨k + 1, by omega, by go_num, by rw [HX.out]; go_num, C0.out, CB.out⟩
        case measure => simp [intOf]; omega
      | false =>
        rw [hbb] at hb46
        have HX := hid (show emptN m ls (l.take (k + 1)) = gk by rw [HSN2.out, if_neg (by rw [hbb]; decide), Nat.add_zero])
        clear hbb
        go_wp2_with fail
        go_roundw
        case rel => exact ⟨k + 1, by omega, by go_num, by rw [HX.out], C0.out, CB.out⟩
        case measure => simp [intOf]; omega
    · obtain rfl : k = l.length := by omega
      rw [HALL.out]
      go_wp2_with fail
      go_ret
      exact ⟨rfl, BB.out⟩
end Go.Proofs.Ytgapdlokljcpbaa

/- The places through which a traced beam goes twice, by the contract of twice. -/
namespace Go.Proofs.Ytgapdlokljcpbaa
open Go.RowKit Go.Shelf
attribute [local go_sem] Oper.semAt_some

/-- The place of a cell. -/
def plcI (m c : Nat) : Int × Int := (((c / m : Nat) : Int), ((c % m : Nat) : Int))
/-- The places gone through twice among those that have come. -/
def twL {N : Nat} (m : Nat) (g : Nat → Nat) (pre : List (Fin N)) : List (Int × Int) := (pre.filter fun x => g x.val == 2).map fun x => plcI m x.val
theorem twL_yes {N m : Nat} (g : Nat → Nat) (pre : List (Fin N)) (x : Fin N) (h : (g x.val == 2) = true) : twL m g (pre ++ [x]) = twL m g pre ++ [plcI m x.val] := by
  simp [twL, List.filter_append, h]
theorem twL_no {N m : Nat} (g : Nat → Nat) (pre : List (Fin N)) (x : Fin N) (h : (g x.val == 2) = false) : twL m g (pre ++ [x]) = twL m g pre := by
  simp [twL, List.filter_append, h]
theorem twL_le {N m : Nat} (g : Nat → Nat) (pre : List (Fin N)) : (twL m g pre).length ≤ pre.length := by
  unfold twL
  rw [List.length_map]
  exact List.length_filter_le _ _
/-- All of them. -/
def twP (n m : Nat) (t : Int → Int → UInt8) (q : Nat) : List (Int × Int) := ((List.range (n * m)).filter fun c => (bcells n m t q).count c == 2).map (plcI m)
theorem twL_all (N m : Nat) (g : Nat → Nat) : twL m g (List.finRange N) = ((List.range N).filter fun c => g c == 2).map (plcI m) := by
  unfold twL
  have e := upto_val (N := N) (k := N) (Nat.le_refl _)
  rw [upto_all] at e
  rw [← e, List.filter_map, List.map_map]
  rfl
theorem nat_beq2' (a : Nat) : ((a : Int) == 2) = (a == 2) := by
  rw [Bool.eq_iff_iff, beq_iff_eq, beq_iff_eq]; omega
def placeC' (m x : Nat) : Array Value := #[.int .i64 ((x / m : Nat) : Int), .int .i64 ((x % m : Nat) : Int)]
theorem KeepsAt.grownPl {g base : Nat} {W W' : World} {v : Value} {l : List (Int × Int)} {cs : Array Value} (hrow : GrowPl W base v l) (hg : W.grownBy W' v.ownBlock) (hB : W.heap[g]? = some (.cells cs 54 (0, 0))) : KeepsAt g W W' :=
  ⟨hg.size, (grownPl_heap hrow hg hB (by decide)).trans hB.symm⟩
theorem grownPl_map {base b : Nat} {W W' : World} {v : Value} {l : List (Int × Int)} {xs : List Wy} (hrow : GrowPl W base v l) (hg : W.grownBy W' v.ownBlock) (h : MapOf W b xs) : MapOf W' b xs := by
  refine h.kept (hg.block b h.lt ?_)
  obtain ⟨es, clock, hb⟩ := h.isMap
  rcases hrow.2 with ⟨rfl, _⟩ | ⟨g', cap, cur, rfl, _, hgb, _⟩
  · simp [Value.ownBlock]
  · intro e'
    have : b = g' := by simpa [Value.ownBlock] using e'
    subst this
    rw [hb] at hgb
    cases hgb
theorem Plcs.put {W : World} {base D : Nat} {v : Value} {l : List (Int × Int)} {o' : Obj} (h : GrowPl W base v l) (hk : W.heap[D]? = some (.deferred (some []))) : GrowPl (W.putObj D o') base v l := by
  rcases h with ⟨h1, h | ⟨g, cap, cur, e, hlo, hg, r⟩⟩
  · exact ⟨h1, .inl h⟩
  · refine ⟨h1, .inr ⟨g, cap, cur, e, hlo, ?_, r⟩⟩
    rw [World.putObj_heap_other (fun e => by subst e; rw [hg] at hk; cases hk)]
    exact hg

set_option maxRecDepth 100000 in
set_option maxHeartbeats 2000000 in
theorem twice_any (n m q b : Nat) (ls : List UInt8) (w : World) (hl : ls.length = 25) (hn5 : n ≤ 5) (hm1 : 1 ≤ m) (hm5 : m ≤ 5) (hq : q < 2 * (n + m)) (hmap : MapOf w b (waysL (bway n m (lett m ls) q) (blen n m (lett m ls) q))) :
    Calls Try.prog 97 #[.agg (tcells (gcells n m ls) b)] w fun e w' => ∃ v, e = .returned v ∧ GrowPl w' w.heap.size v (twP n m (lett m ls) q) ∧ Below w.heap.size w w' := by
  have HGC := hid (show (gcells n m ls).size = 27 from gcells_size hl)
  have HOKW := hid (okW_ways (t := lett m ls) (q := q) hn5 hm5)
  have h25 : n * m ≤ 25 := Nat.mul_le_mul hn5 hm5
  have HTIM := hid (show ∀ (c : Nat) (w' : World), c < n * m → MapOf w' b (waysL (bway n m (lett m ls) q) (blen n m (lett m ls) q)) → Calls Try.prog 143 #[.agg (tcells (gcells n m ls) b), .agg #[.int .i64 ((c / m : Nat) : Int), .int .i64 ((c % m : Nat) : Int)]] w' fun e w'' => e = .returned (.int .i64 (((bcells n m (lett m ls) q).count c : Nat) : Int)) ∧ Below w'.heap.size w' w'' from fun c w' hc hm => by
    rw [← times_at hq hm1]
    have h1 : c / m ≤ c := Nat.div_le_self _ _
    have h2 : c % m ≤ c := Nat.mod_le _ _
    have hbd : ∀ a b : Nat, a ≤ c → b ≤ c → (-100 : Int) ≤ (a : Int) ∧ (a : Int) ≤ 100 ∧ (-100 : Int) ≤ (b : Int) ∧ (b : Int) ≤ 100 := fun a b h1 h2 => by omega
    exact times_any (gcells n m ls) HGC.out b _ _ _ _ (hbd _ _ h1 h2) w' hm HOKW.out)
  have HCS := hid (fun (Bg : Nat) (w' : World) h => cells_stops 2 Bg n m (n * m) rfl ls hl hn5 hm1 hm5 w' h)
  have HTC := hid (show (tcells (gcells n m ls) b).size = 28 by rw [tcells_size HGC.out])
  have HP := hid (tcells_pre (gcells n m ls) b)
  have HRR := hid (show ((List.range (n * m)).filter fun c => (bcells n m (lett m ls) q).count c == 2).map (plcI m) = twP n m (lett m ls) q from rfl)
  have HM := hid hmap
  have HBW := hid hmap.lt
  have HST := hid (show (Try.prog.info? 100).map (·.size) = some (tcells (gcells n m ls) b).size by rw [tcells_size HGC.out]; exact Try.size_trace)
  have HS := hid (show (Try.prog.info? 54).map (·.size) = some (gcells n m ls).size by rw [HGC.out]; exact Try.size_grid)
  clear hmap hl hn5 hm1 hm5 hq
  generalize bcells n m (lett m ls) q = bc at *
  generalize waysL (bway n m (lett m ls) q) (blen n m (lett m ls) q) = wl at *
  generalize gcells n m ls = cs at *
  generalize tcells cs b = ts at *
  have N0 := hid (show ((w.alloc (.cells ts 100)).alloc (.cells #[] 67) |>.alloc (.cells #[.slice (some ⟨w.heap.size + 1, 0, none⟩) 0 0] 104)).heap[w.heap.size]? = some (.cells ts 100 (0, 0)) from heap_new2 w _ _ _)
  refine (callsIn_wide (n := 3)).1 ?_
  refine callsIn_of_wp_marks Try.func97 rfl trivial ?_ rfl
  simp only [Try.ntmps97, List.size_toArray, List.length_cons, List.length_nil, Nat.reduceAdd, Nat.reduceSub, Array.replicate_succ, Array.replicate_zero, List.push_toArray, List.append_toArray, List.nil_append, List.cons_append]
  gi_wp2_with (refine wpListIn_load_head (Open.wide _) rfl 54 _ rfl w.heap.size rfl 100 ts (0, 0) cs _ N0.out HP.out Try.underlying54 rfl HS.out ?_)
  have PB := hid (show GrowPl (((w.alloc (.cells ts 100)).alloc (.cells #[] 67)).alloc (.cells #[.slice (some ⟨w.heap.size + 1, 0, none⟩) 0 0] 104)) w.heap.size (.slice (some ⟨w.heap.size + 1, 0, none⟩) 0 0) [] by
    have := growPl_new (w.alloc (.cells ts 100)) w.heap.size (by simp)
    rw [World.size_alloc] at this
    exact World.ownsRow.alloc this _)
  have NX := hid (show Boxed (((w.alloc (.cells ts 100)).alloc (.cells #[] 67)).alloc (.cells #[.slice (some ⟨w.heap.size + 1, 0, none⟩) 0 0] 104)) (w.heap.size + 2) 104 (.slice (some ⟨w.heap.size + 1, 0, none⟩) 0 0) by
    unfold Boxed
    have := heap_new0 ((w.alloc (.cells ts 100)).alloc (.cells #[] 67)) (.cells #[.slice (some ⟨w.heap.size + 1, 0, none⟩) 0 0] 104)
    rw [World.size_alloc, World.size_alloc] at this
    exact this)
  have NM := hid (((HM.out.alloc (.cells ts 100)).alloc (.cells #[] 67)).alloc (.cells #[.slice (some ⟨w.heap.size + 1, 0, none⟩) 0 0] 104))
  have NB := hid ((((Below.refl w.heap.size w).alloc (Nat.le_refl _) (.cells ts 100)).alloc (by simp) (.cells #[] 67)).alloc (by simp; omega) (.cells #[.slice (some ⟨w.heap.size + 1, 0, none⟩) 0 0] 104))
  have NS := hid (show (((w.alloc (.cells ts 100)).alloc (.cells #[] 67)).alloc (.cells #[.slice (some ⟨w.heap.size + 1, 0, none⟩) 0 0] 104)).heap.size = w.heap.size + 3 by simp)
  generalize World.alloc (World.alloc (World.alloc w _) _) _ = Y at N0 PB NX NM NB NS ⊢
  refine ⟨trivial, callsIn_wide.2 ((cells_any cs _).mono ?_)⟩
  rintro e w4 ⟨rfl, hw4⟩
  have K3 := hid (show w4.heap[w.heap.size + 3]? = some (.cells cs 54 (0, 0)) by
    rw [hw4, ← NS.out]; exact heap_new0 Y (.cells cs 54))
  have K34 := hid (show Below Y.heap.size Y w4 by rw [hw4]; exact (Below.refl _ Y).alloc (Nat.le_refl _) _)
  have KS := hid (show w4.heap.size = w.heap.size + 4 by rw [hw4]; simp [NS.out])
  have KB := hid (show Below w.heap.size w w4 from NB.out.trans (K34.out.mono NB.out.size))
  have KT := hid (show w4.heap[w.heap.size]? = some (.cells ts 100 (0, 0)) from (K34.out.block _ (lt_of_block N0.out)).trans N0.out)
  have KM := hid (show MapOf w4 b wl from NM.out.kept (K34.out.block _ NM.out.lt))
  have KX := hid (show Boxed w4 (w.heap.size + 2) 104 (.slice (some ⟨w.heap.size + 1, 0, none⟩) 0 0) from (K34.out.block _ NX.out.lt).trans NX.out)
  have KP := hid (show w4.ownsRow w.heap.size 67 2 (.slice (some ⟨w.heap.size + 1, 0, none⟩) 0 0) (twL m (fun c => bc.count c) ([] : List (Fin (n * m)))).length (plV (twL m (fun c => bc.count c) ([] : List (Fin (n * m))))) from PB.out.below K34.out)
  have HYS := NS.out
  rw [HYS]
  clear hw4
  gi_wp2
  refine wpIn_rangeFunc_ownH rfl (by omega) (gf := 158) (lb := #[.pointer (some ⟨w.heap.size + 3, 0, none⟩)]) rfl trivial (enters_of Try.func158 (by kernel_rfl) rfl)
    (HCS.out (w.heap.size + 3) w4 K3.out) KeepsAt.trans (keepsAt_b (lt_of_block K3.out)) (Below.refl _ _) (fun _ => rfl)
    (fun pre W => (((W.heap[w.heap.size]? = some (.cells ts 100 (0, 0)) ∧ W.heap[w.heap.size + 3]? = some (.cells cs 54 (0, 0))) ∧ MapOf W b wl) ∧ (∃ v, Boxed W (w.heap.size + 2) 104 v ∧ W.ownsRow w.heap.size 67 2 v (twL m (fun c => bc.count c) pre).length (plV (twL m (fun c => bc.count c) pre)) ∧ True)) ∧ Below w.heap.size w4 W)
    (fun _ _ _ => False)
    (OwnFrom.and (OwnFrom.and (OwnFrom.and (OwnFrom.and (ownFrom_heap _ _ (fun _ => _) (fun _ => rfl)) (ownFrom_heap _ _ (fun _ => _) (fun _ => rfl))) (own_map b _ (fun _ => wl) KM.out.lt)) (Own.from (holdsRow_own w.heap.size (w.heap.size + 2) 104 67 2 (fun pre => (twL m (fun c => bc.count c) pre).length) (fun pre => plV (twL m (fun c => bc.count c) pre)) (fun _ _ => True)) _)) (ownFrom_below (by have := KS.out; omega) (by have := KS.out; omega)))
    (fun _ _ _ _ _ hs _ _ => hs)
    ⟨⟨⟨⟨KT.out, K3.out⟩, KM.out⟩, _, KX.out, KP.out, trivial⟩, Below.refl _ _⟩
    (fun x a' W => ∃ Bx, w4.heap.size ≤ Bx ∧ W.heap[Bx]? = some (.cells (placeC' m x.val) 67 (0, 0)) ∧ ∃ u0 u2 u5 u6 u7 u8 u9 u10 u11 u12 u13 u14 u15 u16 u17 u18 u19 : Value,
      a' = { tmps := #[u0, .pointer (some ⟨w.heap.size, 0, none⟩), u2, .pointer (some ⟨w.heap.size + 2, 0, none⟩), .pointer (some ⟨Bx, 0, none⟩), u5, u6, u7, u8, u9, u10, u11, u12, u13, u14, u15, u16, u17, u18, u19], defers := [] })
    (fun x a' _ X Y row hs hg hr => by
      obtain ⟨Bx, h1, h2, h3⟩ := hs
      exact ⟨Bx, h1, ownFrom_heap _ Bx (fun (_ : Unit) => Obj.cells (placeC' m x.val) 67 (0, 0)) (fun _ => rfl) () X Y row h2 hg hr, h3⟩)
    ?assign ?body ?done ?stop
  case assign =>
    rintro l pre x W K ⟨⟨⟨⟨i0, i3⟩, i1⟩, v, iv, ir, _⟩, i2⟩ hK
    have J0 := hid i0
    have J3 := hid i3
    have J1 := hid i1
    have JV := hid iv
    have JR := hid ir
    have J2 := hid i2
    have JK := hid hK
    clear i0 i1 i2 i3 iv ir hK
    unfold encs
    simp only [placeC'] at JK ⊢
    generalize ((x.val / m : Nat) : Int) = iv at *
    generalize ((x.val % m : Nat) : Int) = kv at *
    generalize (ls.getD x.val 0).toNat = bv at *
    gi_wp2
    have hsz : w4.heap.size ≤ W.heap.size := J2.out.size
    exact JK.out _ _ ((KeepsOthers.alloc _ _).from _) (KeepsAt.below ((Below.refl _ W).alloc (Nat.le_refl _) _) (by have := KS.out; omega))
      ⟨⟨⟨⟨(Below.heap_alloc _ _ _ (lt_of_block J0.out)).trans J0.out, (Below.heap_alloc _ _ _ (lt_of_block J3.out)).trans J3.out⟩, J1.out.alloc _⟩, v, JV.out.alloc _, JR.out.alloc _, trivial⟩, J2.out.alloc (by have := KS.out; omega) _⟩
      ⟨W.heap.size, hsz, heap_new0 W _, _, _, _, _, _, _, _, _, _, _, _, _, _, _, _, _, _, rfl⟩
  case body =>
    rintro l pre x a' W hlw ⟨r, hr⟩ ⟨⟨⟨⟨i0, i3⟩, i1⟩, v, iv, ir, _⟩, i2⟩ ⟨Bx, hBx, hX, u0, u2, u5, u6, u7, u8, u9, u10, u11, u12, u13, u14, u15, u16, u17, u18, u19, rfl⟩ hlt
    have htim := hid (HTIM.out x.val W x.isLt i1)
    have hle := twL_le (m := m) (fun c => bc.count c) pre
    have hy := twL_yes (m := m) (fun c => bc.count c) pre x
    have hno := twL_no (m := m) (fun c => bc.count c) pre x
    have irr : GrowPl W w.heap.size v (twL m (fun c => bc.count c) pre) := ir
    clear ir
    have hne := nat_beq2' (bc.count x.val)
    obtain ⟨bb, hbb⟩ : ∃ bb : Nat, bc.count x.val = bb := ⟨_, rfl⟩
    simp only [hbb] at hy hno
    rw [hbb] at hne htim
    have hpx : plcI m x.val = (((x.val / m : Nat) : Int), ((x.val % m : Nat) : Int)) := rfl
    rw [hpx] at hy
    simp only [placeC'] at hX
    have HPX := hid (show ∀ pl : Int × Int, pl = (((x.val / m : Nat) : Int), ((x.val % m : Nat) : Int)) → pl = plcI m x.val from fun pl h => h)
    clear HPX hpx
    generalize ((x.val / m : Nat) : Int) = ii at *
    generalize ((x.val % m : Nat) : Int) = kk at *
    obtain ⟨bv, hbv⟩ : ∃ bv : Int, (bb : Int) = bv := ⟨_, rfl⟩
    rw [hbv] at hne htim
    have HXB := hid hX
    have c0 : W.cell? ⟨Bx, 0, none⟩ = some (.int .i64 ii) := by rw [cell_of_row _ _ _ _ _ _ hX]; rfl
    have c1 : W.cell? ⟨Bx, 1, none⟩ = some (.int .i64 kk) := by rw [cell_of_row _ _ _ _ _ _ hX]; rfl
    generalize twL m (fun c => bc.count c) pre = pl at irr hle hy hno
    obtain ⟨A', c', rfl⟩ := irr.slice
    have I0 := hid i0
    have I3 := hid i3
    have I1 := hid i1
    have IV := hid iv
    have IR := hid irr
    have I2 := hid i2
    have HY := hid hy
    have HNO := hid hno
    have HLEN := hid (show pl.length ≤ 1000000 by omega)
    clear i0 i1 i2 i3 iv irr hy hno hle hlt hbv hbb hr hX hlw
    gi_wp2_with (refine wpListIn_load_row (Open.round _ l) rfl 100 _ rfl w.heap.size rfl 100 ts (0, 0) _ I0.out Try.underlying100 rfl HST.out ?_)
    refine ⟨trivial, CallsIn.inRound l (callsIn_wide.2 (htim.out.mono ?_))⟩
    rintro e w5 ⟨rfl, hb5⟩
    have E0 := hid ((hb5.block _ (lt_of_block I0.out)).trans I0.out)
    have E3 := hid ((hb5.block _ (lt_of_block I3.out)).trans I3.out)
    have EM := hid (I1.out.kept (hb5.block _ I1.out.lt))
    have EV := hid (show Boxed w5 (w.heap.size + 2) 104 (.slice A' pl.length c') from (hb5.block _ IV.out.lt).trans IV.out)
    have ER := hid (IR.out.below hb5)
    have E2 := hid (I2.out.trans (hb5.mono (Nat.le_trans KB.out.size I2.out.size)))
    have EK := hid (keeps_below hb5)
    have EW := hid (KeepsAt.below (g := w.heap.size + 3) hb5 (by have := I2.out.size; have := KS.out; omega))
    have EX := hid ((hb5.block _ (lt_of_block HXB.out)).trans HXB.out)
    have ES := hid hb5.size
    clear hb5 c0 c1
    cases hb : (bb == 2) with
    | true =>
      rw [hb] at hne
      have HYX := hid (HY.out hb)
      have d0 : w5.cell? ⟨Bx, 0, none⟩ = some (.int .i64 ii) := by rw [cell_of_row _ _ _ _ _ _ EX.out]; rfl
      have d1 : w5.cell? ⟨Bx, 1, none⟩ = some (.int .i64 kk) := by rw [cell_of_row _ _ _ _ _ _ EX.out]; rfl
      have hcell := EV.out.cell
      clear hb
      gi_wp2_with (gi_at_builtin; refine wpListIn_appendP rfl _ _ rfl w.heap.size (.slice A' pl.length c') pl rfl (World.ownsRow.alloc ER.out _) w5.heap.size 1 rfl (ii, kk) (heap_new0 w5 _) HLEN.out (by have := ES.out; have := I2.out.size; have := KS.out; simp; omega) ?_)
      intro gg cap w6 hown hgrow
      obtain ⟨hv1, hv2, hr2, hk2, hb2⟩ := EV.out.appended (by decide) ER.out (by have := ES.out; have := I2.out.size; have := KS.out; omega) (by omega) hown hgrow
      have hc1 := hv1.cell
      have hf1 := hv1.frozen
      have R0 := hid (grownPl_heap (World.ownsRow.alloc ER.out _) hgrow ((Below.heap_alloc _ _ _ (lt_of_block E0.out)).trans E0.out) (by decide))
      have R3 := hid (grownPl_heap (World.ownsRow.alloc ER.out _) hgrow ((Below.heap_alloc _ _ _ (lt_of_block E3.out)).trans E3.out) (by decide))
      have RM := hid (show MapOf w6 b wl from grownPl_map (World.ownsRow.alloc ER.out _) hgrow (EM.out.alloc _))
      have RW := hid ((EW.out.trans (KeepsAt.below ((Below.refl _ w5).alloc (Nat.le_refl _) (.cells #[.int .i64 ii, .int .i64 kk] 67)) (by have := ES.out; have := I2.out.size; have := KS.out; omega))).trans (KeepsAt.grownPl (World.ownsRow.alloc ER.out _) hgrow ((Below.heap_alloc _ _ _ (lt_of_block E3.out)).trans E3.out)))
      have V2 := hid hv2
      have RR := hid hr2
      have RK := hid (EK.out.trans hk2)
      have RB := hid (E2.out.trans hb2)
      clear hv1 hv2 hr2 hk2 hb2 hgrow hown hcell d0 d1
      gi_wp2
      refine ⟨RK.out.from _, RW.out.trans ⟨by simp, Below.heap_setCell _ _ _ _ (by simp)⟩, ⟨⟨⟨⟨?_, ?_⟩, ?_⟩, _, V2.out, ?_, trivial⟩, RB.out⟩⟩
      · rw [Below.heap_setCell _ _ _ _ (by simp)]; exact R0.out
      · rw [Below.heap_setCell _ _ _ _ (by simp)]; exact R3.out
      · exact RM.out.kept (Below.heap_setCell _ _ _ _ (by have := HBW.out; show b ≠ w.heap.size + 2; omega))
      · rw [HYX.out]; exact RR.out
    | false =>
      rw [hb] at hne
      have HYX := hid (HNO.out hb)
      clear hb
      gi_wp2
      refine ⟨EK.out.from _, EW.out, ⟨⟨⟨⟨E0.out, E3.out⟩, EM.out⟩, _, EV.out, ?_, trivial⟩, E2.out⟩⟩
      rw [HYX.out]; exact ER.out
  case done =>
    rintro D xs W hD rfl ⟨⟨⟨⟨i0, i3⟩, i1⟩, v, iv, ir, _⟩, i2⟩ hK
    rw [twL_all] at ir
    have irr : GrowPl W w.heap.size v (((List.range (n * m)).filter fun c => bc.count c == 2).map (plcI m)) := ir
    rw [HRR.out] at irr
    have hcell := iv.cell
    have J2 := hid i2
    have JK := hid hK
    have JO := hid irr
    clear iv ir irr i0 i1 i2 i3 hK
    gi_wp2
    refine ⟨by simp, .inl ⟨_, _, rfl, run_takeDeferred JK.out, ?_⟩⟩
    refine ⟨_, results_tmp rfl _ _ _, v, rfl, Plcs.put JO.out JK.out, ?_⟩
    exact (KB.out.trans J2.out).trans (belowK_b (w := w) (Nat.le_refl _) _ D _ _ (by have := KS.out; omega) JK.out rfl rfl)
  case stop =>
    rintro D c pre W _ _ h _
    exact h.elim
end Go.Proofs.Ytgapdlokljcpbaa

/- Plain words on crossings: cells that are empty, gone through twice, or by two beams. No program is named but the places. -/
namespace Go.Proofs.Ytgapdlokljcpbaa

/-- The cell is empty. -/
def emptyC (m : Nat) (t : Int → Int → UInt8) (c : Nat) : Bool := t ((c / m : Nat) : Int) ((c % m : Nat) : Int) == 46
def selfN (n m : Nat) (t : Int → Int → UInt8) (q : Nat) : Nat := (List.range (n * m)).countP fun c => (bcells n m t q).count c == 2 && emptyC m t c
def bothN (n m : Nat) (t : Int → Int → UInt8) (p q : Nat) : Nat := (List.range (n * m)).countP fun c => goesC n m t p c && goesC n m t q c && emptyC m t c
theorem countP_filter_map {α β : Type} (p : α → Bool) (f : α → β) (q : β → Bool) (l : List α) : ((l.filter p).map f).countP q = l.countP fun x => p x && q (f x) := by
  rw [List.countP_map, List.countP_filter]
  refine List.countP_congr fun x _ => ?_
  simp [Bool.and_comm]
theorem empt_twP {n m : Nat} {ls : List UInt8} {q : Nat} : emptN m ls (twP n m (lett m ls) q) = selfN n m (lett m ls) q := by
  unfold emptN twP
  rw [countP_filter_map]
  rfl
theorem sumN_two' (f : Nat → Nat) (e : Nat → Bool) : ∀ N, (∀ c, c < N → f c ≤ 2) → sumN (fun c => f c * (if e c = true then f c - 1 else 0)) N = 2 * (List.range N).countP fun c => f c == 2 && e c
  | 0, _ => rfl
  | N + 1, h => by
    rw [sumN, sumN_two' f e N (fun c hc => h c (by omega)), List.range_succ, List.countP_append, List.countP_cons, List.countP_nil]
    have := h N (by omega)
    have h3 : f N = 0 ∨ f N = 1 ∨ f N = 2 := by omega
    cases he : e N <;> rcases h3 with e | e | e <;> simp [e] <;> omega
/-- What the specification adds up for one way. -/
def spareE (m : Nat) (t : Int → Int → UInt8) (l : List Nat) (k : Nat) : Nat := ((l.take k).map fun c => if emptyC m t c = true then l.count c - 1 else 0).sum
theorem spareE_succ (m : Nat) (t : Int → Int → UInt8) (l : List Nat) (k c : Nat) (h : l[k]? = some c) : spareE m t l (k + 1) = spareE m t l k + (if emptyC m t c = true then l.count c - 1 else 0) := by
  obtain ⟨hlt, rfl⟩ := List.getElem?_eq_some_iff.1 h
  unfold spareE
  rw [List.take_succ_eq_append_getElem hlt, List.map_append, List.sum_append]
  simp
theorem sum_le {α : Type} (f : α → Nat) (b : Nat) : ∀ xs : List α, (∀ x ∈ xs, f x ≤ b) → (xs.map f).sum ≤ b * xs.length
  | [], _ => by simp
  | x :: xs, h => by
    have h1 := h x (by simp)
    have h2 := sum_le f b xs (fun y hy => h y (by simp [hy]))
    rw [List.map_cons, List.sum_cons, List.length_cons, Nat.mul_add, Nat.mul_one]
    omega
theorem spareE_le (m : Nat) (t : Int → Int → UInt8) (l : List Nat) (k : Nat) (h : ∀ c, l.count c ≤ 2) : spareE m t l k ≤ k := by
  have := sum_le (fun c => if emptyC m t c = true then l.count c - 1 else 0) 1 (l.take k) (fun c _ => by
    have := h c
    split <;> omega)
  rw [Nat.one_mul, List.length_take] at this
  unfold spareE
  omega
theorem spareE_all {n m : Nat} {t : Int → Int → UInt8} {p : Nat} (hp : p < 2 * (n + m)) (hm : 1 ≤ m) : spareE m t (bcells n m t p) (blen n m t p) = 2 * selfN n m t p := by
  unfold spareE
  rw [List.take_of_length_le (by rw [bcells_length]; exact Nat.le_refl _), sum_swap _ (n * m) _ bcells_lt]
  exact sumN_two' _ _ _ fun c _ => count_le2 hp hm
/-- What the specification adds up for two ways. -/
def bothE (m : Nat) (t : Int → Int → UInt8) (a b : List Nat) (k : Nat) : Nat := ((a.take k).map fun c => if emptyC m t c = true then b.count c else 0).sum
theorem bothE_succ (m : Nat) (t : Int → Int → UInt8) (a b : List Nat) (k c : Nat) (h : a[k]? = some c) : bothE m t a b (k + 1) = bothE m t a b k + (if emptyC m t c = true then b.count c else 0) := by
  obtain ⟨hlt, rfl⟩ := List.getElem?_eq_some_iff.1 h
  unfold bothE
  rw [List.take_succ_eq_append_getElem hlt, List.map_append, List.sum_append]
  simp
theorem bothE_le (m : Nat) (t : Int → Int → UInt8) (a b : List Nat) (k : Nat) (h : ∀ c, b.count c ≤ 2) : bothE m t a b k ≤ 2 * k := by
  have := sum_le (fun c => if emptyC m t c = true then b.count c else 0) 2 (a.take k) (fun c _ => by
    have := h c
    split <;> omega)
  rw [List.length_take] at this
  unfold bothE
  omega
theorem bothE_all {n m : Nat} {t : Int → Int → UInt8} {p q : Nat} (hn : 1 ≤ n) (hm : 1 ≤ m) (hp : p < 2 * (n + m)) (hq : q < 2 * (n + m)) (h1 : p ≠ q) (h2 : bend_ n m t p ≠ q) (h3 : p ≠ bend_ n m t q) :
    bothE m t (bcells n m t p) (bcells n m t q) (blen n m t p) = bothN n m t p q := by
  unfold bothE
  rw [List.take_of_length_le (by rw [bcells_length]; exact Nat.le_refl _), sum_swap _ (n * m) _ bcells_lt]
  unfold bothN
  rw [← sumN_countP]
  refine sumN_congr _ fun c _ => ?_
  cases he : emptyC m t c with
  | false => simp
  | true =>
    by_cases hc : 0 < (bcells n m t p).count c
    · have h4 := count_other hn hm hp hq h1 h3 hc
      have hg : goesC n m t p c = true := decide_eq_true hc
      by_cases hd : 0 < (bcells n m t q).count c
      · have h5 := count_other hn hm hq hp (fun e => h1 e.symm) (fun e => h2 e.symm) hd
        have hg2 : goesC n m t q c = true := decide_eq_true hd
        rw [hg, hg2]
        simp
        have e1 : (bcells n m t p).count c = 1 := by omega
        have e2 : (bcells n m t q).count c = 1 := by omega
        rw [e1, e2]
      · have hg2 : goesC n m t q c = false := decide_eq_false hd
        rw [hg, hg2]
        simp
        rw [show List.count c (bcells n m t q) = 0 by omega, Nat.mul_zero]
    · have hg : goesC n m t p c = false := decide_eq_false hc
      rw [hg]
      simp
      rw [show List.count c (bcells n m t p) = 0 by omega, Nat.zero_mul]
end Go.Proofs.Ytgapdlokljcpbaa

/- BeamTwice and CrossSelf of the program, by their contracts. -/
namespace Go.Proofs.Ytgapdlokljcpbaa
open Go.RowKit Go.Shelf

theorem twP_length (n m : Nat) (t : Int → Int → UInt8) (q : Nat) : (twP n m t q).length = (List.range (n * m)).countP fun c => (bcells n m t q).count c == 2 := by
  unfold twP
  rw [List.length_map, List.countP_eq_length_filter]
theorem twP_in {n m : Nat} {t : Int → Int → UInt8} {q : Nat} : ∀ p ∈ twP n m t q, 0 ≤ p.1 ∧ p.1 < n ∧ 0 ≤ p.2 ∧ p.2 < m := fun p hp => by
  unfold twP at hp
  obtain ⟨c, hc, rfl⟩ := List.mem_map.1 hp
  have hlt := List.mem_range.1 (List.mem_filter.1 hc).1
  have hm : 0 < m := by
    rcases Nat.eq_zero_or_pos m with h0 | h0
    · subst h0; simp at hlt
    · exact h0
  have h2 : c / m < n := by rw [Nat.div_lt_iff_lt_mul hm]; exact hlt
  have h3 : c % m < m := Nat.mod_lt _ hm
  exact ⟨Int.natCast_nonneg _, Int.ofNat_lt.2 h2, Int.natCast_nonneg _, Int.ofNat_lt.2 h3⟩
def selfR (n m : Nat) (t : Int → Int → UInt8) (q : Nat) : Int × Bool := (((selfN n m t q : Nat) : Int), true)

set_option maxRecDepth 100000 in
set_option maxHeartbeats 2000000 in
theorem implBeamTwice_any (A : Option Addr) (c : Nat) (ss : List ByteArray) (p : Int) (w : World) (h : Strs w w.heap.size A ss) (hn : ss.length ≤ 1048576) (hs : ∀ s ∈ ss, s.size ≤ 1048576) :
    Calls Try.prog 43 #[.slice A ss.length c, .int .i64 p] w fun e w' => Below w.heap.size w w' ∧ ∃ x ok, e = .returned (.tuple #[.int .i64 x, .bool ok]) ∧ BeamOut twiceR ss p x ok := by
  have HR := hid (gridWithPort_any A c ss p w h hn hs)
  clear h hs
  go_enter Try.func43, Try.ntmps43
  go_wp2_with fail
  refine HR.out.mono ?_
  rintro e w1 ⟨hbel, ⟨n, m, q, hq, rfl⟩ | ⟨hno, rfl⟩⟩
  · have HB := hid hbel
    have hg := hq.1
    obtain rfl := hq.2.1
    have HQ := hid hq
    have hn5 := hg.2.2.1
    have hm5 := hg.2.2.2.2.1
    have HGC := hid (show (gcells n m (pad (flat ss))).size = 27 from hg.csize)
    have HONE := hid (gcells_one n m (pad (flat ss)))
    have HNEW := hid (fun w' => newTrace_any (gcells n m (pad (flat ss))) HGC.out HONE.out w')
    have HASK := hid (show ∀ b xs w', MapOf w' b xs → Calls Try.prog 95 #[.agg (tcells (gcells n m (pad (flat ss))) b), .int .i64 q] w' fun e w'' => (∃ v, e = .returned v) ∧ MapOf w'' b (waysL (bway n m (lett m (pad (flat ss))) q) (blen n m (lett m (pad (flat ss))) q)) ∧ w'.grownBy w'' (some b) from fun b xs w' hm => ask_any n m q _ b (pad (flat ss)) xs w' rfl hg.plen hn5 hm5 hq.2.2 hm)
    have HTW := hid (fun b w' hm => twice_any n m q b (pad (flat ss)) w' hg.plen hn5 hg.2.2.2.1 hm5 hq.2.2 hm)
    have HRR := hid (show ((((twP n m (lett m (pad (flat ss))) q).length : Nat) : Int), true) = twiceR n m (lett m (pad (flat ss))) q by unfold twiceR; rw [twP_length])
    clear hbel hq
    generalize waysL (bway n m (lett m (pad (flat ss))) q) (blen n m (lett m (pad (flat ss))) q) = wl at *
    generalize twP n m (lett m (pad (flat ss))) q = tp at *
    generalize gcells n m (pad (flat ss)) = cs at *
    clear hg
    have HS := hid (show (Try.prog.info? 54).map (·.size) = some cs.size by rw [HGC.out]; exact Try.size_grid)
    have HST := hid (fun b => show (Try.prog.info? 100).map (·.size) = some (tcells cs b).size by rw [tcells_size HGC.out]; exact Try.size_trace)
    have HTO := hid (fun b => tcells_one HONE.out b)
    have HTZ := hid (fun b => show zeroT.size = (tcells cs b).size by rw [tcells_size HGC.out]; rfl)
    have HZ := hid (show zeroG.size = cs.size by rw [HGC.out]; rfl)
    have HL := hid (setRow_heap (w1.alloc (.cells zeroG 54)) w1.heap.size zeroG cs 54 (0, 0) (heap_new0 w1 _))
    have HW := hid (HB.out.trans (below_setRow' ((Below.refl _ w1).alloc HB.out.size (.cells zeroG 54)) HB.out.size cs))
    have HWS1 := hid (show ((w1.alloc (.cells zeroG 54)).setRow w1.heap.size cs).heap.size = w1.heap.size + 1 by simp)
    generalize hX : (w1.alloc (.cells zeroG 54)).setRow w1.heap.size cs = X at HL HW HWS1
    have HX := hid hX
    clear hX
    go_wp2_with (first
      | (refine wpList_store_row rfl 54 _ _ rfl w1.heap.size cs rfl rfl 54 zeroG (heap_new0 w1 _) HS.out HZ.out HONE.out ?_; rw [HX.out])
      | refine wpList_load_row rfl 54 _ rfl w1.heap.size rfl 54 cs (0, 0) _ HL.out Try.underlying54 rfl HS.out ?_)
    refine (HNEW.out _).mono ?_
    rintro e w2 ⟨rfl, hm2, hb2⟩
    have HM2 := hid hm2
    have HB2 := hid hb2
    have HBX := hid (show w1.heap.size < X.heap.size by rw [HWS1.out]; omega)
    have HXW := hid (show w.heap.size ≤ X.heap.size from by have := HB.out.size; have := HBX.out; omega)
    clear hm2 hb2
    generalize hbb : X.heap.size + 2 = b at *
    have HBB := hid hbb
    clear hbb
    have HN2 := hid (heap_new0 w2 (.cells zeroT 100))
    have HL2 := hid (setRow_heap (w2.alloc (.cells zeroT 100)) w2.heap.size zeroT (tcells cs b) 100 (0, 0) (heap_new0 w2 _))
    have HM3 := hid (show MapOf ((w2.alloc (.cells zeroT 100)).setRow w2.heap.size (tcells cs b)) b ([] : List Wy) from (HM2.out.alloc _).kept (setRow_other _ _ _ _ (by have := HM2.out.lt; omega)))
    have HB3 := hid (show Below w.heap.size w ((w2.alloc (.cells zeroT 100)).setRow w2.heap.size (tcells cs b)) from
      (HW.out.trans (HB2.out.mono HXW.out)).trans (below_setRow' ((Below.refl _ w2).alloc (by have := HB2.out.size; have := HXW.out; omega) _) (by have := HB2.out.size; have := HXW.out; omega) _))
    generalize hY : (w2.alloc (.cells zeroT 100)).setRow w2.heap.size (tcells cs b) = Y at HL2 HM3 HB3
    have HY := hid hY
    have HKY : ∀ (g : Nat) (o : Obj), w2.heap[g]? = some o → Y.heap[g]? = some o := fun g o h => by rw [← hY, setRow_other _ _ _ _ (by have := lt_of_block h; omega), Below.heap_alloc _ _ _ (lt_of_block h)]; exact h
    clear hY
    go_wp2_with (first
      | (refine wpList_store_row rfl 100 _ _ rfl w2.heap.size (tcells cs b) rfl rfl 100 zeroT HN2.out (HST.out b) (HTZ.out b) (HTO.out b) ?_; rw [HY.out])
      | refine wpList_load_row rfl 100 _ rfl w2.heap.size rfl 100 (tcells cs b) (0, 0) _ HL2.out Try.underlying100 rfl (HST.out b) ?_)
    refine (HASK.out b _ Y HM3.out).mono ?_
    rintro e w3 ⟨⟨v3, rfl⟩, hm3, hg3⟩
    have HL3 := hid (show w3.heap[w2.heap.size]? = some (.cells (tcells cs b) 100 (0, 0)) from (hg3.block _ (lt_of_block HL2.out) (by have := HM2.out.lt; intro e; cases e; omega)).trans HL2.out)
    have HM4 := hid hm3
    have HB4 := hid (show Below w.heap.size w w3 from HB3.out.trans (below_grown hg3 HB3.out.size (by have := HBB.out; have := HXW.out; omega)))
    have HK2 := hid (show w2.heap[w1.heap.size]? = some (.cells cs 54 (0, 0)) from (HB2.out.block _ HBX.out).trans HL.out)
    have HK3 := hid (show w3.heap[w1.heap.size]? = some (.cells cs 54 (0, 0)) from (hg3.block _ (lt_of_block (HKY w1.heap.size _ HK2.out)) (by have := HBB.out; have := HBX.out; intro e; cases e; omega)).trans (HKY w1.heap.size _ HK2.out))
    clear hm3 hg3 HKY
    go_wp2_with (refine wpList_load_row rfl 100 _ rfl w2.heap.size rfl 100 (tcells cs b) (0, 0) _ HL3.out Try.underlying100 rfl (HST.out b) ?_)
    refine (HTW.out b w3 HM4.out).mono ?_
    rintro e w4 ⟨v, rfl, hgp, hb4⟩
    obtain ⟨A', c', rfl⟩ := hgp.slice
    have HB5 := hid (HB4.out.trans (hb4.mono HB4.out.size))
    clear hgp hb4
    go_wp2_with fail
    refine bodyPost_ret (results_tmp2 rfl _ _ _) rfl ?_
    exact ⟨HB5.out, _, true, rfl, .inl ⟨n, m, q, HQ.out, HRR.out⟩⟩
  · have HB := hid hbel
    have HGr := hid hno
    clear hbel hno
    go_wp2_with (refine wpList_store_row rfl 54 _ _ rfl w1.heap.size zeroG rfl rfl 54 zeroG (heap_new0 w1 _) Try.size_grid rfl (gcells_one 0 0 (pad [])) ?_)
    refine bodyPost_ret (results_tmp2 rfl _ _ _) rfl ?_
    exact ⟨HB.out.trans (below_setRow' ((Below.refl _ w1).alloc HB.out.size _) HB.out.size _), 0, false, rfl, .inr ⟨HGr.out, rfl, rfl⟩⟩

/-- What the operations of CrossSelf's last statement hand back. -/
def crossSelfRel (m : Nat) (ls : List UInt8) (cs : Array Value) (b : Nat) (tp : List (Int × Int)) (i : Nat) (v : Value) (W : World) : Prop :=
  match i with
  | 0 => v = .agg cs
  | 1 => v = .agg (tcells cs b)
  | 2 => ∃ A c, v = .slice A tp.length c ∧ Plcs W A tp
  | 3 => v = .int .i64 ((emptN m ls tp : Nat) : Int)
  | 4 => v = .int .i64 ((emptN m ls tp : Nat) : Int)
  | 5 => v = .bool true
  | _ => True

set_option maxRecDepth 100000 in
set_option maxHeartbeats 2000000 in
theorem implCrossSelf_any (A : Option Addr) (c : Nat) (ss : List ByteArray) (p : Int) (w : World) (h : Strs w w.heap.size A ss) (hn : ss.length ≤ 1048576) (hs : ∀ s ∈ ss, s.size ≤ 1048576) :
    Calls Try.prog 41 #[.slice A ss.length c, .int .i64 p] w fun e w' => Below w.heap.size w w' ∧ ∃ x ok, e = .returned (.tuple #[.int .i64 x, .bool ok]) ∧ BeamOut selfR ss p x ok := by
  have HR := hid (gridWithPort_any A c ss p w h hn hs)
  clear h hs
  go_enter Try.func41, Try.ntmps41
  go_wp2_with fail
  refine HR.out.mono ?_
  rintro e w1 ⟨hbel, ⟨n, m, q, hq, rfl⟩ | ⟨hno, rfl⟩⟩
  · have HB := hid hbel
    have hg := hq.1
    obtain rfl := hq.2.1
    have HQ := hid hq
    have hn5 := hg.2.2.1
    have hm5 := hg.2.2.2.2.1
    have HGC := hid (show (gcells n m (pad (flat ss))).size = 27 from hg.csize)
    have HONE := hid (gcells_one n m (pad (flat ss)))
    have HNEW := hid (fun w' => newTrace_any (gcells n m (pad (flat ss))) HGC.out HONE.out w')
    have HASK := hid (show ∀ b xs w', MapOf w' b xs → Calls Try.prog 95 #[.agg (tcells (gcells n m (pad (flat ss))) b), .int .i64 q] w' fun e w'' => (∃ v, e = .returned v) ∧ MapOf w'' b (waysL (bway n m (lett m (pad (flat ss))) q) (blen n m (lett m (pad (flat ss))) q)) ∧ w'.grownBy w'' (some b) from fun b xs w' hm => ask_any n m q _ b (pad (flat ss)) xs w' rfl hg.plen hn5 hm5 hq.2.2 hm)
    have HTW := hid (fun b w' hm => twice_any n m q b (pad (flat ss)) w' hg.plen hn5 hg.2.2.2.1 hm5 hq.2.2 hm)
    have HRR := hid (show (((emptN m (pad (flat ss)) (twP n m (lett m (pad (flat ss))) q) : Nat) : Int), true) = selfR n m (lett m (pad (flat ss))) q by unfold selfR; rw [empt_twP])
    have HTL := hid (show (twP n m (lett m (pad (flat ss))) q).length ≤ 100 by
      rw [twP_length]
      have := List.countP_le_length (p := fun c => (bcells n m (lett m (pad (flat ss))) q).count c == 2) (l := List.range (n * m))
      rw [List.length_range] at this
      have := hg.le25
      omega)
    have HEM := hid (fun A c w' (h : Plcs w' A (twP n m (lett m (pad (flat ss))) q)) => empties_any n m (pad (flat ss)) A c (twP n m (lett m (pad (flat ss))) q) w' hg.plen hn5 hm5 HTL.out twP_in h)
    clear hbel hq
    generalize waysL (bway n m (lett m (pad (flat ss))) q) (blen n m (lett m (pad (flat ss))) q) = wl at *
    generalize twP n m (lett m (pad (flat ss))) q = tp at *
    generalize gcells n m (pad (flat ss)) = cs at *
    clear hg
    have HS := hid (show (Try.prog.info? 54).map (·.size) = some cs.size by rw [HGC.out]; exact Try.size_grid)
    have HST := hid (fun b => show (Try.prog.info? 100).map (·.size) = some (tcells cs b).size by rw [tcells_size HGC.out]; exact Try.size_trace)
    have HTO := hid (fun b => tcells_one HONE.out b)
    have HTZ := hid (fun b => show zeroT.size = (tcells cs b).size by rw [tcells_size HGC.out]; rfl)
    have HZ := hid (show zeroG.size = cs.size by rw [HGC.out]; rfl)
    have HL := hid (setRow_heap (w1.alloc (.cells zeroG 54)) w1.heap.size zeroG cs 54 (0, 0) (heap_new0 w1 _))
    have HW := hid (HB.out.trans (below_setRow' ((Below.refl _ w1).alloc HB.out.size (.cells zeroG 54)) HB.out.size cs))
    have HWS1 := hid (show ((w1.alloc (.cells zeroG 54)).setRow w1.heap.size cs).heap.size = w1.heap.size + 1 by simp)
    generalize hX : (w1.alloc (.cells zeroG 54)).setRow w1.heap.size cs = X at HL HW HWS1
    have HX := hid hX
    clear hX
    go_wp2_with (first
      | (refine wpList_store_row rfl 54 _ _ rfl w1.heap.size cs rfl rfl 54 zeroG (heap_new0 w1 _) HS.out HZ.out HONE.out ?_; rw [HX.out])
      | refine wpList_load_row rfl 54 _ rfl w1.heap.size rfl 54 cs (0, 0) _ HL.out Try.underlying54 rfl HS.out ?_)
    refine (HNEW.out _).mono ?_
    rintro e w2 ⟨rfl, hm2, hb2⟩
    have HM2 := hid hm2
    have HB2 := hid hb2
    have HBX := hid (show w1.heap.size < X.heap.size by rw [HWS1.out]; omega)
    have HXW := hid (show w.heap.size ≤ X.heap.size from by have := HB.out.size; have := HBX.out; omega)
    clear hm2 hb2
    generalize hbb : X.heap.size + 2 = b at *
    have HBB := hid hbb
    clear hbb
    have HN2 := hid (heap_new0 w2 (.cells zeroT 100))
    have HL2 := hid (setRow_heap (w2.alloc (.cells zeroT 100)) w2.heap.size zeroT (tcells cs b) 100 (0, 0) (heap_new0 w2 _))
    have HM3 := hid (show MapOf ((w2.alloc (.cells zeroT 100)).setRow w2.heap.size (tcells cs b)) b ([] : List Wy) from (HM2.out.alloc _).kept (setRow_other _ _ _ _ (by have := HM2.out.lt; omega)))
    have HB3 := hid (show Below w.heap.size w ((w2.alloc (.cells zeroT 100)).setRow w2.heap.size (tcells cs b)) from
      (HW.out.trans (HB2.out.mono HXW.out)).trans (below_setRow' ((Below.refl _ w2).alloc (by have := HB2.out.size; have := HXW.out; omega) _) (by have := HB2.out.size; have := HXW.out; omega) _))
    generalize hY : (w2.alloc (.cells zeroT 100)).setRow w2.heap.size (tcells cs b) = Y at HL2 HM3 HB3
    have HY := hid hY
    have HKY : ∀ (g : Nat) (o : Obj), w2.heap[g]? = some o → Y.heap[g]? = some o := fun g o h => by rw [← hY, setRow_other _ _ _ _ (by have := lt_of_block h; omega), Below.heap_alloc _ _ _ (lt_of_block h)]; exact h
    clear hY
    go_wp2_with (first
      | (refine wpList_store_row rfl 100 _ _ rfl w2.heap.size (tcells cs b) rfl rfl 100 zeroT HN2.out (HST.out b) (HTZ.out b) (HTO.out b) ?_; rw [HY.out])
      | refine wpList_load_row rfl 100 _ rfl w2.heap.size rfl 100 (tcells cs b) (0, 0) _ HL2.out Try.underlying100 rfl (HST.out b) ?_)
    refine (HASK.out b _ Y HM3.out).mono ?_
    rintro e w3 ⟨⟨v3, rfl⟩, hm3, hg3⟩
    have HL3 := hid (show w3.heap[w2.heap.size]? = some (.cells (tcells cs b) 100 (0, 0)) from (hg3.block _ (lt_of_block HL2.out) (by have := HM2.out.lt; intro e; cases e; omega)).trans HL2.out)
    have HM4 := hid hm3
    have HB4 := hid (show Below w.heap.size w w3 from HB3.out.trans (below_grown hg3 HB3.out.size (by have := HBB.out; have := HXW.out; omega)))
    have HK2 := hid (show w2.heap[w1.heap.size]? = some (.cells cs 54 (0, 0)) from (HB2.out.block _ HBX.out).trans HL.out)
    have HK3 := hid (show w3.heap[w1.heap.size]? = some (.cells cs 54 (0, 0)) from (hg3.block _ (lt_of_block (HKY w1.heap.size _ HK2.out)) (by have := HBB.out; have := HBX.out; intro e; cases e; omega)).trans (HKY w1.heap.size _ HK2.out))
    clear hm3 hg3 HKY
    go_wp2_with fail
    have HRX := hid (show ∀ x : Int, x = ((emptN m (pad (flat ss)) tp : Nat) : Int) → (x, true) = selfR n m (lett m (pad (flat ss))) q from fun x hx => by rw [hx]; exact HRR.out)
    refine wp_region_rel (by kernel_rfl) (by kernel_rfl) 6 rfl (fun us => { tmps := #[.slice A ss.length c, .int .i64 (q : Int), undef, undef, us 4, us 5, .pointer (some ⟨w1.heap.size, 0, none⟩), .bool true, .pointer (some ⟨w2.heap.size, 0, none⟩), .tuple #[.agg cs, .bool true], .slice A ss.length c, .int .i64 (q : Int), .tuple #[.agg cs, .bool true],
      .agg cs, .bool true, .bool true, .bool false, .agg cs, .agg (tcells cs b), .agg (tcells cs b), .int .i64 (q : Int), v3, us 0, us 1, us 2, us 3], defers := [] }) (fun k => if k = 4 then .int .i64 0 else if k = 5 then .bool false else undef) rfl (crossSelfRel m (pad (flat ss)) cs b tp) (fun i v W W' h hb => ?_) (fun i us v hi => ?_) (fun i us W hi hb hd => ?_) (fun us W hb hr => ?_)
    · unfold crossSelfRel at h ⊢
      split at h <;> try exact h
      obtain ⟨A', c', h1, h2⟩ := h
      exact ⟨A', c', h1, h2.below hb⟩
    · match i, hi with
      | 0, _ => rfl
      | 1, _ => rfl
      | 2, _ => rfl
      | 3, _ => rfl
      | 4, _ => rfl
      | 5, _ => rfl
    · have L0 := hid ((hb.block _ (lt_of_block HK3.out)).trans HK3.out)
      have L1 := hid ((hb.block _ (lt_of_block HL3.out)).trans HL3.out)
      have LM := hid (HM4.out.kept (hb.block _ HM4.out.lt))
      match i, hi with
      | 0, _ => exact wpOp_val rfl rfl (exec_load_row 54 _ rfl w1.heap.size rfl 54 cs (0, 0) _ L0.out Try.underlying54 rfl HS.out) rfl
      | 1, _ => exact wpOp_val rfl rfl (exec_load_row 100 _ rfl w2.heap.size rfl 100 (tcells cs b) (0, 0) _ L1.out Try.underlying100 rfl (HST.out b)) rfl
      | 2, _ =>
        have h1 : us 1 = _ := hd _ rfl { on := 1, ground := .data } (by simp) rfl
        rw [h1]
        exact wpOp_call rfl rfl (by go_simp) ((HTW.out b W LM.out).mono fun e w'' ⟨v, he, hgp, hb'⟩ => by
          obtain ⟨A', c', rfl, hpl⟩ := hgp.plcs
          exact ⟨_, he, ⟨A', c', rfl, hpl⟩, hb'⟩)
      | 3, _ =>
        have h0 : us 0 = _ := hd _ rfl { on := 0, ground := .data } (by simp) rfl
        obtain ⟨A', c', h2, hpl⟩ : ∃ A c, us 2 = .slice A tp.length c ∧ Plcs W A tp := hd _ rfl { on := 2, ground := .data } (by simp) rfl
        rw [h0, h2]
        exact wpOp_call rfl rfl (by go_simp) ((HEM.out A' c' W hpl).mono fun e w'' ⟨he, hb'⟩ => ⟨_, he, rfl, hb'⟩)
      | 4, _ =>
        have h3 : us 3 = _ := hd _ rfl { on := 3, ground := .data } (by simp) rfl
        rw [h3]
        exact wpOp_val rfl rfl (by go_simp) rfl
      | 5, _ => exact wpOp_val rfl rfl (by go_simp) rfl
    · have h4 : us 4 = _ := hr 4 (by omega)
      have h5 : us 5 = _ := hr 5 (by omega)
      rw [h4, h5]
      have HB5 := hid (HB4.out.trans (hb.mono HB4.out.size))
      clear hr hb
      go_wp2_with fail
      refine bodyPost_ret (results_tmp2 rfl _ _ _) rfl ?_
      exact ⟨HB5.out, _, true, rfl, .inl ⟨n, m, q, HQ.out, HRX.out _ rfl⟩⟩
  · have HB := hid hbel
    have HGr := hid hno
    clear hbel hno
    go_wp2_with (refine wpList_store_row rfl 54 _ _ rfl w1.heap.size zeroG rfl rfl 54 zeroG (heap_new0 w1 _) Try.size_grid rfl (gcells_one 0 0 (pad [])) ?_)
    refine bodyPost_ret (results_tmp2 rfl _ _ _) rfl ?_
    exact ⟨HB.out.trans (below_setRow' ((Below.refl _ w1).alloc HB.out.size _) HB.out.size _), 0, false, rfl, .inr ⟨HGr.out, rfl, rfl⟩⟩
end Go.Proofs.Ytgapdlokljcpbaa

/- l5Self, l5Both, CrossSelf of the specification, by their contracts. -/
namespace Go.Proofs.Ytgapdlokljcpbaa
open Go.RowKit Go.Shelf

/-- Numbers as integers. -/
def natI (l : List Nat) : List Int := l.map fun x : Nat => (x : Int)
theorem natI_length (l : List Nat) : (natI l).length = l.length := by simp [natI]
theorem natI_at {l : List Nat} {k x : Nat} (h : l[k]? = some x) : (natI l)[k]? = some (x : Int) := by simp [natI, h]
theorem natI_count (l : List Nat) (x : Nat) : (natI l).count (x : Int) = l.count x := by
  unfold natI
  rw [List.count, List.count, List.countP_map]
  refine List.countP_congr fun y _ => ?_
  simp only [Function.comp, beq_iff_eq]
  omega
theorem cellsI_nat (n m : Nat) (t : Int → Int → UInt8) (p : Nat) : cellsI m (bway n m t p) (blen n m t p) = natI (bcells n m t p) := by
  unfold cellsI natI bcells
  rw [List.map_map]
  rfl
theorem flat_empty {n m c : Nat} {ss : List ByteArray} (hg : IsGrid n m ss) (hc : c < n * m) : ∃ bt : UInt8, (flat ss)[c]? = some bt ∧ emptyC m (lett m (pad (flat ss))) c = (bt == 46) ∧ ((bt.toNat : Int) == 46) = (bt == 46) := by
  have hm : 0 < m := by
    rcases Nat.eq_zero_or_pos m with h0 | h0
    · subst h0; simp at hc
    · exact h0
  have hx : inG n m ⟨((c / m : Nat) : Int), ((c % m : Nat) : Int), 0⟩ := ⟨Int.natCast_nonneg _, Int.ofNat_lt.2 (by rw [Nat.div_lt_iff_lt_mul hm]; exact hc), Int.natCast_nonneg _, Int.ofNat_lt.2 (Nat.mod_lt _ hm)⟩
  have h1 := lett_flat hg hx
  have h2 : cellN m ⟨((c / m : Nat) : Int), ((c % m : Nat) : Int), 0⟩ = c := by
    unfold cellN
    simp only [Int.toNat_natCast]
    rw [Nat.mul_comm]
    exact Nat.div_add_mod c m
  rw [h2] at h1
  refine ⟨_, h1, rfl, ?_⟩
  generalize lett m (pad (flat ss)) _ _ = b
  rw [Bool.eq_iff_iff, beq_iff_eq, beq_iff_eq]
  constructor
  · intro e
    have : b.toNat = 46 := by omega
    exact UInt8.toNat_inj.1 this
  · rintro rfl; rfl

set_option maxRecDepth 100000 in
set_option maxHeartbeats 2000000 in
theorem l5Self_any (A : Option Addr) (c B n m : Nat) (ss : List ByteArray) (A1 : Option Addr) (c1 B1 : Nat) (a : List Nat) (w : World) (h : Strs w B A ss) (hg : IsGrid n m ss) (hi : Ints w B1 A1 (natI a)) (ha : ∀ x ∈ a, x < n * m) (hlen : a.length ≤ 100) (hc2 : ∀ c, a.count c ≤ 2) :
    Calls Try.prog 100 #[.slice A ss.length c, .slice A1 a.length c1] w fun e w' => e = .returned (.int .i64 ((spareE m (lett m (pad (flat ss))) a a.length / 2 : Nat) : Int)) ∧ ∃ d, w' = w.drewN d := by
  have HI := hid hi
  have HCE := hid (show ∀ (k x d : Nat), a[k]? = some x → ∃ bt : UInt8, emptyC m (lett m (pad (flat ss))) x = (bt == 46) ∧ ((bt.toNat : Int) == 46) = (bt == 46) ∧ Calls Try.prog 124 #[.slice A ss.length c, .int .i64 (x : Int)] (w.drewN d) fun e w' => e = .returned (.int .u8 bt.toNat) ∧ ∃ d', w' = (w.drewN d).drewN d' from fun k x d hk => by
    have hx := ha x (List.mem_of_getElem? hk)
    obtain ⟨bt, h1, h2, h3⟩ := flat_empty hg hx
    exact ⟨bt, h2, h3, l2Cell_any A c B n m x ss bt (w.drewN d) (h.drewN d) hg hx h1⟩)
  have HOF := hid (show ∀ x d : Nat, Calls Try.prog 148 #[.slice A1 a.length c1, .int .i64 (x : Int)] (w.drewN d) fun e w' => e = .returned (.int .i64 ((a.count x : Nat) : Int)) ∧ ∃ d', w' = (w.drewN d).drewN d' from fun x d => by
    have := l2Often_any A1 c1 B1 (natI a) (x : Int) (w.drewN d) (hi.drewN d) (by rw [natI_length]; omega)
    rwa [natI_count, natI_length] at this)
  have HLE := hid (fun k => spareE_le m (lett m (pad (flat ss))) a k hc2)
  have HSU := hid (fun k x hk => spareE_succ m (lett m (pad (flat ss))) a k x hk)
  have HC2 := hid hc2
  clear h hg hi ha hc2
  generalize lett m (pad (flat ss)) = t at *
  go_enter Try.func100, Try.ntmps100
  go_wp2_with fail
  go_loopw [5, 6] (fun (v iv : Value) (wr : World) => ∃ k : Nat, k ≤ a.length ∧ iv = .int .i64 k ∧ v = .int .i64 ((spareE m t a k : Nat) : Int) ∧ ∃ d, wr = w.drewN d) (fun _ i _ => a.length - (intOf i).toNat)
  case atStart => exact ⟨0, by omega, rfl, rfl, 0, rfl⟩
  case round =>
    obtain ⟨k, hk, rfl, rfl, d, rfl⟩ := hrel
    have hle := HLE.out k
    obtain ⟨tk, htk⟩ : ∃ tk, spareE m t a k = tk := ⟨_, rfl⟩
    have HTK := hid htk
    rw [htk] at hle ⊢
    clear htk
    by_cases hlt : k < a.length
    · obtain ⟨x, hx⟩ : ∃ x, a[k]? = some x := ⟨_, List.getElem?_eq_getElem hlt⟩
      have hsu := HSU.out k x hx
      rw [HTK.out] at hsu
      obtain ⟨bt, he, h46, hcell⟩ := HCE.out k x d hx
      obtain ⟨b, off, x', rfl, hb, hx', hcx⟩ := HI.out.at_ (k := k) (by rw [natI_length]; exact hlt)
      have hxe : x' = (x : Int) := by rw [natI_at hx] at hx'; exact (Option.some.inj hx').symm
      rw [hxe] at hcx
      have hcd : ∀ d', (w.drewN d').cell? ⟨b, off + k, none⟩ = some (.int .i64 (x : Int)) := fun _ => hcx
      have hc1 : 1 ≤ a.count x := List.count_pos_iff.2 (List.mem_of_getElem? hx)
      have hc2 := HC2.out x
      have HCELL := hid hcell
      have HCALL := hid (fun d => HOF.out x d)
      obtain ⟨cx, hcxx⟩ : ∃ cx, a.count x = cx := ⟨_, rfl⟩
      rw [hcxx] at HCALL hc1 hc2 hsu
      have HCD := hid hcd
      have hcd0 := hcd d
      cases hbt : (bt == 46) with
      | true =>
        rw [hbt] at h46 he
        rw [if_pos he] at hsu
        have HX := hid hsu
        clear hsu hx' hxe hb hcx hcell hcd hcxx hx he hbt
        go_wp2_with fail
        refine HCELL.out.mono ?_
        rintro e w1 ⟨rfl, d1, rfl⟩
        have hcd1 := HCD.out (d + d1)
        clear hcd0
        go_wp2_with fail
        refine (HCALL.out (d + d1)).mono ?_
        rintro e w2 ⟨rfl, d2, rfl⟩
        go_wp2_with fail
        go_roundw
        case rel => exact ⟨k + 1, by omega, by go_num, by rw [HX.out]; simp only [Value.int.injEq, true_and]; omega, d + d1 + d2, rfl⟩
        case measure => simp [intOf]; omega
      | false =>
        rw [hbt] at h46 he
        rw [if_neg (by rw [he]; decide), Nat.add_zero] at hsu
        have HX := hid hsu
        clear hsu hx' hxe hb hcx hcell hcd hcxx hx he hbt
        go_wp2_with fail
        refine HCELL.out.mono ?_
        rintro e w1 ⟨rfl, d1, rfl⟩
        clear hcd0
        go_wp2_with fail
        go_roundw
        case rel => exact ⟨k + 1, by omega, by go_num, by rw [HX.out]; rfl, d + d1, rfl⟩
        case measure => simp [intOf]; omega
    · obtain rfl : k = a.length := by omega
      obtain ⟨q, hq⟩ : ∃ q, tk / 2 = q := ⟨_, rfl⟩
      have hqi : ((tk : Nat) : Int) / 2 = (q : Int) := by omega
      have HQ2 := hid (show spareE m t a a.length / 2 = q by rw [HTK.out, hq])
      have HQ := hid hqi
      clear hq hqi
      go_wp2_with fail
      go_ret
      exact ⟨by rw [HQ2.out, ← HQ.out]; rfl, d, rfl⟩

set_option maxRecDepth 100000 in
set_option maxHeartbeats 2000000 in
theorem specCrossSelf_any (A : Option Addr) (c B : Nat) (ss : List ByteArray) (p : Int) (w : World) (h : Strs w B A ss) (hB : B ≤ w.heap.size) (hn : ss.length ≤ 1048576) (hs : ∀ s ∈ ss, s.size ≤ 1048576) :
    Calls Try.prog 42 #[.slice A ss.length c, .int .i64 p] w fun e w' => Below w.heap.size w w' ∧ ∃ x ok, e = .returned (.tuple #[.int .i64 x, .bool ok]) ∧ BeamOut selfR ss p x ok := by
  have HI := hid (l2Given_any A c B ss p w h hn hs)
  have HD := hid h
  clear h hs
  go_enter Try.func42, Try.ntmps42
  go_wp2_with fail
  refine HI.out.mono ?_
  rintro e w' ⟨ok, rfl, hok, d, rfl⟩
  have HBd := hid (below_drewN' (Below.refl w.heap.size w) d)
  rcases hok with ⟨rfl, n, m, q, hq⟩ | ⟨rfl, hno⟩
  · obtain rfl := hq.2.1
    have hg := hq.1
    have c1 := hid (l2Way_port A c B n m q ss (w.drewN d) (HD.out.drewN d) hB hg hq.2.2)
    rw [cellsI_nat] at c1
    have hL100 : blen n m (lett m (pad (flat ss))) q ≤ 100 := by
      have h1 := blen_lt (t := lett m (pad (flat ss))) hq.2.2
      have h2 := hg.le25
      omega
    have HLB := hid (bcells_length n m (lett m (pad (flat ss))) q)
    have HSE := hid (fun A1 c1 w' (hb : Below w.heap.size w w') (hi : Ints w' w'.heap.size A1 (natI (bcells n m (lett m (pad (flat ss))) q))) => l5Self_any A c B n m ss A1 c1 w'.heap.size (bcells n m (lett m (pad (flat ss))) q) w' (HD.out.below hb hB) hg hi bcells_lt (by rw [HLB.out]; exact hL100) (fun c => count_le2 (n := n) (m := m) (c := c) hq.2.2 hg.2.2.2.1))
    have HALL := hid (spareE_all (n := n) (m := m) (t := lett m (pad (flat ss))) (p := q) hq.2.2 hg.2.2.2.1)
    have HR := hid (show (((spareE m (lett m (pad (flat ss))) (bcells n m (lett m (pad (flat ss))) q) (bcells n m (lett m (pad (flat ss))) q).length / 2 : Nat) : Int), true) = selfR n m (lett m (pad (flat ss))) q by
      rw [HLB.out, HALL.out]
      unfold selfR
      rw [Nat.mul_div_cancel_left _ (by decide)])
    have HQ := hid hq
    clear hq hg
    generalize bcells n m (lett m (pad (flat ss))) q = bc at *
    go_wp2_with fail
    refine c1.out.mono ?_
    rintro e w1 ⟨v, v', rfl, hv, _, hb1⟩
    obtain ⟨A1, cc, rfl, hint⟩ := hv.ints
    rw [natI_length]
    have HB1 := hid (HBd.out.trans hb1)
    have HC := hid (HSE.out A1 cc w1 HB1.out hint)
    clear hb1 hv hint
    go_wp2_with fail
    refine HC.out.mono ?_
    rintro e w2 ⟨rfl, d2, rfl⟩
    go_wp2_with fail
    refine bodyPost_ret (results_tmp2 rfl _ _ _) rfl ?_
    exact ⟨below_drewN' HB1.out d2, _, true, rfl, .inl ⟨n, m, q, HQ.out, HR.out⟩⟩
  · have HNo := hid hno
    clear hno
    go_wp2_with fail
    refine bodyPost_ret (results_tmp2 rfl _ _ _) rfl ?_
    exact ⟨HBd.out, 0, false, rfl, .inr ⟨HNo.out, rfl, rfl⟩⟩
end Go.Proofs.Ytgapdlokljcpbaa
