/- Going along a beam by the specification: its contract. -/
import Derived.Test.YtminailbhgimkaaAimM
import Derived.Test.YtminailbhgimkaaBunR
import Derived.Test.YtminailbhgimkaaBunE
import Derived.Test.YtminailbhgimkaaBunF
import Derived.Deep.QuietTactic
namespace Go.Proofs.Ytminailbhgimkaa
open Go.RowKit Go.Shelf

/-- The bools in block g tell fx of the first N numbers. -/
def BoolsAt (W : World) (g N : Nat) (fx : Nat → Bool) : Prop := g < W.heap.size ∧ ∀ k, k < N → W.cell? ⟨g, k, none⟩ = some (.bool (fx k))
theorem BoolsAt.below {W W' : World} {g N : Nat} {fx : Nat → Bool} (h : BoolsAt W g N fx) (hb : Below W.heap.size W W') : BoolsAt W' g N fx :=
  ⟨Nat.lt_of_lt_of_le h.1 hb.size, fun k hk => (hb.cell (p := ⟨g, k, none⟩) h.1).trans (h.2 k hk)⟩
def boolV (fx : Nat → Bool) (N : Nat) : List Value := (List.range N).map fun k => .bool (fx k)
/-- The bound behind so many letters. -/
def bndTo (bound : Nat) (a : Nat → Nat) : Nat → Nat
  | 0 => bound
  | t + 1 => min (bndTo bound a t) (a t)
theorem bndTo_le (bound : Nat) (a : Nat → Nat) : ∀ t, bndTo bound a t ≤ bound
  | 0 => Nat.le_refl _
  | t + 1 => Nat.le_trans (Nat.min_le_left _ _) (bndTo_le bound a t)
theorem extract_one {s : ByteArray} {k : Nat} {b : UInt8} (h : s.data.toList[k]? = some b) : s.extract k (k + 1) = ⟨#[b]⟩ := by
  obtain ⟨h1, h2⟩ := List.getElem?_eq_some_iff.1 h
  refine ByteArray.ext ?_
  rw [ByteArray.data_extract]
  refine Array.ext' ?_
  rw [Array.toList_extract]
  have h3 : k < s.data.toList.length := h1
  simp only [List.extract_eq_take_drop, Nat.add_sub_cancel_left]
  rw [List.drop_eq_getElem_cons h3, List.take_succ_cons, List.take_zero, h2]
theorem run_sub (s : ByteArray) (k : Nat) (b : UInt8) (h : s.data.toList[k]? = some b) (W : World) :
    (Instr.sliceAt 9 (.string s) (some (.int .i64 (k : Int))) (some (.int .i64 ((k : Int) + 1))) none).run Try.prog W = .ok (.string ⟨#[b]⟩) W := by
  have h1 : k < s.size := (List.getElem?_eq_some_iff.1 h).1
  rw [run_sliceAt_string W _ _ _ _ _ (by kernel_rfl)]
  rw [run_slice_string W _ s _ _ _ _ (by kernel_rfl) (by omega) (by omega) (by omega), Int.toNat_natCast, show ((k : Int) + 1).toNat = k + 1 by omega, extract_one h]
/-- A row of bools that tells fx. -/
def BoolsRow (W : World) (g N : Nat) (fx : Nat → Bool) : Prop := ∃ cur, W.heap[g]? = some (.cells cur 4 (0, 0)) ∧ ∀ k, k < N → cur[k]? = some (.bool (fx k))
theorem BoolsRow.bools {W : World} {g N : Nat} {fx : Nat → Bool} (h : BoolsRow W g N fx) : BoolsAt W g N fx := by
  obtain ⟨cur, h1, h2⟩ := h
  exact ⟨lt_of_block h1, fun k hk => by rw [cell_of_row _ _ _ _ _ _ h1]; exact h2 k hk⟩
theorem BoolsRow.free {W : World} {g N c : Nat} {fx : Nat → Bool} (h : BoolsRow W g N fx) : W.frozen? ⟨g, c, none⟩ = false := by
  obtain ⟨cur, h1, _⟩ := h
  exact frozen_of_row _ _ _ _ _ h1
theorem BoolsRow.fix {W : World} {g N c : Nat} {fx : Nat → Bool} (h : BoolsRow W g N fx) (hc : c < N) : BoolsRow (W.setCell ⟨g, c, none⟩ (.bool true)) g N (fixC fx c) := by
  obtain ⟨cur, h1, h2⟩ := h
  refine ⟨_, heap_setCell_same _ _ _ _ _ _ h1, fun k hk => ?_⟩
  have hl := (Array.getElem?_eq_some_iff.1 (h2 k hk)).1
  rw [Array.getElem?_setIfInBounds]
  unfold fixC
  by_cases e : k = c
  · subst e
    rw [if_pos rfl, if_pos hl, if_pos rfl]
  · rw [if_neg (fun e2 => e e2.symm), if_neg e]
    exact h2 k hk
section
variable {ops : Array Oper} {rest : List Oper} {o : Oper} {a : Act} {w : World} {Q : Exit → Act → World → Prop}
theorem wpList_appendBools (hgd : o.guard = none) (s x : Operand) (ho : o.op = .call { callee := .builtin .append, args := #[s, x], argTypes := #[96, 96] })
    (base h0 : Nat) (hs : a.eval s = .slice (some ⟨h0, 0, none⟩) 0 0) (hown : w.ownsRow base 4 1 (.slice (some ⟨h0, 0, none⟩) 0 0) 0 []) (g c N : Nat) (fx : Nat → Bool) (hx : a.eval x = .slice (some ⟨g, 0, none⟩) N c) (hB : BoolsAt w g N fx) (hN : 1 ≤ N) (hN2 : N ≤ 1000) (hbase : base ≤ w.heap.size)
    (hk : ∀ g' c' w', BoolsRow w' g' N fx → base ≤ g' → w.grownBy w' (some h0) → wpList Try.prog ops Q rest (a.put o.dst (.slice (some ⟨g', 0, none⟩) N c')) w') : wpList Try.prog ops Q (o :: rest) a w := by
  obtain ⟨i0, hi, hz0, hz1, hz2⟩ := info_parts Try.info_bool
  refine wpList_append_own_at w hgd s x 96 ho base 4 i0 (.bool false) 1 1 Try.underlying96 hi hz0 hz1 hz2 rfl (by decide) (.slice (some ⟨h0, 0, none⟩) 0 0) 0 [] hs hown ⟨g, 0, none⟩ N c (boolV fx N) hx (by simp [boolV]) ?_ ?_ (by unfold maxLen; omega) (by omega) hbase ?_
  · intro j u hj
    rw [Addr.add_mid, Nat.zero_add]
    have hjN : j < N := by have := (List.getElem?_eq_some_iff.1 hj).1; simpa [boolV] using this
    rw [hB.2 j hjN]
    simpa [boolV, hjN] using hj
  · intro u hu
    unfold boolV at hu
    obtain ⟨k, _, rfl⟩ := List.mem_map.1 hu
    rfl
  · intro v' w' h1 h2 h3 h4
    rw [Nat.zero_add, List.nil_append] at h1
    rcases h1.2 with ⟨_, h0'⟩ | ⟨g', cap, cur, rfl, hb, hg, _, _, hsz, ht⟩
    · omega
    · refine hk g' cap w' ⟨cur, hg, fun k hk' => ?_⟩ hb h2
      have e : (boolV fx N)[k]? = some (.bool (fx k)) := by simp [boolV, hk']
      rw [← ht, List.getElem?_take_of_lt (by omega)] at e
      rw [← Array.getElem?_toList]
      exact e
end

/-- What l9Go is handed. -/
structure GoAt (n m : Nat) (ss : List ByteArray) (fx : Nat → Bool) (A : Option Addr) (fb B : Nat) (w : World) : Prop where
  s : Strs w B A ss
  b : B ≤ w.heap.size
  g : IsGrid n m ss
  f : BoolsAt w fb (n * m) fx
/-- What l9Go comes to. -/
def GoEnd (n m q f cost bound : Nat) (ls : List UInt8) (fx : Nat → Bool) (x : Wy) (w : World) (e : Ending) (w' : World) : Prop :=
  e = .returned (.int .i64 ((min bound (cost + aimA 1000 n m q (f + 1) ls fx x) : Nat) : Int)) ∧ Below w.heap.size w w'

set_option maxRecDepth 100000 in
set_option maxHeartbeats 4000000 in
theorem l9Go_out (n m q : Nat) (f : Nat) (ss : List ByteArray) (fx : Nat → Bool) (t : Int → Int → UInt8) (y : Wy) (cost bound c fc fb B : Nat) (A : Option Addr) (w : World) (h : GoAt n m ss fx A fb B w) (hd : y.d < 4) (hi : inG n m y) (ho : ¬ inG n m (nxt t y)) (hc : cost ≤ 100) (hb : bound ≤ 100) :
    Calls Try.prog 106 #[.slice A ss.length c, .slice (some ⟨fb, 0, none⟩) (n * m) fc, .int .i64 (nxt t y).i, .int .i64 (nxt t y).k, .int .i64 (((nxt t y).d : Nat) : Int), .int .i64 (q : Int), .int .i64 (cost : Int), .int .i64 (bound : Int)] w (GoEnd n m q f cost bound (flat ss) fx (nxt t y) w) := by
  obtain ⟨b0, off, s0, rfl, hb0, hk0, hc0⟩ := h.s.at_ (k := 0) (by have := h.g.1; have := h.g.2.1; omega)
  rw [Nat.add_zero] at hc0
  have hm0 : s0.size = m := (h.g.2.2.2.2.2 s0 (List.mem_of_getElem? hk0)).1
  have hmi : ((s0.size : Nat) : Int) = (m : Int) := by rw [hm0]
  have hni : ((ss.length : Nat) : Int) = (n : Int) := by rw [h.g.1]
  have hl0 : 0 < ss.length := by have := h.g.1; have := h.g.2.1; omega
  have HLV := hid (fun W => l2Leave_out n m t y hd hi ho h.g.2.2.1 h.g.2.2.2.2.1 W)
  have hpos := (leav_entr (t := t) hd hi ho).1
  have HA := hid (show aimA 1000 n m q (f + 1) (flat ss) fx (nxt t y) = if leav n m (nxt t y) = (q : Int) then 0 else 1000 by rw [aimA, if_neg ho])
  clear h hk0 hm0 hb0
  generalize nxt t y = x at *
  generalize leav n m x = lv at *
  go_enter Try.func106, Try.ntmps106
  go_wp2_with fail
  refine (HLV.out _).mono ?_
  rintro e w' ⟨rfl, rfl⟩
  by_cases hqq : lv = (q : Int)
  · have HV := hid (HA.out.trans (if_pos hqq))
    subst hqq
    go_wp2_with fail
    all_goals
      go_ret
      exact ⟨by rw [HV.out]; show Ending.returned (.int .i64 _) = _; congr 2; omega, Below.refl _ _⟩
  · have HV := hid (HA.out.trans (if_neg hqq))
    go_wp2_with fail
    go_ret
    exact ⟨by rw [HV.out]; show Ending.returned (.int .i64 _) = _; congr 2; omega, Below.refl _ _⟩

/-- The letters that are tried, and what one of them costs. -/
def bS (t : Nat) : UInt8 := if t = 0 then 46 else if t = 1 then 114 else 102
def costG (n m q f cc cost : Nat) (b : UInt8) (ls : List UInt8) (fx : Nat → Bool) (x : Wy) (bt : UInt8) : Nat :=
  cost + ((if b = bt then 0 else 1) + aimA 1000 n m q (f + 1) (ls.set cc bt) (fixC fx cc) (nxt (lett m (ls.set cc bt)) x))
theorem fixC_same {fx : Nat → Bool} {c : Nat} (h : fx c = true) : fixC fx c = fx := by
  funext k
  unfold fixC
  by_cases e : k = c
  · rw [if_pos e, e, h]
  · rw [if_neg e]
theorem go_one {n m q f cost bound : Nat} {ls : List UInt8} {fx : Nat → Bool} {x : Wy} {b : UInt8} (hin : inG n m x) (hf : fx (cellN m x) = true) (hb : ls[cellN m x]? = some b) :
    min bound (cost + aimA 1000 n m q (f + 1 + 1) ls fx x) = bndTo bound (fun _ => costG n m q f (cellN m x) cost b ls fx x b) 1 := by
  obtain ⟨h1, h2⟩ := List.getElem?_eq_some_iff.1 hb
  have hs : ls.set (cellN m x) b = ls := by rw [← h2, List.set_getElem_self]
  rw [aimA, if_pos hin, if_pos hf]
  show _ = min bound (costG n m q f (cellN m x) cost b ls fx x b)
  unfold costG
  rw [if_pos rfl, hs, fixC_same hf, Nat.zero_add]
theorem go_three {n m q f cost bound : Nat} {ls : List UInt8} {fx : Nat → Bool} {x : Wy} {b : UInt8} (hin : inG n m x) (hf : fx (cellN m x) = false) (hb : ls.getD (cellN m x) 0 = b) (hbd : bound ≤ 100) :
    min bound (cost + aimA 1000 n m q (f + 1 + 1) ls fx x) = bndTo bound (fun t => costG n m q f (cellN m x) cost b ls fx x (bS t)) 3 := by
  rw [aimA, if_pos hin, if_neg (by rw [hf]; decide), hb]
  show _ = min (min (min bound (costG n m q f (cellN m x) cost b ls fx x 46)) (costG n m q f (cellN m x) cost b ls fx x 114)) (costG n m q f (cellN m x) cost b ls fx x 102)
  unfold costG
  omega

set_option maxRecDepth 100000 in
set_option maxHeartbeats 8000000 in
theorem l9Go_any (n m q : Nat) (hn1 : 1 ≤ n) (hn5 : n ≤ 5) (hm1 : 1 ≤ m) (hm5 : m ≤ 5) : ∀ (f : Nat) (ss : List ByteArray) (fx : Nat → Bool) (x : Wy) (cost bound c fc fb B : Nat) (A : Option Addr) (w : World), GoAt n m ss fx A fb B w → aimD n m f (flat ss) fx x → x.d < 4 → (inG n m x ∨ ∃ (t : Int → Int → UInt8) (y : Wy), y.d < 4 ∧ inG n m y ∧ ¬ inG n m (nxt t y) ∧ x = nxt t y) → cost ≤ 100 → bound ≤ 100 →
    Calls Try.prog 106 #[.slice A ss.length c, .slice (some ⟨fb, 0, none⟩) (n * m) fc, .int .i64 x.i, .int .i64 x.k, .int .i64 ((x.d : Nat) : Int), .int .i64 (q : Int), .int .i64 (cost : Int), .int .i64 (bound : Int)] w (GoEnd n m q f cost bound (flat ss) fx x w) := by
  intro f
  induction f with
  | zero =>
    intro ss fx x cost bound c fc fb B A w h hD hd hx hc hb
    rcases hx with hx | ⟨t, y, h1, h2, h3, rfl⟩
    · exact absurd hx hD
    · exact l9Go_out n m q 0 ss fx t y cost bound c fc fb B A w h h1 h2 h3 hc hb
  | succ f ih =>
    intro ss fx x cost bound c fc fb B A w h hD hd hx hc hb
    rcases hx with hin | ⟨t, y, h1, h2, h3, rfl⟩
    rotate_left
    · exact l9Go_out n m q (f + 1) ss fx t y cost bound c fc fb B A w h h1 h2 h3 hc hb
    have HIH := hid ih
    have HH := hid h
    have HIN := hid hin
    obtain ⟨hi0, hi1, hk0, hk1⟩ := hin
    obtain ⟨xi, xk, xd⟩ := x
    simp only at *
    obtain ⟨i, rfl⟩ := Int.eq_ofNat_of_zero_le hi0
    obtain ⟨j, rfl⟩ := Int.eq_ofNat_of_zero_le hk0
    have hin' : i < n := by omega
    have hjm : j < m := by omega
    obtain ⟨b0, off, s0, rfl, hb0, hk00, hc0⟩ := h.s.at_ (k := 0) (by have := h.g.1; omega)
    rw [Nat.add_zero] at hc0
    have hm0 : s0.size = m := (h.g.2.2.2.2.2 s0 (List.mem_of_getElem? hk00)).1
    have hmi : ((s0.size : Nat) : Int) = (m : Int) := by rw [hm0]
    have hni : ((ss.length : Nat) : Int) = (n : Int) := by rw [h.g.1]
    have hl0 : 0 < ss.length := by have := h.g.1; omega
    obtain ⟨b1, off1, sr, hA, hb1, hkr, hcr⟩ := h.s.at_ (k := i) (by have := h.g.1; omega)
    cases hA
    have hsm : sr.size = m := (h.g.2.2.2.2.2 sr (List.mem_of_getElem? hkr)).1
    obtain ⟨cc, hcc⟩ : ∃ cc, i * m + j = cc := ⟨_, rfl⟩
    have hcN : cc < n * m := by rw [← hcc]; exact parts_lt hin' hjm
    have hcell : cellN m ⟨(i : Int), (j : Int), xd⟩ = cc := by rw [← hcc]; simp [cellN]
    obtain ⟨b, hb'⟩ : ∃ b, (flat ss)[cc]? = some b := ⟨_, List.getElem?_eq_getElem (by rw [h.g.flen]; exact hcN)⟩
    have hbt : sr.data.toList[j]? = some b := by
      have e := flat_at ss i j sr (fun i t _ ht => (h.g.2.2.2.2.2 t (List.mem_of_getElem? ht)).1) hkr (by rw [hsm]; exact hjm)
      rw [hcc, hb'] at e
      exact e.symm
    have hbl : isLet b = true := (h.g.2.2.2.2.2 sr (List.mem_of_getElem? hkr)).2 b (List.mem_of_getElem? hbt)
    have hbd : (flat ss).getD cc 0 = b := by rw [List.getD_eq_getElem?_getD, hb']; rfl
    have hjs : j < sr.size := by rw [hsm]; exact hjm
    have hbyte : sr[j] = b := byte_of hbt hjs
    have hji : (j : Int) < ((sr.size : Nat) : Int) := by omega
    have hii : (i : Int) < ((ss.length : Nat) : Int) := by rw [hni]; omega
    have himj : (i : Int) * (m : Int) + (j : Int) = (cc : Int) := by rw [← hcc, Int.natCast_add, Int.natCast_mul]
    have hcci : (cc : Int) < ((n * m : Nat) : Int) := by omega
    have hcc0 : (0 : Int) ≤ (cc : Int) := by omega
    have him : (i : Int) * (m : Int) ≤ 25 ∧ 0 ≤ (i : Int) * (m : Int) := by
      have h1 : i * m ≤ 5 * 5 := Nat.mul_le_mul (by omega) hm5
      have h2 : ((i * m : Nat) : Int) = (i : Int) * (m : Int) := Int.natCast_mul i m
      omega
    have hfc := h.f.2 cc hcN
    have hsub := run_sub sr j b hbt
    have HLI := hid (fun W => l2Leave_in n m ⟨(i : Int), (j : Int), xd⟩ HIN.out W)
    have HDX := hid (hD HIN.out)
    rw [hcell] at HDX
    have HBYT := hid hbyte
    have HBD := hid hbd
    have HCE := hid hcell
    have HCC := hid (And.intro hcN hcc)
    have HBL := hid hbl
    have HFB := hid hb'
    have HBTL := hid hbt
    have HKR := hid hkr
    obtain ⟨him1, him2⟩ := him
    clear h hD hk00 hm0 hb0 hb1 hkr hbt hbd hcell hcc hb' hbl hsm ih
    go_enter Try.func106, Try.ntmps106
    go_wp2_with fail
    refine (HLI.out _).mono ?_
    rintro e w' ⟨rfl, rfl⟩
    cases hfx : fx cc with
    | true =>
      rw [hfx] at hfc
      go_wp2_with fail
      have HAO := hid (go_one (n := n) (m := m) (q := q) (f := f) (cost := cost) (bound := bound) (x := ⟨(i : Int), (j : Int), xd⟩) (fx := fx) (ls := flat ss) (b := b) HIN.out (by rw [HCE.out, hfx]) (by rw [HCE.out, HFB.out]))
      rw [HCE.out] at HAO
      obtain ⟨lf, hlf⟩ : ∃ lf : Nat → UInt8, (fun _ : Nat => b) = lf := ⟨_, rfl⟩
      have HLET := hid (show ∀ t : Nat, t < 1 → isLet (lf t) = true from fun t _ => by rw [← hlf]; exact HBL.out)
      have HAD := hid (show ∀ t : Nat, t < 1 → aimD n m f ((flat ss).set cc (lf t)) (fixC fx cc) (nxt (lett m ((flat ss).set cc (lf t))) ⟨(i : Int), (j : Int), xd⟩) from fun t _ => by
        rw [← hlf]
        show aimD n m f ((flat ss).set cc b) (fixC fx cc) (nxt (lett m ((flat ss).set cc b)) ⟨(i : Int), (j : Int), xd⟩)
        obtain ⟨h1, h2⟩ := List.getElem?_eq_some_iff.1 HFB.out
        rw [show (flat ss).set cc b = flat ss by rw [← h2, List.set_getElem_self], fixC_same hfx]
        exact HDX.out.1 hfx)
      have HHB := hid hb
      obtain ⟨lt, hlt⟩ : ∃ lt : ByteArray, (⟨#[b]⟩ : ByteArray) = lt := ⟨_, rfl⟩
      have hts : lt.size = 1 := by rw [← hlt]; rfl
      have HIX := hid (show ∀ t, t < 1 → ∀ h : t < lt.size, lt[t] = lf t from fun t ht h => by
        subst hlt
        subst hlf
        obtain rfl : t = 0 := by omega
        rfl)
      rw [hlt]
      clear hlt
      obtain ⟨ct, hct⟩ : ∃ ct : Nat → Nat, (fun t => costG n m q f cc cost b (flat ss) fx ⟨(i : Int), (j : Int), xd⟩ (lf t)) = ct := ⟨_, rfl⟩
      have hct2 := hct
      rw [← hlf] at hct2
      rw [hct2] at HAO
      clear hct2 hlf
      have HCT := hid (fun t => congrFun hct t)
      have HCG := hid (fun t : Nat => show costG n m q f cc cost b (flat ss) fx ⟨(i : Int), (j : Int), xd⟩ (lf t) = cost + ((if b = lf t then 0 else 1) + aimA 1000 n m q (f + 1) ((flat ss).set cc (lf t)) (fixC fx cc) (nxt (lett m ((flat ss).set cc (lf t))) ⟨(i : Int), (j : Int), xd⟩)) from rfl)
      clear hct hfc
      have HBL2 := hid (bndTo_le bound ct)
      have HB0 := hid (show bndTo bound ct 0 = bound from rfl)
      have HST := hid (fun t => show bndTo bound ct (t + 1) = min (bndTo bound ct t) (ct t) from rfl)
      go_loopw [7, 22, 23, 24, 25, 26, 27] (fun (bv xv _ _ _ _ _ : Value) (wr : World) => ∃ t : Nat, t ≤ 1 ∧ xv = .int .i64 t ∧ bv = .int .i64 ((bndTo bound ct t : Nat) : Int) ∧ Below w.heap.size w wr) (fun _ xv _ _ _ _ _ _ => 1 - (intOf xv).toNat)
      case atStart => exact ⟨0, by omega, rfl, by rw [HB0.out], Below.refl _ _⟩
      case round =>
        obtain ⟨t, ht, rfl, rfl, hbel⟩ := hrel
        have HBR := hid hbel
        clear hbel hcr hc0
        obtain ⟨bv, hbv⟩ : ∃ bv, bndTo bound ct t = bv := ⟨_, rfl⟩
        have hbv100 : bv ≤ 100 := by rw [← hbv]; exact Nat.le_trans (HBL2.out t) HHB.out
        have HBV := hid hbv
        rw [hbv]
        clear hbv
        have hsz := HBR.out.size
        have HSR := hid (HH.out.s.below HBR.out HH.out.b)
        have HFR := hid (HH.out.f.below HBR.out)
        have hcr := (HSR.out.at_ (k := i) (by omega))
        obtain ⟨b2, off2, s2, hA2, _, hk2, hcr⟩ := hcr
        obtain ⟨rfl, rfl⟩ : b0 = b2 ∧ off = off2 := by cases hA2; exact ⟨rfl, rfl⟩
        obtain rfl : sr = s2 := by rw [HKR.out] at hk2; cases hk2; rfl
        clear hA2 hk2
        by_cases hlt3 : t < 1
        · have hti : (t : Int) < ((lt.size : Nat) : Int) := by omega
          have htl : t < lt.size := by omega
          have ht0 : (0 : Int) ≤ (t : Int) := by omega
          obtain ⟨bt, hbt⟩ : ∃ bt, lf t = bt := ⟨_, rfl⟩
          have hbx : lt[t] = bt := by rw [HIX.out t hlt3 htl, hbt]
          have HLT := hid (show isLet bt = true by rw [← hbt]; exact HLET.out t hlt3)
          have hcg := HCG.out t
          have had := HAD.out t hlt3
          have hcx := HCT.out t
          have hst := HST.out t
          rw [hbt] at hcg had
          simp only [hbt] at hcx
          rw [HBV.out] at hst
          rw [← hcx, hcg] at hst
          have HAD2 := hid had
          clear hcg had hcx hbt
          have hcell2 : lett m ((flat ss).set cc bt) (i : Int) (j : Int) = bt := by
            have := lett_cellN (ls := (flat ss).set cc bt) HIN.out
            rw [HCE.out, List.getD_eq_getElem?_getD, List.getElem?_set_self (by rw [HH.out.g.flen]; exact HCC.out.1)] at this
            exact this
          have hnx : nxt (lett m ((flat ss).set cc bt)) ⟨(i : Int), (j : Int), xd⟩ = ⟨stepI (i : Int) (bend bt xd), stepK (j : Int) (bend bt xd), bend bt xd⟩ := by
            show (⟨stepI (i : Int) (bend (lett m ((flat ss).set cc bt) (i : Int) (j : Int)) xd), stepK (j : Int) (bend (lett m ((flat ss).set cc bt) (i : Int) (j : Int)) xd), bend (lett m ((flat ss).set cc bt) (i : Int) (j : Int)) xd⟩ : Wy) = _
            rw [hcell2]
          rw [hnx] at hst
          have HNX := hid hnx
          clear hnx
          have hbe := bend_lt bt hd
          have HBE := hid (fun W => l2Bend_any bt xd hd W)
          have HSP := hid (fun W => l2Step_any (i : Int) (j : Int) (bend bt xd) hbe ⟨by omega, by omega⟩ ⟨by omega, by omega⟩ W)
          obtain ⟨pg1, pg2⟩ := put_grid HH.out.g HCC.out.1 HLT.out
          have hfl2 : flat (textsOf n m ((pad (flat ss)).set cc bt)) = (flat ss).set cc bt := by
            rw [pad_set_in (by rw [HH.out.g.flen]; exact HCC.out.1)]
            exact (flat_texts hm1 (by rw [List.length_set, HH.out.g.flen])).1
          have HPG := hid pg1
          have HFL := hid hfl2
          have HLN := hid (show (textsOf n m ((pad (flat ss)).set cc bt)).length = ss.length by rw [textsOf_length, HH.out.g.1])
          clear pg1 pg2 hfl2 hcell2
          have HNM := hid (show 1 ≤ n * m ∧ n * m ≤ 25 from ⟨Nat.mul_le_mul hn1 hm1, Nat.mul_le_mul hn5 hm5⟩)
          have hbxi : ∀ h : t < lt.size, lt[t] = bt := fun _ => hbx
          clear hsz
          obtain ⟨av, hav⟩ : ∃ av, aimA 1000 n m q (f + 1) ((flat ss).set cc bt) (fixC fx cc) ⟨stepI (i : Int) (bend bt xd), stepK (j : Int) (bend bt xd), bend bt xd⟩ = av := ⟨_, rfl⟩
          rw [hav] at hst
          have HAV := hid hav
          clear hav
          by_cases hbk : b = bt
          · obtain rfl := hbk
            rw [if_pos rfl] at hst
            have HBND := hid hst
            by_cases hlo : bv ≤ cost + 0
            · have hlo' : (cost : Int) ≥ (bv : Int) := by omega
              go_wp2_with fail
              go_quiet (fail)
              go_wp2_with fail
              refine ⟨⟨t + 1, by omega, by go_num, ?_, below_drewN' HBR.out _⟩, ?_⟩
              · rw [HBND.out, Nat.min_eq_left (by omega)]
              · simp [intOf]
                omega
            · have hlo' : ¬ (cost : Int) ≥ (bv : Int) := by omega
              have HIX2 := hid (show ∀ (g1 c1 g3 c3 : Nat) (w3 : World), Row9 w3 g3 (textsOf n m ((pad (flat ss)).set cc b)) → BoolsAt w3 g1 (n * m) (fixC fx cc) →
                Calls Try.prog 106 #[.slice (some ⟨g3, 0, none⟩) ss.length c3, .slice (some ⟨g1, 0, none⟩) (n * m) c1, .int .i64 (stepI (i : Int) (bend b xd)), .int .i64 (stepK (j : Int) (bend b xd)), .int .i64 ((bend b xd : Nat) : Int), .int .i64 (q : Int), .int .i64 (cost : Int), .int .i64 (bv : Int)] w3 fun e w' => e = .returned (.int .i64 ((bndTo bound ct (t + 1) : Nat) : Int)) ∧ Below w3.heap.size w3 w' from fun g1 c1 g3 c3 w3 h1 h2 => by
                have h3 := HIH.out (textsOf n m ((pad (flat ss)).set cc b)) (fixC fx cc) ⟨stepI (i : Int) (bend b xd), stepK (j : Int) (bend b xd), bend b xd⟩ (cost + 0) bv c3 c1 g1 w3.heap.size (some ⟨g3, 0, none⟩) w3 ⟨h1.strs h1.lt, Nat.le_refl _, HPG.out, h2⟩ (by rw [HFL.out, ← HNX.out]; exact HAD2.out) (bend_lt _ hd) (by
                  by_cases hin2 : inG n m ⟨stepI (i : Int) (bend b xd), stepK (j : Int) (bend b xd), bend b xd⟩
                  · exact .inl hin2
                  · exact .inr ⟨lett m ((flat ss).set cc b), ⟨(i : Int), (j : Int), xd⟩, hd, HIN.out, by rw [HNX.out]; exact hin2, HNX.out.symm⟩) (by omega) hbv100
                rw [HLN.out] at h3
                refine h3.mono fun e w' h4 => ⟨?_, h4.2⟩
                rw [h4.1, HFL.out, HAV.out, HBND.out]
                congr 4
                omega)
              clear hst
              go_wp2_with fail
              go_quiet (fail)
              obtain ⟨wq, hwq⟩ : ∃ wq, wr.drewN nq = wq := ⟨_, rfl⟩
              have hbq : Below w.heap.size w wq := by rw [← hwq]; exact below_drewN' HBR.out _
              rw [hwq]
              have HBQ := hid hbq
              have hszq := HBQ.out.size
              clear hbq hcr hwq HSR HFR
              obtain ⟨b2, off2, s2, hA2, _, hk2, hcr⟩ := (HH.out.s.below HBQ.out HH.out.b).at_ (k := i) (by omega)
              obtain ⟨rfl, rfl⟩ : b0 = b2 ∧ off = off2 := by cases hA2; exact ⟨rfl, rfl⟩
              obtain rfl : sr = s2 := by rw [HKR.out] at hk2; cases hk2; rfl
              clear hA2 hk2
              have HNR := hid (show (wq.alloc (.cells #[] 4)).ownsRow w.heap.size 4 1 (.slice (some ⟨wq.heap.size, 0, none⟩) 0 0) 0 [] from ⟨rfl, .inr ⟨wq.heap.size, 0, #[], rfl, hszq, heap_new0 wq _, Nat.le_refl _, by unfold maxLen; omega, rfl, rfl⟩⟩)
              have HFA := hid ((HH.out.f.below HBQ.out).below ((Below.refl _ wq).alloc (Nat.le_refl _) (.cells #[] 4)))
              have HWR := hid (show w.heap.size ≤ (wq.alloc (.cells #[] 4)).heap.size by simp; omega)
              have HBW := hid (HBQ.out.alloc hszq (.cells #[] 4))
              clear hszq
              go_wp2_with (at_builtin; refine wpList_appendBools rfl _ _ rfl w.heap.size wq.heap.size rfl HNR.out fb fc (n * m) fx rfl HFA.out HNM.out.1 (Nat.le_trans HNM.out.2 (by decide)) HWR.out ?_)
              intro g1 c1 w1 hrow hg1 hgw
              have hb1 : Below w.heap.size w w1 := HBW.out.grown hgw HBW.out.size (fun k e => by cases e; exact HBQ.out.size)
              have HROW := hid hrow
              have HB1 := hid hb1
              have HG1 := hid hg1
              have hcl := hrow.bools.2 cc HCC.out.1
              have hfz := hrow.free (c := cc)
              clear hrow hgw hb1 hg1
              go_wp2_with fail
              obtain ⟨w2, hw2⟩ : ∃ w2, w1.setCell ⟨g1, cc, none⟩ (.bool true) = w2 := ⟨_, rfl⟩
              have hb2 : Below w.heap.size w w2 := by rw [← hw2]; exact HB1.out.setCell HG1.out _
              have hr2 : BoolsRow w2 g1 (n * m) (fixC fx cc) := by rw [← hw2]; exact HROW.out.fix HCC.out.1
              rw [hw2]
              have HB2 := hid hb2
              have HR2 := hid hr2.bools
              clear hb2 hr2 hw2 hcl hfz
              refine (HBE.out _).mono ?_
              rintro e w' ⟨rfl, rfl⟩
              go_wp2_with fail
              refine (HSP.out _).mono ?_
              rintro e w' ⟨rfl, rfl⟩
              go_wp2_with fail
              refine (l1Put_any b0 off _ B n m cc ss b w2 (HH.out.s.below HB2.out HH.out.b) (Nat.le_trans HH.out.b HB2.out.size) HH.out.g HCC.out.1).mono ?_
              rintro e w3 ⟨⟨g3, c3, rfl, hrw⟩, hb3⟩
              have HIHX := hid (HIX2.out g1 c1 g3 c3 w3 hrw (HR2.out.below hb3))
              have HB3 := hid (HB2.out.trans (hb3.mono HB2.out.size))
              clear hrw hb3
              go_wp2_with fail
              refine HIHX.out.mono ?_
              rintro e w4 ⟨rfl, hb4⟩
              have HB4 := hid (HB3.out.trans (hb4.mono HB3.out.size))
              clear hb4
              go_wp2_with fail
              refine ⟨⟨t + 1, by omega, by go_num, rfl, HB4.out⟩, ?_⟩
              simp [intOf]
              omega
          · have hbi : ¬ (((bt.toNat : Nat) : Int) = ((b.toNat : Nat) : Int)) := fun e => hbk (UInt8.toNat_inj.1 (by omega))
            rw [if_neg hbk] at hst
            have HBND := hid hst
            by_cases hlo : bv ≤ cost + 1
            · have hlo' : ((cost : Int) + 1) ≥ (bv : Int) := by omega
              go_wp2_with fail
              go_quiet (fail)
              go_wp2_with fail
              refine ⟨⟨t + 1, by omega, by go_num, ?_, below_drewN' HBR.out _⟩, ?_⟩
              · rw [HBND.out, Nat.min_eq_left (by omega)]
              · simp [intOf]
                omega
            · have hlo' : ¬ ((cost : Int) + 1) ≥ (bv : Int) := by omega
              have HIX2 := hid (show ∀ (g1 c1 g3 c3 : Nat) (w3 : World), Row9 w3 g3 (textsOf n m ((pad (flat ss)).set cc bt)) → BoolsAt w3 g1 (n * m) (fixC fx cc) →
                Calls Try.prog 106 #[.slice (some ⟨g3, 0, none⟩) ss.length c3, .slice (some ⟨g1, 0, none⟩) (n * m) c1, .int .i64 (stepI (i : Int) (bend bt xd)), .int .i64 (stepK (j : Int) (bend bt xd)), .int .i64 ((bend bt xd : Nat) : Int), .int .i64 (q : Int), .int .i64 ((cost : Int) + 1), .int .i64 (bv : Int)] w3 fun e w' => e = .returned (.int .i64 ((bndTo bound ct (t + 1) : Nat) : Int)) ∧ Below w3.heap.size w3 w' from fun g1 c1 g3 c3 w3 h1 h2 => by
                have h3 := HIH.out (textsOf n m ((pad (flat ss)).set cc bt)) (fixC fx cc) ⟨stepI (i : Int) (bend bt xd), stepK (j : Int) (bend bt xd), bend bt xd⟩ (cost + 1) bv c3 c1 g1 w3.heap.size (some ⟨g3, 0, none⟩) w3 ⟨h1.strs h1.lt, Nat.le_refl _, HPG.out, h2⟩ (by rw [HFL.out, ← HNX.out]; exact HAD2.out) (bend_lt _ hd) (by
                  by_cases hin2 : inG n m ⟨stepI (i : Int) (bend bt xd), stepK (j : Int) (bend bt xd), bend bt xd⟩
                  · exact .inl hin2
                  · exact .inr ⟨lett m ((flat ss).set cc bt), ⟨(i : Int), (j : Int), xd⟩, hd, HIN.out, by rw [HNX.out]; exact hin2, HNX.out.symm⟩) (by omega) hbv100
                rw [HLN.out] at h3
                refine h3.mono fun e w' h4 => ⟨?_, h4.2⟩
                rw [h4.1, HFL.out, HAV.out, HBND.out]
                congr 4
                omega)
              clear hst
              go_wp2_with fail
              go_quiet (fail)
              obtain ⟨wq, hwq⟩ : ∃ wq, wr.drewN nq = wq := ⟨_, rfl⟩
              have hbq : Below w.heap.size w wq := by rw [← hwq]; exact below_drewN' HBR.out _
              rw [hwq]
              have HBQ := hid hbq
              have hszq := HBQ.out.size
              clear hbq hcr hwq HSR HFR
              obtain ⟨b2, off2, s2, hA2, _, hk2, hcr⟩ := (HH.out.s.below HBQ.out HH.out.b).at_ (k := i) (by omega)
              obtain ⟨rfl, rfl⟩ : b0 = b2 ∧ off = off2 := by cases hA2; exact ⟨rfl, rfl⟩
              obtain rfl : sr = s2 := by rw [HKR.out] at hk2; cases hk2; rfl
              clear hA2 hk2
              have HNR := hid (show (wq.alloc (.cells #[] 4)).ownsRow w.heap.size 4 1 (.slice (some ⟨wq.heap.size, 0, none⟩) 0 0) 0 [] from ⟨rfl, .inr ⟨wq.heap.size, 0, #[], rfl, hszq, heap_new0 wq _, Nat.le_refl _, by unfold maxLen; omega, rfl, rfl⟩⟩)
              have HFA := hid ((HH.out.f.below HBQ.out).below ((Below.refl _ wq).alloc (Nat.le_refl _) (.cells #[] 4)))
              have HWR := hid (show w.heap.size ≤ (wq.alloc (.cells #[] 4)).heap.size by simp; omega)
              have HBW := hid (HBQ.out.alloc hszq (.cells #[] 4))
              clear hszq
              go_wp2_with (at_builtin; refine wpList_appendBools rfl _ _ rfl w.heap.size wq.heap.size rfl HNR.out fb fc (n * m) fx rfl HFA.out HNM.out.1 (Nat.le_trans HNM.out.2 (by decide)) HWR.out ?_)
              intro g1 c1 w1 hrow hg1 hgw
              have hb1 : Below w.heap.size w w1 := HBW.out.grown hgw HBW.out.size (fun k e => by cases e; exact HBQ.out.size)
              have HROW := hid hrow
              have HB1 := hid hb1
              have HG1 := hid hg1
              have hcl := hrow.bools.2 cc HCC.out.1
              have hfz := hrow.free (c := cc)
              clear hrow hgw hb1 hg1
              go_wp2_with fail
              obtain ⟨w2, hw2⟩ : ∃ w2, w1.setCell ⟨g1, cc, none⟩ (.bool true) = w2 := ⟨_, rfl⟩
              have hb2 : Below w.heap.size w w2 := by rw [← hw2]; exact HB1.out.setCell HG1.out _
              have hr2 : BoolsRow w2 g1 (n * m) (fixC fx cc) := by rw [← hw2]; exact HROW.out.fix HCC.out.1
              rw [hw2]
              have HB2 := hid hb2
              have HR2 := hid hr2.bools
              clear hb2 hr2 hw2 hcl hfz
              refine (HBE.out _).mono ?_
              rintro e w' ⟨rfl, rfl⟩
              go_wp2_with fail
              refine (HSP.out _).mono ?_
              rintro e w' ⟨rfl, rfl⟩
              go_wp2_with fail
              refine (l1Put_any b0 off _ B n m cc ss bt w2 (HH.out.s.below HB2.out HH.out.b) (Nat.le_trans HH.out.b HB2.out.size) HH.out.g HCC.out.1).mono ?_
              rintro e w3 ⟨⟨g3, c3, rfl, hrw⟩, hb3⟩
              have HIHX := hid (HIX2.out g1 c1 g3 c3 w3 hrw (HR2.out.below hb3))
              have HB3 := hid (HB2.out.trans (hb3.mono HB2.out.size))
              clear hrw hb3
              go_wp2_with fail
              refine HIHX.out.mono ?_
              rintro e w4 ⟨rfl, hb4⟩
              have HB4 := hid (HB3.out.trans (hb4.mono HB3.out.size))
              clear hb4
              go_wp2_with fail
              refine ⟨⟨t + 1, by omega, by go_num, rfl, HB4.out⟩, ?_⟩
              simp [intOf]
              omega
        · obtain rfl : t = 1 := by omega
          go_wp2_with fail
          go_ret
          exact ⟨by rw [HAO.out, HBV.out]; rfl, HBR.out⟩
    | false =>
      rw [hfx] at hfc
      go_wp2_with fail
      have HAO := hid (go_three (n := n) (m := m) (q := q) (f := f) (cost := cost) (bound := bound) (x := ⟨(i : Int), (j : Int), xd⟩) (fx := fx) (ls := flat ss) (b := b) HIN.out (by rw [HCE.out, hfx]) (by rw [HCE.out, HBD.out]) hb)
      rw [HCE.out] at HAO
      obtain ⟨lf, hlf⟩ : ∃ lf : Nat → UInt8, bS = lf := ⟨_, rfl⟩
      have HLET := hid (show ∀ t : Nat, t < 3 → isLet (lf t) = true from fun t ht => by
        subst hlf
        have : t = 0 ∨ t = 1 ∨ t = 2 := by omega
        rcases this with rfl | rfl | rfl <;> rfl)
      have HAD := hid (show ∀ t : Nat, t < 3 → aimD n m f ((flat ss).set cc (lf t)) (fixC fx cc) (nxt (lett m ((flat ss).set cc (lf t))) ⟨(i : Int), (j : Int), xd⟩) from fun t _ => HDX.out.2 hfx (lf t))
      have HHB := hid hb
      obtain ⟨lt, hlt⟩ : ∃ lt : ByteArray, (⟨#[46, 114, 102]⟩ : ByteArray) = lt := ⟨_, rfl⟩
      have hts : lt.size = 3 := by rw [← hlt]; rfl
      have HIX := hid (show ∀ t, t < 3 → ∀ h : t < lt.size, lt[t] = lf t from fun t ht h => by
        subst hlt
        subst hlf
        have : t = 0 ∨ t = 1 ∨ t = 2 := by omega
        rcases this with rfl | rfl | rfl <;> rfl)
      rw [hlt]
      clear hlt
      rw [hlf] at HAO
      obtain ⟨ct, hct⟩ : ∃ ct : Nat → Nat, (fun t => costG n m q f cc cost b (flat ss) fx ⟨(i : Int), (j : Int), xd⟩ (lf t)) = ct := ⟨_, rfl⟩
      rw [hct] at HAO
      clear hlf
      have HCT := hid (fun t => congrFun hct t)
      have HCG := hid (fun t : Nat => show costG n m q f cc cost b (flat ss) fx ⟨(i : Int), (j : Int), xd⟩ (lf t) = cost + ((if b = lf t then 0 else 1) + aimA 1000 n m q (f + 1) ((flat ss).set cc (lf t)) (fixC fx cc) (nxt (lett m ((flat ss).set cc (lf t))) ⟨(i : Int), (j : Int), xd⟩)) from rfl)
      clear hct hfc
      have HBL2 := hid (bndTo_le bound ct)
      have HB0 := hid (show bndTo bound ct 0 = bound from rfl)
      have HST := hid (fun t => show bndTo bound ct (t + 1) = min (bndTo bound ct t) (ct t) from rfl)
      go_loopw [7, 22, 23, 24, 25, 26, 27] (fun (bv xv _ _ _ _ _ : Value) (wr : World) => ∃ t : Nat, t ≤ 3 ∧ xv = .int .i64 t ∧ bv = .int .i64 ((bndTo bound ct t : Nat) : Int) ∧ Below w.heap.size w wr) (fun _ xv _ _ _ _ _ _ => 3 - (intOf xv).toNat)
      case atStart => exact ⟨0, by omega, rfl, by rw [HB0.out], Below.refl _ _⟩
      case round =>
        obtain ⟨t, ht, rfl, rfl, hbel⟩ := hrel
        have HBR := hid hbel
        clear hbel hcr hc0
        obtain ⟨bv, hbv⟩ : ∃ bv, bndTo bound ct t = bv := ⟨_, rfl⟩
        have hbv100 : bv ≤ 100 := by rw [← hbv]; exact Nat.le_trans (HBL2.out t) HHB.out
        have HBV := hid hbv
        rw [hbv]
        clear hbv
        have hsz := HBR.out.size
        have HSR := hid (HH.out.s.below HBR.out HH.out.b)
        have HFR := hid (HH.out.f.below HBR.out)
        have hcr := (HSR.out.at_ (k := i) (by omega))
        obtain ⟨b2, off2, s2, hA2, _, hk2, hcr⟩ := hcr
        obtain ⟨rfl, rfl⟩ : b0 = b2 ∧ off = off2 := by cases hA2; exact ⟨rfl, rfl⟩
        obtain rfl : sr = s2 := by rw [HKR.out] at hk2; cases hk2; rfl
        clear hA2 hk2
        by_cases hlt3 : t < 3
        · have hti : (t : Int) < ((lt.size : Nat) : Int) := by omega
          have htl : t < lt.size := by omega
          have ht0 : (0 : Int) ≤ (t : Int) := by omega
          obtain ⟨bt, hbt⟩ : ∃ bt, lf t = bt := ⟨_, rfl⟩
          have hbx : lt[t] = bt := by rw [HIX.out t hlt3 htl, hbt]
          have HLT := hid (show isLet bt = true by rw [← hbt]; exact HLET.out t hlt3)
          have hcg := HCG.out t
          have had := HAD.out t hlt3
          have hcx := HCT.out t
          have hst := HST.out t
          rw [hbt] at hcg had
          simp only [hbt] at hcx
          rw [HBV.out] at hst
          rw [← hcx, hcg] at hst
          have HAD2 := hid had
          clear hcg had hcx hbt
          have hcell2 : lett m ((flat ss).set cc bt) (i : Int) (j : Int) = bt := by
            have := lett_cellN (ls := (flat ss).set cc bt) HIN.out
            rw [HCE.out, List.getD_eq_getElem?_getD, List.getElem?_set_self (by rw [HH.out.g.flen]; exact HCC.out.1)] at this
            exact this
          have hnx : nxt (lett m ((flat ss).set cc bt)) ⟨(i : Int), (j : Int), xd⟩ = ⟨stepI (i : Int) (bend bt xd), stepK (j : Int) (bend bt xd), bend bt xd⟩ := by
            show (⟨stepI (i : Int) (bend (lett m ((flat ss).set cc bt) (i : Int) (j : Int)) xd), stepK (j : Int) (bend (lett m ((flat ss).set cc bt) (i : Int) (j : Int)) xd), bend (lett m ((flat ss).set cc bt) (i : Int) (j : Int)) xd⟩ : Wy) = _
            rw [hcell2]
          rw [hnx] at hst
          have HNX := hid hnx
          clear hnx
          have hbe := bend_lt bt hd
          have HBE := hid (fun W => l2Bend_any bt xd hd W)
          have HSP := hid (fun W => l2Step_any (i : Int) (j : Int) (bend bt xd) hbe ⟨by omega, by omega⟩ ⟨by omega, by omega⟩ W)
          obtain ⟨pg1, pg2⟩ := put_grid HH.out.g HCC.out.1 HLT.out
          have hfl2 : flat (textsOf n m ((pad (flat ss)).set cc bt)) = (flat ss).set cc bt := by
            rw [pad_set_in (by rw [HH.out.g.flen]; exact HCC.out.1)]
            exact (flat_texts hm1 (by rw [List.length_set, HH.out.g.flen])).1
          have HPG := hid pg1
          have HFL := hid hfl2
          have HLN := hid (show (textsOf n m ((pad (flat ss)).set cc bt)).length = ss.length by rw [textsOf_length, HH.out.g.1])
          clear pg1 pg2 hfl2 hcell2
          have HNM := hid (show 1 ≤ n * m ∧ n * m ≤ 25 from ⟨Nat.mul_le_mul hn1 hm1, Nat.mul_le_mul hn5 hm5⟩)
          have hbxi : ∀ h : t < lt.size, lt[t] = bt := fun _ => hbx
          clear hsz
          obtain ⟨av, hav⟩ : ∃ av, aimA 1000 n m q (f + 1) ((flat ss).set cc bt) (fixC fx cc) ⟨stepI (i : Int) (bend bt xd), stepK (j : Int) (bend bt xd), bend bt xd⟩ = av := ⟨_, rfl⟩
          rw [hav] at hst
          have HAV := hid hav
          clear hav
          by_cases hbk : b = bt
          · obtain rfl := hbk
            rw [if_pos rfl] at hst
            have HBND := hid hst
            by_cases hlo : bv ≤ cost + 0
            · have hlo' : (cost : Int) ≥ (bv : Int) := by omega
              go_wp2_with fail
              go_quiet (fail)
              go_wp2_with fail
              refine ⟨⟨t + 1, by omega, by go_num, ?_, below_drewN' HBR.out _⟩, ?_⟩
              · rw [HBND.out, Nat.min_eq_left (by omega)]
              · simp [intOf]
                omega
            · have hlo' : ¬ (cost : Int) ≥ (bv : Int) := by omega
              have HIX2 := hid (show ∀ (g1 c1 g3 c3 : Nat) (w3 : World), Row9 w3 g3 (textsOf n m ((pad (flat ss)).set cc b)) → BoolsAt w3 g1 (n * m) (fixC fx cc) →
                Calls Try.prog 106 #[.slice (some ⟨g3, 0, none⟩) ss.length c3, .slice (some ⟨g1, 0, none⟩) (n * m) c1, .int .i64 (stepI (i : Int) (bend b xd)), .int .i64 (stepK (j : Int) (bend b xd)), .int .i64 ((bend b xd : Nat) : Int), .int .i64 (q : Int), .int .i64 (cost : Int), .int .i64 (bv : Int)] w3 fun e w' => e = .returned (.int .i64 ((bndTo bound ct (t + 1) : Nat) : Int)) ∧ Below w3.heap.size w3 w' from fun g1 c1 g3 c3 w3 h1 h2 => by
                have h3 := HIH.out (textsOf n m ((pad (flat ss)).set cc b)) (fixC fx cc) ⟨stepI (i : Int) (bend b xd), stepK (j : Int) (bend b xd), bend b xd⟩ (cost + 0) bv c3 c1 g1 w3.heap.size (some ⟨g3, 0, none⟩) w3 ⟨h1.strs h1.lt, Nat.le_refl _, HPG.out, h2⟩ (by rw [HFL.out, ← HNX.out]; exact HAD2.out) (bend_lt _ hd) (by
                  by_cases hin2 : inG n m ⟨stepI (i : Int) (bend b xd), stepK (j : Int) (bend b xd), bend b xd⟩
                  · exact .inl hin2
                  · exact .inr ⟨lett m ((flat ss).set cc b), ⟨(i : Int), (j : Int), xd⟩, hd, HIN.out, by rw [HNX.out]; exact hin2, HNX.out.symm⟩) (by omega) hbv100
                rw [HLN.out] at h3
                refine h3.mono fun e w' h4 => ⟨?_, h4.2⟩
                rw [h4.1, HFL.out, HAV.out, HBND.out]
                congr 4
                omega)
              clear hst
              go_wp2_with fail
              go_quiet (fail)
              obtain ⟨wq, hwq⟩ : ∃ wq, wr.drewN nq = wq := ⟨_, rfl⟩
              have hbq : Below w.heap.size w wq := by rw [← hwq]; exact below_drewN' HBR.out _
              rw [hwq]
              have HBQ := hid hbq
              have hszq := HBQ.out.size
              clear hbq hcr hwq HSR HFR
              obtain ⟨b2, off2, s2, hA2, _, hk2, hcr⟩ := (HH.out.s.below HBQ.out HH.out.b).at_ (k := i) (by omega)
              obtain ⟨rfl, rfl⟩ : b0 = b2 ∧ off = off2 := by cases hA2; exact ⟨rfl, rfl⟩
              obtain rfl : sr = s2 := by rw [HKR.out] at hk2; cases hk2; rfl
              clear hA2 hk2
              have HNR := hid (show (wq.alloc (.cells #[] 4)).ownsRow w.heap.size 4 1 (.slice (some ⟨wq.heap.size, 0, none⟩) 0 0) 0 [] from ⟨rfl, .inr ⟨wq.heap.size, 0, #[], rfl, hszq, heap_new0 wq _, Nat.le_refl _, by unfold maxLen; omega, rfl, rfl⟩⟩)
              have HFA := hid ((HH.out.f.below HBQ.out).below ((Below.refl _ wq).alloc (Nat.le_refl _) (.cells #[] 4)))
              have HWR := hid (show w.heap.size ≤ (wq.alloc (.cells #[] 4)).heap.size by simp; omega)
              have HBW := hid (HBQ.out.alloc hszq (.cells #[] 4))
              clear hszq
              go_wp2_with (at_builtin; refine wpList_appendBools rfl _ _ rfl w.heap.size wq.heap.size rfl HNR.out fb fc (n * m) fx rfl HFA.out HNM.out.1 (Nat.le_trans HNM.out.2 (by decide)) HWR.out ?_)
              intro g1 c1 w1 hrow hg1 hgw
              have hb1 : Below w.heap.size w w1 := HBW.out.grown hgw HBW.out.size (fun k e => by cases e; exact HBQ.out.size)
              have HROW := hid hrow
              have HB1 := hid hb1
              have HG1 := hid hg1
              have hcl := hrow.bools.2 cc HCC.out.1
              have hfz := hrow.free (c := cc)
              clear hrow hgw hb1 hg1
              go_wp2_with fail
              obtain ⟨w2, hw2⟩ : ∃ w2, w1.setCell ⟨g1, cc, none⟩ (.bool true) = w2 := ⟨_, rfl⟩
              have hb2 : Below w.heap.size w w2 := by rw [← hw2]; exact HB1.out.setCell HG1.out _
              have hr2 : BoolsRow w2 g1 (n * m) (fixC fx cc) := by rw [← hw2]; exact HROW.out.fix HCC.out.1
              rw [hw2]
              have HB2 := hid hb2
              have HR2 := hid hr2.bools
              clear hb2 hr2 hw2 hcl hfz
              refine (HBE.out _).mono ?_
              rintro e w' ⟨rfl, rfl⟩
              go_wp2_with fail
              refine (HSP.out _).mono ?_
              rintro e w' ⟨rfl, rfl⟩
              go_wp2_with fail
              refine (l1Put_any b0 off _ B n m cc ss b w2 (HH.out.s.below HB2.out HH.out.b) (Nat.le_trans HH.out.b HB2.out.size) HH.out.g HCC.out.1).mono ?_
              rintro e w3 ⟨⟨g3, c3, rfl, hrw⟩, hb3⟩
              have HIHX := hid (HIX2.out g1 c1 g3 c3 w3 hrw (HR2.out.below hb3))
              have HB3 := hid (HB2.out.trans (hb3.mono HB2.out.size))
              clear hrw hb3
              go_wp2_with fail
              refine HIHX.out.mono ?_
              rintro e w4 ⟨rfl, hb4⟩
              have HB4 := hid (HB3.out.trans (hb4.mono HB3.out.size))
              clear hb4
              go_wp2_with fail
              refine ⟨⟨t + 1, by omega, by go_num, rfl, HB4.out⟩, ?_⟩
              simp [intOf]
              omega
          · have hbi : ¬ (((bt.toNat : Nat) : Int) = ((b.toNat : Nat) : Int)) := fun e => hbk (UInt8.toNat_inj.1 (by omega))
            rw [if_neg hbk] at hst
            have HBND := hid hst
            by_cases hlo : bv ≤ cost + 1
            · have hlo' : ((cost : Int) + 1) ≥ (bv : Int) := by omega
              go_wp2_with fail
              go_quiet (fail)
              go_wp2_with fail
              refine ⟨⟨t + 1, by omega, by go_num, ?_, below_drewN' HBR.out _⟩, ?_⟩
              · rw [HBND.out, Nat.min_eq_left (by omega)]
              · simp [intOf]
                omega
            · have hlo' : ¬ ((cost : Int) + 1) ≥ (bv : Int) := by omega
              have HIX2 := hid (show ∀ (g1 c1 g3 c3 : Nat) (w3 : World), Row9 w3 g3 (textsOf n m ((pad (flat ss)).set cc bt)) → BoolsAt w3 g1 (n * m) (fixC fx cc) →
                Calls Try.prog 106 #[.slice (some ⟨g3, 0, none⟩) ss.length c3, .slice (some ⟨g1, 0, none⟩) (n * m) c1, .int .i64 (stepI (i : Int) (bend bt xd)), .int .i64 (stepK (j : Int) (bend bt xd)), .int .i64 ((bend bt xd : Nat) : Int), .int .i64 (q : Int), .int .i64 ((cost : Int) + 1), .int .i64 (bv : Int)] w3 fun e w' => e = .returned (.int .i64 ((bndTo bound ct (t + 1) : Nat) : Int)) ∧ Below w3.heap.size w3 w' from fun g1 c1 g3 c3 w3 h1 h2 => by
                have h3 := HIH.out (textsOf n m ((pad (flat ss)).set cc bt)) (fixC fx cc) ⟨stepI (i : Int) (bend bt xd), stepK (j : Int) (bend bt xd), bend bt xd⟩ (cost + 1) bv c3 c1 g1 w3.heap.size (some ⟨g3, 0, none⟩) w3 ⟨h1.strs h1.lt, Nat.le_refl _, HPG.out, h2⟩ (by rw [HFL.out, ← HNX.out]; exact HAD2.out) (bend_lt _ hd) (by
                  by_cases hin2 : inG n m ⟨stepI (i : Int) (bend bt xd), stepK (j : Int) (bend bt xd), bend bt xd⟩
                  · exact .inl hin2
                  · exact .inr ⟨lett m ((flat ss).set cc bt), ⟨(i : Int), (j : Int), xd⟩, hd, HIN.out, by rw [HNX.out]; exact hin2, HNX.out.symm⟩) (by omega) hbv100
                rw [HLN.out] at h3
                refine h3.mono fun e w' h4 => ⟨?_, h4.2⟩
                rw [h4.1, HFL.out, HAV.out, HBND.out]
                congr 4
                omega)
              clear hst
              go_wp2_with fail
              go_quiet (fail)
              obtain ⟨wq, hwq⟩ : ∃ wq, wr.drewN nq = wq := ⟨_, rfl⟩
              have hbq : Below w.heap.size w wq := by rw [← hwq]; exact below_drewN' HBR.out _
              rw [hwq]
              have HBQ := hid hbq
              have hszq := HBQ.out.size
              clear hbq hcr hwq HSR HFR
              obtain ⟨b2, off2, s2, hA2, _, hk2, hcr⟩ := (HH.out.s.below HBQ.out HH.out.b).at_ (k := i) (by omega)
              obtain ⟨rfl, rfl⟩ : b0 = b2 ∧ off = off2 := by cases hA2; exact ⟨rfl, rfl⟩
              obtain rfl : sr = s2 := by rw [HKR.out] at hk2; cases hk2; rfl
              clear hA2 hk2
              have HNR := hid (show (wq.alloc (.cells #[] 4)).ownsRow w.heap.size 4 1 (.slice (some ⟨wq.heap.size, 0, none⟩) 0 0) 0 [] from ⟨rfl, .inr ⟨wq.heap.size, 0, #[], rfl, hszq, heap_new0 wq _, Nat.le_refl _, by unfold maxLen; omega, rfl, rfl⟩⟩)
              have HFA := hid ((HH.out.f.below HBQ.out).below ((Below.refl _ wq).alloc (Nat.le_refl _) (.cells #[] 4)))
              have HWR := hid (show w.heap.size ≤ (wq.alloc (.cells #[] 4)).heap.size by simp; omega)
              have HBW := hid (HBQ.out.alloc hszq (.cells #[] 4))
              clear hszq
              go_wp2_with (at_builtin; refine wpList_appendBools rfl _ _ rfl w.heap.size wq.heap.size rfl HNR.out fb fc (n * m) fx rfl HFA.out HNM.out.1 (Nat.le_trans HNM.out.2 (by decide)) HWR.out ?_)
              intro g1 c1 w1 hrow hg1 hgw
              have hb1 : Below w.heap.size w w1 := HBW.out.grown hgw HBW.out.size (fun k e => by cases e; exact HBQ.out.size)
              have HROW := hid hrow
              have HB1 := hid hb1
              have HG1 := hid hg1
              have hcl := hrow.bools.2 cc HCC.out.1
              have hfz := hrow.free (c := cc)
              clear hrow hgw hb1 hg1
              go_wp2_with fail
              obtain ⟨w2, hw2⟩ : ∃ w2, w1.setCell ⟨g1, cc, none⟩ (.bool true) = w2 := ⟨_, rfl⟩
              have hb2 : Below w.heap.size w w2 := by rw [← hw2]; exact HB1.out.setCell HG1.out _
              have hr2 : BoolsRow w2 g1 (n * m) (fixC fx cc) := by rw [← hw2]; exact HROW.out.fix HCC.out.1
              rw [hw2]
              have HB2 := hid hb2
              have HR2 := hid hr2.bools
              clear hb2 hr2 hw2 hcl hfz
              refine (HBE.out _).mono ?_
              rintro e w' ⟨rfl, rfl⟩
              go_wp2_with fail
              refine (HSP.out _).mono ?_
              rintro e w' ⟨rfl, rfl⟩
              go_wp2_with fail
              refine (l1Put_any b0 off _ B n m cc ss bt w2 (HH.out.s.below HB2.out HH.out.b) (Nat.le_trans HH.out.b HB2.out.size) HH.out.g HCC.out.1).mono ?_
              rintro e w3 ⟨⟨g3, c3, rfl, hrw⟩, hb3⟩
              have HIHX := hid (HIX2.out g1 c1 g3 c3 w3 hrw (HR2.out.below hb3))
              have HB3 := hid (HB2.out.trans (hb3.mono HB2.out.size))
              clear hrw hb3
              go_wp2_with fail
              refine HIHX.out.mono ?_
              rintro e w4 ⟨rfl, hb4⟩
              have HB4 := hid (HB3.out.trans (hb4.mono HB3.out.size))
              clear hb4
              go_wp2_with fail
              refine ⟨⟨t + 1, by omega, by go_num, rfl, HB4.out⟩, ?_⟩
              simp [intOf]
              omega
        · obtain rfl : t = 3 := by omega
          go_wp2_with fail
          go_ret
          exact ⟨by rw [HAO.out, HBV.out]; rfl, HBR.out⟩
end Go.Proofs.Ytminailbhgimkaa
