/- Settled texts in one file. Each begins with what it holds. -/
import Derived.Test.YtagnecclhmbofaaBunG
import Derived.Test.YtagnecclhmbofaaBunC
import Derived.LaidEqlPtr
import Derived.Maps.AppendAt
import Derived.Deep.QuietTactic
import Derived.Deep.LoopGhost
import Derived.WalkMore
import Derived.Test.YtagnecclhmbofaaBunF
/- step.round: the steps of a round, by its contract. -/
namespace Go.Proofs.Ytagnecclhmbofaa
open Go.RowKit Go.Shelf

theorem Try.info_ptr : (Try.prog.info? 121).map (fun i => (i.zero, i.size, i.bytes)) = some (some (.pointer none), 1, 8) := by kernel_rfl
section
variable {P : Program} (w : World)
theorem run_neq_ptr_same {tp te : TypeId} {j : TypeInfo} (a : Addr) (hp : P.underlying tp = some (.pointer te)) (hte : P.info? te = some j) :
    (binOp .neq tp (.pointer (some a)) (.pointer (some a))).run P w = .ok (.bool false) w := by
  have h : ∀ d : Nat, (Op.equalIn (d + 1) tp (.pointer (some a)) (.pointer (some a))).run P w = .ok true w := fun d => by
    simp [Op.equalIn, run_underlying hp, sizeOf, typeInfo, hte, run_sameAddr_same]
  simp only [binOp]
  simp [Op.equal, Op.maxDepth, h 9999]
theorem run_neq_ptr_other {tp te : TypeId} {j : TypeInfo} {a b : Addr} {ca cb : Array Value} {ta tb : TypeId} (hp : P.underlying tp = some (.pointer te)) (hte : P.info? te = some j) (hsz : j.size ≠ 0)
    (hne : a ≠ b) (ha : w.heap[a.block]? = some (.cells ca ta (0, 0))) (hb : w.heap[b.block]? = some (.cells cb tb (0, 0))) :
    (binOp .neq tp (.pointer (some a)) (.pointer (some b))).run P w = .ok (.bool true) w := by
  have h : ∀ d : Nat, (Op.equalIn (d + 1) tp (.pointer (some a)) (.pointer (some b))).run P w = .ok false w := fun d => by
    simp [Op.equalIn, run_underlying hp, sizeOf, typeInfo, hte, hsz, run_sameAddr_other w hne ha hb]
  simp only [binOp]
  simp [Op.equal, Op.maxDepth, h 9999]
theorem run_neq_nil_ptr {tp te : TypeId} (a : Addr) (hp : P.underlying tp = some (.pointer te)) :
    (binOp .neq tp (.pointer none) (.pointer (some a))).run P w = .ok (.bool true) w := by
  have h : ∀ d : Nat, (Op.equalIn (d + 1) tp (.pointer none) (.pointer (some a))).run P w = .ok false w := fun d => by
    simp [Op.equalIn, run_underlying hp]
  simp only [binOp]
  simp [Op.equal, Op.maxDepth, h 9999]
end
/-- Pointers to steps, by their numbers. -/
def ptrsV (g : Nat) (l : List Nat) : List Value := l.map fun c => .pointer (some ⟨g, 5 * c, none⟩)
def GrowP (w : World) (base : Nat) (v : Value) (g : Nat) (l : List Nat) : Prop := w.ownsRow base 121 1 v l.length (ptrsV g l)
theorem growP_one (w : World) (base g c : Nat) (hb : base ≤ w.heap.size) : GrowP (w.alloc (.cells #[.pointer (some ⟨g, 5 * c, none⟩)] 121)) base (.slice (some ⟨w.heap.size, 0, none⟩) 1 1) g [c] :=
  ⟨rfl, .inr ⟨w.heap.size, 1, _, rfl, hb, heap_new0 w _, Nat.le_refl _, by unfold maxLen; omega, rfl, rfl⟩⟩
theorem cell_newP (w : World) (g c : Nat) : (w.alloc (.cells #[.pointer (some ⟨g, 5 * c, none⟩)] 121)).cell? ⟨w.heap.size, 0, none⟩ = some (.pointer (some ⟨g, 5 * c, none⟩)) := by
  rw [cell_of_row _ _ _ _ _ _ (heap_new0 w _)]; rfl
theorem GrowP.shape {w : World} {base : Nat} {v : Value} {g : Nat} {l : List Nat} (h : GrowP w base v g l) : ∃ A c, v = .slice A l.length c := by
  rcases h.2 with ⟨rfl, h0⟩ | ⟨b, cap, cur, rfl, _⟩
  · rw [h0]; exact ⟨_, _, rfl⟩
  · exact ⟨_, _, rfl⟩
def lenOf : Value → Nat
  | .slice _ n _ => n
  | _ => 0
theorem GrowP.len {w : World} {base : Nat} {v : Value} {g : Nat} {l : List Nat} (h : GrowP w base v g l) : lenOf v = l.length := by
  obtain ⟨A, c, rfl⟩ := h.shape
  rfl
section
variable {ops : Array Oper} {rest : List Oper} {o : Oper} {a : Act} {w : World} {Q : Exit → Act → World → Prop}
theorem wpList_appendP (hgd : o.guard = none) (s x : Operand) (ho : o.op = .call { callee := .builtin .append, args := #[s, x], argTypes := #[126, 126] })
    (base : Nat) (v : Value) (g : Nat) (l : List Nat) (hs : a.eval s = v) (hown : GrowP w base v g l) (h c : Nat) (hx : a.eval x = .slice (some ⟨h, 0, none⟩) 1 c) (b : Nat) (hc : w.cell? ⟨h, 0, none⟩ = some (.pointer (some ⟨g, 5 * b, none⟩)))
    (hl : l.length ≤ 1000000) (hbase : base ≤ w.heap.size)
    (hk : ∀ v' w', GrowP w' base v' g (l ++ [b]) → w.grownBy w' v.ownBlock → wpList Try.prog ops Q rest (a.put o.dst v') w') : wpList Try.prog ops Q (o :: rest) a w := by
  obtain ⟨i0, hi, hz0, hz1, hz2⟩ := info_parts Try.info_ptr
  refine wpList_append_own w hgd s x 126 ho base 121 i0 (.pointer none) 1 8 Try.underlying126 hi hz0 hz1 hz2 rfl (by decide) v l.length (ptrsV g l) hs hown ⟨h, 0, none⟩ 1 c [.pointer (some ⟨g, 5 * b, none⟩)] hx rfl ?_ ?_ (by unfold maxLen; omega) (by omega) hbase ?_
  · intro j u hj
    match j, hj with
    | 0, hj => simp at hj; subst hj; simpa [Addr.add] using hc
  · intro u hu; simp at hu; subst hu; rfl
  · intro v' w' h1 h2 _
    refine hk v' w' ?_ h2
    unfold GrowP ptrsV
    rw [List.length_append, List.map_append]
    exact h1
end

/-- The numbers of the ways of a round, in order. -/
def ringN (n m : Nat) (t : Int → Int → UInt8) (x : Wy) : List Nat := (List.range (goL n m t x)).map fun j => wcode m (iter t x j)
theorem ringN_length (n m : Nat) (t : Int → Int → UInt8) (x : Wy) : (ringN n m t x).length = goL n m t x := by simp [ringN]
/-- What a step's round comes to. -/
def RingEnd (n m : Nat) (t : Int → Int → UInt8) (g c : Nat) (w : World) (e : Ending) (w' : World) : Prop :=
  Below w.heap.size w w' ∧ ((onR n m t (wayN m c) = true ∧ ∃ v, e = .returned v ∧ GrowP w' w.heap.size v g (ringN n m t (wayN m c))) ∨ (onR n m t (wayN m c) = false ∧ e = .returned (.slice none 0 0)))
def RingRel (n m g L : Nat) (bw : Nat → Wy) (w : World) (v nx : Value) (wr : World) : Prop :=
  ∃ j : Nat, 1 ≤ j ∧ j ≤ L ∧ nx = (if inG n m (bw j) then .pointer (some ⟨g, 5 * wcode m (bw j), none⟩) else .pointer none) ∧ GrowP wr w.heap.size v g (((List.range L).map fun j => wcode m (bw j)).take j) ∧ Below w.heap.size w wr
theorem StepsM.next {w : World} {g n m N c : Nat} {t : Int → Int → UInt8} (h : StepsM w g n m t (fun _ => True) N) (hc : c < N) : w.cell? ⟨g, 5 * c + 3, none⟩ = some (nextP g n m t (wayN m c)) := by
  obtain ⟨cs, h, _, h1, _⟩ := h
  rw [cell_of_row _ _ _ _ _ _ h]
  exact h1 c hc trivial 3 _ rfl

set_option maxRecDepth 100000 in
set_option maxHeartbeats 2000000 in
theorem round_any (n m g N c : Nat) (t : Int → Int → UInt8) (w : World) (hN : 4 * (n * m) = N) (hN100 : N ≤ 100) (hc : c < N) (hs : StepsM w g n m t (fun _ => True) N) :
    Calls Try.prog 107 #[.pointer (some ⟨g, 5 * c, none⟩)] w (RingEnd n m t g c w) := by
  have hc4 : c < 4 * (n * m) := by rw [hN]; exact hc
  have hx := wayN_in (n := n) (m := m) hc4
  have hd := wayN_d (m := m) c
  obtain ⟨f1, f2, f3, f4, f5, f6⟩ := goL_facts (t := t) hd hx
  have f7 := fun j h1 h2 => goL_back (t := t) (j := j) hd hx h1 h2
  have f8 := fun j => iter_d (t := t) hd j
  have f9 : ∀ j, iter t (wayN m c) (j + 1) = nxt t (iter t (wayN m c) j) := fun j => rfl
  have hcode := wcode_way (m := m) c
  have h0 : iter t (wayN m c) 0 = wayN m c := rfl
  unfold RingEnd ringN
  generalize goL n m t (wayN m c) = L at *
  generalize onR n m t (wayN m c) = on at *
  generalize iter t (wayN m c) = bw at *
  have HST := hid (fun (wr : World) (hb : Below w.heap.size w wr) (j : Nat) (hj : j < L) => show wr.cell? ⟨g, 5 * wcode m (bw j) + 3, none⟩ = some (if inG n m (bw (j + 1)) then .pointer (some ⟨g, 5 * wcode m (bw (j + 1)), none⟩) else .pointer none) by
    have h1 := (hs.below hb).next (c := wcode m (bw j)) (by rw [← hN]; exact wcode_lt (f3 j hj) (f8 j))
    rw [wayN_code (f3 j hj) (f8 j)] at h1
    rw [h1, f9 j]
    rfl)
  have HB0 := hid (show wcode m (bw 0) = c by rw [h0, hcode])
  have HIN := hid f3
  have HBK := hid (fun j (h1 : 1 ≤ j) (h2 : j < L) => show wcode m (bw j) ≠ c from fun e => f7 j h1 h2 (wcode_inj (f3 j h2) (f8 j) hx hd (by rw [e, hcode])))
  have HON := hid (fun h => show bw L = wayN m c from (f5 h).1)
  have HX := hid hx
  have HCD := hid hcode
  have HOUT := hid f6
  have hL100 : L ≤ 100 := by omega
  have HSL := hid hs.lt
  obtain ⟨si, hsi, _, hs1, _⟩ := info_parts Try.info_step
  have HSAME := hid (fun (W : World) => run_neq_ptr_same (P := Try.prog) W ⟨g, 5 * c, none⟩ Try.underlying121 hsi)
  have HOTH := hid (fun (W : World) (q : Nat) (hb : Below w.heap.size w W) (hq : q ≠ c) => by
    obtain ⟨cs, hk, _⟩ := hs.below hb
    exact run_neq_ptr_other (P := Try.prog) W (a := ⟨g, 5 * q, none⟩) (b := ⟨g, 5 * c, none⟩) Try.underlying121 hsi (by rw [hs1]; decide) (fun e => hq (by have := congrArg Addr.off e; simp only at this; omega)) hk hk)
  have HNIL := hid (fun (W : World) => run_neq_nil_ptr (P := Try.prog) W ⟨g, 5 * c, none⟩ Try.underlying121)
  clear hsi hs1
  clear hc4 hx hd f2 f3 f4 f5 f6 f7 f8 f9 hcode h0 hs
  have hc3 := HST.out w (Below.refl _ _) 0 (by omega)
  rw [HB0.out] at hc3
  have hc3a := hid (show ∀ ob, (w.alloc ob).cell? ⟨g, 5 * c + 3, none⟩ = some (if inG n m (bw (0 + 1)) then .pointer (some ⟨g, 5 * wcode m (bw (0 + 1)), none⟩) else .pointer none) from fun ob => by rw [World.cell?_alloc_lt _ _ _ HSL.out]; exact hc3)
  obtain ⟨nv, hnv⟩ : ∃ nv : Value, (if inG n m (bw (0 + 1)) then Value.pointer (some ⟨g, 5 * wcode m (bw (0 + 1)), none⟩) else .pointer none) = nv := ⟨_, rfl⟩
  rw [hnv] at hc3a
  have HNV := hid hnv
  have hc3b := hc3a.out (.cells #[.pointer (some ⟨g, 5 * c, none⟩)] 121)
  clear hc3 hnv hc3a
  go_enter Try.func107, Try.ntmps107
  go_wp2
  go_loopw [3, 4] (RingRel n m g L bw w) (fun v _ _ => L - lenOf v)
  case atStart =>
    refine ⟨1, Nat.le_refl _, f1, HNV.out.symm, ?_, (Below.refl _ w).alloc (Nat.le_refl _) _⟩
    have h1 : ((List.range L).map fun j => wcode m (bw j)).take 1 = [c] := by
      obtain ⟨L', rfl⟩ : ∃ L', L = L' + 1 := ⟨L - 1, by omega⟩
      rw [List.range_succ_eq_map]
      simp [HB0.out]
    rw [h1]
    exact growP_one w _ g c (Nat.le_refl _)
  case round =>
    obtain ⟨j, hj1, hjL, rfl, hgr, hbel⟩ := hrel
    have HG := hid hgr
    have HB := hid hbel
    have hlen := hgr.len
    rw [List.length_take, List.length_map, List.length_range, Nat.min_eq_left hjL] at hlen
    have HLN := hid hlen
    clear hgr hbel hlen hc3b
    by_cases hlt : j < L
    · have hin := HIN.out j hlt
      have hne := HBK.out j hj1 hlt
      have hcell := HST.out wr HB.out j hlt
      rw [if_pos hin]
      have htk : ((List.range L).map fun j => wcode m (bw j)).take (j + 1) = ((List.range L).map fun j => wcode m (bw j)).take j ++ [wcode m (bw j)] := range_take L j _ hlt
      have HTK := hid htk
      obtain ⟨q, hq⟩ : ∃ q, wcode m (bw j) = q := ⟨_, rfl⟩
      rw [hq] at hne hcell HTK ⊢
      obtain ⟨nv, hnv⟩ : ∃ nv : Value, (if inG n m (bw (j + 1)) then Value.pointer (some ⟨g, 5 * wcode m (bw (j + 1)), none⟩) else .pointer none) = nv := ⟨_, rfl⟩
      have HNV2 := hid hnv
      have HSC := hid (show ∀ (W : World), Below w.heap.size w W → W.cell? ⟨g, 5 * q + 3, none⟩ = some nv from fun W hb => by
        have := HST.out W hb j hlt
        rw [hq, hnv] at this
        exact this)
      have hcmp := HOTH.out wr q HB.out hne
      clear hin hne htk hq hnv hcell
      go_wp2_with (at_builtin; refine wpList_appendP rfl _ _ rfl w.heap.size u3 g (((List.range L).map fun j => wcode m (bw j)).take j) rfl (World.ownsRow.alloc HG.out _) wr.heap.size 1 rfl q (cell_newP wr g q) ?c3 (Nat.le_trans HB.out.size (by simp)) ?_)
      case c3 => rw [List.length_take, List.length_map, List.length_range]; omega
      intro v' w' hgr hgw
      have HGR := hid hgr
      have HB2 := hid ((HB.out.alloc HB.out.size _).grown hgw (Nat.le_trans HB.out.size (by simp)) (fun k e => (World.ownsRow.lt HG.out k e).1))
      have hcell := HSC.out w' HB2.out
      have hlen2 := hgr.len
      rw [← HTK.out, List.length_take, List.length_map, List.length_range, Nat.min_eq_left (by omega)] at hlen2
      have HLN2 := hid hlen2
      clear hgr hgw hlen2
      go_wp2
      go_roundw
      case rel => exact ⟨j + 1, by omega, by omega, HNV2.out.symm, by rw [HTK.out]; exact HGR.out, HB2.out⟩
      case measure => rw [HLN.out, HLN2.out]; omega
    · obtain rfl : j = L := by omega
      have HG' := hid (show GrowP wr w.heap.size u3 g ((List.range j).map fun j => wcode m (bw j)) by
        have := HG.out
        rwa [List.take_of_length_le (by simp)] at this)
      cases on with
      | true =>
        rw [HON.out rfl, if_pos HX.out, HCD.out]
        have hcmp := HSAME.out wr
        go_wp2
        go_ret
        exact ⟨HB.out, _, rfl, HG'.out⟩
      | false =>
        rw [if_neg (HOUT.out rfl)]
        have hcmp := HNIL.out wr
        go_wp2
        go_ret
        exact ⟨HB.out, rfl⟩

end Go.Proofs.Ytagnecclhmbofaa

/- chart.rounds: all rounds, each one once, by its contract. -/
namespace Go.Proofs.Ytagnecclhmbofaa
open Go.RowKit Go.Shelf

theorem Try.info_ptrs : (Try.prog.info? 126).map (fun i => (i.zero, i.size, i.bytes)) = some (some (.slice none 0 0), 1, 24) := by kernel_rfl
/-- The slice u holds pointers to the steps with the numbers l, below block B, not in block own. -/
def RingOf (w : World) (g : Nat) (own : Option Nat) (u : Value) (l : List Nat) : Prop :=
  ∃ b cap, u = .slice (some ⟨b, 0, none⟩) l.length cap ∧ b < w.heap.size ∧ own ≠ some b ∧ ∀ (j q : Nat), l[j]? = some q → w.cell? ⟨b, j, none⟩ = some (.pointer (some ⟨g, 5 * q, none⟩))
theorem GrowP.cells {w : World} {base : Nat} {v : Value} {g : Nat} {l : List Nat} (h : GrowP w base v g l) (hl : 0 < l.length) :
    ∃ b cap, v = .slice (some ⟨b, 0, none⟩) l.length cap ∧ base ≤ b ∧ b < w.heap.size ∧ ∀ (j q : Nat), l[j]? = some q → w.cell? ⟨b, j, none⟩ = some (.pointer (some ⟨g, 5 * q, none⟩)) := by
  rcases h.2 with ⟨_, h0⟩ | ⟨b, cap, cur, rfl, hb, hg, _, _, _, ht⟩
  · omega
  · refine ⟨b, cap, rfl, hb, lt_of_block hg, fun j q hj => ?_⟩
    rw [cell_of_row _ _ _ _ _ _ hg]
    have hl := (List.getElem?_eq_some_iff.1 hj).1
    have e : (ptrsV g l)[j]? = some (.pointer (some ⟨g, 5 * q, none⟩)) := by simp [ptrsV, hj]
    rw [← ht, List.getElem?_take_of_lt (by omega)] at e
    rw [← Array.getElem?_toList, e]
theorem RingOf.grown {w w' : World} {g : Nat} {own own' : Option Nat} {u : Value} {l : List Nat} (h : RingOf w g own u l) (hg : w.grownBy w' own) (ho : own' = own ∨ ∃ k, own' = some k ∧ w.heap.size ≤ k) : RingOf w' g own' u l := by
  obtain ⟨b, cap, rfl, hb, hn, hc⟩ := h
  refine ⟨b, cap, rfl, Nat.lt_of_lt_of_le hb hg.size, ?_, fun j q hj => ?_⟩
  · rcases ho with rfl | ⟨k, rfl, hk⟩
    · exact hn
    · intro e; cases e; omega
  · have h1 := hc j q hj
    have h2 : w'.heap[b]? = w.heap[b]? := hg.block b hb (fun e => hn e.symm)
    unfold World.cell? at h1 ⊢
    simp only at h1 ⊢
    rw [h2]; exact h1
theorem RingOf.below {w w' : World} {g : Nat} {own : Option Nat} {u : Value} {l : List Nat} (h : RingOf w g own u l) (hb : Below w.heap.size w w') : RingOf w' g own u l :=
  h.grown ⟨hb.os, hb.tape, hb.output, hb.size, fun k hk _ => hb.block k hk⟩ (.inl rfl)
/-- The rounds of the leading numbers below x, in order. -/
def RoundsOf (w : World) (base g n m : Nat) (t : Int → Int → UInt8) (x : Nat) (v : Value) : Prop :=
  ∃ vs : List Value, w.ownsRow base 126 1 v vs.length vs ∧ vs.length = (leadsTo n m t x).length ∧ ∀ (k c : Nat), (leadsTo n m t x)[k]? = some c → ∃ u, vs[k]? = some u ∧ RingOf w g v.ownBlock u (ringN n m t (wayN m c))
theorem StepsM.back {w : World} {g n m N c : Nat} {t : Int → Int → UInt8} (h : StepsM w g n m t (fun _ => True) N) (hc : c < N) : w.cell? ⟨g, 5 * c + 4, none⟩ = some (.pointer (some ⟨g, 5 * wcode m (rev t (wayN m c)), none⟩)) := by
  obtain ⟨cs, h, _, h1, _⟩ := h
  rw [cell_of_row _ _ _ _ _ _ h]
  exact h1 c hc trivial 4 _ rfl
theorem StepsM.way {w : World} {g n m N c : Nat} {t : Int → Int → UInt8} (h : StepsM w g n m t (fun _ => True) N) (hc : c < N) : w.rangeAt g (5 * c) (wayC (wayN m c)).toList := by
  obtain ⟨cs, h, _, h1, _⟩ := h
  intro j v hj
  rw [cell_of_row _ _ _ _ _ _ h]
  refine h1 c hc trivial j v ?_
  match j, hj with
  | 0, hj => exact hj
  | 1, hj => exact hj
  | 2, hj => exact hj
  | j + 3, hj => simp [wayC] at hj

theorem noRound {w w' : World} {base g n m x : Nat} {t : Int → Int → UInt8} {v : Value} (h : RoundsOf w base g n m t x v) (hno : leadB n m t x = false) (hb : Below w.heap.size w w') : RoundsOf w' base g n m t (x + 1) v := by
  obtain ⟨vs, h1, h2, h3⟩ := h
  refine ⟨vs, World.ownsRow.kept h1 (Cls.grown hb) (by
    cases v.ownBlock with
    | none => exact .inl rfl
    | some k => exact .inr (fun e => by cases e)), by rw [leadsTo_no hno]; exact h2, fun k c hk => ?_⟩
  rw [leadsTo_no hno] at hk
  obtain ⟨u, h4, h5⟩ := h3 k c hk
  exact ⟨u, h4, h5.below hb⟩

end Go.Proofs.Ytagnecclhmbofaa

/- RoundPaths of the specification and of the program, by their contracts. -/
namespace Go.Proofs.Ytagnecclhmbofaa
open Go.RowKit Go.Shelf

theorem RoundsOf.sliceP {w : World} {base g n m x : Nat} {t : Int → Int → UInt8} {v : Value} (h : RoundsOf w base g n m t x v) : ∃ A c, v = .slice A (leadsTo n m t x).length c := by
  obtain ⟨vs, h1, h2, _⟩ := h
  rw [← h2]
  rcases h1.2 with ⟨rfl, h0⟩ | ⟨b, cap, cur, rfl, _⟩
  · rw [h0]; exact ⟨_, _, rfl⟩
  · exact ⟨_, _, rfl⟩

/-- What the operations of the specification's sum hand back. -/
def pathsSpecRel (b off c n m K : Nat) (s0 : ByteArray) (i : Nat) (v : Value) (_ : World) : Prop :=
  match i with
  | 0 => v = .slice (some ⟨b, off, none⟩) n c
  | 1 => ∃ A1 cc, v = .slice A1 K cc
  | 2 => v = .int .i64 (K : Int)
  | 3 => v = .slice (some ⟨b, off, none⟩) n c
  | 4 => v = .int .i64 (n : Int)
  | 5 => v = .int .i64 ((K : Int) + (n : Int))
  | 6 => v = .slice (some ⟨b, off, none⟩) n c
  | 7 => v = .pointer (some ⟨b, off, none⟩)
  | 8 => v = .string s0
  | 9 => v = .int .i64 (m : Int)
  | 10 => v = .int .i64 ((K : Int) + (n : Int) + (m : Int))
  | 11 => v = .int .i64 ((K : Int) + (n : Int) + (m : Int))
  | _ => True

/-- What the operations of the program's sum hand back. -/
def pathsImplRel (gc : Array Value) (n m N K : Nat) (t : Int → Int → UInt8) (i : Nat) (v : Value) (W : World) : Prop :=
  match i with
  | 0 => v = .agg gc
  | 1 => ∃ g, v = .agg (chartC gc g N) ∧ StepsM W g n m t (fun _ => True) N
  | 2 => ∃ A1 cc, v = .slice A1 K cc
  | 3 => v = .int .i64 (K : Int)
  | 4 => v = .agg gc
  | 5 => v = .int .i64 ((2 * (n + m) : Nat) : Int)
  | 6 => v = .int .i64 ((n : Int) + (m : Int))
  | 7 => v = .int .i64 ((K : Int) + ((n : Int) + (m : Int)))
  | 8 => v = .int .i64 ((K : Int) + ((n : Int) + (m : Int)))
  | _ => True

end Go.Proofs.Ytagnecclhmbofaa
