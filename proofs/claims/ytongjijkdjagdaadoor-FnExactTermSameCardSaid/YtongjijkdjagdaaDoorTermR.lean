/- A byte taken from a text that is read (take), by its contract. -/
import Derived.Test.YtongjijkdjagdaaDoorTermV
import Derived.Test.YtongjijkdjagdaaDoorBunA
import Derived.Test.YtongjijkdjagdaaDoorBunD
import Derived.Lib.IndexAny
namespace Go.Proofs.YtongjijkdjagdaaDoor
open Go.RowKit

set_option maxRecDepth 100000 in
set_option maxHeartbeats 400000 in
theorem strContains_any (s : List UInt8) (b : UInt8) (w : World) :
    Calls Tryd.prog 86 #[.string (strB s), .string (strB [b])] w fun e w' => e = .returned (.bool (s.contains b)) ∧ w = w' := by
  have hsz : (strB [b]).size = 1 := rfl
  have h0 : (strB [b])[0] = b := rfl
  have hI : ∀ w, Calls Tryd.prog 119 #[.string (strB s), .string (strB [b])] w fun e w' => e = .returned (.int .i64 (Lib.indexByte s b)) ∧ w = w' := by
    intro w
    by_cases hq : ((strB [b]).toList == (strB s).toList) = true
    · have hx : Lib.indexByte s b = 0 := by
        rw [strB_toList, strB_toList, beq_iff_eq] at hq
        subst hq
        simp [Lib.indexByte]
      rw [hx]
      go_enter Tryd.func119, Tryd.ntmps119
      go_wp2_with fail
      go_ret
      exact ⟨rfl, rfl⟩
    · have hq2 : ((strB [b]).toList == (strB s).toList) = false := by simpa using hq
      clear hq
      go_enter Tryd.func119, Tryd.ntmps119
      go_wp2_with fail
      refine (stringslite_IndexByte _ _ _).mono ?_
      rintro e w' ⟨rfl, rfl⟩
      go_wp2
      go_ret
      simp [strB]
  have HI := hid hI
  clear hI
  have hp : ∀ w, Calls Tryd.prog 114 #[.string (strB s), .string (strB [b])] w fun e w' => e = .returned (.int .i64 (Lib.indexByte s b)) ∧ w = w' := by
    intro w
    go_enter Tryd.func114, Tryd.ntmps114
    go_wp2_with fail
    refine (HI.out _).mono ?_
    rintro e w' ⟨rfl, rfl⟩
    go_wp2
    go_ret
    exact ⟨rfl, rfl⟩
  have h3 := hid (Lib.contains_iff_indexByte s b)
  generalize Lib.indexByte s b = x at hp h3
  have HP := hid hp
  clear hp HI
  go_enter Tryd.func86, Tryd.ntmps86
  go_wp2_with fail
  refine (HP.out _).mono ?_
  rintro e w' ⟨rfl, rfl⟩
  go_wp2
  go_ret
  rw [h3.out]
  exact ⟨rfl, rfl⟩

theorem But.drew (g : Nat) (w : World) : But g w w.drew := ⟨rfl, rfl, rfl, Nat.le_refl _, fun _ _ _ => rfl⟩
/-- What lies in the reader: the letters that are left, and how many were read. -/
def RdAt (w : World) (P : Nat) (l : List UInt8) (k : Nat) : Prop := w.heap[P]? = some (.cells #[.string (strB l), .int .i64 (k : Int)] 139 (0, 0))
abbrev errV (k : Nat) : Value := .iface 81 (.int .i64 (k : Int))
theorem strB_head (c : UInt8) (l : List UInt8) : (strB (c :: l)).extract 0 1 = strB [c] := by
  apply ByteArray.ext
  simp [strB]
theorem strB_tail (c : UInt8) (l : List UInt8) (n : Nat) (h : n = l.length + 1) : (strB (c :: l)).extract 1 n = strB l := by
  subst h
  apply ByteArray.ext
  simp [strB]

set_option maxRecDepth 100000 in
set_option maxHeartbeats 1000000 in
theorem take_none (P k : Nat) (s : List UInt8) (w : World) (h : RdAt w P [] k) :
    Calls Tryd.prog 109 #[.pointer (some ⟨P, 0, none⟩), .string (strB s)] w fun e w' => e = .returned (.tuple #[.string (strB []), errV k]) ∧ But P w w' ∧ RdAt w' P [] k := by
  have k0 : w.cell? ⟨P, 0, none⟩ = some (.string (strB [])) := by rw [cell_of_row _ _ _ _ _ _ h]; rfl
  have k1 : w.cell? ⟨P, 1, none⟩ = some (.int .i64 (k : Int)) := by rw [cell_of_row _ _ _ _ _ _ h]; rfl
  have e0 := strB_eq [] [] true (by decide)
  have HR := hid h
  clear h
  go_enter Tryd.func109, Tryd.ntmps109
  go_wp2_with fail
  go_region
  all_goals go_wp2_with fail
  refine bodyPost_ret (results_tmp2 rfl _ _ _) rfl ?_
  exact ⟨rfl, But.drew _ _, HR.out⟩
set_option maxRecDepth 100000 in
set_option maxHeartbeats 1000000 in
theorem take_bad (P k : Nat) (s : List UInt8) (c : UInt8) (l : List UInt8) (w : World) (h : RdAt w P (c :: l) k) (hc : s.contains c = false) (hl : l.length ≤ 1000) :
    Calls Tryd.prog 109 #[.pointer (some ⟨P, 0, none⟩), .string (strB s)] w fun e w' => e = .returned (.tuple #[.string (strB []), errV k]) ∧ But P w w' ∧ RdAt w' P (c :: l) k := by
  have k0 : w.cell? ⟨P, 0, none⟩ = some (.string (strB (c :: l))) := by rw [cell_of_row _ _ _ _ _ _ h]; rfl
  have k1 : w.cell? ⟨P, 1, none⟩ = some (.int .i64 (k : Int)) := by rw [cell_of_row _ _ _ _ _ _ h]; rfl
  have e0 := strB_eq (c :: l) [] false (by simp)
  have hsz : (strB (c :: l)).size = l.length + 1 := by rw [strB_size]; rfl
  have hh := strB_head c l
  have HC := hid (strContains_any s c)
  rw [hc] at HC
  have HR := hid h
  clear h
  go_enter Tryd.func109, Tryd.ntmps109
  go_wp2_with fail
  refine (HC.out _).mono ?_
  rintro e w' ⟨rfl, rfl⟩
  go_wp2_with fail
  go_region
  all_goals go_wp2_with fail
  refine bodyPost_ret (results_tmp2 rfl _ _ _) rfl ?_
  exact ⟨rfl, But.drew _ _, HR.out⟩
set_option maxRecDepth 100000 in
set_option maxHeartbeats 1000000 in
theorem take_good (P k : Nat) (s : List UInt8) (c : UInt8) (l : List UInt8) (w : World) (h : RdAt w P (c :: l) k) (hc : s.contains c = true) (hl : l.length ≤ 1000) (hk : k ≤ 1000) :
    Calls Tryd.prog 109 #[.pointer (some ⟨P, 0, none⟩), .string (strB s)] w fun e w' => e = .returned (.tuple #[.string (strB [c]), .nilIface]) ∧ But P w w' ∧ RdAt w' P l (k + 1) := by
  have k0 : w.cell? ⟨P, 0, none⟩ = some (.string (strB (c :: l))) := by rw [cell_of_row _ _ _ _ _ _ h]; rfl
  have k1 : w.cell? ⟨P, 1, none⟩ = some (.int .i64 (k : Int)) := by rw [cell_of_row _ _ _ _ _ _ h]; rfl
  have f0 := frozen_of_row _ _ 0 _ _ h
  have f1 := frozen_of_row _ _ 1 _ _ h
  have e0 := strB_eq (c :: l) [] false (by simp)
  have hsz : (strB (c :: l)).size = l.length + 1 := by rw [strB_size]; rfl
  have hh := strB_head c l
  have ht := strB_tail c l (l.length + 1) rfl
  have HC := hid (strContains_any s c)
  rw [hc] at HC
  have HR := hid h
  have hki : (k : Int) ≤ 1000 := by omega
  have hli : (l.length : Int) ≤ 1000 := by omega
  clear h hk hl
  go_enter Tryd.func109, Tryd.ntmps109
  go_wp2_with fail
  refine (HC.out _).mono ?_
  rintro e w' ⟨rfl, rfl⟩
  go_wp2_with fail
  refine bodyPost_ret (results_tmp2 rfl _ _ _) rfl ?_
  refine ⟨rfl, (But.setCell _ _ _).trans (But.setCell _ _ _), ?_⟩
  exact heap_setCell_same _ _ _ _ _ _ (heap_setCell_same _ _ _ _ _ _ HR.out)
/-- A byte taken: the next letter, or an error. -/
def TakeIs (P k : Nat) (s : List UInt8) (l : List UInt8) (w : World) (e : Ending) (w' : World) : Prop :=
  But P w w' ∧ ((∃ c l', l = c :: l' ∧ s.contains c = true ∧ e = .returned (.tuple #[.string (strB [c]), .nilIface]) ∧ RdAt w' P l' (k + 1)) ∨
    ((∀ c l', l = c :: l' → s.contains c = false) ∧ e = .returned (.tuple #[.string (strB []), errV k])))
theorem take_any (P k : Nat) (s l : List UInt8) (w : World) (h : RdAt w P l k) (hl : l.length ≤ 1000) (hk : k ≤ 1000) :
    Calls Tryd.prog 109 #[.pointer (some ⟨P, 0, none⟩), .string (strB s)] w (TakeIs P k s l w) := by
  cases l with
  | nil => exact (take_none P k s w h).mono fun e w' ⟨he, hb, _⟩ => ⟨hb, .inr ⟨fun c l' h => by simp at h, he⟩⟩
  | cons c l =>
    have hl' : l.length ≤ 1000 := by simp at hl; omega
    by_cases hc : s.contains c = true
    · exact (take_good P k s c l w h hc hl' hk).mono fun e w' ⟨he, hb, hr⟩ => ⟨hb, .inl ⟨c, l, rfl, hc, he, hr⟩⟩
    · have hc' : s.contains c = false := by simpa using hc
      exact (take_bad P k s c l w h hc' hl').mono fun e w' ⟨he, hb, _⟩ => ⟨hb, .inr ⟨fun c' l' h => by
        simp at h
        obtain ⟨rfl, rfl⟩ := h
        exact hc', he⟩⟩
/-- A term read: the term and what is left, or an error. -/
def TermIs (P k f : Nat) (l : List UInt8) (w : World) (e : Ending) (w' : World) : Prop :=
  But P w w' ∧ ((∃ t r, rd f l = some (t, r) ∧ e = .returned (.tuple #[.iface t.ty t.pay, .nilIface]) ∧ RdAt w' P r (k + (l.length - r.length))) ∨
    (rd f l = none ∧ ∃ j : Nat, j ≤ 2000 ∧ e = .returned (.tuple #[.nilIface, errV j])))
theorem nil_ne (k : Nat) (w : World) : (binOp .neq 78 (errV k) .nilIface).run Tryd.prog w = .ok (.bool true) w := by kernel_rfl
/-- What is left behind a couple's first bracket. -/
def rdC (f : Nat) (l : List UInt8) : Option (Tm × List UInt8) :=
  match rd f l with
  | some (a, s :: l1) =>
    if isMid s = true then
      match rd f l1 with
      | some (b, z :: l3) => if z = 41 then some (.cpl a s b, l3) else none
      | _ => none
    else none
  | _ => none
def CplIs (P k f : Nat) (l : List UInt8) (w : World) (e : Ending) (w' : World) : Prop :=
  But P w w' ∧ ((∃ t r, rdC f l = some (t, r) ∧ e = .returned (.tuple #[.iface t.ty t.pay, .nilIface]) ∧ RdAt w' P r (k + (l.length - r.length))) ∨
    (rdC f l = none ∧ ∃ j : Nat, j ≤ 2000 ∧ e = .returned (.tuple #[.nilIface, errV j])))
theorem mid_contains (c : UInt8) : ([124, 45] : List UInt8).contains c = isMid c := by
  unfold isMid
  by_cases h1 : c = 124 <;> by_cases h2 : c = 45 <;> simp [h1, h2]
theorem end_contains (c : UInt8) : ([41] : List UInt8).contains c = decide (c = 41) := by
  by_cases h1 : c = 41 <;> simp [h1]

set_option maxRecDepth 100000 in
set_option maxHeartbeats 4000000 in
theorem couple_any (P f : Nat) (IH : ∀ (k : Nat) (l : List UInt8) (w : World), RdAt w P l k → l.length + k ≤ 1000 → l.length < f → Calls Tryd.prog 80 #[.pointer (some ⟨P, 0, none⟩)] w (TermIs P k f l w))
    (k : Nat) (l : List UInt8) (w : World) (h : RdAt w P l k) (hk : l.length + k ≤ 1000) (hf : l.length < f) :
    Calls Tryd.prog 110 #[.pointer (some ⟨P, 0, none⟩)] w (CplIs P k f l w) := by
  have HIH := hid IH
  have hn : ∀ (k : Nat) (w : World), (binOp .neq 78 (errV k) .nilIface).run Tryd.prog w = .ok (.bool true) w := nil_ne
  have HR := hid h
  have HK := hid hk
  have HF := hid hf
  clear IH h hk hf
  go_enter Tryd.func110, Tryd.ntmps110
  go_wp2_with fail
  refine (HIH.out k l w HR.out HK.out HF.out).mono ?_
  rintro e w1 ⟨hb1, ⟨a, r1, h1, rfl, hr1⟩ | ⟨h1, j, hj, rfl⟩⟩
  · have hlen1 := rd_len h1
    have B1 := hid hb1
    have H1 := hid h1
    have R1 := hid hr1
    have K1 := hid (show k + (l.length - r1.length) + r1.length = k + l.length by omega)
    have T1 := hid (take_any P (k + (l.length - r1.length)) [124, 45] r1 w1 hr1 (by have := HK.out; omega) (by have := HK.out; omega))
    have HL1 := hid hlen1
    obtain ⟨k1, hk1⟩ : ∃ k1, k + (l.length - r1.length) = k1 := ⟨_, rfl⟩
    rw [hk1] at K1 T1
    have HK1 := hid hk1
    clear hb1 h1 hr1 hlen1 hk1
    go_wp2_with fail
    refine T1.out.mono ?_
    rintro e w2 ⟨hb2, ⟨c, l1, rfl, hc, rfl, hr2⟩ | ⟨hno, rfl⟩⟩
    · rw [mid_contains] at hc
      have B2 := hid (B1.out.trans hb2)
      have HC := hid hc
      have K2 := hid (show l1.length + (k1 + 1) ≤ 1000 by have := HK.out; have := K1.out; simp at this; omega)
      have I2 := hid (HIH.out (k1 + 1) l1 w2 hr2 K2.out (by have g1 := HL1.out; have g2 := HF.out; rw [List.length_cons] at g1; omega))
      clear hb2 hc hr2 T1
      go_wp2_with fail
      refine I2.out.mono ?_
      rintro e w3 ⟨hb3, ⟨b, r2, h3, rfl, hr3⟩ | ⟨h3, j, hj, rfl⟩⟩
      · have hlen3 := rd_len h3
        have B3 := hid (B2.out.trans hb3)
        have H3 := hid h3
        have HL3 := hid hlen3
        have T3 := hid (take_any P (k1 + 1 + (l1.length - r2.length)) [41] r2 w3 hr3 (by have := K2.out; omega) (by have := K2.out; omega))
        obtain ⟨k3, hk3⟩ : ∃ k3, k1 + 1 + (l1.length - r2.length) = k3 := ⟨_, rfl⟩
        rw [hk3] at T3
        have HK3 := hid hk3
        clear hb3 h3 hr3 hlen3 hk3 I2
        go_wp2_with fail
        refine T3.out.mono ?_
        rintro e w4 ⟨hb4, ⟨z, l3, rfl, hz, rfl, hr4⟩ | ⟨hno, rfl⟩⟩
        · rw [end_contains, decide_eq_true_eq] at hz
          have B4 := hid (B3.out.trans hb4)
          have HZ := hid hz
          have R4 := hid hr4
          clear hb4 hz hr4 T3
          go_wp2_with fail
          refine bodyPost_ret (results_tmp2 rfl _ _ _) rfl ?_
          refine ⟨B4.out, .inl ⟨.cpl a c b, l3, ?_, rfl, ?_⟩⟩
          · unfold rdC
            rw [H1.out]
            simp only [HC.out, if_true, H3.out, HZ.out]
          · have e : k3 + 1 = k + (l.length - l3.length) := by
              have a1 := HK1.out
              have a2 := HK3.out
              have a3 := HL1.out
              have a4 := HL3.out
              simp at a1 a3 a2 a4
              omega
            rw [← e]
            exact R4.out
        · have B4 := hid (B3.out.trans hb4)
          have HNO := hid hno
          have K3 := hid (show k3 ≤ 2000 by have := HK3.out; have := K2.out; omega)
          clear hb4 hno T3
          have hn3 := hn k3
          go_wp2_with fail

          refine bodyPost_ret (results_tmp2 rfl _ _ _) rfl ?_
          refine ⟨B4.out, .inr ⟨?_, k3, K3.out, rfl⟩⟩
          unfold rdC
          rw [H1.out]
          simp only [HC.out, if_true, H3.out]
          cases r2 with
          | nil => rfl
          | cons z l3 =>
            have hz := HNO.out z l3 rfl
            rw [end_contains, decide_eq_false_iff_not] at hz
            simp only [if_neg hz]
      · have B3 := hid (B2.out.trans hb3)
        have H3 := hid h3
        have HJ := hid hj
        clear hb3 h3 hj I2
        have hn3 := hn j
        go_wp2_with fail
        refine bodyPost_ret (results_tmp2 rfl _ _ _) rfl ?_
        refine ⟨B3.out, .inr ⟨?_, j, HJ.out, rfl⟩⟩
        unfold rdC
        rw [H1.out]
        simp only [HC.out, if_true, H3.out]
    · have B2 := hid (B1.out.trans hb2)
      have HNO := hid hno
      have K3 := hid (show k1 ≤ 2000 by have := HK.out; have := K1.out; omega)
      clear hb2 hno T1
      have hn3 := hn k1
      go_wp2_with fail
      refine bodyPost_ret (results_tmp2 rfl _ _ _) rfl ?_
      refine ⟨B2.out, .inr ⟨?_, k1, K3.out, rfl⟩⟩
      unfold rdC
      rw [H1.out]
      cases r1 with
      | nil => rfl
      | cons z l3 =>
        have hz := HNO.out z l3 rfl
        rw [mid_contains] at hz
        simp only [hz, Bool.false_eq_true, if_false]
  · have B1 := hid hb1
    have H1 := hid h1
    have HJ := hid hj
    clear hb1 h1 hj
    have hn3 := hn j
    go_wp2_with fail
    refine bodyPost_ret (results_tmp2 rfl _ _ _) rfl ?_
    exact ⟨B1.out, .inr ⟨by unfold rdC; rw [H1.out], j, HJ.out, rfl⟩⟩

theorem sign_contains (c : UInt8) : ([46, 114, 102, 62, 94, 42, 40] : List UInt8).contains c = (c == 40 || isLet c || isSig c) := by
  unfold isLet isSig
  by_cases h1 : c = 46 <;> by_cases h2 : c = 114 <;> by_cases h3 : c = 102 <;> by_cases h4 : c = 62 <;> by_cases h5 : c = 94 <;> by_cases h6 : c = 42 <;> by_cases h7 : c = 40 <;> simp [h1, h2, h3, h4, h5, h6, h7]
theorem rd_succ (f : Nat) (c : UInt8) (l : List UInt8) : rd (f + 1) (c :: l) = if c = 40 then rdC f l else if isLet c = true then some (.lone c, l) else if isSig c = true then (match rd f l with | some (t, r) => some (.sig c t, r) | none => none) else none := by
  conv => lhs; unfold rd
  unfold rdC
  rfl

set_option maxRecDepth 100000 in
set_option maxHeartbeats 4000000 in
theorem term_any (P : Nat) : ∀ (f k : Nat) (l : List UInt8) (w : World), RdAt w P l k → l.length + k ≤ 1000 → l.length < f → Calls Tryd.prog 80 #[.pointer (some ⟨P, 0, none⟩)] w (TermIs P k f l w)
  | 0, _, _, _, _, _, hf => absurd hf (by omega)
  | f + 1, k, l, w, h, hk, hf => by
    have HIH := hid (fun k l w => term_any P f k l w)
    have HC := hid (couple_any P f HIH.out)
    have HK := hid hk
    have HF := hid hf
    have T1 := hid (take_any P k [46, 114, 102, 62, 94, 42, 40] l w h (by omega) (by omega))
    clear h hk hf
    go_enter Tryd.func80, Tryd.ntmps80
    go_wp2_with fail
    refine T1.out.mono ?_
    rintro e w1 ⟨hb1, ⟨c, l1, rfl, hc, rfl, hr1⟩ | ⟨hno, rfl⟩⟩
    · rw [sign_contains] at hc
      have B1 := hid hb1
      have HCC := hid hc
      have R1 := hid hr1
      have K1 := hid (show l1.length + (k + 1) ≤ 1000 by have := HK.out; simp at this; omega)
      have F1 := hid (show l1.length < f by have := HF.out; simp at this; omega)
      clear hb1 hc hr1 T1
      by_cases h40 : c = 40
      · subst h40
        have e1 := strB_eq [40] [40] true (by decide)
        go_wp2_with fail
        refine (HC.out (k + 1) l1 w1 R1.out K1.out F1.out).mono ?_
        rintro e w2 ⟨hb2, ⟨t, r, h2, rfl, hr2⟩ | ⟨h2, j, hj, rfl⟩⟩
        · have B2 := hid (B1.out.trans hb2)
          have H2 := hid h2
          have R2 := hid hr2
          clear hb2 h2 hr2
          go_wp2_with fail
          refine bodyPost_ret (results_tmp2 rfl _ _ _) rfl ?_
          have h3 : rd (f + 1) (40 :: l1) = some (t, r) := by rw [rd_succ, if_pos rfl]; exact H2.out
          have hl := rd_len h3
          refine ⟨B2.out, .inl ⟨t, r, h3, rfl, ?_⟩⟩
          have e : k + 1 + (l1.length - r.length) = k + ((40 :: l1).length - r.length) := by
            rw [List.length_cons] at hl ⊢
            omega
          rw [← e]
          exact R2.out
        · have B2 := hid (B1.out.trans hb2)
          have H2 := hid h2
          have HJ := hid hj
          clear hb2 h2 hj
          go_wp2_with fail
          refine bodyPost_ret (results_tmp2 rfl _ _ _) rfl ?_
          exact ⟨B2.out, .inr ⟨by rw [rd_succ, if_pos rfl]; exact H2.out, j, HJ.out, rfl⟩⟩
      · have e1 := strB_eq [c] [40] false (by simp [h40])
        have HL := hid (letterIn_one (strB [c]) c (by simp [strB]))
        have H40 := hid h40
        clear h40
        by_cases hlet : isLet c = true
        · have HLT := hid hlet
          rw [hlet] at HL
          clear hlet
          go_wp2_with fail
          refine (HL.out _).mono ?_
          rintro e w2 ⟨rfl, rfl⟩
          go_wp2_with fail
          refine bodyPost_ret (results_tmp2 rfl _ _ _) rfl ?_
          refine ⟨B1.out, .inl ⟨.lone c, l1, by rw [rd_succ, if_neg H40.out, if_pos HLT.out], rfl, ?_⟩⟩
          have e : k + 1 = k + ((c :: l1).length - l1.length) := by simp
          rw [← e]
          exact R1.out
        · have hlet2 : isLet c = false := by simpa using hlet
          have HLT := hid hlet
          have HSG := hid (show isSig c = true by
            have := HCC.out
            rw [hlet2] at this
            simpa [H40.out] using this)
          rw [hlet2] at HL
          clear hlet hlet2
          go_wp2_with fail
          refine (HL.out _).mono ?_
          rintro e w2 ⟨rfl, rfl⟩
          go_wp2_with fail
          refine (HIH.out (k + 1) l1 w1 R1.out K1.out F1.out).mono ?_
          rintro e w2 ⟨hb2, ⟨t, r, h2, rfl, hr2⟩ | ⟨h2, j, hj, rfl⟩⟩
          · have hl2 := rd_len h2
            have B2 := hid (B1.out.trans hb2)
            have H2 := hid h2
            have R2 := hid hr2
            have HL2 := hid hl2
            clear hb2 h2 hr2 hl2
            go_wp2_with fail
            refine bodyPost_ret (results_tmp2 rfl _ _ _) rfl ?_
            refine ⟨B2.out, .inl ⟨.sig c t, r, by rw [rd_succ, if_neg H40.out, if_neg HLT.out, if_pos HSG.out, H2.out], rfl, ?_⟩⟩
            have e : k + 1 + (l1.length - r.length) = k + ((c :: l1).length - r.length) := by
              have := HL2.out
              simp
              omega
            rw [← e]
            exact R2.out
          · have B2 := hid (B1.out.trans hb2)
            have H2 := hid h2
            have HJ := hid hj
            clear hb2 h2 hj
            go_wp2_with fail
            refine bodyPost_ret (results_tmp2 rfl _ _ _) rfl ?_
            exact ⟨B2.out, .inr ⟨by rw [rd_succ, if_neg H40.out, if_neg HLT.out, if_pos HSG.out, H2.out], j, HJ.out, rfl⟩⟩
    · have B1 := hid hb1
      have HNO := hid hno
      have K3 := hid (show k ≤ 2000 by have := HK.out; omega)
      clear hb1 hno T1
      go_wp2_with fail
      refine bodyPost_ret (results_tmp2 rfl _ _ _) rfl ?_
      refine ⟨B1.out, .inr ⟨?_, k, K3.out, rfl⟩⟩
      cases l with
      | nil => rfl
      | cons c l1 =>
        have hz := HNO.out c l1 rfl
        rw [sign_contains] at hz
        simp only [Bool.or_eq_false_iff, beq_eq_false_iff_ne] at hz
        rw [rd_succ, if_neg hz.1.1, if_neg (by rw [hz.1.2]; decide), if_neg (by rw [hz.2]; decide)]
end Go.Proofs.YtongjijkdjagdaaDoor
