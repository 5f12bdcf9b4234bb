/- Settled texts in one file. Each begins with what it holds. -/
import Derived.Test.YtkooahfpogcmiaaBunG
import Derived.Test.YtkooahfpogcmiaaBunC
import Derived.LaidEqlPtr
import Derived.Maps.AppendAt
import Derived.Deep.QuietTactic
import Derived.Deep.LoopGhost
import Derived.WalkMore
import Derived.Test.YtkooahfpogcmiaaBunF
/- step.round: the steps of a round, by its contract. -/
namespace Go.Proofs.Ytkooahfpogcmiaa
open Go.RowKit Go.Shelf

section
variable {P : Program} (w : World)
theorem run_neq_ptr_same {tp te : TypeId} {j : TypeInfo} (a : Addr) (hp : P.underlying tp = some (.pointer te)) (hte : P.info? te = some j) :
    (binOp .neq tp (.pointer (some a)) (.pointer (some a))).run P w = .ok (.bool false) w := by
  have h : ∀ d : Nat, (Op.equalIn (d + 1) tp (.pointer (some a)) (.pointer (some a))).run P w = .ok true w := fun d => by
    simp [Op.equalIn, run_underlying hp, sizeOf, typeInfo, hte, run_sameAddr_same]
  simp only [binOp]
  simp [Op.equal, Op.maxDepth, h 9999]
theorem run_neq_ptr_other {tp te : TypeId} {j : TypeInfo} {a b : Addr} {ca cb : Array Value} {ta tb : TypeId} (hp : P.underlying tp = some (.pointer te)) (hte : P.info? te = some j) (hsz : j.size ≠ 0)
    (hne : a ≠ b) (ha : w.heap[a.block]? = some (.cells ca ta (0, 0))) (hb : w.heap[b.block]? = some (.cells cb tb (0, 0))) :
    (binOp .neq tp (.pointer (some a)) (.pointer (some b))).run P w = .ok (.bool true) w := by
  have h : ∀ d : Nat, (Op.equalIn (d + 1) tp (.pointer (some a)) (.pointer (some b))).run P w = .ok false w := fun d => by
    simp [Op.equalIn, run_underlying hp, sizeOf, typeInfo, hte, hsz, run_sameAddr_other w hne ha hb]
  simp only [binOp]
  simp [Op.equal, Op.maxDepth, h 9999]
theorem run_neq_nil_ptr {tp te : TypeId} (a : Addr) (hp : P.underlying tp = some (.pointer te)) :
    (binOp .neq tp (.pointer none) (.pointer (some a))).run P w = .ok (.bool true) w := by
  have h : ∀ d : Nat, (Op.equalIn (d + 1) tp (.pointer none) (.pointer (some a))).run P w = .ok false w := fun d => by
    simp [Op.equalIn, run_underlying hp]
  simp only [binOp]
  simp [Op.equal, Op.maxDepth, h 9999]
end
/-- Pointers to steps, by their numbers. -/
def ptrsV (g : Nat) (l : List Nat) : List Value := l.map fun c => .pointer (some ⟨g, 5 * c, none⟩)
def lenOf : Value → Nat
  | .slice _ n _ => n
  | _ => 0
section
variable {ops : Array Oper} {rest : List Oper} {o : Oper} {a : Act} {w : World} {Q : Exit → Act → World → Prop}
end

/-- The numbers of the ways of a round, in order. -/
def ringN (n m : Nat) (t : Int → Int → UInt8) (x : Wy) : List Nat := (List.range (goL n m t x)).map fun j => wcode m (iter t x j)
theorem ringN_length (n m : Nat) (t : Int → Int → UInt8) (x : Wy) : (ringN n m t x).length = goL n m t x := by simp [ringN]
end Go.Proofs.Ytkooahfpogcmiaa

/- chart.rounds: all rounds, each one once, by its contract. -/
namespace Go.Proofs.Ytkooahfpogcmiaa
open Go.RowKit Go.Shelf

/-- The slice u holds pointers to the steps with the numbers l, below block B, not in block own. -/
def RingOf (w : World) (g : Nat) (own : Option Nat) (u : Value) (l : List Nat) : Prop :=
  ∃ b cap, u = .slice (some ⟨b, 0, none⟩) l.length cap ∧ b < w.heap.size ∧ own ≠ some b ∧ ∀ (j q : Nat), l[j]? = some q → w.cell? ⟨b, j, none⟩ = some (.pointer (some ⟨g, 5 * q, none⟩))
theorem RingOf.grown {w w' : World} {g : Nat} {own own' : Option Nat} {u : Value} {l : List Nat} (h : RingOf w g own u l) (hg : w.grownBy w' own) (ho : own' = own ∨ ∃ k, own' = some k ∧ w.heap.size ≤ k) : RingOf w' g own' u l := by
  obtain ⟨b, cap, rfl, hb, hn, hc⟩ := h
  refine ⟨b, cap, rfl, Nat.lt_of_lt_of_le hb hg.size, ?_, fun j q hj => ?_⟩
  · rcases ho with rfl | ⟨k, rfl, hk⟩
    · exact hn
    · intro e; cases e; omega
  · have h1 := hc j q hj
    have h2 : w'.heap[b]? = w.heap[b]? := hg.block b hb (fun e => hn e.symm)
    unfold World.cell? at h1 ⊢
    simp only at h1 ⊢
    rw [h2]; exact h1
theorem RingOf.below {w w' : World} {g : Nat} {own : Option Nat} {u : Value} {l : List Nat} (h : RingOf w g own u l) (hb : Below w.heap.size w w') : RingOf w' g own u l :=
  h.grown ⟨hb.os, hb.tape, hb.output, hb.size, fun k hk _ => hb.block k hk⟩ (.inl rfl)
end Go.Proofs.Ytkooahfpogcmiaa

/- RoundPaths of the specification and of the program, by their contracts. -/
namespace Go.Proofs.Ytkooahfpogcmiaa
open Go.RowKit Go.Shelf

/-- What the operations of the specification's sum hand back. -/
def pathsSpecRel (b off c n m K : Nat) (s0 : ByteArray) (i : Nat) (v : Value) (_ : World) : Prop :=
  match i with
  | 0 => v = .slice (some ⟨b, off, none⟩) n c
  | 1 => ∃ A1 cc, v = .slice A1 K cc
  | 2 => v = .int .i64 (K : Int)
  | 3 => v = .slice (some ⟨b, off, none⟩) n c
  | 4 => v = .int .i64 (n : Int)
  | 5 => v = .int .i64 ((K : Int) + (n : Int))
  | 6 => v = .slice (some ⟨b, off, none⟩) n c
  | 7 => v = .pointer (some ⟨b, off, none⟩)
  | 8 => v = .string s0
  | 9 => v = .int .i64 (m : Int)
  | 10 => v = .int .i64 ((K : Int) + (n : Int) + (m : Int))
  | 11 => v = .int .i64 ((K : Int) + (n : Int) + (m : Int))
  | _ => True

end Go.Proofs.Ytkooahfpogcmiaa
