/-
  No cell of these rows narrows 'for every input' (looked for: loops, veiled, ifaces, maps, wideKeys, modest, calm, conditions, laid).
  DERIVED. THE GIVEN ROWS OF THIS SEAT. 3 by the template 'for every input the law returns true; each argument reads behind the call as it read before'; 0 by the template 'total and deterministic' (their statements: YtkaiadgldppbiaaTotals.lean).
  GIVEN WITH THE SEED: the statements are not yours to turn. If you find one false, say at which input.
  Laid BY PROGRAM, IN A SANDBOX (cutbox-rows.mjs): the forced cells as the released guide's own fill.sh prints them over the translation 23028f88138bfce1… (all of the seat's roots in one cut). By AI agents, Wed Nov 11 2026. No macro, syntax, notation, axiom, sorry.
-/
import Derived.Test.YtkaiadgldppbiaaChecked
import GoSem.Claim
import GoSem.ClaimJoined
import GoSem.ClaimMapViews
import Derived.JoinedTies
import Derived.KernelRfl
namespace Go.Proofs.Ytkaiadgldppbiaa
/- THE CELL 'sum', in the pinned program and in every row, IS THE sha256 OF THE DUMP (.gsa) THAT YtkaiadgldppbiaaProg.lean LOADS. Nothing in Lean hashes anything: it is a label: what it is worth is what the hold of that sum in a sandbox is worth. -/
noncomputable def Try.pinned : Pinned := { name := "ytkaiadgldppbiaa", sum := "23028f88138bfce1bd52019a58fc2b4e9f53066ab9388d03e6ef47d29e399bb2", checked := Try.checked }
namespace Rows
def none {H : Type} : Left H := { results := [], args := [] }

/-- 'laws.FnRounds': WHATEVER THE INPUT: true; the input reads as it did. -/
def fnRoundsSpec : ChangeSpec := { name := "fnRounds", fn := fun _ => fun
  | [d] => { results := [.lit (.bool true)], args := [d] }
  | _ => none }
def fnRoundsRow : OpenClaim := { program := "ytkaiadgldppbiaa", sum := "23028f88138bfce1bd52019a58fc2b4e9f53066ab9388d03e6ef47d29e399bb2", func := "loop.example/mirrorgrids/laws.FnRounds", spec := "fnRounds", inPlace := ["internal/bytealg.IndexByteString", "internal/bytealg.IndexString"], unfollowed := true, recurses := true, named := ["internal/bytealg.MaxLen"], apart := false }
def FnRoundsSaid : Prop := fnRoundsRow.holds Try.pinned (OpenSpec.ofChange fnRoundsSpec)

/-- ITS FALSE NEIGHBOUR: 'it returns false'. Refute it at one input. -/
def fnRoundsWrong : ChangeSpec := { name := "fnRounds", fn := fun _ => fun
  | [d] => { results := [.lit (.bool false)], args := [d] }
  | _ => none }
def FnRoundsWrongFalsely : Prop := fnRoundsRow.holds Try.pinned (OpenSpec.ofChange fnRoundsWrong)

/-- 'laws.FnRoundPlain': WHATEVER THE INPUT: true; the input reads as it did. -/
def fnRoundPlainSpec : ChangeSpec := { name := "fnRoundPlain", fn := fun _ => fun
  | [d] => { results := [.lit (.bool true)], args := [d] }
  | _ => none }
def fnRoundPlainRow : OpenClaim := { program := "ytkaiadgldppbiaa", sum := "23028f88138bfce1bd52019a58fc2b4e9f53066ab9388d03e6ef47d29e399bb2", func := "loop.example/mirrorgrids/laws.FnRoundPlain", spec := "fnRoundPlain", inPlace := ["internal/bytealg.IndexByteString", "internal/bytealg.IndexString"], unfollowed := true, recurses := true, named := ["internal/bytealg.MaxLen"], apart := false }
def FnRoundPlainSaid : Prop := fnRoundPlainRow.holds Try.pinned (OpenSpec.ofChange fnRoundPlainSpec)

/-- ITS FALSE NEIGHBOUR: 'it returns false'. Refute it at one input. -/
def fnRoundPlainWrong : ChangeSpec := { name := "fnRoundPlain", fn := fun _ => fun
  | [d] => { results := [.lit (.bool false)], args := [d] }
  | _ => none }
def FnRoundPlainWrongFalsely : Prop := fnRoundPlainRow.holds Try.pinned (OpenSpec.ofChange fnRoundPlainWrong)

/-- 'laws.FnClimb': WHATEVER THE INPUT: true; the input reads as it did. -/
def fnClimbSpec : ChangeSpec := { name := "fnClimb", fn := fun _ => fun
  | [d] => { results := [.lit (.bool true)], args := [d] }
  | _ => none }
def fnClimbRow : OpenClaim := { program := "ytkaiadgldppbiaa", sum := "23028f88138bfce1bd52019a58fc2b4e9f53066ab9388d03e6ef47d29e399bb2", func := "loop.example/mirrorgrids/laws.FnClimb", spec := "fnClimb", inPlace := ["internal/bytealg.IndexByteString", "internal/bytealg.IndexString"], unfollowed := true, recurses := true, named := ["internal/bytealg.MaxLen"], apart := false }
def FnClimbSaid : Prop := fnClimbRow.holds Try.pinned (OpenSpec.ofChange fnClimbSpec)

/-- ITS FALSE NEIGHBOUR: 'it returns false'. Refute it at one input. -/
def fnClimbWrong : ChangeSpec := { name := "fnClimb", fn := fun _ => fun
  | [d] => { results := [.lit (.bool false)], args := [d] }
  | _ => none }
def FnClimbWrongFalsely : Prop := fnClimbRow.holds Try.pinned (OpenSpec.ofChange fnClimbWrong)

/- THE SECOND FORM. 'bulk': how many values and letters a reading holds, each counted each time it is reached (what is shared counts as often as it is met; a slice's spare places count too). A statement '..UptoSaid' is the law's where the arguments, and the package variables that the reading takes, are together of bulk at most 1048576: NARROWER than '..Said'. Prove '..Said' where nothing that the law and all that it calls make is longer than what came in: it says more and counts as full. Else prove '..UptoSaid'. A law counts once. -/
mutual
def uptoBulk {H : Type} : DataW H → Nat
  | .lit (.string bytes) => bytes.length + 1
  | .lit _ => 1
  | .nil => 1
  | .ptr d => uptoBulk d + 1
  | .slice elems spare => uptoBulkAll elems + uptoBulkAll spare + 1
  | .agg parts => uptoBulkAll parts + 1
  | .iface _ d => uptoBulk d + 1
  | .map entries => uptoBulkEntries entries + 1
  | .held _ => 1
def uptoBulkAll {H : Type} : List (DataW H) → Nat
  | [] => 0
  | d :: r => uptoBulk d + uptoBulkAll r
def uptoBulkEntries {H : Type} : List (Lit × DataW H) → Nat
  | [] => 0
  | x :: r => uptoBulkEntry x + uptoBulkEntries r
def uptoBulkEntry {H : Type} : Lit × DataW H → Nat
  | (.string bytes, d) => bytes.length + uptoBulk d + 1
  | (_, d) => uptoBulk d + 1
 end
def uptoSmall : (H : Type) → List (DataW H) → Bool := fun _ ds => decide (uptoBulkAll ds ≤ 1048576)
def OpenSpec.upto (s : _root_.Go.ChangeSpec) : _root_.Go.OpenSpec := { _root_.Go.OpenSpec.ofChange s with cond := some uptoSmall }

/-- 'laws.FnRounds', WHERE WHAT IT READS IS OF BULK AT MOST 1048576: true; the input reads as it did. -/
def fnRoundsUptoRow : OpenClaim := { program := "ytkaiadgldppbiaa", sum := "23028f88138bfce1bd52019a58fc2b4e9f53066ab9388d03e6ef47d29e399bb2", func := "loop.example/mirrorgrids/laws.FnRounds", spec := "fnRounds", inPlace := ["internal/bytealg.IndexByteString", "internal/bytealg.IndexString"], unfollowed := true, recurses := true, named := ["internal/bytealg.MaxLen"], apart := false, narrowed := true }
def FnRoundsUptoSaid : Prop := fnRoundsUptoRow.holds Try.pinned (OpenSpec.upto fnRoundsSpec)

/-- 'laws.FnRoundPlain', WHERE WHAT IT READS IS OF BULK AT MOST 1048576: true; the input reads as it did. -/
def fnRoundPlainUptoRow : OpenClaim := { program := "ytkaiadgldppbiaa", sum := "23028f88138bfce1bd52019a58fc2b4e9f53066ab9388d03e6ef47d29e399bb2", func := "loop.example/mirrorgrids/laws.FnRoundPlain", spec := "fnRoundPlain", inPlace := ["internal/bytealg.IndexByteString", "internal/bytealg.IndexString"], unfollowed := true, recurses := true, named := ["internal/bytealg.MaxLen"], apart := false, narrowed := true }
def FnRoundPlainUptoSaid : Prop := fnRoundPlainUptoRow.holds Try.pinned (OpenSpec.upto fnRoundPlainSpec)

/-- 'laws.FnClimb', WHERE WHAT IT READS IS OF BULK AT MOST 1048576: true; the input reads as it did. -/
def fnClimbUptoRow : OpenClaim := { program := "ytkaiadgldppbiaa", sum := "23028f88138bfce1bd52019a58fc2b4e9f53066ab9388d03e6ef47d29e399bb2", func := "loop.example/mirrorgrids/laws.FnClimb", spec := "fnClimb", inPlace := ["internal/bytealg.IndexByteString", "internal/bytealg.IndexString"], unfollowed := true, recurses := true, named := ["internal/bytealg.MaxLen"], apart := false, narrowed := true }
def FnClimbUptoSaid : Prop := fnClimbUptoRow.holds Try.pinned (OpenSpec.upto fnClimbSpec)

end Rows
end Go.Proofs.Ytkaiadgldppbiaa
