/-
  No cell of these rows narrows 'for every input' (looked for: loops, veiled, ifaces, maps, wideKeys, modest, calm, conditions, laid).
  DERIVED. THE GIVEN ROWS OF THIS SEAT. 13 by the template 'for every input the law returns true; each argument reads behind the call as it read before'; 0 by the template 'total and deterministic' (their statements: YtmdgbcepjnfbnaaTotals.lean).
  GIVEN WITH THE SEED: the statements are not yours to turn. If you find one false, say at which input.
  Laid BY PROGRAM, IN A SANDBOX (cutbox-rows.mjs): the forced cells as the released guide's own fill.sh prints them over the translation 0ec67a68d4aef16e… (all of the seat's roots in one cut). By AI agents, Wed Nov 11 2026. No macro, syntax, notation, axiom, sorry.
-/
import Derived.Test.YtmdgbcepjnfbnaaChecked
import GoSem.Claim
import GoSem.ClaimJoined
import GoSem.ClaimMapViews
import Derived.JoinedTies
import Derived.KernelRfl
namespace Go.Proofs.Ytmdgbcepjnfbnaa
/- THE CELL 'sum', in the pinned program and in every row, IS THE sha256 OF THE DUMP (.gsa) THAT YtmdgbcepjnfbnaaProg.lean LOADS. Nothing in Lean hashes anything: it is a label: what it is worth is what the hold of that sum in a sandbox is worth. -/
noncomputable def Try.pinned : Pinned := { name := "ytmdgbcepjnfbnaa", sum := "0ec67a68d4aef16eb053537494cefb8d6d8ad5a9f835e7a4c0bac1dcaf2d348d", checked := Try.checked }
namespace Rows
def none {H : Type} : Left H := { results := [], args := [] }

/-- 'laws.FnFlip': WHATEVER THE INPUT: true; the input reads as it did. -/
def fnFlipSpec : ChangeSpec := { name := "fnFlip", fn := fun _ => fun
  | [d] => { results := [.lit (.bool true)], args := [d] }
  | _ => none }
def fnFlipRow : OpenClaim := { program := "ytmdgbcepjnfbnaa", sum := "0ec67a68d4aef16eb053537494cefb8d6d8ad5a9f835e7a4c0bac1dcaf2d348d", func := "loop.example/mirrorgrids/laws.FnFlip", spec := "fnFlip", inPlace := ["internal/bytealg.IndexByteString", "internal/bytealg.IndexString"], unfollowed := true, recurses := true, named := ["internal/bytealg.MaxLen"], apart := false }
def FnFlipSaid : Prop := fnFlipRow.holds Try.pinned (OpenSpec.ofChange fnFlipSpec)

/-- ITS FALSE NEIGHBOUR: 'it returns false'. Refute it at one input. -/
def fnFlipWrong : ChangeSpec := { name := "fnFlip", fn := fun _ => fun
  | [d] => { results := [.lit (.bool false)], args := [d] }
  | _ => none }
def FnFlipWrongFalsely : Prop := fnFlipRow.holds Try.pinned (OpenSpec.ofChange fnFlipWrong)

/-- 'laws.FnCells': WHATEVER THE INPUT: true; the input reads as it did. -/
def fnCellsSpec : ChangeSpec := { name := "fnCells", fn := fun _ => fun
  | [d] => { results := [.lit (.bool true)], args := [d] }
  | _ => none }
def fnCellsRow : OpenClaim := { program := "ytmdgbcepjnfbnaa", sum := "0ec67a68d4aef16eb053537494cefb8d6d8ad5a9f835e7a4c0bac1dcaf2d348d", func := "loop.example/mirrorgrids/laws.FnCells", spec := "fnCells", inPlace := ["internal/bytealg.IndexByteString", "internal/bytealg.IndexString"], unfollowed := true, recurses := true, named := ["internal/bytealg.MaxLen"], apart := false }
def FnCellsSaid : Prop := fnCellsRow.holds Try.pinned (OpenSpec.ofChange fnCellsSpec)

/-- ITS FALSE NEIGHBOUR: 'it returns false'. Refute it at one input. -/
def fnCellsWrong : ChangeSpec := { name := "fnCells", fn := fun _ => fun
  | [d] => { results := [.lit (.bool false)], args := [d] }
  | _ => none }
def FnCellsWrongFalsely : Prop := fnCellsRow.holds Try.pinned (OpenSpec.ofChange fnCellsWrong)

/-- 'laws.FnThree': WHATEVER THE INPUT: true; the input reads as it did. -/
def fnThreeSpec : ChangeSpec := { name := "fnThree", fn := fun _ => fun
  | [d] => { results := [.lit (.bool true)], args := [d] }
  | _ => none }
def fnThreeRow : OpenClaim := { program := "ytmdgbcepjnfbnaa", sum := "0ec67a68d4aef16eb053537494cefb8d6d8ad5a9f835e7a4c0bac1dcaf2d348d", func := "loop.example/mirrorgrids/laws.FnThree", spec := "fnThree", inPlace := ["internal/bytealg.IndexByteString", "internal/bytealg.IndexString"], unfollowed := true, recurses := true, named := ["internal/bytealg.MaxLen"], apart := false }
def FnThreeSaid : Prop := fnThreeRow.holds Try.pinned (OpenSpec.ofChange fnThreeSpec)

/-- ITS FALSE NEIGHBOUR: 'it returns false'. Refute it at one input. -/
def fnThreeWrong : ChangeSpec := { name := "fnThree", fn := fun _ => fun
  | [d] => { results := [.lit (.bool false)], args := [d] }
  | _ => none }
def FnThreeWrongFalsely : Prop := fnThreeRow.holds Try.pinned (OpenSpec.ofChange fnThreeWrong)

/-- 'laws.FnExactRoundPaths': WHATEVER THE INPUT: true; the input reads as it did. -/
def fnExactRoundPathsSpec : ChangeSpec := { name := "fnExactRoundPaths", fn := fun _ => fun
  | [d] => { results := [.lit (.bool true)], args := [d] }
  | _ => none }
def fnExactRoundPathsRow : OpenClaim := { program := "ytmdgbcepjnfbnaa", sum := "0ec67a68d4aef16eb053537494cefb8d6d8ad5a9f835e7a4c0bac1dcaf2d348d", func := "loop.example/mirrorgrids/laws.FnExactRoundPaths", spec := "fnExactRoundPaths", inPlace := ["internal/bytealg.IndexByteString", "internal/bytealg.IndexString"], unfollowed := true, recurses := true, named := ["internal/bytealg.MaxLen"], apart := false }
def FnExactRoundPathsSaid : Prop := fnExactRoundPathsRow.holds Try.pinned (OpenSpec.ofChange fnExactRoundPathsSpec)

/-- ITS FALSE NEIGHBOUR: 'it returns false'. Refute it at one input. -/
def fnExactRoundPathsWrong : ChangeSpec := { name := "fnExactRoundPaths", fn := fun _ => fun
  | [d] => { results := [.lit (.bool false)], args := [d] }
  | _ => none }
def FnExactRoundPathsWrongFalsely : Prop := fnExactRoundPathsRow.holds Try.pinned (OpenSpec.ofChange fnExactRoundPathsWrong)

/-- 'laws.FnExactRoundLengths': WHATEVER THE INPUT: true; the input reads as it did. -/
def fnExactRoundLengthsSpec : ChangeSpec := { name := "fnExactRoundLengths", fn := fun _ => fun
  | [d] => { results := [.lit (.bool true)], args := [d] }
  | _ => none }
def fnExactRoundLengthsRow : OpenClaim := { program := "ytmdgbcepjnfbnaa", sum := "0ec67a68d4aef16eb053537494cefb8d6d8ad5a9f835e7a4c0bac1dcaf2d348d", func := "loop.example/mirrorgrids/laws.FnExactRoundLengths", spec := "fnExactRoundLengths", inPlace := ["internal/bytealg.IndexByteString", "internal/bytealg.IndexString"], unfollowed := true, recurses := true, named := ["internal/bytealg.MaxLen"], apart := false }
def FnExactRoundLengthsSaid : Prop := fnExactRoundLengthsRow.holds Try.pinned (OpenSpec.ofChange fnExactRoundLengthsSpec)

/-- ITS FALSE NEIGHBOUR: 'it returns false'. Refute it at one input. -/
def fnExactRoundLengthsWrong : ChangeSpec := { name := "fnExactRoundLengths", fn := fun _ => fun
  | [d] => { results := [.lit (.bool false)], args := [d] }
  | _ => none }
def FnExactRoundLengthsWrongFalsely : Prop := fnExactRoundLengthsRow.holds Try.pinned (OpenSpec.ofChange fnExactRoundLengthsWrong)

/-- 'laws.FnExactRoundMost': WHATEVER THE INPUT: true; the input reads as it did. -/
def fnExactRoundMostSpec : ChangeSpec := { name := "fnExactRoundMost", fn := fun _ => fun
  | [d1, d2] => { results := [.lit (.bool true)], args := [d1, d2] }
  | _ => none }
def fnExactRoundMostRow : OpenClaim := { program := "ytmdgbcepjnfbnaa", sum := "0ec67a68d4aef16eb053537494cefb8d6d8ad5a9f835e7a4c0bac1dcaf2d348d", func := "loop.example/mirrorgrids/laws.FnExactRoundMost", spec := "fnExactRoundMost", unfollowed := true, recurses := true, apart := false }
def FnExactRoundMostSaid : Prop := fnExactRoundMostRow.holds Try.pinned (OpenSpec.ofChange fnExactRoundMostSpec)

/-- ITS FALSE NEIGHBOUR: 'it returns false'. Refute it at one input. -/
def fnExactRoundMostWrong : ChangeSpec := { name := "fnExactRoundMost", fn := fun _ => fun
  | [d1, d2] => { results := [.lit (.bool false)], args := [d1, d2] }
  | _ => none }
def FnExactRoundMostWrongFalsely : Prop := fnExactRoundMostRow.holds Try.pinned (OpenSpec.ofChange fnExactRoundMostWrong)

/-- 'laws.FnExactChangeDelta': WHATEVER THE INPUT: true; the input reads as it did. -/
def fnExactChangeDeltaSpec : ChangeSpec := { name := "fnExactChangeDelta", fn := fun _ => fun
  | [d1, d2] => { results := [.lit (.bool true)], args := [d1, d2] }
  | _ => none }
def fnExactChangeDeltaRow : OpenClaim := { program := "ytmdgbcepjnfbnaa", sum := "0ec67a68d4aef16eb053537494cefb8d6d8ad5a9f835e7a4c0bac1dcaf2d348d", func := "loop.example/mirrorgrids/laws.FnExactChangeDelta", spec := "fnExactChangeDelta", inPlace := ["internal/bytealg.IndexByteString", "internal/bytealg.IndexString"], unfollowed := true, recurses := true, named := ["internal/bytealg.MaxLen"], apart := false }
def FnExactChangeDeltaSaid : Prop := fnExactChangeDeltaRow.holds Try.pinned (OpenSpec.ofChange fnExactChangeDeltaSpec)

/-- ITS FALSE NEIGHBOUR: 'it returns false'. Refute it at one input. -/
def fnExactChangeDeltaWrong : ChangeSpec := { name := "fnExactChangeDelta", fn := fun _ => fun
  | [d1, d2] => { results := [.lit (.bool false)], args := [d1, d2] }
  | _ => none }
def FnExactChangeDeltaWrongFalsely : Prop := fnExactChangeDeltaRow.holds Try.pinned (OpenSpec.ofChange fnExactChangeDeltaWrong)

/-- 'laws.FnExactChangeEmpty': WHATEVER THE INPUT: true; the input reads as it did. -/
def fnExactChangeEmptySpec : ChangeSpec := { name := "fnExactChangeEmpty", fn := fun _ => fun
  | [d1, d2] => { results := [.lit (.bool true)], args := [d1, d2] }
  | _ => none }
def fnExactChangeEmptyRow : OpenClaim := { program := "ytmdgbcepjnfbnaa", sum := "0ec67a68d4aef16eb053537494cefb8d6d8ad5a9f835e7a4c0bac1dcaf2d348d", func := "loop.example/mirrorgrids/laws.FnExactChangeEmpty", spec := "fnExactChangeEmpty", inPlace := ["internal/bytealg.IndexByteString", "internal/bytealg.IndexString"], unfollowed := true, recurses := true, named := ["internal/bytealg.MaxLen"], apart := false }
def FnExactChangeEmptySaid : Prop := fnExactChangeEmptyRow.holds Try.pinned (OpenSpec.ofChange fnExactChangeEmptySpec)

/-- ITS FALSE NEIGHBOUR: 'it returns false'. Refute it at one input. -/
def fnExactChangeEmptyWrong : ChangeSpec := { name := "fnExactChangeEmpty", fn := fun _ => fun
  | [d1, d2] => { results := [.lit (.bool false)], args := [d1, d2] }
  | _ => none }
def FnExactChangeEmptyWrongFalsely : Prop := fnExactChangeEmptyRow.holds Try.pinned (OpenSpec.ofChange fnExactChangeEmptyWrong)

/-- 'laws.FnExactChangeSelf': WHATEVER THE INPUT: true; the input reads as it did. -/
def fnExactChangeSelfSpec : ChangeSpec := { name := "fnExactChangeSelf", fn := fun _ => fun
  | [d1, d2] => { results := [.lit (.bool true)], args := [d1, d2] }
  | _ => none }
def fnExactChangeSelfRow : OpenClaim := { program := "ytmdgbcepjnfbnaa", sum := "0ec67a68d4aef16eb053537494cefb8d6d8ad5a9f835e7a4c0bac1dcaf2d348d", func := "loop.example/mirrorgrids/laws.FnExactChangeSelf", spec := "fnExactChangeSelf", inPlace := ["internal/bytealg.IndexByteString", "internal/bytealg.IndexString"], unfollowed := true, recurses := true, named := ["internal/bytealg.MaxLen"], apart := false }
def FnExactChangeSelfSaid : Prop := fnExactChangeSelfRow.holds Try.pinned (OpenSpec.ofChange fnExactChangeSelfSpec)

/-- ITS FALSE NEIGHBOUR: 'it returns false'. Refute it at one input. -/
def fnExactChangeSelfWrong : ChangeSpec := { name := "fnExactChangeSelf", fn := fun _ => fun
  | [d1, d2] => { results := [.lit (.bool false)], args := [d1, d2] }
  | _ => none }
def FnExactChangeSelfWrongFalsely : Prop := fnExactChangeSelfRow.holds Try.pinned (OpenSpec.ofChange fnExactChangeSelfWrong)

/-- 'laws.FnExactChangePaths': WHATEVER THE INPUT: true; the input reads as it did. -/
def fnExactChangePathsSpec : ChangeSpec := { name := "fnExactChangePaths", fn := fun _ => fun
  | [d1, d2] => { results := [.lit (.bool true)], args := [d1, d2] }
  | _ => none }
def fnExactChangePathsRow : OpenClaim := { program := "ytmdgbcepjnfbnaa", sum := "0ec67a68d4aef16eb053537494cefb8d6d8ad5a9f835e7a4c0bac1dcaf2d348d", func := "loop.example/mirrorgrids/laws.FnExactChangePaths", spec := "fnExactChangePaths", inPlace := ["internal/bytealg.IndexByteString", "internal/bytealg.IndexString"], unfollowed := true, recurses := true, named := ["internal/bytealg.MaxLen"], apart := false }
def FnExactChangePathsSaid : Prop := fnExactChangePathsRow.holds Try.pinned (OpenSpec.ofChange fnExactChangePathsSpec)

/-- ITS FALSE NEIGHBOUR: 'it returns false'. Refute it at one input. -/
def fnExactChangePathsWrong : ChangeSpec := { name := "fnExactChangePaths", fn := fun _ => fun
  | [d1, d2] => { results := [.lit (.bool false)], args := [d1, d2] }
  | _ => none }
def FnExactChangePathsWrongFalsely : Prop := fnExactChangePathsRow.holds Try.pinned (OpenSpec.ofChange fnExactChangePathsWrong)

/-- 'laws.FnExactChangeBest': WHATEVER THE INPUT: true; the input reads as it did. -/
def fnExactChangeBestSpec : ChangeSpec := { name := "fnExactChangeBest", fn := fun _ => fun
  | [d] => { results := [.lit (.bool true)], args := [d] }
  | _ => none }
def fnExactChangeBestRow : OpenClaim := { program := "ytmdgbcepjnfbnaa", sum := "0ec67a68d4aef16eb053537494cefb8d6d8ad5a9f835e7a4c0bac1dcaf2d348d", func := "loop.example/mirrorgrids/laws.FnExactChangeBest", spec := "fnExactChangeBest", inPlace := ["internal/bytealg.IndexByteString", "internal/bytealg.IndexString"], unfollowed := true, recurses := true, named := ["internal/bytealg.MaxLen"], apart := false }
def FnExactChangeBestSaid : Prop := fnExactChangeBestRow.holds Try.pinned (OpenSpec.ofChange fnExactChangeBestSpec)

/-- ITS FALSE NEIGHBOUR: 'it returns false'. Refute it at one input. -/
def fnExactChangeBestWrong : ChangeSpec := { name := "fnExactChangeBest", fn := fun _ => fun
  | [d] => { results := [.lit (.bool false)], args := [d] }
  | _ => none }
def FnExactChangeBestWrongFalsely : Prop := fnExactChangeBestRow.holds Try.pinned (OpenSpec.ofChange fnExactChangeBestWrong)

/-- 'laws.FnExactChangeClimb': WHATEVER THE INPUT: true; the input reads as it did. -/
def fnExactChangeClimbSpec : ChangeSpec := { name := "fnExactChangeClimb", fn := fun _ => fun
  | [d] => { results := [.lit (.bool true)], args := [d] }
  | _ => none }
def fnExactChangeClimbRow : OpenClaim := { program := "ytmdgbcepjnfbnaa", sum := "0ec67a68d4aef16eb053537494cefb8d6d8ad5a9f835e7a4c0bac1dcaf2d348d", func := "loop.example/mirrorgrids/laws.FnExactChangeClimb", spec := "fnExactChangeClimb", inPlace := ["internal/bytealg.IndexByteString", "internal/bytealg.IndexString"], unfollowed := true, recurses := true, named := ["internal/bytealg.MaxLen"], apart := false }
def FnExactChangeClimbSaid : Prop := fnExactChangeClimbRow.holds Try.pinned (OpenSpec.ofChange fnExactChangeClimbSpec)

/-- ITS FALSE NEIGHBOUR: 'it returns false'. Refute it at one input. -/
def fnExactChangeClimbWrong : ChangeSpec := { name := "fnExactChangeClimb", fn := fun _ => fun
  | [d] => { results := [.lit (.bool false)], args := [d] }
  | _ => none }
def FnExactChangeClimbWrongFalsely : Prop := fnExactChangeClimbRow.holds Try.pinned (OpenSpec.ofChange fnExactChangeClimbWrong)

/-- 'laws.FnExactChangePairs': WHATEVER THE INPUT: true; the input reads as it did. -/
def fnExactChangePairsSpec : ChangeSpec := { name := "fnExactChangePairs", fn := fun _ => fun
  | [d1, d2] => { results := [.lit (.bool true)], args := [d1, d2] }
  | _ => none }
def fnExactChangePairsRow : OpenClaim := { program := "ytmdgbcepjnfbnaa", sum := "0ec67a68d4aef16eb053537494cefb8d6d8ad5a9f835e7a4c0bac1dcaf2d348d", func := "loop.example/mirrorgrids/laws.FnExactChangePairs", spec := "fnExactChangePairs", inPlace := ["internal/bytealg.IndexByteString", "internal/bytealg.IndexString"], unfollowed := true, recurses := true, named := ["internal/bytealg.MaxLen"], apart := false }
def FnExactChangePairsSaid : Prop := fnExactChangePairsRow.holds Try.pinned (OpenSpec.ofChange fnExactChangePairsSpec)

/-- ITS FALSE NEIGHBOUR: 'it returns false'. Refute it at one input. -/
def fnExactChangePairsWrong : ChangeSpec := { name := "fnExactChangePairs", fn := fun _ => fun
  | [d1, d2] => { results := [.lit (.bool false)], args := [d1, d2] }
  | _ => none }
def FnExactChangePairsWrongFalsely : Prop := fnExactChangePairsRow.holds Try.pinned (OpenSpec.ofChange fnExactChangePairsWrong)

/- THE SECOND FORM. 'bulk': how many values and letters a reading holds, each counted each time it is reached (what is shared counts as often as it is met; a slice's spare places count too). A statement '..UptoSaid' is the law's where the arguments, and the package variables that the reading takes, are together of bulk at most 1048576: NARROWER than '..Said'. Prove '..Said' where nothing that the law and all that it calls make is longer than what came in: it says more and counts as full. Else prove '..UptoSaid'. A law counts once. -/
mutual
def uptoBulk {H : Type} : DataW H → Nat
  | .lit (.string bytes) => bytes.length + 1
  | .lit _ => 1
  | .nil => 1
  | .ptr d => uptoBulk d + 1
  | .slice elems spare => uptoBulkAll elems + uptoBulkAll spare + 1
  | .agg parts => uptoBulkAll parts + 1
  | .iface _ d => uptoBulk d + 1
  | .map entries => uptoBulkEntries entries + 1
  | .held _ => 1
def uptoBulkAll {H : Type} : List (DataW H) → Nat
  | [] => 0
  | d :: r => uptoBulk d + uptoBulkAll r
def uptoBulkEntries {H : Type} : List (Lit × DataW H) → Nat
  | [] => 0
  | x :: r => uptoBulkEntry x + uptoBulkEntries r
def uptoBulkEntry {H : Type} : Lit × DataW H → Nat
  | (.string bytes, d) => bytes.length + uptoBulk d + 1
  | (_, d) => uptoBulk d + 1
 end
def uptoSmall : (H : Type) → List (DataW H) → Bool := fun _ ds => decide (uptoBulkAll ds ≤ 1048576)
def OpenSpec.upto (s : _root_.Go.ChangeSpec) : _root_.Go.OpenSpec := { _root_.Go.OpenSpec.ofChange s with cond := some uptoSmall }

/-- 'laws.FnFlip', WHERE WHAT IT READS IS OF BULK AT MOST 1048576: true; the input reads as it did. -/
def fnFlipUptoRow : OpenClaim := { program := "ytmdgbcepjnfbnaa", sum := "0ec67a68d4aef16eb053537494cefb8d6d8ad5a9f835e7a4c0bac1dcaf2d348d", func := "loop.example/mirrorgrids/laws.FnFlip", spec := "fnFlip", inPlace := ["internal/bytealg.IndexByteString", "internal/bytealg.IndexString"], unfollowed := true, recurses := true, named := ["internal/bytealg.MaxLen"], apart := false, narrowed := true }
def FnFlipUptoSaid : Prop := fnFlipUptoRow.holds Try.pinned (OpenSpec.upto fnFlipSpec)

/-- 'laws.FnCells', WHERE WHAT IT READS IS OF BULK AT MOST 1048576: true; the input reads as it did. -/
def fnCellsUptoRow : OpenClaim := { program := "ytmdgbcepjnfbnaa", sum := "0ec67a68d4aef16eb053537494cefb8d6d8ad5a9f835e7a4c0bac1dcaf2d348d", func := "loop.example/mirrorgrids/laws.FnCells", spec := "fnCells", inPlace := ["internal/bytealg.IndexByteString", "internal/bytealg.IndexString"], unfollowed := true, recurses := true, named := ["internal/bytealg.MaxLen"], apart := false, narrowed := true }
def FnCellsUptoSaid : Prop := fnCellsUptoRow.holds Try.pinned (OpenSpec.upto fnCellsSpec)

/-- 'laws.FnThree', WHERE WHAT IT READS IS OF BULK AT MOST 1048576: true; the input reads as it did. -/
def fnThreeUptoRow : OpenClaim := { program := "ytmdgbcepjnfbnaa", sum := "0ec67a68d4aef16eb053537494cefb8d6d8ad5a9f835e7a4c0bac1dcaf2d348d", func := "loop.example/mirrorgrids/laws.FnThree", spec := "fnThree", inPlace := ["internal/bytealg.IndexByteString", "internal/bytealg.IndexString"], unfollowed := true, recurses := true, named := ["internal/bytealg.MaxLen"], apart := false, narrowed := true }
def FnThreeUptoSaid : Prop := fnThreeUptoRow.holds Try.pinned (OpenSpec.upto fnThreeSpec)

/-- 'laws.FnExactRoundPaths', WHERE WHAT IT READS IS OF BULK AT MOST 1048576: true; the input reads as it did. -/
def fnExactRoundPathsUptoRow : OpenClaim := { program := "ytmdgbcepjnfbnaa", sum := "0ec67a68d4aef16eb053537494cefb8d6d8ad5a9f835e7a4c0bac1dcaf2d348d", func := "loop.example/mirrorgrids/laws.FnExactRoundPaths", spec := "fnExactRoundPaths", inPlace := ["internal/bytealg.IndexByteString", "internal/bytealg.IndexString"], unfollowed := true, recurses := true, named := ["internal/bytealg.MaxLen"], apart := false, narrowed := true }
def FnExactRoundPathsUptoSaid : Prop := fnExactRoundPathsUptoRow.holds Try.pinned (OpenSpec.upto fnExactRoundPathsSpec)

/-- 'laws.FnExactRoundLengths', WHERE WHAT IT READS IS OF BULK AT MOST 1048576: true; the input reads as it did. -/
def fnExactRoundLengthsUptoRow : OpenClaim := { program := "ytmdgbcepjnfbnaa", sum := "0ec67a68d4aef16eb053537494cefb8d6d8ad5a9f835e7a4c0bac1dcaf2d348d", func := "loop.example/mirrorgrids/laws.FnExactRoundLengths", spec := "fnExactRoundLengths", inPlace := ["internal/bytealg.IndexByteString", "internal/bytealg.IndexString"], unfollowed := true, recurses := true, named := ["internal/bytealg.MaxLen"], apart := false, narrowed := true }
def FnExactRoundLengthsUptoSaid : Prop := fnExactRoundLengthsUptoRow.holds Try.pinned (OpenSpec.upto fnExactRoundLengthsSpec)

/-- 'laws.FnExactRoundMost', WHERE WHAT IT READS IS OF BULK AT MOST 1048576: true; the input reads as it did. -/
def fnExactRoundMostUptoRow : OpenClaim := { program := "ytmdgbcepjnfbnaa", sum := "0ec67a68d4aef16eb053537494cefb8d6d8ad5a9f835e7a4c0bac1dcaf2d348d", func := "loop.example/mirrorgrids/laws.FnExactRoundMost", spec := "fnExactRoundMost", unfollowed := true, recurses := true, apart := false, narrowed := true }
def FnExactRoundMostUptoSaid : Prop := fnExactRoundMostUptoRow.holds Try.pinned (OpenSpec.upto fnExactRoundMostSpec)

/-- 'laws.FnExactChangeDelta', WHERE WHAT IT READS IS OF BULK AT MOST 1048576: true; the input reads as it did. -/
def fnExactChangeDeltaUptoRow : OpenClaim := { program := "ytmdgbcepjnfbnaa", sum := "0ec67a68d4aef16eb053537494cefb8d6d8ad5a9f835e7a4c0bac1dcaf2d348d", func := "loop.example/mirrorgrids/laws.FnExactChangeDelta", spec := "fnExactChangeDelta", inPlace := ["internal/bytealg.IndexByteString", "internal/bytealg.IndexString"], unfollowed := true, recurses := true, named := ["internal/bytealg.MaxLen"], apart := false, narrowed := true }
def FnExactChangeDeltaUptoSaid : Prop := fnExactChangeDeltaUptoRow.holds Try.pinned (OpenSpec.upto fnExactChangeDeltaSpec)

/-- 'laws.FnExactChangeEmpty', WHERE WHAT IT READS IS OF BULK AT MOST 1048576: true; the input reads as it did. -/
def fnExactChangeEmptyUptoRow : OpenClaim := { program := "ytmdgbcepjnfbnaa", sum := "0ec67a68d4aef16eb053537494cefb8d6d8ad5a9f835e7a4c0bac1dcaf2d348d", func := "loop.example/mirrorgrids/laws.FnExactChangeEmpty", spec := "fnExactChangeEmpty", inPlace := ["internal/bytealg.IndexByteString", "internal/bytealg.IndexString"], unfollowed := true, recurses := true, named := ["internal/bytealg.MaxLen"], apart := false, narrowed := true }
def FnExactChangeEmptyUptoSaid : Prop := fnExactChangeEmptyUptoRow.holds Try.pinned (OpenSpec.upto fnExactChangeEmptySpec)

/-- 'laws.FnExactChangeSelf', WHERE WHAT IT READS IS OF BULK AT MOST 1048576: true; the input reads as it did. -/
def fnExactChangeSelfUptoRow : OpenClaim := { program := "ytmdgbcepjnfbnaa", sum := "0ec67a68d4aef16eb053537494cefb8d6d8ad5a9f835e7a4c0bac1dcaf2d348d", func := "loop.example/mirrorgrids/laws.FnExactChangeSelf", spec := "fnExactChangeSelf", inPlace := ["internal/bytealg.IndexByteString", "internal/bytealg.IndexString"], unfollowed := true, recurses := true, named := ["internal/bytealg.MaxLen"], apart := false, narrowed := true }
def FnExactChangeSelfUptoSaid : Prop := fnExactChangeSelfUptoRow.holds Try.pinned (OpenSpec.upto fnExactChangeSelfSpec)

/-- 'laws.FnExactChangePaths', WHERE WHAT IT READS IS OF BULK AT MOST 1048576: true; the input reads as it did. -/
def fnExactChangePathsUptoRow : OpenClaim := { program := "ytmdgbcepjnfbnaa", sum := "0ec67a68d4aef16eb053537494cefb8d6d8ad5a9f835e7a4c0bac1dcaf2d348d", func := "loop.example/mirrorgrids/laws.FnExactChangePaths", spec := "fnExactChangePaths", inPlace := ["internal/bytealg.IndexByteString", "internal/bytealg.IndexString"], unfollowed := true, recurses := true, named := ["internal/bytealg.MaxLen"], apart := false, narrowed := true }
def FnExactChangePathsUptoSaid : Prop := fnExactChangePathsUptoRow.holds Try.pinned (OpenSpec.upto fnExactChangePathsSpec)

/-- 'laws.FnExactChangeBest', WHERE WHAT IT READS IS OF BULK AT MOST 1048576: true; the input reads as it did. -/
def fnExactChangeBestUptoRow : OpenClaim := { program := "ytmdgbcepjnfbnaa", sum := "0ec67a68d4aef16eb053537494cefb8d6d8ad5a9f835e7a4c0bac1dcaf2d348d", func := "loop.example/mirrorgrids/laws.FnExactChangeBest", spec := "fnExactChangeBest", inPlace := ["internal/bytealg.IndexByteString", "internal/bytealg.IndexString"], unfollowed := true, recurses := true, named := ["internal/bytealg.MaxLen"], apart := false, narrowed := true }
def FnExactChangeBestUptoSaid : Prop := fnExactChangeBestUptoRow.holds Try.pinned (OpenSpec.upto fnExactChangeBestSpec)

/-- 'laws.FnExactChangeClimb', WHERE WHAT IT READS IS OF BULK AT MOST 1048576: true; the input reads as it did. -/
def fnExactChangeClimbUptoRow : OpenClaim := { program := "ytmdgbcepjnfbnaa", sum := "0ec67a68d4aef16eb053537494cefb8d6d8ad5a9f835e7a4c0bac1dcaf2d348d", func := "loop.example/mirrorgrids/laws.FnExactChangeClimb", spec := "fnExactChangeClimb", inPlace := ["internal/bytealg.IndexByteString", "internal/bytealg.IndexString"], unfollowed := true, recurses := true, named := ["internal/bytealg.MaxLen"], apart := false, narrowed := true }
def FnExactChangeClimbUptoSaid : Prop := fnExactChangeClimbUptoRow.holds Try.pinned (OpenSpec.upto fnExactChangeClimbSpec)

/-- 'laws.FnExactChangePairs', WHERE WHAT IT READS IS OF BULK AT MOST 1048576: true; the input reads as it did. -/
def fnExactChangePairsUptoRow : OpenClaim := { program := "ytmdgbcepjnfbnaa", sum := "0ec67a68d4aef16eb053537494cefb8d6d8ad5a9f835e7a4c0bac1dcaf2d348d", func := "loop.example/mirrorgrids/laws.FnExactChangePairs", spec := "fnExactChangePairs", inPlace := ["internal/bytealg.IndexByteString", "internal/bytealg.IndexString"], unfollowed := true, recurses := true, named := ["internal/bytealg.MaxLen"], apart := false, narrowed := true }
def FnExactChangePairsUptoSaid : Prop := fnExactChangePairsUptoRow.holds Try.pinned (OpenSpec.upto fnExactChangePairsSpec)

end Rows
end Go.Proofs.Ytmdgbcepjnfbnaa
