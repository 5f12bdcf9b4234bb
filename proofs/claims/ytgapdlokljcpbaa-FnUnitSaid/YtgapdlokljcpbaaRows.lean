/-
  No cell of these rows narrows 'for every input' (looked for: loops, veiled, ifaces, maps, wideKeys, modest, calm, conditions, laid).
  DERIVED. THE GIVEN ROWS OF THIS SEAT. 12 by the template 'for every input the law returns true; each argument reads behind the call as it read before'; 0 by the template 'total and deterministic' (their statements: YtgapdlokljcpbaaTotals.lean).
  GIVEN WITH THE SEED: the statements are not yours to turn. If you find one false, say at which input.
  Laid BY PROGRAM, IN A SANDBOX (cutbox-rows.mjs): the forced cells as the released guide's own fill.sh prints them over the translation 3497f5fd2446395e… (all of the seat's roots in one cut). By AI agents, Wed Nov 11 2026. No macro, syntax, notation, axiom, sorry.
-/
import Derived.Test.YtgapdlokljcpbaaChecked
import GoSem.Claim
import GoSem.ClaimJoined
import GoSem.ClaimMapViews
import Derived.JoinedTies
import Derived.KernelRfl
namespace Go.Proofs.Ytgapdlokljcpbaa
/- THE CELL 'sum', in the pinned program and in every row, IS THE sha256 OF THE DUMP (.gsa) THAT YtgapdlokljcpbaaProg.lean LOADS. Nothing in Lean hashes anything: it is a label: what it is worth is what the hold of that sum in a sandbox is worth. -/
noncomputable def Try.pinned : Pinned := { name := "ytgapdlokljcpbaa", sum := "3497f5fd2446395e4033fef70e52a1bb2f3192a2e33c164d17bed15bf18e8feb", checked := Try.checked }
namespace Rows
def none {H : Type} : Left H := { results := [], args := [] }

/-- 'laws.FnPaths': WHATEVER THE INPUT: true; the input reads as it did. -/
def fnPathsSpec : ChangeSpec := { name := "fnPaths", fn := fun _ => fun
  | [d] => { results := [.lit (.bool true)], args := [d] }
  | _ => none }
def fnPathsRow : OpenClaim := { program := "ytgapdlokljcpbaa", sum := "3497f5fd2446395e4033fef70e52a1bb2f3192a2e33c164d17bed15bf18e8feb", func := "loop.example/mirrorgrids/laws.FnPaths", spec := "fnPaths", inPlace := ["internal/bytealg.IndexByteString", "internal/bytealg.IndexString"], unfollowed := true, recurses := true, named := ["internal/bytealg.MaxLen"], plainKeys := false, apart := false }
def FnPathsSaid : Prop := fnPathsRow.holds Try.pinned (OpenSpec.ofChange fnPathsSpec)

/-- ITS FALSE NEIGHBOUR: 'it returns false'. Refute it at one input. -/
def fnPathsWrong : ChangeSpec := { name := "fnPaths", fn := fun _ => fun
  | [d] => { results := [.lit (.bool false)], args := [d] }
  | _ => none }
def FnPathsWrongFalsely : Prop := fnPathsRow.holds Try.pinned (OpenSpec.ofChange fnPathsWrong)

/-- 'laws.FnDelta': WHATEVER THE INPUT: true; the input reads as it did. -/
def fnDeltaSpec : ChangeSpec := { name := "fnDelta", fn := fun _ => fun
  | [d] => { results := [.lit (.bool true)], args := [d] }
  | _ => none }
def fnDeltaRow : OpenClaim := { program := "ytgapdlokljcpbaa", sum := "3497f5fd2446395e4033fef70e52a1bb2f3192a2e33c164d17bed15bf18e8feb", func := "loop.example/mirrorgrids/laws.FnDelta", spec := "fnDelta", inPlace := ["internal/bytealg.IndexByteString", "internal/bytealg.IndexString"], unfollowed := true, recurses := true, named := ["internal/bytealg.MaxLen"], plainKeys := false, apart := false }
def FnDeltaSaid : Prop := fnDeltaRow.holds Try.pinned (OpenSpec.ofChange fnDeltaSpec)

/-- ITS FALSE NEIGHBOUR: 'it returns false'. Refute it at one input. -/
def fnDeltaWrong : ChangeSpec := { name := "fnDelta", fn := fun _ => fun
  | [d] => { results := [.lit (.bool false)], args := [d] }
  | _ => none }
def FnDeltaWrongFalsely : Prop := fnDeltaRow.holds Try.pinned (OpenSpec.ofChange fnDeltaWrong)

/-- 'laws.FnEmpty': WHATEVER THE INPUT: true; the input reads as it did. -/
def fnEmptySpec : ChangeSpec := { name := "fnEmpty", fn := fun _ => fun
  | [d] => { results := [.lit (.bool true)], args := [d] }
  | _ => none }
def fnEmptyRow : OpenClaim := { program := "ytgapdlokljcpbaa", sum := "3497f5fd2446395e4033fef70e52a1bb2f3192a2e33c164d17bed15bf18e8feb", func := "loop.example/mirrorgrids/laws.FnEmpty", spec := "fnEmpty", inPlace := ["internal/bytealg.IndexByteString", "internal/bytealg.IndexString"], unfollowed := true, recurses := true, named := ["internal/bytealg.MaxLen"], plainKeys := false, apart := false }
def FnEmptySaid : Prop := fnEmptyRow.holds Try.pinned (OpenSpec.ofChange fnEmptySpec)

/-- ITS FALSE NEIGHBOUR: 'it returns false'. Refute it at one input. -/
def fnEmptyWrong : ChangeSpec := { name := "fnEmpty", fn := fun _ => fun
  | [d] => { results := [.lit (.bool false)], args := [d] }
  | _ => none }
def FnEmptyWrongFalsely : Prop := fnEmptyRow.holds Try.pinned (OpenSpec.ofChange fnEmptyWrong)

/-- 'laws.FnPairs': WHATEVER THE INPUT: true; the input reads as it did. -/
def fnPairsSpec : ChangeSpec := { name := "fnPairs", fn := fun _ => fun
  | [d] => { results := [.lit (.bool true)], args := [d] }
  | _ => none }
def fnPairsRow : OpenClaim := { program := "ytgapdlokljcpbaa", sum := "3497f5fd2446395e4033fef70e52a1bb2f3192a2e33c164d17bed15bf18e8feb", func := "loop.example/mirrorgrids/laws.FnPairs", spec := "fnPairs", inPlace := ["internal/bytealg.IndexByteString", "internal/bytealg.IndexString"], unfollowed := true, recurses := true, named := ["internal/bytealg.MaxLen"], plainKeys := false, apart := false }
def FnPairsSaid : Prop := fnPairsRow.holds Try.pinned (OpenSpec.ofChange fnPairsSpec)

/-- ITS FALSE NEIGHBOUR: 'it returns false'. Refute it at one input. -/
def fnPairsWrong : ChangeSpec := { name := "fnPairs", fn := fun _ => fun
  | [d] => { results := [.lit (.bool false)], args := [d] }
  | _ => none }
def FnPairsWrongFalsely : Prop := fnPairsRow.holds Try.pinned (OpenSpec.ofChange fnPairsWrong)

/-- 'laws.FnCrossIn': WHATEVER THE INPUT: true; the input reads as it did. -/
def fnCrossInSpec : ChangeSpec := { name := "fnCrossIn", fn := fun _ => fun
  | [d] => { results := [.lit (.bool true)], args := [d] }
  | _ => none }
def fnCrossInRow : OpenClaim := { program := "ytgapdlokljcpbaa", sum := "3497f5fd2446395e4033fef70e52a1bb2f3192a2e33c164d17bed15bf18e8feb", func := "loop.example/mirrorgrids/laws.FnCrossIn", spec := "fnCrossIn", plainKeys := false, apart := false }
def FnCrossInSaid : Prop := fnCrossInRow.holds Try.pinned (OpenSpec.ofChange fnCrossInSpec)

/-- ITS FALSE NEIGHBOUR: 'it returns false'. Refute it at one input. -/
def fnCrossInWrong : ChangeSpec := { name := "fnCrossIn", fn := fun _ => fun
  | [d] => { results := [.lit (.bool false)], args := [d] }
  | _ => none }
def FnCrossInWrongFalsely : Prop := fnCrossInRow.holds Try.pinned (OpenSpec.ofChange fnCrossInWrong)

/-- 'laws.FnCrossTurn': WHATEVER THE INPUT: true; the input reads as it did. -/
def fnCrossTurnSpec : ChangeSpec := { name := "fnCrossTurn", fn := fun _ => fun
  | [d] => { results := [.lit (.bool true)], args := [d] }
  | _ => none }
def fnCrossTurnRow : OpenClaim := { program := "ytgapdlokljcpbaa", sum := "3497f5fd2446395e4033fef70e52a1bb2f3192a2e33c164d17bed15bf18e8feb", func := "loop.example/mirrorgrids/laws.FnCrossTurn", spec := "fnCrossTurn", plainKeys := false, apart := false }
def FnCrossTurnSaid : Prop := fnCrossTurnRow.holds Try.pinned (OpenSpec.ofChange fnCrossTurnSpec)

/-- ITS FALSE NEIGHBOUR: 'it returns false'. Refute it at one input. -/
def fnCrossTurnWrong : ChangeSpec := { name := "fnCrossTurn", fn := fun _ => fun
  | [d] => { results := [.lit (.bool false)], args := [d] }
  | _ => none }
def FnCrossTurnWrongFalsely : Prop := fnCrossTurnRow.holds Try.pinned (OpenSpec.ofChange fnCrossTurnWrong)

/-- 'laws.FnChords': WHATEVER THE INPUT: true; the input reads as it did. -/
def fnChordsSpec : ChangeSpec := { name := "fnChords", fn := fun _ => fun
  | [d] => { results := [.lit (.bool true)], args := [d] }
  | _ => none }
def fnChordsRow : OpenClaim := { program := "ytgapdlokljcpbaa", sum := "3497f5fd2446395e4033fef70e52a1bb2f3192a2e33c164d17bed15bf18e8feb", func := "loop.example/mirrorgrids/laws.FnChords", spec := "fnChords", plainKeys := false, apart := false }
def FnChordsSaid : Prop := fnChordsRow.holds Try.pinned (OpenSpec.ofChange fnChordsSpec)

/-- ITS FALSE NEIGHBOUR: 'it returns false'. Refute it at one input. -/
def fnChordsWrong : ChangeSpec := { name := "fnChords", fn := fun _ => fun
  | [d] => { results := [.lit (.bool false)], args := [d] }
  | _ => none }
def FnChordsWrongFalsely : Prop := fnChordsRow.holds Try.pinned (OpenSpec.ofChange fnChordsWrong)

/-- 'laws.FnCrossSelf': WHATEVER THE INPUT: true; the input reads as it did. -/
def fnCrossSelfSpec : ChangeSpec := { name := "fnCrossSelf", fn := fun _ => fun
  | [d] => { results := [.lit (.bool true)], args := [d] }
  | _ => none }
def fnCrossSelfRow : OpenClaim := { program := "ytgapdlokljcpbaa", sum := "3497f5fd2446395e4033fef70e52a1bb2f3192a2e33c164d17bed15bf18e8feb", func := "loop.example/mirrorgrids/laws.FnCrossSelf", spec := "fnCrossSelf", inPlace := ["internal/bytealg.IndexByteString", "internal/bytealg.IndexString"], unfollowed := true, recurses := true, named := ["internal/bytealg.MaxLen"], plainKeys := false, apart := false }
def FnCrossSelfSaid : Prop := fnCrossSelfRow.holds Try.pinned (OpenSpec.ofChange fnCrossSelfSpec)

/-- ITS FALSE NEIGHBOUR: 'it returns false'. Refute it at one input. -/
def fnCrossSelfWrong : ChangeSpec := { name := "fnCrossSelf", fn := fun _ => fun
  | [d] => { results := [.lit (.bool false)], args := [d] }
  | _ => none }
def FnCrossSelfWrongFalsely : Prop := fnCrossSelfRow.holds Try.pinned (OpenSpec.ofChange fnCrossSelfWrong)

/-- 'laws.FnBest': WHATEVER THE INPUT: true; the input reads as it did. -/
def fnBestSpec : ChangeSpec := { name := "fnBest", fn := fun _ => fun
  | [d] => { results := [.lit (.bool true)], args := [d] }
  | _ => none }
def fnBestRow : OpenClaim := { program := "ytgapdlokljcpbaa", sum := "3497f5fd2446395e4033fef70e52a1bb2f3192a2e33c164d17bed15bf18e8feb", func := "loop.example/mirrorgrids/laws.FnBest", spec := "fnBest", inPlace := ["internal/bytealg.IndexByteString", "internal/bytealg.IndexString"], unfollowed := true, recurses := true, named := ["internal/bytealg.MaxLen"], plainKeys := false, apart := false }
def FnBestSaid : Prop := fnBestRow.holds Try.pinned (OpenSpec.ofChange fnBestSpec)

/-- ITS FALSE NEIGHBOUR: 'it returns false'. Refute it at one input. -/
def fnBestWrong : ChangeSpec := { name := "fnBest", fn := fun _ => fun
  | [d] => { results := [.lit (.bool false)], args := [d] }
  | _ => none }
def FnBestWrongFalsely : Prop := fnBestRow.holds Try.pinned (OpenSpec.ofChange fnBestWrong)

/-- 'laws.FnJoinFlip': WHATEVER THE INPUT: true; the input reads as it did. -/
def fnJoinFlipSpec : ChangeSpec := { name := "fnJoinFlip", fn := fun _ => fun
  | [d] => { results := [.lit (.bool true)], args := [d] }
  | _ => none }
def fnJoinFlipRow : OpenClaim := { program := "ytgapdlokljcpbaa", sum := "3497f5fd2446395e4033fef70e52a1bb2f3192a2e33c164d17bed15bf18e8feb", func := "loop.example/mirrorgrids/laws.FnJoinFlip", spec := "fnJoinFlip", plainKeys := false, apart := false }
def FnJoinFlipSaid : Prop := fnJoinFlipRow.holds Try.pinned (OpenSpec.ofChange fnJoinFlipSpec)

/-- ITS FALSE NEIGHBOUR: 'it returns false'. Refute it at one input. -/
def fnJoinFlipWrong : ChangeSpec := { name := "fnJoinFlip", fn := fun _ => fun
  | [d] => { results := [.lit (.bool false)], args := [d] }
  | _ => none }
def FnJoinFlipWrongFalsely : Prop := fnJoinFlipRow.holds Try.pinned (OpenSpec.ofChange fnJoinFlipWrong)

/-- 'laws.FnJoinTurn': WHATEVER THE INPUT: true; the input reads as it did. -/
def fnJoinTurnSpec : ChangeSpec := { name := "fnJoinTurn", fn := fun _ => fun
  | [d] => { results := [.lit (.bool true)], args := [d] }
  | _ => none }
def fnJoinTurnRow : OpenClaim := { program := "ytgapdlokljcpbaa", sum := "3497f5fd2446395e4033fef70e52a1bb2f3192a2e33c164d17bed15bf18e8feb", func := "loop.example/mirrorgrids/laws.FnJoinTurn", spec := "fnJoinTurn", plainKeys := false, apart := false }
def FnJoinTurnSaid : Prop := fnJoinTurnRow.holds Try.pinned (OpenSpec.ofChange fnJoinTurnSpec)

/-- ITS FALSE NEIGHBOUR: 'it returns false'. Refute it at one input. -/
def fnJoinTurnWrong : ChangeSpec := { name := "fnJoinTurn", fn := fun _ => fun
  | [d] => { results := [.lit (.bool false)], args := [d] }
  | _ => none }
def FnJoinTurnWrongFalsely : Prop := fnJoinTurnRow.holds Try.pinned (OpenSpec.ofChange fnJoinTurnWrong)

/-- 'laws.FnUnit': WHATEVER THE INPUT: true; the input reads as it did. -/
def fnUnitSpec : ChangeSpec := { name := "fnUnit", fn := fun _ => fun
  | [d] => { results := [.lit (.bool true)], args := [d] }
  | _ => none }
def fnUnitRow : OpenClaim := { program := "ytgapdlokljcpbaa", sum := "3497f5fd2446395e4033fef70e52a1bb2f3192a2e33c164d17bed15bf18e8feb", func := "loop.example/mirrorgrids/laws.FnUnit", spec := "fnUnit", inPlace := ["internal/bytealg.IndexByteString", "internal/bytealg.IndexString"], unfollowed := true, recurses := true, named := ["internal/bytealg.MaxLen"], plainKeys := false, apart := false }
def FnUnitSaid : Prop := fnUnitRow.holds Try.pinned (OpenSpec.ofChange fnUnitSpec)

/-- ITS FALSE NEIGHBOUR: 'it returns false'. Refute it at one input. -/
def fnUnitWrong : ChangeSpec := { name := "fnUnit", fn := fun _ => fun
  | [d] => { results := [.lit (.bool false)], args := [d] }
  | _ => none }
def FnUnitWrongFalsely : Prop := fnUnitRow.holds Try.pinned (OpenSpec.ofChange fnUnitWrong)

/- THE SECOND FORM. 'bulk': how many values and letters a reading holds, each counted each time it is reached (what is shared counts as often as it is met; a slice's spare places count too). A statement '..UptoSaid' is the law's where the arguments, and the package variables that the reading takes, are together of bulk at most 1048576: NARROWER than '..Said'. Prove '..Said' where nothing that the law and all that it calls make is longer than what came in: it says more and counts as full. Else prove '..UptoSaid'. A law counts once. -/
mutual
def uptoBulk {H : Type} : DataW H → Nat
  | .lit (.string bytes) => bytes.length + 1
  | .lit _ => 1
  | .nil => 1
  | .ptr d => uptoBulk d + 1
  | .slice elems spare => uptoBulkAll elems + uptoBulkAll spare + 1
  | .agg parts => uptoBulkAll parts + 1
  | .iface _ d => uptoBulk d + 1
  | .map entries => uptoBulkEntries entries + 1
  | .held _ => 1
def uptoBulkAll {H : Type} : List (DataW H) → Nat
  | [] => 0
  | d :: r => uptoBulk d + uptoBulkAll r
def uptoBulkEntries {H : Type} : List (Lit × DataW H) → Nat
  | [] => 0
  | x :: r => uptoBulkEntry x + uptoBulkEntries r
def uptoBulkEntry {H : Type} : Lit × DataW H → Nat
  | (.string bytes, d) => bytes.length + uptoBulk d + 1
  | (_, d) => uptoBulk d + 1
 end
def uptoSmall : (H : Type) → List (DataW H) → Bool := fun _ ds => decide (uptoBulkAll ds ≤ 1048576)
def OpenSpec.upto (s : _root_.Go.ChangeSpec) : _root_.Go.OpenSpec := { _root_.Go.OpenSpec.ofChange s with cond := some uptoSmall }

/-- 'laws.FnPaths', WHERE WHAT IT READS IS OF BULK AT MOST 1048576: true; the input reads as it did. -/
def fnPathsUptoRow : OpenClaim := { program := "ytgapdlokljcpbaa", sum := "3497f5fd2446395e4033fef70e52a1bb2f3192a2e33c164d17bed15bf18e8feb", func := "loop.example/mirrorgrids/laws.FnPaths", spec := "fnPaths", inPlace := ["internal/bytealg.IndexByteString", "internal/bytealg.IndexString"], unfollowed := true, recurses := true, named := ["internal/bytealg.MaxLen"], plainKeys := false, apart := false, narrowed := true }
def FnPathsUptoSaid : Prop := fnPathsUptoRow.holds Try.pinned (OpenSpec.upto fnPathsSpec)

/-- 'laws.FnDelta', WHERE WHAT IT READS IS OF BULK AT MOST 1048576: true; the input reads as it did. -/
def fnDeltaUptoRow : OpenClaim := { program := "ytgapdlokljcpbaa", sum := "3497f5fd2446395e4033fef70e52a1bb2f3192a2e33c164d17bed15bf18e8feb", func := "loop.example/mirrorgrids/laws.FnDelta", spec := "fnDelta", inPlace := ["internal/bytealg.IndexByteString", "internal/bytealg.IndexString"], unfollowed := true, recurses := true, named := ["internal/bytealg.MaxLen"], plainKeys := false, apart := false, narrowed := true }
def FnDeltaUptoSaid : Prop := fnDeltaUptoRow.holds Try.pinned (OpenSpec.upto fnDeltaSpec)

/-- 'laws.FnEmpty', WHERE WHAT IT READS IS OF BULK AT MOST 1048576: true; the input reads as it did. -/
def fnEmptyUptoRow : OpenClaim := { program := "ytgapdlokljcpbaa", sum := "3497f5fd2446395e4033fef70e52a1bb2f3192a2e33c164d17bed15bf18e8feb", func := "loop.example/mirrorgrids/laws.FnEmpty", spec := "fnEmpty", inPlace := ["internal/bytealg.IndexByteString", "internal/bytealg.IndexString"], unfollowed := true, recurses := true, named := ["internal/bytealg.MaxLen"], plainKeys := false, apart := false, narrowed := true }
def FnEmptyUptoSaid : Prop := fnEmptyUptoRow.holds Try.pinned (OpenSpec.upto fnEmptySpec)

/-- 'laws.FnPairs', WHERE WHAT IT READS IS OF BULK AT MOST 1048576: true; the input reads as it did. -/
def fnPairsUptoRow : OpenClaim := { program := "ytgapdlokljcpbaa", sum := "3497f5fd2446395e4033fef70e52a1bb2f3192a2e33c164d17bed15bf18e8feb", func := "loop.example/mirrorgrids/laws.FnPairs", spec := "fnPairs", inPlace := ["internal/bytealg.IndexByteString", "internal/bytealg.IndexString"], unfollowed := true, recurses := true, named := ["internal/bytealg.MaxLen"], plainKeys := false, apart := false, narrowed := true }
def FnPairsUptoSaid : Prop := fnPairsUptoRow.holds Try.pinned (OpenSpec.upto fnPairsSpec)

/-- 'laws.FnCrossIn', WHERE WHAT IT READS IS OF BULK AT MOST 1048576: true; the input reads as it did. -/
def fnCrossInUptoRow : OpenClaim := { program := "ytgapdlokljcpbaa", sum := "3497f5fd2446395e4033fef70e52a1bb2f3192a2e33c164d17bed15bf18e8feb", func := "loop.example/mirrorgrids/laws.FnCrossIn", spec := "fnCrossIn", plainKeys := false, apart := false, narrowed := true }
def FnCrossInUptoSaid : Prop := fnCrossInUptoRow.holds Try.pinned (OpenSpec.upto fnCrossInSpec)

/-- 'laws.FnCrossTurn', WHERE WHAT IT READS IS OF BULK AT MOST 1048576: true; the input reads as it did. -/
def fnCrossTurnUptoRow : OpenClaim := { program := "ytgapdlokljcpbaa", sum := "3497f5fd2446395e4033fef70e52a1bb2f3192a2e33c164d17bed15bf18e8feb", func := "loop.example/mirrorgrids/laws.FnCrossTurn", spec := "fnCrossTurn", plainKeys := false, apart := false, narrowed := true }
def FnCrossTurnUptoSaid : Prop := fnCrossTurnUptoRow.holds Try.pinned (OpenSpec.upto fnCrossTurnSpec)

/-- 'laws.FnChords', WHERE WHAT IT READS IS OF BULK AT MOST 1048576: true; the input reads as it did. -/
def fnChordsUptoRow : OpenClaim := { program := "ytgapdlokljcpbaa", sum := "3497f5fd2446395e4033fef70e52a1bb2f3192a2e33c164d17bed15bf18e8feb", func := "loop.example/mirrorgrids/laws.FnChords", spec := "fnChords", plainKeys := false, apart := false, narrowed := true }
def FnChordsUptoSaid : Prop := fnChordsUptoRow.holds Try.pinned (OpenSpec.upto fnChordsSpec)

/-- 'laws.FnCrossSelf', WHERE WHAT IT READS IS OF BULK AT MOST 1048576: true; the input reads as it did. -/
def fnCrossSelfUptoRow : OpenClaim := { program := "ytgapdlokljcpbaa", sum := "3497f5fd2446395e4033fef70e52a1bb2f3192a2e33c164d17bed15bf18e8feb", func := "loop.example/mirrorgrids/laws.FnCrossSelf", spec := "fnCrossSelf", inPlace := ["internal/bytealg.IndexByteString", "internal/bytealg.IndexString"], unfollowed := true, recurses := true, named := ["internal/bytealg.MaxLen"], plainKeys := false, apart := false, narrowed := true }
def FnCrossSelfUptoSaid : Prop := fnCrossSelfUptoRow.holds Try.pinned (OpenSpec.upto fnCrossSelfSpec)

/-- 'laws.FnBest', WHERE WHAT IT READS IS OF BULK AT MOST 1048576: true; the input reads as it did. -/
def fnBestUptoRow : OpenClaim := { program := "ytgapdlokljcpbaa", sum := "3497f5fd2446395e4033fef70e52a1bb2f3192a2e33c164d17bed15bf18e8feb", func := "loop.example/mirrorgrids/laws.FnBest", spec := "fnBest", inPlace := ["internal/bytealg.IndexByteString", "internal/bytealg.IndexString"], unfollowed := true, recurses := true, named := ["internal/bytealg.MaxLen"], plainKeys := false, apart := false, narrowed := true }
def FnBestUptoSaid : Prop := fnBestUptoRow.holds Try.pinned (OpenSpec.upto fnBestSpec)

/-- 'laws.FnJoinFlip', WHERE WHAT IT READS IS OF BULK AT MOST 1048576: true; the input reads as it did. -/
def fnJoinFlipUptoRow : OpenClaim := { program := "ytgapdlokljcpbaa", sum := "3497f5fd2446395e4033fef70e52a1bb2f3192a2e33c164d17bed15bf18e8feb", func := "loop.example/mirrorgrids/laws.FnJoinFlip", spec := "fnJoinFlip", plainKeys := false, apart := false, narrowed := true }
def FnJoinFlipUptoSaid : Prop := fnJoinFlipUptoRow.holds Try.pinned (OpenSpec.upto fnJoinFlipSpec)

/-- 'laws.FnJoinTurn', WHERE WHAT IT READS IS OF BULK AT MOST 1048576: true; the input reads as it did. -/
def fnJoinTurnUptoRow : OpenClaim := { program := "ytgapdlokljcpbaa", sum := "3497f5fd2446395e4033fef70e52a1bb2f3192a2e33c164d17bed15bf18e8feb", func := "loop.example/mirrorgrids/laws.FnJoinTurn", spec := "fnJoinTurn", plainKeys := false, apart := false, narrowed := true }
def FnJoinTurnUptoSaid : Prop := fnJoinTurnUptoRow.holds Try.pinned (OpenSpec.upto fnJoinTurnSpec)

/-- 'laws.FnUnit', WHERE WHAT IT READS IS OF BULK AT MOST 1048576: true; the input reads as it did. -/
def fnUnitUptoRow : OpenClaim := { program := "ytgapdlokljcpbaa", sum := "3497f5fd2446395e4033fef70e52a1bb2f3192a2e33c164d17bed15bf18e8feb", func := "loop.example/mirrorgrids/laws.FnUnit", spec := "fnUnit", inPlace := ["internal/bytealg.IndexByteString", "internal/bytealg.IndexString"], unfollowed := true, recurses := true, named := ["internal/bytealg.MaxLen"], plainKeys := false, apart := false, narrowed := true }
def FnUnitUptoSaid : Prop := fnUnitUptoRow.holds Try.pinned (OpenSpec.upto fnUnitSpec)

end Rows
end Go.Proofs.Ytgapdlokljcpbaa
