/-
  No cell of these rows narrows 'for every input' (looked for: loops, veiled, ifaces, maps, wideKeys, modest, calm, conditions, laid).
  DERIVED. THE GIVEN ROWS OF THIS SEAT. 23 by the template 'for every input the law returns true; each argument reads behind the call as it read before'; 0 by the template 'total and deterministic' (their statements: YtmfoajghlodkdaaTotals.lean).
  GIVEN WITH THE SEED: the statements are not yours to turn. If you find one false, say at which input.
  Laid BY PROGRAM, IN A SANDBOX (cutbox-rows.mjs): the forced cells as the released guide's own fill.sh prints them over the translation 1a755de56ad853fc… (all of the seat's roots in one cut). By AI agents, Wed Nov 11 2026. No macro, syntax, notation, axiom, sorry.
-/
import Derived.Test.YtmfoajghlodkdaaChecked
import GoSem.Claim
import GoSem.ClaimJoined
import GoSem.ClaimMapViews
import Derived.JoinedTies
import Derived.KernelRfl
namespace Go.Proofs.Ytmfoajghlodkdaa
/- THE CELL 'sum', in the pinned program and in every row, IS THE sha256 OF THE DUMP (.gsa) THAT YtmfoajghlodkdaaProg.lean LOADS. Nothing in Lean hashes anything: it is a label: what it is worth is what the hold of that sum in a sandbox is worth. -/
noncomputable def Try.pinned : Pinned := { name := "ytmfoajghlodkdaa", sum := "1a755de56ad853fc3fd6ef188c26d8064089b23d87089cef788575c22002f66b", checked := Try.checked }
namespace Rows
def none {H : Type} : Left H := { results := [], args := [] }

/-- 'laws.FnExactGridIn': WHATEVER THE INPUT: true; the input reads as it did. -/
def fnExactGridInSpec : ChangeSpec := { name := "fnExactGridIn", fn := fun _ => fun
  | [d] => { results := [.lit (.bool true)], args := [d] }
  | _ => none }
def fnExactGridInRow : OpenClaim := { program := "ytmfoajghlodkdaa", sum := "1a755de56ad853fc3fd6ef188c26d8064089b23d87089cef788575c22002f66b", func := "loop.example/mirrorgrids/laws.FnExactGridIn", spec := "fnExactGridIn", inPlace := ["internal/bytealg.IndexByteString", "internal/bytealg.IndexString"], named := ["internal/bytealg.MaxLen"], plainKeys := false, apart := false }
def FnExactGridInSaid : Prop := fnExactGridInRow.holds Try.pinned (OpenSpec.ofChange fnExactGridInSpec)

/-- ITS FALSE NEIGHBOUR: 'it returns false'. Refute it at one input. -/
def fnExactGridInWrong : ChangeSpec := { name := "fnExactGridIn", fn := fun _ => fun
  | [d] => { results := [.lit (.bool false)], args := [d] }
  | _ => none }
def FnExactGridInWrongFalsely : Prop := fnExactGridInRow.holds Try.pinned (OpenSpec.ofChange fnExactGridInWrong)

/-- 'laws.FnExactGridTurn': WHATEVER THE INPUT: true; the input reads as it did. -/
def fnExactGridTurnSpec : ChangeSpec := { name := "fnExactGridTurn", fn := fun _ => fun
  | [d] => { results := [.lit (.bool true)], args := [d] }
  | _ => none }
def fnExactGridTurnRow : OpenClaim := { program := "ytmfoajghlodkdaa", sum := "1a755de56ad853fc3fd6ef188c26d8064089b23d87089cef788575c22002f66b", func := "loop.example/mirrorgrids/laws.FnExactGridTurn", spec := "fnExactGridTurn", inPlace := ["internal/bytealg.IndexByteString", "internal/bytealg.IndexString"], unfollowed := true, recurses := true, named := ["internal/bytealg.MaxLen"], plainKeys := false, apart := false }
def FnExactGridTurnSaid : Prop := fnExactGridTurnRow.holds Try.pinned (OpenSpec.ofChange fnExactGridTurnSpec)

/-- ITS FALSE NEIGHBOUR: 'it returns false'. Refute it at one input. -/
def fnExactGridTurnWrong : ChangeSpec := { name := "fnExactGridTurn", fn := fun _ => fun
  | [d] => { results := [.lit (.bool false)], args := [d] }
  | _ => none }
def FnExactGridTurnWrongFalsely : Prop := fnExactGridTurnRow.holds Try.pinned (OpenSpec.ofChange fnExactGridTurnWrong)

/-- 'laws.FnExactGridFlip': WHATEVER THE INPUT: true; the input reads as it did. -/
def fnExactGridFlipSpec : ChangeSpec := { name := "fnExactGridFlip", fn := fun _ => fun
  | [d] => { results := [.lit (.bool true)], args := [d] }
  | _ => none }
def fnExactGridFlipRow : OpenClaim := { program := "ytmfoajghlodkdaa", sum := "1a755de56ad853fc3fd6ef188c26d8064089b23d87089cef788575c22002f66b", func := "loop.example/mirrorgrids/laws.FnExactGridFlip", spec := "fnExactGridFlip", inPlace := ["internal/bytealg.IndexByteString", "internal/bytealg.IndexString"], unfollowed := true, recurses := true, named := ["internal/bytealg.MaxLen"], plainKeys := false, apart := false }
def FnExactGridFlipSaid : Prop := fnExactGridFlipRow.holds Try.pinned (OpenSpec.ofChange fnExactGridFlipSpec)

/-- ITS FALSE NEIGHBOUR: 'it returns false'. Refute it at one input. -/
def fnExactGridFlipWrong : ChangeSpec := { name := "fnExactGridFlip", fn := fun _ => fun
  | [d] => { results := [.lit (.bool false)], args := [d] }
  | _ => none }
def FnExactGridFlipWrongFalsely : Prop := fnExactGridFlipRow.holds Try.pinned (OpenSpec.ofChange fnExactGridFlipWrong)

/-- 'laws.FnExactGridOther': WHATEVER THE INPUT: true; the input reads as it did. -/
def fnExactGridOtherSpec : ChangeSpec := { name := "fnExactGridOther", fn := fun _ => fun
  | [d] => { results := [.lit (.bool true)], args := [d] }
  | _ => none }
def fnExactGridOtherRow : OpenClaim := { program := "ytmfoajghlodkdaa", sum := "1a755de56ad853fc3fd6ef188c26d8064089b23d87089cef788575c22002f66b", func := "loop.example/mirrorgrids/laws.FnExactGridOther", spec := "fnExactGridOther", inPlace := ["internal/bytealg.IndexByteString", "internal/bytealg.IndexString"], unfollowed := true, recurses := true, named := ["internal/bytealg.MaxLen"], plainKeys := false, apart := false }
def FnExactGridOtherSaid : Prop := fnExactGridOtherRow.holds Try.pinned (OpenSpec.ofChange fnExactGridOtherSpec)

/-- ITS FALSE NEIGHBOUR: 'it returns false'. Refute it at one input. -/
def fnExactGridOtherWrong : ChangeSpec := { name := "fnExactGridOther", fn := fun _ => fun
  | [d] => { results := [.lit (.bool false)], args := [d] }
  | _ => none }
def FnExactGridOtherWrongFalsely : Prop := fnExactGridOtherRow.holds Try.pinned (OpenSpec.ofChange fnExactGridOtherWrong)

/-- 'laws.FnExactGridBeside': WHATEVER THE INPUT: true; the input reads as it did. -/
def fnExactGridBesideSpec : ChangeSpec := { name := "fnExactGridBeside", fn := fun _ => fun
  | [d1, d2] => { results := [.lit (.bool true)], args := [d1, d2] }
  | _ => none }
def fnExactGridBesideRow : OpenClaim := { program := "ytmfoajghlodkdaa", sum := "1a755de56ad853fc3fd6ef188c26d8064089b23d87089cef788575c22002f66b", func := "loop.example/mirrorgrids/laws.FnExactGridBeside", spec := "fnExactGridBeside", inPlace := ["internal/bytealg.IndexByteString", "internal/bytealg.IndexString"], unfollowed := true, recurses := true, named := ["internal/bytealg.MaxLen"], plainKeys := false, apart := false }
def FnExactGridBesideSaid : Prop := fnExactGridBesideRow.holds Try.pinned (OpenSpec.ofChange fnExactGridBesideSpec)

/-- ITS FALSE NEIGHBOUR: 'it returns false'. Refute it at one input. -/
def fnExactGridBesideWrong : ChangeSpec := { name := "fnExactGridBeside", fn := fun _ => fun
  | [d1, d2] => { results := [.lit (.bool false)], args := [d1, d2] }
  | _ => none }
def FnExactGridBesideWrongFalsely : Prop := fnExactGridBesideRow.holds Try.pinned (OpenSpec.ofChange fnExactGridBesideWrong)

/-- 'laws.FnExactGridUnder': WHATEVER THE INPUT: true; the input reads as it did. -/
def fnExactGridUnderSpec : ChangeSpec := { name := "fnExactGridUnder", fn := fun _ => fun
  | [d1, d2] => { results := [.lit (.bool true)], args := [d1, d2] }
  | _ => none }
def fnExactGridUnderRow : OpenClaim := { program := "ytmfoajghlodkdaa", sum := "1a755de56ad853fc3fd6ef188c26d8064089b23d87089cef788575c22002f66b", func := "loop.example/mirrorgrids/laws.FnExactGridUnder", spec := "fnExactGridUnder", inPlace := ["internal/bytealg.IndexByteString", "internal/bytealg.IndexString"], unfollowed := true, recurses := true, named := ["internal/bytealg.MaxLen"], plainKeys := false, apart := false }
def FnExactGridUnderSaid : Prop := fnExactGridUnderRow.holds Try.pinned (OpenSpec.ofChange fnExactGridUnderSpec)

/-- ITS FALSE NEIGHBOUR: 'it returns false'. Refute it at one input. -/
def fnExactGridUnderWrong : ChangeSpec := { name := "fnExactGridUnder", fn := fun _ => fun
  | [d1, d2] => { results := [.lit (.bool false)], args := [d1, d2] }
  | _ => none }
def FnExactGridUnderWrongFalsely : Prop := fnExactGridUnderRow.holds Try.pinned (OpenSpec.ofChange fnExactGridUnderWrong)

/-- 'laws.FnExactGridPart': WHATEVER THE INPUT: true; the input reads as it did. -/
def fnExactGridPartSpec : ChangeSpec := { name := "fnExactGridPart", fn := fun _ => fun
  | [d1, d2, d3, d4, d5] => { results := [.lit (.bool true)], args := [d1, d2, d3, d4, d5] }
  | _ => none }
def fnExactGridPartRow : OpenClaim := { program := "ytmfoajghlodkdaa", sum := "1a755de56ad853fc3fd6ef188c26d8064089b23d87089cef788575c22002f66b", func := "loop.example/mirrorgrids/laws.FnExactGridPart", spec := "fnExactGridPart", inPlace := ["internal/bytealg.IndexByteString", "internal/bytealg.IndexString"], unfollowed := true, recurses := true, named := ["internal/bytealg.MaxLen"], plainKeys := false, apart := false }
def FnExactGridPartSaid : Prop := fnExactGridPartRow.holds Try.pinned (OpenSpec.ofChange fnExactGridPartSpec)

/-- ITS FALSE NEIGHBOUR: 'it returns false'. Refute it at one input. -/
def fnExactGridPartWrong : ChangeSpec := { name := "fnExactGridPart", fn := fun _ => fun
  | [d1, d2, d3, d4, d5] => { results := [.lit (.bool false)], args := [d1, d2, d3, d4, d5] }
  | _ => none }
def FnExactGridPartWrongFalsely : Prop := fnExactGridPartRow.holds Try.pinned (OpenSpec.ofChange fnExactGridPartWrong)

/-- 'laws.FnExactGridCount': WHATEVER THE INPUT: true; the input reads as it did. -/
def fnExactGridCountSpec : ChangeSpec := { name := "fnExactGridCount", fn := fun _ => fun
  | [d] => { results := [.lit (.bool true)], args := [d] }
  | _ => none }
def fnExactGridCountRow : OpenClaim := { program := "ytmfoajghlodkdaa", sum := "1a755de56ad853fc3fd6ef188c26d8064089b23d87089cef788575c22002f66b", func := "loop.example/mirrorgrids/laws.FnExactGridCount", spec := "fnExactGridCount", inPlace := ["internal/bytealg.IndexByteString", "internal/bytealg.IndexString"], unfollowed := true, recurses := true, named := ["internal/bytealg.MaxLen"], plainKeys := false, apart := false }
def FnExactGridCountSaid : Prop := fnExactGridCountRow.holds Try.pinned (OpenSpec.ofChange fnExactGridCountSpec)

/-- ITS FALSE NEIGHBOUR: 'it returns false'. Refute it at one input. -/
def fnExactGridCountWrong : ChangeSpec := { name := "fnExactGridCount", fn := fun _ => fun
  | [d] => { results := [.lit (.bool false)], args := [d] }
  | _ => none }
def FnExactGridCountWrongFalsely : Prop := fnExactGridCountRow.holds Try.pinned (OpenSpec.ofChange fnExactGridCountWrong)

/-- 'laws.FnExactGridFull': WHATEVER THE INPUT: true; the input reads as it did. -/
def fnExactGridFullSpec : ChangeSpec := { name := "fnExactGridFull", fn := fun _ => fun
  | [d] => { results := [.lit (.bool true)], args := [d] }
  | _ => none }
def fnExactGridFullRow : OpenClaim := { program := "ytmfoajghlodkdaa", sum := "1a755de56ad853fc3fd6ef188c26d8064089b23d87089cef788575c22002f66b", func := "loop.example/mirrorgrids/laws.FnExactGridFull", spec := "fnExactGridFull", inPlace := ["internal/bytealg.IndexByteString", "internal/bytealg.IndexString"], unfollowed := true, recurses := true, named := ["internal/bytealg.MaxLen"], plainKeys := false, apart := false }
def FnExactGridFullSaid : Prop := fnExactGridFullRow.holds Try.pinned (OpenSpec.ofChange fnExactGridFullSpec)

/-- ITS FALSE NEIGHBOUR: 'it returns false'. Refute it at one input. -/
def fnExactGridFullWrong : ChangeSpec := { name := "fnExactGridFull", fn := fun _ => fun
  | [d] => { results := [.lit (.bool false)], args := [d] }
  | _ => none }
def FnExactGridFullWrongFalsely : Prop := fnExactGridFullRow.holds Try.pinned (OpenSpec.ofChange fnExactGridFullWrong)

/-- 'laws.FnExactGridPut': WHATEVER THE INPUT: true; the input reads as it did. -/
def fnExactGridPutSpec : ChangeSpec := { name := "fnExactGridPut", fn := fun _ => fun
  | [d1, d2, d3] => { results := [.lit (.bool true)], args := [d1, d2, d3] }
  | _ => none }
def fnExactGridPutRow : OpenClaim := { program := "ytmfoajghlodkdaa", sum := "1a755de56ad853fc3fd6ef188c26d8064089b23d87089cef788575c22002f66b", func := "loop.example/mirrorgrids/laws.FnExactGridPut", spec := "fnExactGridPut", inPlace := ["internal/bytealg.IndexByteString", "internal/bytealg.IndexString"], named := ["internal/bytealg.MaxLen"], plainKeys := false, apart := false }
def FnExactGridPutSaid : Prop := fnExactGridPutRow.holds Try.pinned (OpenSpec.ofChange fnExactGridPutSpec)

/-- ITS FALSE NEIGHBOUR: 'it returns false'. Refute it at one input. -/
def fnExactGridPutWrong : ChangeSpec := { name := "fnExactGridPut", fn := fun _ => fun
  | [d1, d2, d3] => { results := [.lit (.bool false)], args := [d1, d2, d3] }
  | _ => none }
def FnExactGridPutWrongFalsely : Prop := fnExactGridPutRow.holds Try.pinned (OpenSpec.ofChange fnExactGridPutWrong)

/-- 'laws.FnExactGridOf': WHATEVER THE INPUT: true; the input reads as it did. -/
def fnExactGridOfSpec : ChangeSpec := { name := "fnExactGridOf", fn := fun _ => fun
  | [d1, d2, d3] => { results := [.lit (.bool true)], args := [d1, d2, d3] }
  | _ => none }
def fnExactGridOfRow : OpenClaim := { program := "ytmfoajghlodkdaa", sum := "1a755de56ad853fc3fd6ef188c26d8064089b23d87089cef788575c22002f66b", func := "loop.example/mirrorgrids/laws.FnExactGridOf", spec := "fnExactGridOf", plainKeys := false, apart := false }
def FnExactGridOfSaid : Prop := fnExactGridOfRow.holds Try.pinned (OpenSpec.ofChange fnExactGridOfSpec)

/-- ITS FALSE NEIGHBOUR: 'it returns false'. Refute it at one input. -/
def fnExactGridOfWrong : ChangeSpec := { name := "fnExactGridOf", fn := fun _ => fun
  | [d1, d2, d3] => { results := [.lit (.bool false)], args := [d1, d2, d3] }
  | _ => none }
def FnExactGridOfWrongFalsely : Prop := fnExactGridOfRow.holds Try.pinned (OpenSpec.ofChange fnExactGridOfWrong)

/-- 'laws.FnExactGridNumber': WHATEVER THE INPUT: true; the input reads as it did. -/
def fnExactGridNumberSpec : ChangeSpec := { name := "fnExactGridNumber", fn := fun _ => fun
  | [d] => { results := [.lit (.bool true)], args := [d] }
  | _ => none }
def fnExactGridNumberRow : OpenClaim := { program := "ytmfoajghlodkdaa", sum := "1a755de56ad853fc3fd6ef188c26d8064089b23d87089cef788575c22002f66b", func := "loop.example/mirrorgrids/laws.FnExactGridNumber", spec := "fnExactGridNumber", inPlace := ["internal/bytealg.IndexByteString", "internal/bytealg.IndexString"], unfollowed := true, recurses := true, named := ["internal/bytealg.MaxLen"], plainKeys := false, apart := false }
def FnExactGridNumberSaid : Prop := fnExactGridNumberRow.holds Try.pinned (OpenSpec.ofChange fnExactGridNumberSpec)

/-- ITS FALSE NEIGHBOUR: 'it returns false'. Refute it at one input. -/
def fnExactGridNumberWrong : ChangeSpec := { name := "fnExactGridNumber", fn := fun _ => fun
  | [d] => { results := [.lit (.bool false)], args := [d] }
  | _ => none }
def FnExactGridNumberWrongFalsely : Prop := fnExactGridNumberRow.holds Try.pinned (OpenSpec.ofChange fnExactGridNumberWrong)

/-- 'laws.FnFlip': WHATEVER THE INPUT: true; the input reads as it did. -/
def fnFlipSpec : ChangeSpec := { name := "fnFlip", fn := fun _ => fun
  | [d] => { results := [.lit (.bool true)], args := [d] }
  | _ => none }
def fnFlipRow : OpenClaim := { program := "ytmfoajghlodkdaa", sum := "1a755de56ad853fc3fd6ef188c26d8064089b23d87089cef788575c22002f66b", func := "loop.example/mirrorgrids/laws.FnFlip", spec := "fnFlip", inPlace := ["internal/bytealg.IndexByteString", "internal/bytealg.IndexString"], unfollowed := true, recurses := true, named := ["internal/bytealg.MaxLen"], plainKeys := false, apart := false }
def FnFlipSaid : Prop := fnFlipRow.holds Try.pinned (OpenSpec.ofChange fnFlipSpec)

/-- ITS FALSE NEIGHBOUR: 'it returns false'. Refute it at one input. -/
def fnFlipWrong : ChangeSpec := { name := "fnFlip", fn := fun _ => fun
  | [d] => { results := [.lit (.bool false)], args := [d] }
  | _ => none }
def FnFlipWrongFalsely : Prop := fnFlipRow.holds Try.pinned (OpenSpec.ofChange fnFlipWrong)

/-- 'laws.FnExactBeamEnd': WHATEVER THE INPUT: true; the input reads as it did. -/
def fnExactBeamEndSpec : ChangeSpec := { name := "fnExactBeamEnd", fn := fun _ => fun
  | [d1, d2] => { results := [.lit (.bool true)], args := [d1, d2] }
  | _ => none }
def fnExactBeamEndRow : OpenClaim := { program := "ytmfoajghlodkdaa", sum := "1a755de56ad853fc3fd6ef188c26d8064089b23d87089cef788575c22002f66b", func := "loop.example/mirrorgrids/laws.FnExactBeamEnd", spec := "fnExactBeamEnd", inPlace := ["internal/bytealg.IndexByteString", "internal/bytealg.IndexString"], unfollowed := true, recurses := true, named := ["internal/bytealg.MaxLen"], plainKeys := false, apart := false }
def FnExactBeamEndSaid : Prop := fnExactBeamEndRow.holds Try.pinned (OpenSpec.ofChange fnExactBeamEndSpec)

/-- ITS FALSE NEIGHBOUR: 'it returns false'. Refute it at one input. -/
def fnExactBeamEndWrong : ChangeSpec := { name := "fnExactBeamEnd", fn := fun _ => fun
  | [d1, d2] => { results := [.lit (.bool false)], args := [d1, d2] }
  | _ => none }
def FnExactBeamEndWrongFalsely : Prop := fnExactBeamEndRow.holds Try.pinned (OpenSpec.ofChange fnExactBeamEndWrong)

/-- 'laws.FnExactBeamWay': WHATEVER THE INPUT: true; the input reads as it did. -/
def fnExactBeamWaySpec : ChangeSpec := { name := "fnExactBeamWay", fn := fun _ => fun
  | [d1, d2] => { results := [.lit (.bool true)], args := [d1, d2] }
  | _ => none }
def fnExactBeamWayRow : OpenClaim := { program := "ytmfoajghlodkdaa", sum := "1a755de56ad853fc3fd6ef188c26d8064089b23d87089cef788575c22002f66b", func := "loop.example/mirrorgrids/laws.FnExactBeamWay", spec := "fnExactBeamWay", inPlace := ["internal/bytealg.IndexByteString", "internal/bytealg.IndexString"], unfollowed := true, recurses := true, named := ["internal/bytealg.MaxLen"], plainKeys := false, apart := false }
def FnExactBeamWaySaid : Prop := fnExactBeamWayRow.holds Try.pinned (OpenSpec.ofChange fnExactBeamWaySpec)

/-- ITS FALSE NEIGHBOUR: 'it returns false'. Refute it at one input. -/
def fnExactBeamWayWrong : ChangeSpec := { name := "fnExactBeamWay", fn := fun _ => fun
  | [d1, d2] => { results := [.lit (.bool false)], args := [d1, d2] }
  | _ => none }
def FnExactBeamWayWrongFalsely : Prop := fnExactBeamWayRow.holds Try.pinned (OpenSpec.ofChange fnExactBeamWayWrong)

/-- 'laws.FnExactBeamLength': WHATEVER THE INPUT: true; the input reads as it did. -/
def fnExactBeamLengthSpec : ChangeSpec := { name := "fnExactBeamLength", fn := fun _ => fun
  | [d1, d2] => { results := [.lit (.bool true)], args := [d1, d2] }
  | _ => none }
def fnExactBeamLengthRow : OpenClaim := { program := "ytmfoajghlodkdaa", sum := "1a755de56ad853fc3fd6ef188c26d8064089b23d87089cef788575c22002f66b", func := "loop.example/mirrorgrids/laws.FnExactBeamLength", spec := "fnExactBeamLength", inPlace := ["internal/bytealg.IndexByteString", "internal/bytealg.IndexString"], unfollowed := true, recurses := true, named := ["internal/bytealg.MaxLen"], plainKeys := false, apart := false }
def FnExactBeamLengthSaid : Prop := fnExactBeamLengthRow.holds Try.pinned (OpenSpec.ofChange fnExactBeamLengthSpec)

/-- ITS FALSE NEIGHBOUR: 'it returns false'. Refute it at one input. -/
def fnExactBeamLengthWrong : ChangeSpec := { name := "fnExactBeamLength", fn := fun _ => fun
  | [d1, d2] => { results := [.lit (.bool false)], args := [d1, d2] }
  | _ => none }
def FnExactBeamLengthWrongFalsely : Prop := fnExactBeamLengthRow.holds Try.pinned (OpenSpec.ofChange fnExactBeamLengthWrong)

/-- 'laws.FnExactBeamTurns': WHATEVER THE INPUT: true; the input reads as it did. -/
def fnExactBeamTurnsSpec : ChangeSpec := { name := "fnExactBeamTurns", fn := fun _ => fun
  | [d1, d2] => { results := [.lit (.bool true)], args := [d1, d2] }
  | _ => none }
def fnExactBeamTurnsRow : OpenClaim := { program := "ytmfoajghlodkdaa", sum := "1a755de56ad853fc3fd6ef188c26d8064089b23d87089cef788575c22002f66b", func := "loop.example/mirrorgrids/laws.FnExactBeamTurns", spec := "fnExactBeamTurns", inPlace := ["internal/bytealg.IndexByteString", "internal/bytealg.IndexString"], unfollowed := true, recurses := true, named := ["internal/bytealg.MaxLen"], plainKeys := false, apart := false }
def FnExactBeamTurnsSaid : Prop := fnExactBeamTurnsRow.holds Try.pinned (OpenSpec.ofChange fnExactBeamTurnsSpec)

/-- ITS FALSE NEIGHBOUR: 'it returns false'. Refute it at one input. -/
def fnExactBeamTurnsWrong : ChangeSpec := { name := "fnExactBeamTurns", fn := fun _ => fun
  | [d1, d2] => { results := [.lit (.bool false)], args := [d1, d2] }
  | _ => none }
def FnExactBeamTurnsWrongFalsely : Prop := fnExactBeamTurnsRow.holds Try.pinned (OpenSpec.ofChange fnExactBeamTurnsWrong)

/-- 'laws.FnExactBeamPairs': WHATEVER THE INPUT: true; the input reads as it did. -/
def fnExactBeamPairsSpec : ChangeSpec := { name := "fnExactBeamPairs", fn := fun _ => fun
  | [d] => { results := [.lit (.bool true)], args := [d] }
  | _ => none }
def fnExactBeamPairsRow : OpenClaim := { program := "ytmfoajghlodkdaa", sum := "1a755de56ad853fc3fd6ef188c26d8064089b23d87089cef788575c22002f66b", func := "loop.example/mirrorgrids/laws.FnExactBeamPairs", spec := "fnExactBeamPairs", inPlace := ["internal/bytealg.IndexByteString", "internal/bytealg.IndexString"], unfollowed := true, recurses := true, named := ["internal/bytealg.MaxLen"], plainKeys := false, apart := false }
def FnExactBeamPairsSaid : Prop := fnExactBeamPairsRow.holds Try.pinned (OpenSpec.ofChange fnExactBeamPairsSpec)

/-- ITS FALSE NEIGHBOUR: 'it returns false'. Refute it at one input. -/
def fnExactBeamPairsWrong : ChangeSpec := { name := "fnExactBeamPairs", fn := fun _ => fun
  | [d] => { results := [.lit (.bool false)], args := [d] }
  | _ => none }
def FnExactBeamPairsWrongFalsely : Prop := fnExactBeamPairsRow.holds Try.pinned (OpenSpec.ofChange fnExactBeamPairsWrong)

/-- 'laws.FnExactBeamTwice': WHATEVER THE INPUT: true; the input reads as it did. -/
def fnExactBeamTwiceSpec : ChangeSpec := { name := "fnExactBeamTwice", fn := fun _ => fun
  | [d1, d2] => { results := [.lit (.bool true)], args := [d1, d2] }
  | _ => none }
def fnExactBeamTwiceRow : OpenClaim := { program := "ytmfoajghlodkdaa", sum := "1a755de56ad853fc3fd6ef188c26d8064089b23d87089cef788575c22002f66b", func := "loop.example/mirrorgrids/laws.FnExactBeamTwice", spec := "fnExactBeamTwice", inPlace := ["internal/bytealg.IndexByteString", "internal/bytealg.IndexString"], unfollowed := true, recurses := true, named := ["internal/bytealg.MaxLen"], plainKeys := false, apart := false }
def FnExactBeamTwiceSaid : Prop := fnExactBeamTwiceRow.holds Try.pinned (OpenSpec.ofChange fnExactBeamTwiceSpec)

/-- ITS FALSE NEIGHBOUR: 'it returns false'. Refute it at one input. -/
def fnExactBeamTwiceWrong : ChangeSpec := { name := "fnExactBeamTwice", fn := fun _ => fun
  | [d1, d2] => { results := [.lit (.bool false)], args := [d1, d2] }
  | _ => none }
def FnExactBeamTwiceWrongFalsely : Prop := fnExactBeamTwiceRow.holds Try.pinned (OpenSpec.ofChange fnExactBeamTwiceWrong)

/-- 'laws.FnExactBeamSides': WHATEVER THE INPUT: true; the input reads as it did. -/
def fnExactBeamSidesSpec : ChangeSpec := { name := "fnExactBeamSides", fn := fun _ => fun
  | [d1, d2] => { results := [.lit (.bool true)], args := [d1, d2] }
  | _ => none }
def fnExactBeamSidesRow : OpenClaim := { program := "ytmfoajghlodkdaa", sum := "1a755de56ad853fc3fd6ef188c26d8064089b23d87089cef788575c22002f66b", func := "loop.example/mirrorgrids/laws.FnExactBeamSides", spec := "fnExactBeamSides", inPlace := ["internal/bytealg.IndexByteString", "internal/bytealg.IndexString"], unfollowed := true, recurses := true, named := ["internal/bytealg.MaxLen"], plainKeys := false, apart := false }
def FnExactBeamSidesSaid : Prop := fnExactBeamSidesRow.holds Try.pinned (OpenSpec.ofChange fnExactBeamSidesSpec)

/-- ITS FALSE NEIGHBOUR: 'it returns false'. Refute it at one input. -/
def fnExactBeamSidesWrong : ChangeSpec := { name := "fnExactBeamSides", fn := fun _ => fun
  | [d1, d2] => { results := [.lit (.bool false)], args := [d1, d2] }
  | _ => none }
def FnExactBeamSidesWrongFalsely : Prop := fnExactBeamSidesRow.holds Try.pinned (OpenSpec.ofChange fnExactBeamSidesWrong)

/-- 'laws.FnExactBeamLongest': WHATEVER THE INPUT: true; the input reads as it did. -/
def fnExactBeamLongestSpec : ChangeSpec := { name := "fnExactBeamLongest", fn := fun _ => fun
  | [d] => { results := [.lit (.bool true)], args := [d] }
  | _ => none }
def fnExactBeamLongestRow : OpenClaim := { program := "ytmfoajghlodkdaa", sum := "1a755de56ad853fc3fd6ef188c26d8064089b23d87089cef788575c22002f66b", func := "loop.example/mirrorgrids/laws.FnExactBeamLongest", spec := "fnExactBeamLongest", inPlace := ["internal/bytealg.IndexByteString", "internal/bytealg.IndexString"], unfollowed := true, recurses := true, named := ["internal/bytealg.MaxLen"], plainKeys := false, apart := false }
def FnExactBeamLongestSaid : Prop := fnExactBeamLongestRow.holds Try.pinned (OpenSpec.ofChange fnExactBeamLongestSpec)

/-- ITS FALSE NEIGHBOUR: 'it returns false'. Refute it at one input. -/
def fnExactBeamLongestWrong : ChangeSpec := { name := "fnExactBeamLongest", fn := fun _ => fun
  | [d] => { results := [.lit (.bool false)], args := [d] }
  | _ => none }
def FnExactBeamLongestWrongFalsely : Prop := fnExactBeamLongestRow.holds Try.pinned (OpenSpec.ofChange fnExactBeamLongestWrong)

/-- 'laws.FnExactBeamMeets': WHATEVER THE INPUT: true; the input reads as it did. -/
def fnExactBeamMeetsSpec : ChangeSpec := { name := "fnExactBeamMeets", fn := fun _ => fun
  | [d1, d2, d3] => { results := [.lit (.bool true)], args := [d1, d2, d3] }
  | _ => none }
def fnExactBeamMeetsRow : OpenClaim := { program := "ytmfoajghlodkdaa", sum := "1a755de56ad853fc3fd6ef188c26d8064089b23d87089cef788575c22002f66b", func := "loop.example/mirrorgrids/laws.FnExactBeamMeets", spec := "fnExactBeamMeets", inPlace := ["internal/bytealg.IndexByteString", "internal/bytealg.IndexString"], unfollowed := true, recurses := true, named := ["internal/bytealg.MaxLen"], plainKeys := false, apart := false }
def FnExactBeamMeetsSaid : Prop := fnExactBeamMeetsRow.holds Try.pinned (OpenSpec.ofChange fnExactBeamMeetsSpec)

/-- ITS FALSE NEIGHBOUR: 'it returns false'. Refute it at one input. -/
def fnExactBeamMeetsWrong : ChangeSpec := { name := "fnExactBeamMeets", fn := fun _ => fun
  | [d1, d2, d3] => { results := [.lit (.bool false)], args := [d1, d2, d3] }
  | _ => none }
def FnExactBeamMeetsWrongFalsely : Prop := fnExactBeamMeetsRow.holds Try.pinned (OpenSpec.ofChange fnExactBeamMeetsWrong)

/-- 'laws.FnExactBeamFirst': WHATEVER THE INPUT: true; the input reads as it did. -/
def fnExactBeamFirstSpec : ChangeSpec := { name := "fnExactBeamFirst", fn := fun _ => fun
  | [d1, d2] => { results := [.lit (.bool true)], args := [d1, d2] }
  | _ => none }
def fnExactBeamFirstRow : OpenClaim := { program := "ytmfoajghlodkdaa", sum := "1a755de56ad853fc3fd6ef188c26d8064089b23d87089cef788575c22002f66b", func := "loop.example/mirrorgrids/laws.FnExactBeamFirst", spec := "fnExactBeamFirst", inPlace := ["internal/bytealg.IndexByteString", "internal/bytealg.IndexString"], unfollowed := true, recurses := true, named := ["internal/bytealg.MaxLen"], plainKeys := false, apart := false }
def FnExactBeamFirstSaid : Prop := fnExactBeamFirstRow.holds Try.pinned (OpenSpec.ofChange fnExactBeamFirstSpec)

/-- ITS FALSE NEIGHBOUR: 'it returns false'. Refute it at one input. -/
def fnExactBeamFirstWrong : ChangeSpec := { name := "fnExactBeamFirst", fn := fun _ => fun
  | [d1, d2] => { results := [.lit (.bool false)], args := [d1, d2] }
  | _ => none }
def FnExactBeamFirstWrongFalsely : Prop := fnExactBeamFirstRow.holds Try.pinned (OpenSpec.ofChange fnExactBeamFirstWrong)

/- THE SECOND FORM. 'bulk': how many values and letters a reading holds, each counted each time it is reached (what is shared counts as often as it is met; a slice's spare places count too). A statement '..UptoSaid' is the law's where the arguments, and the package variables that the reading takes, are together of bulk at most 1048576: NARROWER than '..Said'. Prove '..Said' where nothing that the law and all that it calls make is longer than what came in: it says more and counts as full. Else prove '..UptoSaid'. A law counts once. -/
mutual
def uptoBulk {H : Type} : DataW H → Nat
  | .lit (.string bytes) => bytes.length + 1
  | .lit _ => 1
  | .nil => 1
  | .ptr d => uptoBulk d + 1
  | .slice elems spare => uptoBulkAll elems + uptoBulkAll spare + 1
  | .agg parts => uptoBulkAll parts + 1
  | .iface _ d => uptoBulk d + 1
  | .map entries => uptoBulkEntries entries + 1
  | .held _ => 1
def uptoBulkAll {H : Type} : List (DataW H) → Nat
  | [] => 0
  | d :: r => uptoBulk d + uptoBulkAll r
def uptoBulkEntries {H : Type} : List (Lit × DataW H) → Nat
  | [] => 0
  | x :: r => uptoBulkEntry x + uptoBulkEntries r
def uptoBulkEntry {H : Type} : Lit × DataW H → Nat
  | (.string bytes, d) => bytes.length + uptoBulk d + 1
  | (_, d) => uptoBulk d + 1
 end
def uptoSmall : (H : Type) → List (DataW H) → Bool := fun _ ds => decide (uptoBulkAll ds ≤ 1048576)
def OpenSpec.upto (s : _root_.Go.ChangeSpec) : _root_.Go.OpenSpec := { _root_.Go.OpenSpec.ofChange s with cond := some uptoSmall }

/-- 'laws.FnExactGridIn', WHERE WHAT IT READS IS OF BULK AT MOST 1048576: true; the input reads as it did. -/
def fnExactGridInUptoRow : OpenClaim := { program := "ytmfoajghlodkdaa", sum := "1a755de56ad853fc3fd6ef188c26d8064089b23d87089cef788575c22002f66b", func := "loop.example/mirrorgrids/laws.FnExactGridIn", spec := "fnExactGridIn", inPlace := ["internal/bytealg.IndexByteString", "internal/bytealg.IndexString"], named := ["internal/bytealg.MaxLen"], plainKeys := false, apart := false, narrowed := true }
def FnExactGridInUptoSaid : Prop := fnExactGridInUptoRow.holds Try.pinned (OpenSpec.upto fnExactGridInSpec)

/-- 'laws.FnExactGridTurn', WHERE WHAT IT READS IS OF BULK AT MOST 1048576: true; the input reads as it did. -/
def fnExactGridTurnUptoRow : OpenClaim := { program := "ytmfoajghlodkdaa", sum := "1a755de56ad853fc3fd6ef188c26d8064089b23d87089cef788575c22002f66b", func := "loop.example/mirrorgrids/laws.FnExactGridTurn", spec := "fnExactGridTurn", inPlace := ["internal/bytealg.IndexByteString", "internal/bytealg.IndexString"], unfollowed := true, recurses := true, named := ["internal/bytealg.MaxLen"], plainKeys := false, apart := false, narrowed := true }
def FnExactGridTurnUptoSaid : Prop := fnExactGridTurnUptoRow.holds Try.pinned (OpenSpec.upto fnExactGridTurnSpec)

/-- 'laws.FnExactGridFlip', WHERE WHAT IT READS IS OF BULK AT MOST 1048576: true; the input reads as it did. -/
def fnExactGridFlipUptoRow : OpenClaim := { program := "ytmfoajghlodkdaa", sum := "1a755de56ad853fc3fd6ef188c26d8064089b23d87089cef788575c22002f66b", func := "loop.example/mirrorgrids/laws.FnExactGridFlip", spec := "fnExactGridFlip", inPlace := ["internal/bytealg.IndexByteString", "internal/bytealg.IndexString"], unfollowed := true, recurses := true, named := ["internal/bytealg.MaxLen"], plainKeys := false, apart := false, narrowed := true }
def FnExactGridFlipUptoSaid : Prop := fnExactGridFlipUptoRow.holds Try.pinned (OpenSpec.upto fnExactGridFlipSpec)

/-- 'laws.FnExactGridOther', WHERE WHAT IT READS IS OF BULK AT MOST 1048576: true; the input reads as it did. -/
def fnExactGridOtherUptoRow : OpenClaim := { program := "ytmfoajghlodkdaa", sum := "1a755de56ad853fc3fd6ef188c26d8064089b23d87089cef788575c22002f66b", func := "loop.example/mirrorgrids/laws.FnExactGridOther", spec := "fnExactGridOther", inPlace := ["internal/bytealg.IndexByteString", "internal/bytealg.IndexString"], unfollowed := true, recurses := true, named := ["internal/bytealg.MaxLen"], plainKeys := false, apart := false, narrowed := true }
def FnExactGridOtherUptoSaid : Prop := fnExactGridOtherUptoRow.holds Try.pinned (OpenSpec.upto fnExactGridOtherSpec)

/-- 'laws.FnExactGridBeside', WHERE WHAT IT READS IS OF BULK AT MOST 1048576: true; the input reads as it did. -/
def fnExactGridBesideUptoRow : OpenClaim := { program := "ytmfoajghlodkdaa", sum := "1a755de56ad853fc3fd6ef188c26d8064089b23d87089cef788575c22002f66b", func := "loop.example/mirrorgrids/laws.FnExactGridBeside", spec := "fnExactGridBeside", inPlace := ["internal/bytealg.IndexByteString", "internal/bytealg.IndexString"], unfollowed := true, recurses := true, named := ["internal/bytealg.MaxLen"], plainKeys := false, apart := false, narrowed := true }
def FnExactGridBesideUptoSaid : Prop := fnExactGridBesideUptoRow.holds Try.pinned (OpenSpec.upto fnExactGridBesideSpec)

/-- 'laws.FnExactGridUnder', WHERE WHAT IT READS IS OF BULK AT MOST 1048576: true; the input reads as it did. -/
def fnExactGridUnderUptoRow : OpenClaim := { program := "ytmfoajghlodkdaa", sum := "1a755de56ad853fc3fd6ef188c26d8064089b23d87089cef788575c22002f66b", func := "loop.example/mirrorgrids/laws.FnExactGridUnder", spec := "fnExactGridUnder", inPlace := ["internal/bytealg.IndexByteString", "internal/bytealg.IndexString"], unfollowed := true, recurses := true, named := ["internal/bytealg.MaxLen"], plainKeys := false, apart := false, narrowed := true }
def FnExactGridUnderUptoSaid : Prop := fnExactGridUnderUptoRow.holds Try.pinned (OpenSpec.upto fnExactGridUnderSpec)

/-- 'laws.FnExactGridPart', WHERE WHAT IT READS IS OF BULK AT MOST 1048576: true; the input reads as it did. -/
def fnExactGridPartUptoRow : OpenClaim := { program := "ytmfoajghlodkdaa", sum := "1a755de56ad853fc3fd6ef188c26d8064089b23d87089cef788575c22002f66b", func := "loop.example/mirrorgrids/laws.FnExactGridPart", spec := "fnExactGridPart", inPlace := ["internal/bytealg.IndexByteString", "internal/bytealg.IndexString"], unfollowed := true, recurses := true, named := ["internal/bytealg.MaxLen"], plainKeys := false, apart := false, narrowed := true }
def FnExactGridPartUptoSaid : Prop := fnExactGridPartUptoRow.holds Try.pinned (OpenSpec.upto fnExactGridPartSpec)

/-- 'laws.FnExactGridCount', WHERE WHAT IT READS IS OF BULK AT MOST 1048576: true; the input reads as it did. -/
def fnExactGridCountUptoRow : OpenClaim := { program := "ytmfoajghlodkdaa", sum := "1a755de56ad853fc3fd6ef188c26d8064089b23d87089cef788575c22002f66b", func := "loop.example/mirrorgrids/laws.FnExactGridCount", spec := "fnExactGridCount", inPlace := ["internal/bytealg.IndexByteString", "internal/bytealg.IndexString"], unfollowed := true, recurses := true, named := ["internal/bytealg.MaxLen"], plainKeys := false, apart := false, narrowed := true }
def FnExactGridCountUptoSaid : Prop := fnExactGridCountUptoRow.holds Try.pinned (OpenSpec.upto fnExactGridCountSpec)

/-- 'laws.FnExactGridFull', WHERE WHAT IT READS IS OF BULK AT MOST 1048576: true; the input reads as it did. -/
def fnExactGridFullUptoRow : OpenClaim := { program := "ytmfoajghlodkdaa", sum := "1a755de56ad853fc3fd6ef188c26d8064089b23d87089cef788575c22002f66b", func := "loop.example/mirrorgrids/laws.FnExactGridFull", spec := "fnExactGridFull", inPlace := ["internal/bytealg.IndexByteString", "internal/bytealg.IndexString"], unfollowed := true, recurses := true, named := ["internal/bytealg.MaxLen"], plainKeys := false, apart := false, narrowed := true }
def FnExactGridFullUptoSaid : Prop := fnExactGridFullUptoRow.holds Try.pinned (OpenSpec.upto fnExactGridFullSpec)

/-- 'laws.FnExactGridPut', WHERE WHAT IT READS IS OF BULK AT MOST 1048576: true; the input reads as it did. -/
def fnExactGridPutUptoRow : OpenClaim := { program := "ytmfoajghlodkdaa", sum := "1a755de56ad853fc3fd6ef188c26d8064089b23d87089cef788575c22002f66b", func := "loop.example/mirrorgrids/laws.FnExactGridPut", spec := "fnExactGridPut", inPlace := ["internal/bytealg.IndexByteString", "internal/bytealg.IndexString"], named := ["internal/bytealg.MaxLen"], plainKeys := false, apart := false, narrowed := true }
def FnExactGridPutUptoSaid : Prop := fnExactGridPutUptoRow.holds Try.pinned (OpenSpec.upto fnExactGridPutSpec)

/-- 'laws.FnExactGridOf', WHERE WHAT IT READS IS OF BULK AT MOST 1048576: true; the input reads as it did. -/
def fnExactGridOfUptoRow : OpenClaim := { program := "ytmfoajghlodkdaa", sum := "1a755de56ad853fc3fd6ef188c26d8064089b23d87089cef788575c22002f66b", func := "loop.example/mirrorgrids/laws.FnExactGridOf", spec := "fnExactGridOf", plainKeys := false, apart := false, narrowed := true }
def FnExactGridOfUptoSaid : Prop := fnExactGridOfUptoRow.holds Try.pinned (OpenSpec.upto fnExactGridOfSpec)

/-- 'laws.FnExactGridNumber', WHERE WHAT IT READS IS OF BULK AT MOST 1048576: true; the input reads as it did. -/
def fnExactGridNumberUptoRow : OpenClaim := { program := "ytmfoajghlodkdaa", sum := "1a755de56ad853fc3fd6ef188c26d8064089b23d87089cef788575c22002f66b", func := "loop.example/mirrorgrids/laws.FnExactGridNumber", spec := "fnExactGridNumber", inPlace := ["internal/bytealg.IndexByteString", "internal/bytealg.IndexString"], unfollowed := true, recurses := true, named := ["internal/bytealg.MaxLen"], plainKeys := false, apart := false, narrowed := true }
def FnExactGridNumberUptoSaid : Prop := fnExactGridNumberUptoRow.holds Try.pinned (OpenSpec.upto fnExactGridNumberSpec)

/-- 'laws.FnFlip', WHERE WHAT IT READS IS OF BULK AT MOST 1048576: true; the input reads as it did. -/
def fnFlipUptoRow : OpenClaim := { program := "ytmfoajghlodkdaa", sum := "1a755de56ad853fc3fd6ef188c26d8064089b23d87089cef788575c22002f66b", func := "loop.example/mirrorgrids/laws.FnFlip", spec := "fnFlip", inPlace := ["internal/bytealg.IndexByteString", "internal/bytealg.IndexString"], unfollowed := true, recurses := true, named := ["internal/bytealg.MaxLen"], plainKeys := false, apart := false, narrowed := true }
def FnFlipUptoSaid : Prop := fnFlipUptoRow.holds Try.pinned (OpenSpec.upto fnFlipSpec)

/-- 'laws.FnExactBeamEnd', WHERE WHAT IT READS IS OF BULK AT MOST 1048576: true; the input reads as it did. -/
def fnExactBeamEndUptoRow : OpenClaim := { program := "ytmfoajghlodkdaa", sum := "1a755de56ad853fc3fd6ef188c26d8064089b23d87089cef788575c22002f66b", func := "loop.example/mirrorgrids/laws.FnExactBeamEnd", spec := "fnExactBeamEnd", inPlace := ["internal/bytealg.IndexByteString", "internal/bytealg.IndexString"], unfollowed := true, recurses := true, named := ["internal/bytealg.MaxLen"], plainKeys := false, apart := false, narrowed := true }
def FnExactBeamEndUptoSaid : Prop := fnExactBeamEndUptoRow.holds Try.pinned (OpenSpec.upto fnExactBeamEndSpec)

/-- 'laws.FnExactBeamWay', WHERE WHAT IT READS IS OF BULK AT MOST 1048576: true; the input reads as it did. -/
def fnExactBeamWayUptoRow : OpenClaim := { program := "ytmfoajghlodkdaa", sum := "1a755de56ad853fc3fd6ef188c26d8064089b23d87089cef788575c22002f66b", func := "loop.example/mirrorgrids/laws.FnExactBeamWay", spec := "fnExactBeamWay", inPlace := ["internal/bytealg.IndexByteString", "internal/bytealg.IndexString"], unfollowed := true, recurses := true, named := ["internal/bytealg.MaxLen"], plainKeys := false, apart := false, narrowed := true }
def FnExactBeamWayUptoSaid : Prop := fnExactBeamWayUptoRow.holds Try.pinned (OpenSpec.upto fnExactBeamWaySpec)

/-- 'laws.FnExactBeamLength', WHERE WHAT IT READS IS OF BULK AT MOST 1048576: true; the input reads as it did. -/
def fnExactBeamLengthUptoRow : OpenClaim := { program := "ytmfoajghlodkdaa", sum := "1a755de56ad853fc3fd6ef188c26d8064089b23d87089cef788575c22002f66b", func := "loop.example/mirrorgrids/laws.FnExactBeamLength", spec := "fnExactBeamLength", inPlace := ["internal/bytealg.IndexByteString", "internal/bytealg.IndexString"], unfollowed := true, recurses := true, named := ["internal/bytealg.MaxLen"], plainKeys := false, apart := false, narrowed := true }
def FnExactBeamLengthUptoSaid : Prop := fnExactBeamLengthUptoRow.holds Try.pinned (OpenSpec.upto fnExactBeamLengthSpec)

/-- 'laws.FnExactBeamTurns', WHERE WHAT IT READS IS OF BULK AT MOST 1048576: true; the input reads as it did. -/
def fnExactBeamTurnsUptoRow : OpenClaim := { program := "ytmfoajghlodkdaa", sum := "1a755de56ad853fc3fd6ef188c26d8064089b23d87089cef788575c22002f66b", func := "loop.example/mirrorgrids/laws.FnExactBeamTurns", spec := "fnExactBeamTurns", inPlace := ["internal/bytealg.IndexByteString", "internal/bytealg.IndexString"], unfollowed := true, recurses := true, named := ["internal/bytealg.MaxLen"], plainKeys := false, apart := false, narrowed := true }
def FnExactBeamTurnsUptoSaid : Prop := fnExactBeamTurnsUptoRow.holds Try.pinned (OpenSpec.upto fnExactBeamTurnsSpec)

/-- 'laws.FnExactBeamPairs', WHERE WHAT IT READS IS OF BULK AT MOST 1048576: true; the input reads as it did. -/
def fnExactBeamPairsUptoRow : OpenClaim := { program := "ytmfoajghlodkdaa", sum := "1a755de56ad853fc3fd6ef188c26d8064089b23d87089cef788575c22002f66b", func := "loop.example/mirrorgrids/laws.FnExactBeamPairs", spec := "fnExactBeamPairs", inPlace := ["internal/bytealg.IndexByteString", "internal/bytealg.IndexString"], unfollowed := true, recurses := true, named := ["internal/bytealg.MaxLen"], plainKeys := false, apart := false, narrowed := true }
def FnExactBeamPairsUptoSaid : Prop := fnExactBeamPairsUptoRow.holds Try.pinned (OpenSpec.upto fnExactBeamPairsSpec)

/-- 'laws.FnExactBeamTwice', WHERE WHAT IT READS IS OF BULK AT MOST 1048576: true; the input reads as it did. -/
def fnExactBeamTwiceUptoRow : OpenClaim := { program := "ytmfoajghlodkdaa", sum := "1a755de56ad853fc3fd6ef188c26d8064089b23d87089cef788575c22002f66b", func := "loop.example/mirrorgrids/laws.FnExactBeamTwice", spec := "fnExactBeamTwice", inPlace := ["internal/bytealg.IndexByteString", "internal/bytealg.IndexString"], unfollowed := true, recurses := true, named := ["internal/bytealg.MaxLen"], plainKeys := false, apart := false, narrowed := true }
def FnExactBeamTwiceUptoSaid : Prop := fnExactBeamTwiceUptoRow.holds Try.pinned (OpenSpec.upto fnExactBeamTwiceSpec)

/-- 'laws.FnExactBeamSides', WHERE WHAT IT READS IS OF BULK AT MOST 1048576: true; the input reads as it did. -/
def fnExactBeamSidesUptoRow : OpenClaim := { program := "ytmfoajghlodkdaa", sum := "1a755de56ad853fc3fd6ef188c26d8064089b23d87089cef788575c22002f66b", func := "loop.example/mirrorgrids/laws.FnExactBeamSides", spec := "fnExactBeamSides", inPlace := ["internal/bytealg.IndexByteString", "internal/bytealg.IndexString"], unfollowed := true, recurses := true, named := ["internal/bytealg.MaxLen"], plainKeys := false, apart := false, narrowed := true }
def FnExactBeamSidesUptoSaid : Prop := fnExactBeamSidesUptoRow.holds Try.pinned (OpenSpec.upto fnExactBeamSidesSpec)

/-- 'laws.FnExactBeamLongest', WHERE WHAT IT READS IS OF BULK AT MOST 1048576: true; the input reads as it did. -/
def fnExactBeamLongestUptoRow : OpenClaim := { program := "ytmfoajghlodkdaa", sum := "1a755de56ad853fc3fd6ef188c26d8064089b23d87089cef788575c22002f66b", func := "loop.example/mirrorgrids/laws.FnExactBeamLongest", spec := "fnExactBeamLongest", inPlace := ["internal/bytealg.IndexByteString", "internal/bytealg.IndexString"], unfollowed := true, recurses := true, named := ["internal/bytealg.MaxLen"], plainKeys := false, apart := false, narrowed := true }
def FnExactBeamLongestUptoSaid : Prop := fnExactBeamLongestUptoRow.holds Try.pinned (OpenSpec.upto fnExactBeamLongestSpec)

/-- 'laws.FnExactBeamMeets', WHERE WHAT IT READS IS OF BULK AT MOST 1048576: true; the input reads as it did. -/
def fnExactBeamMeetsUptoRow : OpenClaim := { program := "ytmfoajghlodkdaa", sum := "1a755de56ad853fc3fd6ef188c26d8064089b23d87089cef788575c22002f66b", func := "loop.example/mirrorgrids/laws.FnExactBeamMeets", spec := "fnExactBeamMeets", inPlace := ["internal/bytealg.IndexByteString", "internal/bytealg.IndexString"], unfollowed := true, recurses := true, named := ["internal/bytealg.MaxLen"], plainKeys := false, apart := false, narrowed := true }
def FnExactBeamMeetsUptoSaid : Prop := fnExactBeamMeetsUptoRow.holds Try.pinned (OpenSpec.upto fnExactBeamMeetsSpec)

/-- 'laws.FnExactBeamFirst', WHERE WHAT IT READS IS OF BULK AT MOST 1048576: true; the input reads as it did. -/
def fnExactBeamFirstUptoRow : OpenClaim := { program := "ytmfoajghlodkdaa", sum := "1a755de56ad853fc3fd6ef188c26d8064089b23d87089cef788575c22002f66b", func := "loop.example/mirrorgrids/laws.FnExactBeamFirst", spec := "fnExactBeamFirst", inPlace := ["internal/bytealg.IndexByteString", "internal/bytealg.IndexString"], unfollowed := true, recurses := true, named := ["internal/bytealg.MaxLen"], plainKeys := false, apart := false, narrowed := true }
def FnExactBeamFirstUptoSaid : Prop := fnExactBeamFirstUptoRow.holds Try.pinned (OpenSpec.upto fnExactBeamFirstSpec)

end Rows
end Go.Proofs.Ytmfoajghlodkdaa
