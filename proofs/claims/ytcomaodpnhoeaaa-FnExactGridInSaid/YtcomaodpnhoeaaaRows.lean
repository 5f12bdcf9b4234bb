/-
  No cell of these rows narrows 'for every input' (looked for: loops, veiled, ifaces, maps, wideKeys, modest, calm, conditions, laid).
  DERIVED. THE GIVEN ROWS OF THIS SEAT. 23 by the template 'for every input the law returns true; each argument reads behind the call as it read before'; 0 by the template 'total and deterministic' (their statements: YtcomaodpnhoeaaaTotals.lean).
  GIVEN WITH THE SEED: the statements are not yours to turn. If you find one false, say at which input.
  Laid BY PROGRAM, IN A SANDBOX (cutbox-rows.mjs): the forced cells as the released guide's own fill.sh prints them over the translation eaa72a2510f80d82… (all of the seat's roots in one cut). By AI agents, Wed Nov 11 2026. No macro, syntax, notation, axiom, sorry.
-/
import Derived.Test.YtcomaodpnhoeaaaChecked
import GoSem.Claim
import GoSem.ClaimJoined
import GoSem.ClaimMapViews
import Derived.JoinedTies
import Derived.KernelRfl
namespace Go.Proofs.Ytcomaodpnhoeaaa
/- THE CELL 'sum', in the pinned program and in every row, IS THE sha256 OF THE DUMP (.gsa) THAT YtcomaodpnhoeaaaProg.lean LOADS. Nothing in Lean hashes anything: it is a label: what it is worth is what the hold of that sum in a sandbox is worth. -/
noncomputable def Try.pinned : Pinned := { name := "ytcomaodpnhoeaaa", sum := "eaa72a2510f80d829dbc3aff40759c080cda3068de5c3660721aac3450559dd9", checked := Try.checked }
namespace Rows
def none {H : Type} : Left H := { results := [], args := [] }

/-- 'laws.FnFlip': WHATEVER THE INPUT: true; the input reads as it did. -/
def fnFlipSpec : ChangeSpec := { name := "fnFlip", fn := fun _ => fun
  | [d] => { results := [.lit (.bool true)], args := [d] }
  | _ => none }
def fnFlipRow : OpenClaim := { program := "ytcomaodpnhoeaaa", sum := "eaa72a2510f80d829dbc3aff40759c080cda3068de5c3660721aac3450559dd9", func := "loop.example/mirrorgrids/laws.FnFlip", spec := "fnFlip", inPlace := ["internal/bytealg.IndexByteString", "internal/bytealg.IndexString"], unfollowed := true, recurses := true, named := ["internal/bytealg.MaxLen"], apart := false }
def FnFlipSaid : Prop := fnFlipRow.holds Try.pinned (OpenSpec.ofChange fnFlipSpec)

/-- ITS FALSE NEIGHBOUR: 'it returns false'. Refute it at one input. -/
def fnFlipWrong : ChangeSpec := { name := "fnFlip", fn := fun _ => fun
  | [d] => { results := [.lit (.bool false)], args := [d] }
  | _ => none }
def FnFlipWrongFalsely : Prop := fnFlipRow.holds Try.pinned (OpenSpec.ofChange fnFlipWrong)

/-- 'laws.FnExactGridIn': WHATEVER THE INPUT: true; the input reads as it did. -/
def fnExactGridInSpec : ChangeSpec := { name := "fnExactGridIn", fn := fun _ => fun
  | [d] => { results := [.lit (.bool true)], args := [d] }
  | _ => none }
def fnExactGridInRow : OpenClaim := { program := "ytcomaodpnhoeaaa", sum := "eaa72a2510f80d829dbc3aff40759c080cda3068de5c3660721aac3450559dd9", func := "loop.example/mirrorgrids/laws.FnExactGridIn", spec := "fnExactGridIn", inPlace := ["internal/bytealg.IndexByteString", "internal/bytealg.IndexString"], named := ["internal/bytealg.MaxLen"], apart := false }
def FnExactGridInSaid : Prop := fnExactGridInRow.holds Try.pinned (OpenSpec.ofChange fnExactGridInSpec)

/-- ITS FALSE NEIGHBOUR: 'it returns false'. Refute it at one input. -/
def fnExactGridInWrong : ChangeSpec := { name := "fnExactGridIn", fn := fun _ => fun
  | [d] => { results := [.lit (.bool false)], args := [d] }
  | _ => none }
def FnExactGridInWrongFalsely : Prop := fnExactGridInRow.holds Try.pinned (OpenSpec.ofChange fnExactGridInWrong)

/-- 'laws.FnExactGridTurn': WHATEVER THE INPUT: true; the input reads as it did. -/
def fnExactGridTurnSpec : ChangeSpec := { name := "fnExactGridTurn", fn := fun _ => fun
  | [d] => { results := [.lit (.bool true)], args := [d] }
  | _ => none }
def fnExactGridTurnRow : OpenClaim := { program := "ytcomaodpnhoeaaa", sum := "eaa72a2510f80d829dbc3aff40759c080cda3068de5c3660721aac3450559dd9", func := "loop.example/mirrorgrids/laws.FnExactGridTurn", spec := "fnExactGridTurn", inPlace := ["internal/bytealg.IndexByteString", "internal/bytealg.IndexString"], unfollowed := true, recurses := true, named := ["internal/bytealg.MaxLen"], apart := false }
def FnExactGridTurnSaid : Prop := fnExactGridTurnRow.holds Try.pinned (OpenSpec.ofChange fnExactGridTurnSpec)

/-- ITS FALSE NEIGHBOUR: 'it returns false'. Refute it at one input. -/
def fnExactGridTurnWrong : ChangeSpec := { name := "fnExactGridTurn", fn := fun _ => fun
  | [d] => { results := [.lit (.bool false)], args := [d] }
  | _ => none }
def FnExactGridTurnWrongFalsely : Prop := fnExactGridTurnRow.holds Try.pinned (OpenSpec.ofChange fnExactGridTurnWrong)

/-- 'laws.FnExactGridFlip': WHATEVER THE INPUT: true; the input reads as it did. -/
def fnExactGridFlipSpec : ChangeSpec := { name := "fnExactGridFlip", fn := fun _ => fun
  | [d] => { results := [.lit (.bool true)], args := [d] }
  | _ => none }
def fnExactGridFlipRow : OpenClaim := { program := "ytcomaodpnhoeaaa", sum := "eaa72a2510f80d829dbc3aff40759c080cda3068de5c3660721aac3450559dd9", func := "loop.example/mirrorgrids/laws.FnExactGridFlip", spec := "fnExactGridFlip", inPlace := ["internal/bytealg.IndexByteString", "internal/bytealg.IndexString"], unfollowed := true, recurses := true, named := ["internal/bytealg.MaxLen"], apart := false }
def FnExactGridFlipSaid : Prop := fnExactGridFlipRow.holds Try.pinned (OpenSpec.ofChange fnExactGridFlipSpec)

/-- ITS FALSE NEIGHBOUR: 'it returns false'. Refute it at one input. -/
def fnExactGridFlipWrong : ChangeSpec := { name := "fnExactGridFlip", fn := fun _ => fun
  | [d] => { results := [.lit (.bool false)], args := [d] }
  | _ => none }
def FnExactGridFlipWrongFalsely : Prop := fnExactGridFlipRow.holds Try.pinned (OpenSpec.ofChange fnExactGridFlipWrong)

/-- 'laws.FnExactGridOther': WHATEVER THE INPUT: true; the input reads as it did. -/
def fnExactGridOtherSpec : ChangeSpec := { name := "fnExactGridOther", fn := fun _ => fun
  | [d] => { results := [.lit (.bool true)], args := [d] }
  | _ => none }
def fnExactGridOtherRow : OpenClaim := { program := "ytcomaodpnhoeaaa", sum := "eaa72a2510f80d829dbc3aff40759c080cda3068de5c3660721aac3450559dd9", func := "loop.example/mirrorgrids/laws.FnExactGridOther", spec := "fnExactGridOther", inPlace := ["internal/bytealg.IndexByteString", "internal/bytealg.IndexString"], unfollowed := true, recurses := true, named := ["internal/bytealg.MaxLen"], apart := false }
def FnExactGridOtherSaid : Prop := fnExactGridOtherRow.holds Try.pinned (OpenSpec.ofChange fnExactGridOtherSpec)

/-- ITS FALSE NEIGHBOUR: 'it returns false'. Refute it at one input. -/
def fnExactGridOtherWrong : ChangeSpec := { name := "fnExactGridOther", fn := fun _ => fun
  | [d] => { results := [.lit (.bool false)], args := [d] }
  | _ => none }
def FnExactGridOtherWrongFalsely : Prop := fnExactGridOtherRow.holds Try.pinned (OpenSpec.ofChange fnExactGridOtherWrong)

/-- 'laws.FnExactGridBeside': WHATEVER THE INPUT: true; the input reads as it did. -/
def fnExactGridBesideSpec : ChangeSpec := { name := "fnExactGridBeside", fn := fun _ => fun
  | [d1, d2] => { results := [.lit (.bool true)], args := [d1, d2] }
  | _ => none }
def fnExactGridBesideRow : OpenClaim := { program := "ytcomaodpnhoeaaa", sum := "eaa72a2510f80d829dbc3aff40759c080cda3068de5c3660721aac3450559dd9", func := "loop.example/mirrorgrids/laws.FnExactGridBeside", spec := "fnExactGridBeside", inPlace := ["internal/bytealg.IndexByteString", "internal/bytealg.IndexString"], unfollowed := true, recurses := true, named := ["internal/bytealg.MaxLen"], apart := false }
def FnExactGridBesideSaid : Prop := fnExactGridBesideRow.holds Try.pinned (OpenSpec.ofChange fnExactGridBesideSpec)

/-- ITS FALSE NEIGHBOUR: 'it returns false'. Refute it at one input. -/
def fnExactGridBesideWrong : ChangeSpec := { name := "fnExactGridBeside", fn := fun _ => fun
  | [d1, d2] => { results := [.lit (.bool false)], args := [d1, d2] }
  | _ => none }
def FnExactGridBesideWrongFalsely : Prop := fnExactGridBesideRow.holds Try.pinned (OpenSpec.ofChange fnExactGridBesideWrong)

/-- 'laws.FnExactGridUnder': WHATEVER THE INPUT: true; the input reads as it did. -/
def fnExactGridUnderSpec : ChangeSpec := { name := "fnExactGridUnder", fn := fun _ => fun
  | [d1, d2] => { results := [.lit (.bool true)], args := [d1, d2] }
  | _ => none }
def fnExactGridUnderRow : OpenClaim := { program := "ytcomaodpnhoeaaa", sum := "eaa72a2510f80d829dbc3aff40759c080cda3068de5c3660721aac3450559dd9", func := "loop.example/mirrorgrids/laws.FnExactGridUnder", spec := "fnExactGridUnder", inPlace := ["internal/bytealg.IndexByteString", "internal/bytealg.IndexString"], unfollowed := true, recurses := true, named := ["internal/bytealg.MaxLen"], apart := false }
def FnExactGridUnderSaid : Prop := fnExactGridUnderRow.holds Try.pinned (OpenSpec.ofChange fnExactGridUnderSpec)

/-- ITS FALSE NEIGHBOUR: 'it returns false'. Refute it at one input. -/
def fnExactGridUnderWrong : ChangeSpec := { name := "fnExactGridUnder", fn := fun _ => fun
  | [d1, d2] => { results := [.lit (.bool false)], args := [d1, d2] }
  | _ => none }
def FnExactGridUnderWrongFalsely : Prop := fnExactGridUnderRow.holds Try.pinned (OpenSpec.ofChange fnExactGridUnderWrong)

/-- 'laws.FnExactGridPart': WHATEVER THE INPUT: true; the input reads as it did. -/
def fnExactGridPartSpec : ChangeSpec := { name := "fnExactGridPart", fn := fun _ => fun
  | [d1, d2, d3, d4, d5] => { results := [.lit (.bool true)], args := [d1, d2, d3, d4, d5] }
  | _ => none }
def fnExactGridPartRow : OpenClaim := { program := "ytcomaodpnhoeaaa", sum := "eaa72a2510f80d829dbc3aff40759c080cda3068de5c3660721aac3450559dd9", func := "loop.example/mirrorgrids/laws.FnExactGridPart", spec := "fnExactGridPart", inPlace := ["internal/bytealg.IndexByteString", "internal/bytealg.IndexString"], unfollowed := true, recurses := true, named := ["internal/bytealg.MaxLen"], apart := false }
def FnExactGridPartSaid : Prop := fnExactGridPartRow.holds Try.pinned (OpenSpec.ofChange fnExactGridPartSpec)

/-- ITS FALSE NEIGHBOUR: 'it returns false'. Refute it at one input. -/
def fnExactGridPartWrong : ChangeSpec := { name := "fnExactGridPart", fn := fun _ => fun
  | [d1, d2, d3, d4, d5] => { results := [.lit (.bool false)], args := [d1, d2, d3, d4, d5] }
  | _ => none }
def FnExactGridPartWrongFalsely : Prop := fnExactGridPartRow.holds Try.pinned (OpenSpec.ofChange fnExactGridPartWrong)

/-- 'laws.FnExactGridCount': WHATEVER THE INPUT: true; the input reads as it did. -/
def fnExactGridCountSpec : ChangeSpec := { name := "fnExactGridCount", fn := fun _ => fun
  | [d] => { results := [.lit (.bool true)], args := [d] }
  | _ => none }
def fnExactGridCountRow : OpenClaim := { program := "ytcomaodpnhoeaaa", sum := "eaa72a2510f80d829dbc3aff40759c080cda3068de5c3660721aac3450559dd9", func := "loop.example/mirrorgrids/laws.FnExactGridCount", spec := "fnExactGridCount", inPlace := ["internal/bytealg.IndexByteString", "internal/bytealg.IndexString"], unfollowed := true, recurses := true, named := ["internal/bytealg.MaxLen"], apart := false }
def FnExactGridCountSaid : Prop := fnExactGridCountRow.holds Try.pinned (OpenSpec.ofChange fnExactGridCountSpec)

/-- ITS FALSE NEIGHBOUR: 'it returns false'. Refute it at one input. -/
def fnExactGridCountWrong : ChangeSpec := { name := "fnExactGridCount", fn := fun _ => fun
  | [d] => { results := [.lit (.bool false)], args := [d] }
  | _ => none }
def FnExactGridCountWrongFalsely : Prop := fnExactGridCountRow.holds Try.pinned (OpenSpec.ofChange fnExactGridCountWrong)

/-- 'laws.FnExactGridFull': WHATEVER THE INPUT: true; the input reads as it did. -/
def fnExactGridFullSpec : ChangeSpec := { name := "fnExactGridFull", fn := fun _ => fun
  | [d] => { results := [.lit (.bool true)], args := [d] }
  | _ => none }
def fnExactGridFullRow : OpenClaim := { program := "ytcomaodpnhoeaaa", sum := "eaa72a2510f80d829dbc3aff40759c080cda3068de5c3660721aac3450559dd9", func := "loop.example/mirrorgrids/laws.FnExactGridFull", spec := "fnExactGridFull", inPlace := ["internal/bytealg.IndexByteString", "internal/bytealg.IndexString"], unfollowed := true, recurses := true, named := ["internal/bytealg.MaxLen"], apart := false }
def FnExactGridFullSaid : Prop := fnExactGridFullRow.holds Try.pinned (OpenSpec.ofChange fnExactGridFullSpec)

/-- ITS FALSE NEIGHBOUR: 'it returns false'. Refute it at one input. -/
def fnExactGridFullWrong : ChangeSpec := { name := "fnExactGridFull", fn := fun _ => fun
  | [d] => { results := [.lit (.bool false)], args := [d] }
  | _ => none }
def FnExactGridFullWrongFalsely : Prop := fnExactGridFullRow.holds Try.pinned (OpenSpec.ofChange fnExactGridFullWrong)

/-- 'laws.FnExactGridPut': WHATEVER THE INPUT: true; the input reads as it did. -/
def fnExactGridPutSpec : ChangeSpec := { name := "fnExactGridPut", fn := fun _ => fun
  | [d1, d2, d3] => { results := [.lit (.bool true)], args := [d1, d2, d3] }
  | _ => none }
def fnExactGridPutRow : OpenClaim := { program := "ytcomaodpnhoeaaa", sum := "eaa72a2510f80d829dbc3aff40759c080cda3068de5c3660721aac3450559dd9", func := "loop.example/mirrorgrids/laws.FnExactGridPut", spec := "fnExactGridPut", inPlace := ["internal/bytealg.IndexByteString", "internal/bytealg.IndexString"], named := ["internal/bytealg.MaxLen"], apart := false }
def FnExactGridPutSaid : Prop := fnExactGridPutRow.holds Try.pinned (OpenSpec.ofChange fnExactGridPutSpec)

/-- ITS FALSE NEIGHBOUR: 'it returns false'. Refute it at one input. -/
def fnExactGridPutWrong : ChangeSpec := { name := "fnExactGridPut", fn := fun _ => fun
  | [d1, d2, d3] => { results := [.lit (.bool false)], args := [d1, d2, d3] }
  | _ => none }
def FnExactGridPutWrongFalsely : Prop := fnExactGridPutRow.holds Try.pinned (OpenSpec.ofChange fnExactGridPutWrong)

/-- 'laws.FnExactGridOf': WHATEVER THE INPUT: true; the input reads as it did. -/
def fnExactGridOfSpec : ChangeSpec := { name := "fnExactGridOf", fn := fun _ => fun
  | [d1, d2, d3] => { results := [.lit (.bool true)], args := [d1, d2, d3] }
  | _ => none }
def fnExactGridOfRow : OpenClaim := { program := "ytcomaodpnhoeaaa", sum := "eaa72a2510f80d829dbc3aff40759c080cda3068de5c3660721aac3450559dd9", func := "loop.example/mirrorgrids/laws.FnExactGridOf", spec := "fnExactGridOf", apart := false }
def FnExactGridOfSaid : Prop := fnExactGridOfRow.holds Try.pinned (OpenSpec.ofChange fnExactGridOfSpec)

/-- ITS FALSE NEIGHBOUR: 'it returns false'. Refute it at one input. -/
def fnExactGridOfWrong : ChangeSpec := { name := "fnExactGridOf", fn := fun _ => fun
  | [d1, d2, d3] => { results := [.lit (.bool false)], args := [d1, d2, d3] }
  | _ => none }
def FnExactGridOfWrongFalsely : Prop := fnExactGridOfRow.holds Try.pinned (OpenSpec.ofChange fnExactGridOfWrong)

/-- 'laws.FnExactGridNumber': WHATEVER THE INPUT: true; the input reads as it did. -/
def fnExactGridNumberSpec : ChangeSpec := { name := "fnExactGridNumber", fn := fun _ => fun
  | [d] => { results := [.lit (.bool true)], args := [d] }
  | _ => none }
def fnExactGridNumberRow : OpenClaim := { program := "ytcomaodpnhoeaaa", sum := "eaa72a2510f80d829dbc3aff40759c080cda3068de5c3660721aac3450559dd9", func := "loop.example/mirrorgrids/laws.FnExactGridNumber", spec := "fnExactGridNumber", inPlace := ["internal/bytealg.IndexByteString", "internal/bytealg.IndexString"], unfollowed := true, recurses := true, named := ["internal/bytealg.MaxLen"], apart := false }
def FnExactGridNumberSaid : Prop := fnExactGridNumberRow.holds Try.pinned (OpenSpec.ofChange fnExactGridNumberSpec)

/-- ITS FALSE NEIGHBOUR: 'it returns false'. Refute it at one input. -/
def fnExactGridNumberWrong : ChangeSpec := { name := "fnExactGridNumber", fn := fun _ => fun
  | [d] => { results := [.lit (.bool false)], args := [d] }
  | _ => none }
def FnExactGridNumberWrongFalsely : Prop := fnExactGridNumberRow.holds Try.pinned (OpenSpec.ofChange fnExactGridNumberWrong)

/-- 'laws.FnCells': WHATEVER THE INPUT: true; the input reads as it did. -/
def fnCellsSpec : ChangeSpec := { name := "fnCells", fn := fun _ => fun
  | [d] => { results := [.lit (.bool true)], args := [d] }
  | _ => none }
def fnCellsRow : OpenClaim := { program := "ytcomaodpnhoeaaa", sum := "eaa72a2510f80d829dbc3aff40759c080cda3068de5c3660721aac3450559dd9", func := "loop.example/mirrorgrids/laws.FnCells", spec := "fnCells", inPlace := ["internal/bytealg.IndexByteString", "internal/bytealg.IndexString"], unfollowed := true, recurses := true, named := ["internal/bytealg.MaxLen"], apart := false }
def FnCellsSaid : Prop := fnCellsRow.holds Try.pinned (OpenSpec.ofChange fnCellsSpec)

/-- ITS FALSE NEIGHBOUR: 'it returns false'. Refute it at one input. -/
def fnCellsWrong : ChangeSpec := { name := "fnCells", fn := fun _ => fun
  | [d] => { results := [.lit (.bool false)], args := [d] }
  | _ => none }
def FnCellsWrongFalsely : Prop := fnCellsRow.holds Try.pinned (OpenSpec.ofChange fnCellsWrong)

/-- 'laws.FnExactRoundMany': WHATEVER THE INPUT: true; the input reads as it did. -/
def fnExactRoundManySpec : ChangeSpec := { name := "fnExactRoundMany", fn := fun _ => fun
  | [d] => { results := [.lit (.bool true)], args := [d] }
  | _ => none }
def fnExactRoundManyRow : OpenClaim := { program := "ytcomaodpnhoeaaa", sum := "eaa72a2510f80d829dbc3aff40759c080cda3068de5c3660721aac3450559dd9", func := "loop.example/mirrorgrids/laws.FnExactRoundMany", spec := "fnExactRoundMany", inPlace := ["internal/bytealg.IndexByteString", "internal/bytealg.IndexString"], unfollowed := true, recurses := true, named := ["internal/bytealg.MaxLen"], apart := false }
def FnExactRoundManySaid : Prop := fnExactRoundManyRow.holds Try.pinned (OpenSpec.ofChange fnExactRoundManySpec)

/-- ITS FALSE NEIGHBOUR: 'it returns false'. Refute it at one input. -/
def fnExactRoundManyWrong : ChangeSpec := { name := "fnExactRoundMany", fn := fun _ => fun
  | [d] => { results := [.lit (.bool false)], args := [d] }
  | _ => none }
def FnExactRoundManyWrongFalsely : Prop := fnExactRoundManyRow.holds Try.pinned (OpenSpec.ofChange fnExactRoundManyWrong)

/-- 'laws.FnExactRoundPaths': WHATEVER THE INPUT: true; the input reads as it did. -/
def fnExactRoundPathsSpec : ChangeSpec := { name := "fnExactRoundPaths", fn := fun _ => fun
  | [d] => { results := [.lit (.bool true)], args := [d] }
  | _ => none }
def fnExactRoundPathsRow : OpenClaim := { program := "ytcomaodpnhoeaaa", sum := "eaa72a2510f80d829dbc3aff40759c080cda3068de5c3660721aac3450559dd9", func := "loop.example/mirrorgrids/laws.FnExactRoundPaths", spec := "fnExactRoundPaths", inPlace := ["internal/bytealg.IndexByteString", "internal/bytealg.IndexString"], unfollowed := true, recurses := true, named := ["internal/bytealg.MaxLen"], apart := false }
def FnExactRoundPathsSaid : Prop := fnExactRoundPathsRow.holds Try.pinned (OpenSpec.ofChange fnExactRoundPathsSpec)

/-- ITS FALSE NEIGHBOUR: 'it returns false'. Refute it at one input. -/
def fnExactRoundPathsWrong : ChangeSpec := { name := "fnExactRoundPaths", fn := fun _ => fun
  | [d] => { results := [.lit (.bool false)], args := [d] }
  | _ => none }
def FnExactRoundPathsWrongFalsely : Prop := fnExactRoundPathsRow.holds Try.pinned (OpenSpec.ofChange fnExactRoundPathsWrong)

/-- 'laws.FnExactRoundLengths': WHATEVER THE INPUT: true; the input reads as it did. -/
def fnExactRoundLengthsSpec : ChangeSpec := { name := "fnExactRoundLengths", fn := fun _ => fun
  | [d] => { results := [.lit (.bool true)], args := [d] }
  | _ => none }
def fnExactRoundLengthsRow : OpenClaim := { program := "ytcomaodpnhoeaaa", sum := "eaa72a2510f80d829dbc3aff40759c080cda3068de5c3660721aac3450559dd9", func := "loop.example/mirrorgrids/laws.FnExactRoundLengths", spec := "fnExactRoundLengths", inPlace := ["internal/bytealg.IndexByteString", "internal/bytealg.IndexString"], unfollowed := true, recurses := true, named := ["internal/bytealg.MaxLen"], apart := false }
def FnExactRoundLengthsSaid : Prop := fnExactRoundLengthsRow.holds Try.pinned (OpenSpec.ofChange fnExactRoundLengthsSpec)

/-- ITS FALSE NEIGHBOUR: 'it returns false'. Refute it at one input. -/
def fnExactRoundLengthsWrong : ChangeSpec := { name := "fnExactRoundLengths", fn := fun _ => fun
  | [d] => { results := [.lit (.bool false)], args := [d] }
  | _ => none }
def FnExactRoundLengthsWrongFalsely : Prop := fnExactRoundLengthsRow.holds Try.pinned (OpenSpec.ofChange fnExactRoundLengthsWrong)

/-- 'laws.FnExactRoundCells': WHATEVER THE INPUT: true; the input reads as it did. -/
def fnExactRoundCellsSpec : ChangeSpec := { name := "fnExactRoundCells", fn := fun _ => fun
  | [d1, d2, d3] => { results := [.lit (.bool true)], args := [d1, d2, d3] }
  | _ => none }
def fnExactRoundCellsRow : OpenClaim := { program := "ytcomaodpnhoeaaa", sum := "eaa72a2510f80d829dbc3aff40759c080cda3068de5c3660721aac3450559dd9", func := "loop.example/mirrorgrids/laws.FnExactRoundCells", spec := "fnExactRoundCells", inPlace := ["internal/bytealg.IndexByteString", "internal/bytealg.IndexString"], unfollowed := true, recurses := true, named := ["internal/bytealg.MaxLen"], apart := false }
def FnExactRoundCellsSaid : Prop := fnExactRoundCellsRow.holds Try.pinned (OpenSpec.ofChange fnExactRoundCellsSpec)

/-- ITS FALSE NEIGHBOUR: 'it returns false'. Refute it at one input. -/
def fnExactRoundCellsWrong : ChangeSpec := { name := "fnExactRoundCells", fn := fun _ => fun
  | [d1, d2, d3] => { results := [.lit (.bool false)], args := [d1, d2, d3] }
  | _ => none }
def FnExactRoundCellsWrongFalsely : Prop := fnExactRoundCellsRow.holds Try.pinned (OpenSpec.ofChange fnExactRoundCellsWrong)

/-- 'laws.FnExactRoundLeast': WHATEVER THE INPUT: true; the input reads as it did. -/
def fnExactRoundLeastSpec : ChangeSpec := { name := "fnExactRoundLeast", fn := fun _ => fun
  | [d] => { results := [.lit (.bool true)], args := [d] }
  | _ => none }
def fnExactRoundLeastRow : OpenClaim := { program := "ytcomaodpnhoeaaa", sum := "eaa72a2510f80d829dbc3aff40759c080cda3068de5c3660721aac3450559dd9", func := "loop.example/mirrorgrids/laws.FnExactRoundLeast", spec := "fnExactRoundLeast", inPlace := ["internal/bytealg.IndexByteString", "internal/bytealg.IndexString"], unfollowed := true, recurses := true, named := ["internal/bytealg.MaxLen"], apart := false }
def FnExactRoundLeastSaid : Prop := fnExactRoundLeastRow.holds Try.pinned (OpenSpec.ofChange fnExactRoundLeastSpec)

/-- ITS FALSE NEIGHBOUR: 'it returns false'. Refute it at one input. -/
def fnExactRoundLeastWrong : ChangeSpec := { name := "fnExactRoundLeast", fn := fun _ => fun
  | [d] => { results := [.lit (.bool false)], args := [d] }
  | _ => none }
def FnExactRoundLeastWrongFalsely : Prop := fnExactRoundLeastRow.holds Try.pinned (OpenSpec.ofChange fnExactRoundLeastWrong)

/-- 'laws.FnExactRoundMost': WHATEVER THE INPUT: true; the input reads as it did. -/
def fnExactRoundMostSpec : ChangeSpec := { name := "fnExactRoundMost", fn := fun _ => fun
  | [d1, d2] => { results := [.lit (.bool true)], args := [d1, d2] }
  | _ => none }
def fnExactRoundMostRow : OpenClaim := { program := "ytcomaodpnhoeaaa", sum := "eaa72a2510f80d829dbc3aff40759c080cda3068de5c3660721aac3450559dd9", func := "loop.example/mirrorgrids/laws.FnExactRoundMost", spec := "fnExactRoundMost", unfollowed := true, recurses := true, apart := false }
def FnExactRoundMostSaid : Prop := fnExactRoundMostRow.holds Try.pinned (OpenSpec.ofChange fnExactRoundMostSpec)

/-- ITS FALSE NEIGHBOUR: 'it returns false'. Refute it at one input. -/
def fnExactRoundMostWrong : ChangeSpec := { name := "fnExactRoundMost", fn := fun _ => fun
  | [d1, d2] => { results := [.lit (.bool false)], args := [d1, d2] }
  | _ => none }
def FnExactRoundMostWrongFalsely : Prop := fnExactRoundMostRow.holds Try.pinned (OpenSpec.ofChange fnExactRoundMostWrong)

/-- 'laws.FnExactRoundFull': WHATEVER THE INPUT: true; the input reads as it did. -/
def fnExactRoundFullSpec : ChangeSpec := { name := "fnExactRoundFull", fn := fun _ => fun
  | [d1, d2] => { results := [.lit (.bool true)], args := [d1, d2] }
  | _ => none }
def fnExactRoundFullRow : OpenClaim := { program := "ytcomaodpnhoeaaa", sum := "eaa72a2510f80d829dbc3aff40759c080cda3068de5c3660721aac3450559dd9", func := "loop.example/mirrorgrids/laws.FnExactRoundFull", spec := "fnExactRoundFull", unfollowed := true, recurses := true, apart := false }
def FnExactRoundFullSaid : Prop := fnExactRoundFullRow.holds Try.pinned (OpenSpec.ofChange fnExactRoundFullSpec)

/-- ITS FALSE NEIGHBOUR: 'it returns false'. Refute it at one input. -/
def fnExactRoundFullWrong : ChangeSpec := { name := "fnExactRoundFull", fn := fun _ => fun
  | [d1, d2] => { results := [.lit (.bool false)], args := [d1, d2] }
  | _ => none }
def FnExactRoundFullWrongFalsely : Prop := fnExactRoundFullRow.holds Try.pinned (OpenSpec.ofChange fnExactRoundFullWrong)

/-- 'laws.FnExactRoundAt': WHATEVER THE INPUT: true; the input reads as it did. -/
def fnExactRoundAtSpec : ChangeSpec := { name := "fnExactRoundAt", fn := fun _ => fun
  | [d1, d2] => { results := [.lit (.bool true)], args := [d1, d2] }
  | _ => none }
def fnExactRoundAtRow : OpenClaim := { program := "ytcomaodpnhoeaaa", sum := "eaa72a2510f80d829dbc3aff40759c080cda3068de5c3660721aac3450559dd9", func := "loop.example/mirrorgrids/laws.FnExactRoundAt", spec := "fnExactRoundAt", inPlace := ["internal/bytealg.IndexByteString", "internal/bytealg.IndexString"], unfollowed := true, recurses := true, named := ["internal/bytealg.MaxLen"], apart := false }
def FnExactRoundAtSaid : Prop := fnExactRoundAtRow.holds Try.pinned (OpenSpec.ofChange fnExactRoundAtSpec)

/-- ITS FALSE NEIGHBOUR: 'it returns false'. Refute it at one input. -/
def fnExactRoundAtWrong : ChangeSpec := { name := "fnExactRoundAt", fn := fun _ => fun
  | [d1, d2] => { results := [.lit (.bool false)], args := [d1, d2] }
  | _ => none }
def FnExactRoundAtWrongFalsely : Prop := fnExactRoundAtRow.holds Try.pinned (OpenSpec.ofChange fnExactRoundAtWrong)

/-- 'laws.FnExactRoundTwice': WHATEVER THE INPUT: true; the input reads as it did. -/
def fnExactRoundTwiceSpec : ChangeSpec := { name := "fnExactRoundTwice", fn := fun _ => fun
  | [d] => { results := [.lit (.bool true)], args := [d] }
  | _ => none }
def fnExactRoundTwiceRow : OpenClaim := { program := "ytcomaodpnhoeaaa", sum := "eaa72a2510f80d829dbc3aff40759c080cda3068de5c3660721aac3450559dd9", func := "loop.example/mirrorgrids/laws.FnExactRoundTwice", spec := "fnExactRoundTwice", inPlace := ["internal/bytealg.IndexByteString", "internal/bytealg.IndexString"], unfollowed := true, recurses := true, named := ["internal/bytealg.MaxLen"], apart := false }
def FnExactRoundTwiceSaid : Prop := fnExactRoundTwiceRow.holds Try.pinned (OpenSpec.ofChange fnExactRoundTwiceSpec)

/-- ITS FALSE NEIGHBOUR: 'it returns false'. Refute it at one input. -/
def fnExactRoundTwiceWrong : ChangeSpec := { name := "fnExactRoundTwice", fn := fun _ => fun
  | [d] => { results := [.lit (.bool false)], args := [d] }
  | _ => none }
def FnExactRoundTwiceWrongFalsely : Prop := fnExactRoundTwiceRow.holds Try.pinned (OpenSpec.ofChange fnExactRoundTwiceWrong)

/- THE SECOND FORM. 'bulk': how many values and letters a reading holds, each counted each time it is reached (what is shared counts as often as it is met; a slice's spare places count too). A statement '..UptoSaid' is the law's where the arguments, and the package variables that the reading takes, are together of bulk at most 1048576: NARROWER than '..Said'. Prove '..Said' where nothing that the law and all that it calls make is longer than what came in: it says more and counts as full. Else prove '..UptoSaid'. A law counts once. -/
mutual
def uptoBulk {H : Type} : DataW H → Nat
  | .lit (.string bytes) => bytes.length + 1
  | .lit _ => 1
  | .nil => 1
  | .ptr d => uptoBulk d + 1
  | .slice elems spare => uptoBulkAll elems + uptoBulkAll spare + 1
  | .agg parts => uptoBulkAll parts + 1
  | .iface _ d => uptoBulk d + 1
  | .map entries => uptoBulkEntries entries + 1
  | .held _ => 1
def uptoBulkAll {H : Type} : List (DataW H) → Nat
  | [] => 0
  | d :: r => uptoBulk d + uptoBulkAll r
def uptoBulkEntries {H : Type} : List (Lit × DataW H) → Nat
  | [] => 0
  | x :: r => uptoBulkEntry x + uptoBulkEntries r
def uptoBulkEntry {H : Type} : Lit × DataW H → Nat
  | (.string bytes, d) => bytes.length + uptoBulk d + 1
  | (_, d) => uptoBulk d + 1
 end
def uptoSmall : (H : Type) → List (DataW H) → Bool := fun _ ds => decide (uptoBulkAll ds ≤ 1048576)
def OpenSpec.upto (s : _root_.Go.ChangeSpec) : _root_.Go.OpenSpec := { _root_.Go.OpenSpec.ofChange s with cond := some uptoSmall }

/-- 'laws.FnFlip', WHERE WHAT IT READS IS OF BULK AT MOST 1048576: true; the input reads as it did. -/
def fnFlipUptoRow : OpenClaim := { program := "ytcomaodpnhoeaaa", sum := "eaa72a2510f80d829dbc3aff40759c080cda3068de5c3660721aac3450559dd9", func := "loop.example/mirrorgrids/laws.FnFlip", spec := "fnFlip", inPlace := ["internal/bytealg.IndexByteString", "internal/bytealg.IndexString"], unfollowed := true, recurses := true, named := ["internal/bytealg.MaxLen"], apart := false, narrowed := true }
def FnFlipUptoSaid : Prop := fnFlipUptoRow.holds Try.pinned (OpenSpec.upto fnFlipSpec)

/-- 'laws.FnExactGridIn', WHERE WHAT IT READS IS OF BULK AT MOST 1048576: true; the input reads as it did. -/
def fnExactGridInUptoRow : OpenClaim := { program := "ytcomaodpnhoeaaa", sum := "eaa72a2510f80d829dbc3aff40759c080cda3068de5c3660721aac3450559dd9", func := "loop.example/mirrorgrids/laws.FnExactGridIn", spec := "fnExactGridIn", inPlace := ["internal/bytealg.IndexByteString", "internal/bytealg.IndexString"], named := ["internal/bytealg.MaxLen"], apart := false, narrowed := true }
def FnExactGridInUptoSaid : Prop := fnExactGridInUptoRow.holds Try.pinned (OpenSpec.upto fnExactGridInSpec)

/-- 'laws.FnExactGridTurn', WHERE WHAT IT READS IS OF BULK AT MOST 1048576: true; the input reads as it did. -/
def fnExactGridTurnUptoRow : OpenClaim := { program := "ytcomaodpnhoeaaa", sum := "eaa72a2510f80d829dbc3aff40759c080cda3068de5c3660721aac3450559dd9", func := "loop.example/mirrorgrids/laws.FnExactGridTurn", spec := "fnExactGridTurn", inPlace := ["internal/bytealg.IndexByteString", "internal/bytealg.IndexString"], unfollowed := true, recurses := true, named := ["internal/bytealg.MaxLen"], apart := false, narrowed := true }
def FnExactGridTurnUptoSaid : Prop := fnExactGridTurnUptoRow.holds Try.pinned (OpenSpec.upto fnExactGridTurnSpec)

/-- 'laws.FnExactGridFlip', WHERE WHAT IT READS IS OF BULK AT MOST 1048576: true; the input reads as it did. -/
def fnExactGridFlipUptoRow : OpenClaim := { program := "ytcomaodpnhoeaaa", sum := "eaa72a2510f80d829dbc3aff40759c080cda3068de5c3660721aac3450559dd9", func := "loop.example/mirrorgrids/laws.FnExactGridFlip", spec := "fnExactGridFlip", inPlace := ["internal/bytealg.IndexByteString", "internal/bytealg.IndexString"], unfollowed := true, recurses := true, named := ["internal/bytealg.MaxLen"], apart := false, narrowed := true }
def FnExactGridFlipUptoSaid : Prop := fnExactGridFlipUptoRow.holds Try.pinned (OpenSpec.upto fnExactGridFlipSpec)

/-- 'laws.FnExactGridOther', WHERE WHAT IT READS IS OF BULK AT MOST 1048576: true; the input reads as it did. -/
def fnExactGridOtherUptoRow : OpenClaim := { program := "ytcomaodpnhoeaaa", sum := "eaa72a2510f80d829dbc3aff40759c080cda3068de5c3660721aac3450559dd9", func := "loop.example/mirrorgrids/laws.FnExactGridOther", spec := "fnExactGridOther", inPlace := ["internal/bytealg.IndexByteString", "internal/bytealg.IndexString"], unfollowed := true, recurses := true, named := ["internal/bytealg.MaxLen"], apart := false, narrowed := true }
def FnExactGridOtherUptoSaid : Prop := fnExactGridOtherUptoRow.holds Try.pinned (OpenSpec.upto fnExactGridOtherSpec)

/-- 'laws.FnExactGridBeside', WHERE WHAT IT READS IS OF BULK AT MOST 1048576: true; the input reads as it did. -/
def fnExactGridBesideUptoRow : OpenClaim := { program := "ytcomaodpnhoeaaa", sum := "eaa72a2510f80d829dbc3aff40759c080cda3068de5c3660721aac3450559dd9", func := "loop.example/mirrorgrids/laws.FnExactGridBeside", spec := "fnExactGridBeside", inPlace := ["internal/bytealg.IndexByteString", "internal/bytealg.IndexString"], unfollowed := true, recurses := true, named := ["internal/bytealg.MaxLen"], apart := false, narrowed := true }
def FnExactGridBesideUptoSaid : Prop := fnExactGridBesideUptoRow.holds Try.pinned (OpenSpec.upto fnExactGridBesideSpec)

/-- 'laws.FnExactGridUnder', WHERE WHAT IT READS IS OF BULK AT MOST 1048576: true; the input reads as it did. -/
def fnExactGridUnderUptoRow : OpenClaim := { program := "ytcomaodpnhoeaaa", sum := "eaa72a2510f80d829dbc3aff40759c080cda3068de5c3660721aac3450559dd9", func := "loop.example/mirrorgrids/laws.FnExactGridUnder", spec := "fnExactGridUnder", inPlace := ["internal/bytealg.IndexByteString", "internal/bytealg.IndexString"], unfollowed := true, recurses := true, named := ["internal/bytealg.MaxLen"], apart := false, narrowed := true }
def FnExactGridUnderUptoSaid : Prop := fnExactGridUnderUptoRow.holds Try.pinned (OpenSpec.upto fnExactGridUnderSpec)

/-- 'laws.FnExactGridPart', WHERE WHAT IT READS IS OF BULK AT MOST 1048576: true; the input reads as it did. -/
def fnExactGridPartUptoRow : OpenClaim := { program := "ytcomaodpnhoeaaa", sum := "eaa72a2510f80d829dbc3aff40759c080cda3068de5c3660721aac3450559dd9", func := "loop.example/mirrorgrids/laws.FnExactGridPart", spec := "fnExactGridPart", inPlace := ["internal/bytealg.IndexByteString", "internal/bytealg.IndexString"], unfollowed := true, recurses := true, named := ["internal/bytealg.MaxLen"], apart := false, narrowed := true }
def FnExactGridPartUptoSaid : Prop := fnExactGridPartUptoRow.holds Try.pinned (OpenSpec.upto fnExactGridPartSpec)

/-- 'laws.FnExactGridCount', WHERE WHAT IT READS IS OF BULK AT MOST 1048576: true; the input reads as it did. -/
def fnExactGridCountUptoRow : OpenClaim := { program := "ytcomaodpnhoeaaa", sum := "eaa72a2510f80d829dbc3aff40759c080cda3068de5c3660721aac3450559dd9", func := "loop.example/mirrorgrids/laws.FnExactGridCount", spec := "fnExactGridCount", inPlace := ["internal/bytealg.IndexByteString", "internal/bytealg.IndexString"], unfollowed := true, recurses := true, named := ["internal/bytealg.MaxLen"], apart := false, narrowed := true }
def FnExactGridCountUptoSaid : Prop := fnExactGridCountUptoRow.holds Try.pinned (OpenSpec.upto fnExactGridCountSpec)

/-- 'laws.FnExactGridFull', WHERE WHAT IT READS IS OF BULK AT MOST 1048576: true; the input reads as it did. -/
def fnExactGridFullUptoRow : OpenClaim := { program := "ytcomaodpnhoeaaa", sum := "eaa72a2510f80d829dbc3aff40759c080cda3068de5c3660721aac3450559dd9", func := "loop.example/mirrorgrids/laws.FnExactGridFull", spec := "fnExactGridFull", inPlace := ["internal/bytealg.IndexByteString", "internal/bytealg.IndexString"], unfollowed := true, recurses := true, named := ["internal/bytealg.MaxLen"], apart := false, narrowed := true }
def FnExactGridFullUptoSaid : Prop := fnExactGridFullUptoRow.holds Try.pinned (OpenSpec.upto fnExactGridFullSpec)

/-- 'laws.FnExactGridPut', WHERE WHAT IT READS IS OF BULK AT MOST 1048576: true; the input reads as it did. -/
def fnExactGridPutUptoRow : OpenClaim := { program := "ytcomaodpnhoeaaa", sum := "eaa72a2510f80d829dbc3aff40759c080cda3068de5c3660721aac3450559dd9", func := "loop.example/mirrorgrids/laws.FnExactGridPut", spec := "fnExactGridPut", inPlace := ["internal/bytealg.IndexByteString", "internal/bytealg.IndexString"], named := ["internal/bytealg.MaxLen"], apart := false, narrowed := true }
def FnExactGridPutUptoSaid : Prop := fnExactGridPutUptoRow.holds Try.pinned (OpenSpec.upto fnExactGridPutSpec)

/-- 'laws.FnExactGridOf', WHERE WHAT IT READS IS OF BULK AT MOST 1048576: true; the input reads as it did. -/
def fnExactGridOfUptoRow : OpenClaim := { program := "ytcomaodpnhoeaaa", sum := "eaa72a2510f80d829dbc3aff40759c080cda3068de5c3660721aac3450559dd9", func := "loop.example/mirrorgrids/laws.FnExactGridOf", spec := "fnExactGridOf", apart := false, narrowed := true }
def FnExactGridOfUptoSaid : Prop := fnExactGridOfUptoRow.holds Try.pinned (OpenSpec.upto fnExactGridOfSpec)

/-- 'laws.FnExactGridNumber', WHERE WHAT IT READS IS OF BULK AT MOST 1048576: true; the input reads as it did. -/
def fnExactGridNumberUptoRow : OpenClaim := { program := "ytcomaodpnhoeaaa", sum := "eaa72a2510f80d829dbc3aff40759c080cda3068de5c3660721aac3450559dd9", func := "loop.example/mirrorgrids/laws.FnExactGridNumber", spec := "fnExactGridNumber", inPlace := ["internal/bytealg.IndexByteString", "internal/bytealg.IndexString"], unfollowed := true, recurses := true, named := ["internal/bytealg.MaxLen"], apart := false, narrowed := true }
def FnExactGridNumberUptoSaid : Prop := fnExactGridNumberUptoRow.holds Try.pinned (OpenSpec.upto fnExactGridNumberSpec)

/-- 'laws.FnCells', WHERE WHAT IT READS IS OF BULK AT MOST 1048576: true; the input reads as it did. -/
def fnCellsUptoRow : OpenClaim := { program := "ytcomaodpnhoeaaa", sum := "eaa72a2510f80d829dbc3aff40759c080cda3068de5c3660721aac3450559dd9", func := "loop.example/mirrorgrids/laws.FnCells", spec := "fnCells", inPlace := ["internal/bytealg.IndexByteString", "internal/bytealg.IndexString"], unfollowed := true, recurses := true, named := ["internal/bytealg.MaxLen"], apart := false, narrowed := true }
def FnCellsUptoSaid : Prop := fnCellsUptoRow.holds Try.pinned (OpenSpec.upto fnCellsSpec)

/-- 'laws.FnExactRoundMany', WHERE WHAT IT READS IS OF BULK AT MOST 1048576: true; the input reads as it did. -/
def fnExactRoundManyUptoRow : OpenClaim := { program := "ytcomaodpnhoeaaa", sum := "eaa72a2510f80d829dbc3aff40759c080cda3068de5c3660721aac3450559dd9", func := "loop.example/mirrorgrids/laws.FnExactRoundMany", spec := "fnExactRoundMany", inPlace := ["internal/bytealg.IndexByteString", "internal/bytealg.IndexString"], unfollowed := true, recurses := true, named := ["internal/bytealg.MaxLen"], apart := false, narrowed := true }
def FnExactRoundManyUptoSaid : Prop := fnExactRoundManyUptoRow.holds Try.pinned (OpenSpec.upto fnExactRoundManySpec)

/-- 'laws.FnExactRoundPaths', WHERE WHAT IT READS IS OF BULK AT MOST 1048576: true; the input reads as it did. -/
def fnExactRoundPathsUptoRow : OpenClaim := { program := "ytcomaodpnhoeaaa", sum := "eaa72a2510f80d829dbc3aff40759c080cda3068de5c3660721aac3450559dd9", func := "loop.example/mirrorgrids/laws.FnExactRoundPaths", spec := "fnExactRoundPaths", inPlace := ["internal/bytealg.IndexByteString", "internal/bytealg.IndexString"], unfollowed := true, recurses := true, named := ["internal/bytealg.MaxLen"], apart := false, narrowed := true }
def FnExactRoundPathsUptoSaid : Prop := fnExactRoundPathsUptoRow.holds Try.pinned (OpenSpec.upto fnExactRoundPathsSpec)

/-- 'laws.FnExactRoundLengths', WHERE WHAT IT READS IS OF BULK AT MOST 1048576: true; the input reads as it did. -/
def fnExactRoundLengthsUptoRow : OpenClaim := { program := "ytcomaodpnhoeaaa", sum := "eaa72a2510f80d829dbc3aff40759c080cda3068de5c3660721aac3450559dd9", func := "loop.example/mirrorgrids/laws.FnExactRoundLengths", spec := "fnExactRoundLengths", inPlace := ["internal/bytealg.IndexByteString", "internal/bytealg.IndexString"], unfollowed := true, recurses := true, named := ["internal/bytealg.MaxLen"], apart := false, narrowed := true }
def FnExactRoundLengthsUptoSaid : Prop := fnExactRoundLengthsUptoRow.holds Try.pinned (OpenSpec.upto fnExactRoundLengthsSpec)

/-- 'laws.FnExactRoundCells', WHERE WHAT IT READS IS OF BULK AT MOST 1048576: true; the input reads as it did. -/
def fnExactRoundCellsUptoRow : OpenClaim := { program := "ytcomaodpnhoeaaa", sum := "eaa72a2510f80d829dbc3aff40759c080cda3068de5c3660721aac3450559dd9", func := "loop.example/mirrorgrids/laws.FnExactRoundCells", spec := "fnExactRoundCells", inPlace := ["internal/bytealg.IndexByteString", "internal/bytealg.IndexString"], unfollowed := true, recurses := true, named := ["internal/bytealg.MaxLen"], apart := false, narrowed := true }
def FnExactRoundCellsUptoSaid : Prop := fnExactRoundCellsUptoRow.holds Try.pinned (OpenSpec.upto fnExactRoundCellsSpec)

/-- 'laws.FnExactRoundLeast', WHERE WHAT IT READS IS OF BULK AT MOST 1048576: true; the input reads as it did. -/
def fnExactRoundLeastUptoRow : OpenClaim := { program := "ytcomaodpnhoeaaa", sum := "eaa72a2510f80d829dbc3aff40759c080cda3068de5c3660721aac3450559dd9", func := "loop.example/mirrorgrids/laws.FnExactRoundLeast", spec := "fnExactRoundLeast", inPlace := ["internal/bytealg.IndexByteString", "internal/bytealg.IndexString"], unfollowed := true, recurses := true, named := ["internal/bytealg.MaxLen"], apart := false, narrowed := true }
def FnExactRoundLeastUptoSaid : Prop := fnExactRoundLeastUptoRow.holds Try.pinned (OpenSpec.upto fnExactRoundLeastSpec)

/-- 'laws.FnExactRoundMost', WHERE WHAT IT READS IS OF BULK AT MOST 1048576: true; the input reads as it did. -/
def fnExactRoundMostUptoRow : OpenClaim := { program := "ytcomaodpnhoeaaa", sum := "eaa72a2510f80d829dbc3aff40759c080cda3068de5c3660721aac3450559dd9", func := "loop.example/mirrorgrids/laws.FnExactRoundMost", spec := "fnExactRoundMost", unfollowed := true, recurses := true, apart := false, narrowed := true }
def FnExactRoundMostUptoSaid : Prop := fnExactRoundMostUptoRow.holds Try.pinned (OpenSpec.upto fnExactRoundMostSpec)

/-- 'laws.FnExactRoundFull', WHERE WHAT IT READS IS OF BULK AT MOST 1048576: true; the input reads as it did. -/
def fnExactRoundFullUptoRow : OpenClaim := { program := "ytcomaodpnhoeaaa", sum := "eaa72a2510f80d829dbc3aff40759c080cda3068de5c3660721aac3450559dd9", func := "loop.example/mirrorgrids/laws.FnExactRoundFull", spec := "fnExactRoundFull", unfollowed := true, recurses := true, apart := false, narrowed := true }
def FnExactRoundFullUptoSaid : Prop := fnExactRoundFullUptoRow.holds Try.pinned (OpenSpec.upto fnExactRoundFullSpec)

/-- 'laws.FnExactRoundAt', WHERE WHAT IT READS IS OF BULK AT MOST 1048576: true; the input reads as it did. -/
def fnExactRoundAtUptoRow : OpenClaim := { program := "ytcomaodpnhoeaaa", sum := "eaa72a2510f80d829dbc3aff40759c080cda3068de5c3660721aac3450559dd9", func := "loop.example/mirrorgrids/laws.FnExactRoundAt", spec := "fnExactRoundAt", inPlace := ["internal/bytealg.IndexByteString", "internal/bytealg.IndexString"], unfollowed := true, recurses := true, named := ["internal/bytealg.MaxLen"], apart := false, narrowed := true }
def FnExactRoundAtUptoSaid : Prop := fnExactRoundAtUptoRow.holds Try.pinned (OpenSpec.upto fnExactRoundAtSpec)

/-- 'laws.FnExactRoundTwice', WHERE WHAT IT READS IS OF BULK AT MOST 1048576: true; the input reads as it did. -/
def fnExactRoundTwiceUptoRow : OpenClaim := { program := "ytcomaodpnhoeaaa", sum := "eaa72a2510f80d829dbc3aff40759c080cda3068de5c3660721aac3450559dd9", func := "loop.example/mirrorgrids/laws.FnExactRoundTwice", spec := "fnExactRoundTwice", inPlace := ["internal/bytealg.IndexByteString", "internal/bytealg.IndexString"], unfollowed := true, recurses := true, named := ["internal/bytealg.MaxLen"], apart := false, narrowed := true }
def FnExactRoundTwiceUptoSaid : Prop := fnExactRoundTwiceUptoRow.holds Try.pinned (OpenSpec.upto fnExactRoundTwiceSpec)

end Rows
end Go.Proofs.Ytcomaodpnhoeaaa
