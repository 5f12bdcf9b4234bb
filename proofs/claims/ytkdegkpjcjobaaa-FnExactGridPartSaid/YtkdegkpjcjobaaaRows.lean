/-
  No cell of these rows narrows 'for every input' (looked for: loops, veiled, ifaces, maps, wideKeys, modest, calm, conditions, laid).
  DERIVED. THE GIVEN ROWS OF THIS SEAT. 24 by the template 'for every input the law returns true; each argument reads behind the call as it read before'; 0 by the template 'total and deterministic' (their statements: YtkdegkpjcjobaaaTotals.lean).
  GIVEN WITH THE SEED: the statements are not yours to turn. If you find one false, say at which input.
  Laid BY PROGRAM, IN A SANDBOX (cutbox-rows.mjs): the forced cells as the released guide's own fill.sh prints them over the translation 570028dcfca19386… (all of the seat's roots in one cut). By AI agents, Wed Nov 11 2026. No macro, syntax, notation, axiom, sorry.
-/
import Derived.Test.YtkdegkpjcjobaaaChecked
import GoSem.Claim
import GoSem.ClaimJoined
import GoSem.ClaimMapViews
import Derived.JoinedTies
import Derived.KernelRfl
namespace Go.Proofs.Ytkdegkpjcjobaaa
/- THE CELL 'sum', in the pinned program and in every row, IS THE sha256 OF THE DUMP (.gsa) THAT YtkdegkpjcjobaaaProg.lean LOADS. Nothing in Lean hashes anything: it is a label: what it is worth is what the hold of that sum in a sandbox is worth. -/
noncomputable def Try.pinned : Pinned := { name := "ytkdegkpjcjobaaa", sum := "570028dcfca193860595946050f855dcf3eca2ed887471e6d599e0a4f0238c04", checked := Try.checked }
namespace Rows
def none {H : Type} : Left H := { results := [], args := [] }

/-- 'laws.FnExactGridIn': WHATEVER THE INPUT: true; the input reads as it did. -/
def fnExactGridInSpec : ChangeSpec := { name := "fnExactGridIn", fn := fun _ => fun
  | [d] => { results := [.lit (.bool true)], args := [d] }
  | _ => none }
def fnExactGridInRow : OpenClaim := { program := "ytkdegkpjcjobaaa", sum := "570028dcfca193860595946050f855dcf3eca2ed887471e6d599e0a4f0238c04", func := "loop.example/mirrorgrids/laws.FnExactGridIn", spec := "fnExactGridIn", inPlace := ["internal/bytealg.IndexByteString", "internal/bytealg.IndexString"], named := ["internal/bytealg.MaxLen"], apart := false }
def FnExactGridInSaid : Prop := fnExactGridInRow.holds Try.pinned (OpenSpec.ofChange fnExactGridInSpec)

/-- ITS FALSE NEIGHBOUR: 'it returns false'. Refute it at one input. -/
def fnExactGridInWrong : ChangeSpec := { name := "fnExactGridIn", fn := fun _ => fun
  | [d] => { results := [.lit (.bool false)], args := [d] }
  | _ => none }
def FnExactGridInWrongFalsely : Prop := fnExactGridInRow.holds Try.pinned (OpenSpec.ofChange fnExactGridInWrong)

/-- 'laws.FnExactGridTurn': WHATEVER THE INPUT: true; the input reads as it did. -/
def fnExactGridTurnSpec : ChangeSpec := { name := "fnExactGridTurn", fn := fun _ => fun
  | [d] => { results := [.lit (.bool true)], args := [d] }
  | _ => none }
def fnExactGridTurnRow : OpenClaim := { program := "ytkdegkpjcjobaaa", sum := "570028dcfca193860595946050f855dcf3eca2ed887471e6d599e0a4f0238c04", func := "loop.example/mirrorgrids/laws.FnExactGridTurn", spec := "fnExactGridTurn", inPlace := ["internal/bytealg.IndexByteString", "internal/bytealg.IndexString"], unfollowed := true, recurses := true, named := ["internal/bytealg.MaxLen"], apart := false }
def FnExactGridTurnSaid : Prop := fnExactGridTurnRow.holds Try.pinned (OpenSpec.ofChange fnExactGridTurnSpec)

/-- ITS FALSE NEIGHBOUR: 'it returns false'. Refute it at one input. -/
def fnExactGridTurnWrong : ChangeSpec := { name := "fnExactGridTurn", fn := fun _ => fun
  | [d] => { results := [.lit (.bool false)], args := [d] }
  | _ => none }
def FnExactGridTurnWrongFalsely : Prop := fnExactGridTurnRow.holds Try.pinned (OpenSpec.ofChange fnExactGridTurnWrong)

/-- 'laws.FnExactGridFlip': WHATEVER THE INPUT: true; the input reads as it did. -/
def fnExactGridFlipSpec : ChangeSpec := { name := "fnExactGridFlip", fn := fun _ => fun
  | [d] => { results := [.lit (.bool true)], args := [d] }
  | _ => none }
def fnExactGridFlipRow : OpenClaim := { program := "ytkdegkpjcjobaaa", sum := "570028dcfca193860595946050f855dcf3eca2ed887471e6d599e0a4f0238c04", func := "loop.example/mirrorgrids/laws.FnExactGridFlip", spec := "fnExactGridFlip", inPlace := ["internal/bytealg.IndexByteString", "internal/bytealg.IndexString"], unfollowed := true, recurses := true, named := ["internal/bytealg.MaxLen"], apart := false }
def FnExactGridFlipSaid : Prop := fnExactGridFlipRow.holds Try.pinned (OpenSpec.ofChange fnExactGridFlipSpec)

/-- ITS FALSE NEIGHBOUR: 'it returns false'. Refute it at one input. -/
def fnExactGridFlipWrong : ChangeSpec := { name := "fnExactGridFlip", fn := fun _ => fun
  | [d] => { results := [.lit (.bool false)], args := [d] }
  | _ => none }
def FnExactGridFlipWrongFalsely : Prop := fnExactGridFlipRow.holds Try.pinned (OpenSpec.ofChange fnExactGridFlipWrong)

/-- 'laws.FnExactGridOther': WHATEVER THE INPUT: true; the input reads as it did. -/
def fnExactGridOtherSpec : ChangeSpec := { name := "fnExactGridOther", fn := fun _ => fun
  | [d] => { results := [.lit (.bool true)], args := [d] }
  | _ => none }
def fnExactGridOtherRow : OpenClaim := { program := "ytkdegkpjcjobaaa", sum := "570028dcfca193860595946050f855dcf3eca2ed887471e6d599e0a4f0238c04", func := "loop.example/mirrorgrids/laws.FnExactGridOther", spec := "fnExactGridOther", inPlace := ["internal/bytealg.IndexByteString", "internal/bytealg.IndexString"], unfollowed := true, recurses := true, named := ["internal/bytealg.MaxLen"], apart := false }
def FnExactGridOtherSaid : Prop := fnExactGridOtherRow.holds Try.pinned (OpenSpec.ofChange fnExactGridOtherSpec)

/-- ITS FALSE NEIGHBOUR: 'it returns false'. Refute it at one input. -/
def fnExactGridOtherWrong : ChangeSpec := { name := "fnExactGridOther", fn := fun _ => fun
  | [d] => { results := [.lit (.bool false)], args := [d] }
  | _ => none }
def FnExactGridOtherWrongFalsely : Prop := fnExactGridOtherRow.holds Try.pinned (OpenSpec.ofChange fnExactGridOtherWrong)

/-- 'laws.FnExactGridBeside': WHATEVER THE INPUT: true; the input reads as it did. -/
def fnExactGridBesideSpec : ChangeSpec := { name := "fnExactGridBeside", fn := fun _ => fun
  | [d1, d2] => { results := [.lit (.bool true)], args := [d1, d2] }
  | _ => none }
def fnExactGridBesideRow : OpenClaim := { program := "ytkdegkpjcjobaaa", sum := "570028dcfca193860595946050f855dcf3eca2ed887471e6d599e0a4f0238c04", func := "loop.example/mirrorgrids/laws.FnExactGridBeside", spec := "fnExactGridBeside", inPlace := ["internal/bytealg.IndexByteString", "internal/bytealg.IndexString"], unfollowed := true, recurses := true, named := ["internal/bytealg.MaxLen"], apart := false }
def FnExactGridBesideSaid : Prop := fnExactGridBesideRow.holds Try.pinned (OpenSpec.ofChange fnExactGridBesideSpec)

/-- ITS FALSE NEIGHBOUR: 'it returns false'. Refute it at one input. -/
def fnExactGridBesideWrong : ChangeSpec := { name := "fnExactGridBeside", fn := fun _ => fun
  | [d1, d2] => { results := [.lit (.bool false)], args := [d1, d2] }
  | _ => none }
def FnExactGridBesideWrongFalsely : Prop := fnExactGridBesideRow.holds Try.pinned (OpenSpec.ofChange fnExactGridBesideWrong)

/-- 'laws.FnExactGridUnder': WHATEVER THE INPUT: true; the input reads as it did. -/
def fnExactGridUnderSpec : ChangeSpec := { name := "fnExactGridUnder", fn := fun _ => fun
  | [d1, d2] => { results := [.lit (.bool true)], args := [d1, d2] }
  | _ => none }
def fnExactGridUnderRow : OpenClaim := { program := "ytkdegkpjcjobaaa", sum := "570028dcfca193860595946050f855dcf3eca2ed887471e6d599e0a4f0238c04", func := "loop.example/mirrorgrids/laws.FnExactGridUnder", spec := "fnExactGridUnder", inPlace := ["internal/bytealg.IndexByteString", "internal/bytealg.IndexString"], unfollowed := true, recurses := true, named := ["internal/bytealg.MaxLen"], apart := false }
def FnExactGridUnderSaid : Prop := fnExactGridUnderRow.holds Try.pinned (OpenSpec.ofChange fnExactGridUnderSpec)

/-- ITS FALSE NEIGHBOUR: 'it returns false'. Refute it at one input. -/
def fnExactGridUnderWrong : ChangeSpec := { name := "fnExactGridUnder", fn := fun _ => fun
  | [d1, d2] => { results := [.lit (.bool false)], args := [d1, d2] }
  | _ => none }
def FnExactGridUnderWrongFalsely : Prop := fnExactGridUnderRow.holds Try.pinned (OpenSpec.ofChange fnExactGridUnderWrong)

/-- 'laws.FnExactGridPart': WHATEVER THE INPUT: true; the input reads as it did. -/
def fnExactGridPartSpec : ChangeSpec := { name := "fnExactGridPart", fn := fun _ => fun
  | [d1, d2, d3, d4, d5] => { results := [.lit (.bool true)], args := [d1, d2, d3, d4, d5] }
  | _ => none }
def fnExactGridPartRow : OpenClaim := { program := "ytkdegkpjcjobaaa", sum := "570028dcfca193860595946050f855dcf3eca2ed887471e6d599e0a4f0238c04", func := "loop.example/mirrorgrids/laws.FnExactGridPart", spec := "fnExactGridPart", inPlace := ["internal/bytealg.IndexByteString", "internal/bytealg.IndexString"], unfollowed := true, recurses := true, named := ["internal/bytealg.MaxLen"], apart := false }
def FnExactGridPartSaid : Prop := fnExactGridPartRow.holds Try.pinned (OpenSpec.ofChange fnExactGridPartSpec)

/-- ITS FALSE NEIGHBOUR: 'it returns false'. Refute it at one input. -/
def fnExactGridPartWrong : ChangeSpec := { name := "fnExactGridPart", fn := fun _ => fun
  | [d1, d2, d3, d4, d5] => { results := [.lit (.bool false)], args := [d1, d2, d3, d4, d5] }
  | _ => none }
def FnExactGridPartWrongFalsely : Prop := fnExactGridPartRow.holds Try.pinned (OpenSpec.ofChange fnExactGridPartWrong)

/-- 'laws.FnExactGridCount': WHATEVER THE INPUT: true; the input reads as it did. -/
def fnExactGridCountSpec : ChangeSpec := { name := "fnExactGridCount", fn := fun _ => fun
  | [d] => { results := [.lit (.bool true)], args := [d] }
  | _ => none }
def fnExactGridCountRow : OpenClaim := { program := "ytkdegkpjcjobaaa", sum := "570028dcfca193860595946050f855dcf3eca2ed887471e6d599e0a4f0238c04", func := "loop.example/mirrorgrids/laws.FnExactGridCount", spec := "fnExactGridCount", inPlace := ["internal/bytealg.IndexByteString", "internal/bytealg.IndexString"], unfollowed := true, recurses := true, named := ["internal/bytealg.MaxLen"], apart := false }
def FnExactGridCountSaid : Prop := fnExactGridCountRow.holds Try.pinned (OpenSpec.ofChange fnExactGridCountSpec)

/-- ITS FALSE NEIGHBOUR: 'it returns false'. Refute it at one input. -/
def fnExactGridCountWrong : ChangeSpec := { name := "fnExactGridCount", fn := fun _ => fun
  | [d] => { results := [.lit (.bool false)], args := [d] }
  | _ => none }
def FnExactGridCountWrongFalsely : Prop := fnExactGridCountRow.holds Try.pinned (OpenSpec.ofChange fnExactGridCountWrong)

/-- 'laws.FnExactGridFull': WHATEVER THE INPUT: true; the input reads as it did. -/
def fnExactGridFullSpec : ChangeSpec := { name := "fnExactGridFull", fn := fun _ => fun
  | [d] => { results := [.lit (.bool true)], args := [d] }
  | _ => none }
def fnExactGridFullRow : OpenClaim := { program := "ytkdegkpjcjobaaa", sum := "570028dcfca193860595946050f855dcf3eca2ed887471e6d599e0a4f0238c04", func := "loop.example/mirrorgrids/laws.FnExactGridFull", spec := "fnExactGridFull", inPlace := ["internal/bytealg.IndexByteString", "internal/bytealg.IndexString"], unfollowed := true, recurses := true, named := ["internal/bytealg.MaxLen"], apart := false }
def FnExactGridFullSaid : Prop := fnExactGridFullRow.holds Try.pinned (OpenSpec.ofChange fnExactGridFullSpec)

/-- ITS FALSE NEIGHBOUR: 'it returns false'. Refute it at one input. -/
def fnExactGridFullWrong : ChangeSpec := { name := "fnExactGridFull", fn := fun _ => fun
  | [d] => { results := [.lit (.bool false)], args := [d] }
  | _ => none }
def FnExactGridFullWrongFalsely : Prop := fnExactGridFullRow.holds Try.pinned (OpenSpec.ofChange fnExactGridFullWrong)

/-- 'laws.FnExactGridPut': WHATEVER THE INPUT: true; the input reads as it did. -/
def fnExactGridPutSpec : ChangeSpec := { name := "fnExactGridPut", fn := fun _ => fun
  | [d1, d2, d3] => { results := [.lit (.bool true)], args := [d1, d2, d3] }
  | _ => none }
def fnExactGridPutRow : OpenClaim := { program := "ytkdegkpjcjobaaa", sum := "570028dcfca193860595946050f855dcf3eca2ed887471e6d599e0a4f0238c04", func := "loop.example/mirrorgrids/laws.FnExactGridPut", spec := "fnExactGridPut", inPlace := ["internal/bytealg.IndexByteString", "internal/bytealg.IndexString"], named := ["internal/bytealg.MaxLen"], apart := false }
def FnExactGridPutSaid : Prop := fnExactGridPutRow.holds Try.pinned (OpenSpec.ofChange fnExactGridPutSpec)

/-- ITS FALSE NEIGHBOUR: 'it returns false'. Refute it at one input. -/
def fnExactGridPutWrong : ChangeSpec := { name := "fnExactGridPut", fn := fun _ => fun
  | [d1, d2, d3] => { results := [.lit (.bool false)], args := [d1, d2, d3] }
  | _ => none }
def FnExactGridPutWrongFalsely : Prop := fnExactGridPutRow.holds Try.pinned (OpenSpec.ofChange fnExactGridPutWrong)

/-- 'laws.FnExactGridOf': WHATEVER THE INPUT: true; the input reads as it did. -/
def fnExactGridOfSpec : ChangeSpec := { name := "fnExactGridOf", fn := fun _ => fun
  | [d1, d2, d3] => { results := [.lit (.bool true)], args := [d1, d2, d3] }
  | _ => none }
def fnExactGridOfRow : OpenClaim := { program := "ytkdegkpjcjobaaa", sum := "570028dcfca193860595946050f855dcf3eca2ed887471e6d599e0a4f0238c04", func := "loop.example/mirrorgrids/laws.FnExactGridOf", spec := "fnExactGridOf", apart := false }
def FnExactGridOfSaid : Prop := fnExactGridOfRow.holds Try.pinned (OpenSpec.ofChange fnExactGridOfSpec)

/-- ITS FALSE NEIGHBOUR: 'it returns false'. Refute it at one input. -/
def fnExactGridOfWrong : ChangeSpec := { name := "fnExactGridOf", fn := fun _ => fun
  | [d1, d2, d3] => { results := [.lit (.bool false)], args := [d1, d2, d3] }
  | _ => none }
def FnExactGridOfWrongFalsely : Prop := fnExactGridOfRow.holds Try.pinned (OpenSpec.ofChange fnExactGridOfWrong)

/-- 'laws.FnExactGridNumber': WHATEVER THE INPUT: true; the input reads as it did. -/
def fnExactGridNumberSpec : ChangeSpec := { name := "fnExactGridNumber", fn := fun _ => fun
  | [d] => { results := [.lit (.bool true)], args := [d] }
  | _ => none }
def fnExactGridNumberRow : OpenClaim := { program := "ytkdegkpjcjobaaa", sum := "570028dcfca193860595946050f855dcf3eca2ed887471e6d599e0a4f0238c04", func := "loop.example/mirrorgrids/laws.FnExactGridNumber", spec := "fnExactGridNumber", inPlace := ["internal/bytealg.IndexByteString", "internal/bytealg.IndexString"], unfollowed := true, recurses := true, named := ["internal/bytealg.MaxLen"], apart := false }
def FnExactGridNumberSaid : Prop := fnExactGridNumberRow.holds Try.pinned (OpenSpec.ofChange fnExactGridNumberSpec)

/-- ITS FALSE NEIGHBOUR: 'it returns false'. Refute it at one input. -/
def fnExactGridNumberWrong : ChangeSpec := { name := "fnExactGridNumber", fn := fun _ => fun
  | [d] => { results := [.lit (.bool false)], args := [d] }
  | _ => none }
def FnExactGridNumberWrongFalsely : Prop := fnExactGridNumberRow.holds Try.pinned (OpenSpec.ofChange fnExactGridNumberWrong)

/-- 'laws.FnGrid': WHATEVER THE INPUT: true; the input reads as it did. -/
def fnGridSpec : ChangeSpec := { name := "fnGrid", fn := fun _ => fun
  | [d] => { results := [.lit (.bool true)], args := [d] }
  | _ => none }
def fnGridRow : OpenClaim := { program := "ytkdegkpjcjobaaa", sum := "570028dcfca193860595946050f855dcf3eca2ed887471e6d599e0a4f0238c04", func := "loop.example/mirrorgrids/laws.FnGrid", spec := "fnGrid", inPlace := ["internal/bytealg.IndexByteString", "internal/bytealg.IndexString"], unfollowed := true, recurses := true, named := ["internal/bytealg.MaxLen"], apart := false }
def FnGridSaid : Prop := fnGridRow.holds Try.pinned (OpenSpec.ofChange fnGridSpec)

/-- ITS FALSE NEIGHBOUR: 'it returns false'. Refute it at one input. -/
def fnGridWrong : ChangeSpec := { name := "fnGrid", fn := fun _ => fun
  | [d] => { results := [.lit (.bool false)], args := [d] }
  | _ => none }
def FnGridWrongFalsely : Prop := fnGridRow.holds Try.pinned (OpenSpec.ofChange fnGridWrong)

/-- 'laws.FnTurn': WHATEVER THE INPUT: true; the input reads as it did. -/
def fnTurnSpec : ChangeSpec := { name := "fnTurn", fn := fun _ => fun
  | [d] => { results := [.lit (.bool true)], args := [d] }
  | _ => none }
def fnTurnRow : OpenClaim := { program := "ytkdegkpjcjobaaa", sum := "570028dcfca193860595946050f855dcf3eca2ed887471e6d599e0a4f0238c04", func := "loop.example/mirrorgrids/laws.FnTurn", spec := "fnTurn", inPlace := ["internal/bytealg.IndexByteString", "internal/bytealg.IndexString"], unfollowed := true, recurses := true, named := ["internal/bytealg.MaxLen"], apart := false }
def FnTurnSaid : Prop := fnTurnRow.holds Try.pinned (OpenSpec.ofChange fnTurnSpec)

/-- ITS FALSE NEIGHBOUR: 'it returns false'. Refute it at one input. -/
def fnTurnWrong : ChangeSpec := { name := "fnTurn", fn := fun _ => fun
  | [d] => { results := [.lit (.bool false)], args := [d] }
  | _ => none }
def FnTurnWrongFalsely : Prop := fnTurnRow.holds Try.pinned (OpenSpec.ofChange fnTurnWrong)

/-- 'laws.FnFlip': WHATEVER THE INPUT: true; the input reads as it did. -/
def fnFlipSpec : ChangeSpec := { name := "fnFlip", fn := fun _ => fun
  | [d] => { results := [.lit (.bool true)], args := [d] }
  | _ => none }
def fnFlipRow : OpenClaim := { program := "ytkdegkpjcjobaaa", sum := "570028dcfca193860595946050f855dcf3eca2ed887471e6d599e0a4f0238c04", func := "loop.example/mirrorgrids/laws.FnFlip", spec := "fnFlip", inPlace := ["internal/bytealg.IndexByteString", "internal/bytealg.IndexString"], unfollowed := true, recurses := true, named := ["internal/bytealg.MaxLen"], apart := false }
def FnFlipSaid : Prop := fnFlipRow.holds Try.pinned (OpenSpec.ofChange fnFlipSpec)

/-- ITS FALSE NEIGHBOUR: 'it returns false'. Refute it at one input. -/
def fnFlipWrong : ChangeSpec := { name := "fnFlip", fn := fun _ => fun
  | [d] => { results := [.lit (.bool false)], args := [d] }
  | _ => none }
def FnFlipWrongFalsely : Prop := fnFlipRow.holds Try.pinned (OpenSpec.ofChange fnFlipWrong)

/-- 'laws.FnOther': WHATEVER THE INPUT: true; the input reads as it did. -/
def fnOtherSpec : ChangeSpec := { name := "fnOther", fn := fun _ => fun
  | [d] => { results := [.lit (.bool true)], args := [d] }
  | _ => none }
def fnOtherRow : OpenClaim := { program := "ytkdegkpjcjobaaa", sum := "570028dcfca193860595946050f855dcf3eca2ed887471e6d599e0a4f0238c04", func := "loop.example/mirrorgrids/laws.FnOther", spec := "fnOther", inPlace := ["internal/bytealg.IndexByteString", "internal/bytealg.IndexString"], unfollowed := true, recurses := true, named := ["internal/bytealg.MaxLen"], apart := false }
def FnOtherSaid : Prop := fnOtherRow.holds Try.pinned (OpenSpec.ofChange fnOtherSpec)

/-- ITS FALSE NEIGHBOUR: 'it returns false'. Refute it at one input. -/
def fnOtherWrong : ChangeSpec := { name := "fnOther", fn := fun _ => fun
  | [d] => { results := [.lit (.bool false)], args := [d] }
  | _ => none }
def FnOtherWrongFalsely : Prop := fnOtherRow.holds Try.pinned (OpenSpec.ofChange fnOtherWrong)

/-- 'laws.FnBeside': WHATEVER THE INPUT: true; the input reads as it did. -/
def fnBesideSpec : ChangeSpec := { name := "fnBeside", fn := fun _ => fun
  | [d] => { results := [.lit (.bool true)], args := [d] }
  | _ => none }
def fnBesideRow : OpenClaim := { program := "ytkdegkpjcjobaaa", sum := "570028dcfca193860595946050f855dcf3eca2ed887471e6d599e0a4f0238c04", func := "loop.example/mirrorgrids/laws.FnBeside", spec := "fnBeside", inPlace := ["internal/bytealg.IndexByteString", "internal/bytealg.IndexString"], unfollowed := true, recurses := true, named := ["internal/bytealg.MaxLen"], apart := false }
def FnBesideSaid : Prop := fnBesideRow.holds Try.pinned (OpenSpec.ofChange fnBesideSpec)

/-- ITS FALSE NEIGHBOUR: 'it returns false'. Refute it at one input. -/
def fnBesideWrong : ChangeSpec := { name := "fnBeside", fn := fun _ => fun
  | [d] => { results := [.lit (.bool false)], args := [d] }
  | _ => none }
def FnBesideWrongFalsely : Prop := fnBesideRow.holds Try.pinned (OpenSpec.ofChange fnBesideWrong)

/-- 'laws.FnUnder': WHATEVER THE INPUT: true; the input reads as it did. -/
def fnUnderSpec : ChangeSpec := { name := "fnUnder", fn := fun _ => fun
  | [d] => { results := [.lit (.bool true)], args := [d] }
  | _ => none }
def fnUnderRow : OpenClaim := { program := "ytkdegkpjcjobaaa", sum := "570028dcfca193860595946050f855dcf3eca2ed887471e6d599e0a4f0238c04", func := "loop.example/mirrorgrids/laws.FnUnder", spec := "fnUnder", inPlace := ["internal/bytealg.IndexByteString", "internal/bytealg.IndexString"], unfollowed := true, recurses := true, named := ["internal/bytealg.MaxLen"], apart := false }
def FnUnderSaid : Prop := fnUnderRow.holds Try.pinned (OpenSpec.ofChange fnUnderSpec)

/-- ITS FALSE NEIGHBOUR: 'it returns false'. Refute it at one input. -/
def fnUnderWrong : ChangeSpec := { name := "fnUnder", fn := fun _ => fun
  | [d] => { results := [.lit (.bool false)], args := [d] }
  | _ => none }
def FnUnderWrongFalsely : Prop := fnUnderRow.holds Try.pinned (OpenSpec.ofChange fnUnderWrong)

/-- 'laws.FnPart': WHATEVER THE INPUT: true; the input reads as it did. -/
def fnPartSpec : ChangeSpec := { name := "fnPart", fn := fun _ => fun
  | [d] => { results := [.lit (.bool true)], args := [d] }
  | _ => none }
def fnPartRow : OpenClaim := { program := "ytkdegkpjcjobaaa", sum := "570028dcfca193860595946050f855dcf3eca2ed887471e6d599e0a4f0238c04", func := "loop.example/mirrorgrids/laws.FnPart", spec := "fnPart", inPlace := ["internal/bytealg.IndexByteString", "internal/bytealg.IndexString"], unfollowed := true, recurses := true, named := ["internal/bytealg.MaxLen"], apart := false }
def FnPartSaid : Prop := fnPartRow.holds Try.pinned (OpenSpec.ofChange fnPartSpec)

/-- ITS FALSE NEIGHBOUR: 'it returns false'. Refute it at one input. -/
def fnPartWrong : ChangeSpec := { name := "fnPart", fn := fun _ => fun
  | [d] => { results := [.lit (.bool false)], args := [d] }
  | _ => none }
def FnPartWrongFalsely : Prop := fnPartRow.holds Try.pinned (OpenSpec.ofChange fnPartWrong)

/-- 'laws.FnCount': WHATEVER THE INPUT: true; the input reads as it did. -/
def fnCountSpec : ChangeSpec := { name := "fnCount", fn := fun _ => fun
  | [d] => { results := [.lit (.bool true)], args := [d] }
  | _ => none }
def fnCountRow : OpenClaim := { program := "ytkdegkpjcjobaaa", sum := "570028dcfca193860595946050f855dcf3eca2ed887471e6d599e0a4f0238c04", func := "loop.example/mirrorgrids/laws.FnCount", spec := "fnCount", inPlace := ["internal/bytealg.IndexByteString", "internal/bytealg.IndexString"], unfollowed := true, recurses := true, named := ["internal/bytealg.MaxLen"], apart := false }
def FnCountSaid : Prop := fnCountRow.holds Try.pinned (OpenSpec.ofChange fnCountSpec)

/-- ITS FALSE NEIGHBOUR: 'it returns false'. Refute it at one input. -/
def fnCountWrong : ChangeSpec := { name := "fnCount", fn := fun _ => fun
  | [d] => { results := [.lit (.bool false)], args := [d] }
  | _ => none }
def FnCountWrongFalsely : Prop := fnCountRow.holds Try.pinned (OpenSpec.ofChange fnCountWrong)

/-- 'laws.FnFull': WHATEVER THE INPUT: true; the input reads as it did. -/
def fnFullSpec : ChangeSpec := { name := "fnFull", fn := fun _ => fun
  | [d] => { results := [.lit (.bool true)], args := [d] }
  | _ => none }
def fnFullRow : OpenClaim := { program := "ytkdegkpjcjobaaa", sum := "570028dcfca193860595946050f855dcf3eca2ed887471e6d599e0a4f0238c04", func := "loop.example/mirrorgrids/laws.FnFull", spec := "fnFull", inPlace := ["internal/bytealg.IndexByteString", "internal/bytealg.IndexString"], unfollowed := true, recurses := true, named := ["internal/bytealg.MaxLen"], apart := false }
def FnFullSaid : Prop := fnFullRow.holds Try.pinned (OpenSpec.ofChange fnFullSpec)

/-- ITS FALSE NEIGHBOUR: 'it returns false'. Refute it at one input. -/
def fnFullWrong : ChangeSpec := { name := "fnFull", fn := fun _ => fun
  | [d] => { results := [.lit (.bool false)], args := [d] }
  | _ => none }
def FnFullWrongFalsely : Prop := fnFullRow.holds Try.pinned (OpenSpec.ofChange fnFullWrong)

/-- 'laws.FnPut': WHATEVER THE INPUT: true; the input reads as it did. -/
def fnPutSpec : ChangeSpec := { name := "fnPut", fn := fun _ => fun
  | [d] => { results := [.lit (.bool true)], args := [d] }
  | _ => none }
def fnPutRow : OpenClaim := { program := "ytkdegkpjcjobaaa", sum := "570028dcfca193860595946050f855dcf3eca2ed887471e6d599e0a4f0238c04", func := "loop.example/mirrorgrids/laws.FnPut", spec := "fnPut", inPlace := ["internal/bytealg.IndexByteString", "internal/bytealg.IndexString"], named := ["internal/bytealg.MaxLen"], apart := false }
def FnPutSaid : Prop := fnPutRow.holds Try.pinned (OpenSpec.ofChange fnPutSpec)

/-- ITS FALSE NEIGHBOUR: 'it returns false'. Refute it at one input. -/
def fnPutWrong : ChangeSpec := { name := "fnPut", fn := fun _ => fun
  | [d] => { results := [.lit (.bool false)], args := [d] }
  | _ => none }
def FnPutWrongFalsely : Prop := fnPutRow.holds Try.pinned (OpenSpec.ofChange fnPutWrong)

/-- 'laws.FnOf': WHATEVER THE INPUT: true; the input reads as it did. -/
def fnOfSpec : ChangeSpec := { name := "fnOf", fn := fun _ => fun
  | [d] => { results := [.lit (.bool true)], args := [d] }
  | _ => none }
def fnOfRow : OpenClaim := { program := "ytkdegkpjcjobaaa", sum := "570028dcfca193860595946050f855dcf3eca2ed887471e6d599e0a4f0238c04", func := "loop.example/mirrorgrids/laws.FnOf", spec := "fnOf", inPlace := ["internal/bytealg.IndexByteString", "internal/bytealg.IndexString"], unfollowed := true, recurses := true, named := ["internal/bytealg.MaxLen"], apart := false }
def FnOfSaid : Prop := fnOfRow.holds Try.pinned (OpenSpec.ofChange fnOfSpec)

/-- ITS FALSE NEIGHBOUR: 'it returns false'. Refute it at one input. -/
def fnOfWrong : ChangeSpec := { name := "fnOf", fn := fun _ => fun
  | [d] => { results := [.lit (.bool false)], args := [d] }
  | _ => none }
def FnOfWrongFalsely : Prop := fnOfRow.holds Try.pinned (OpenSpec.ofChange fnOfWrong)

/-- 'laws.FnNumber': WHATEVER THE INPUT: true; the input reads as it did. -/
def fnNumberSpec : ChangeSpec := { name := "fnNumber", fn := fun _ => fun
  | [d] => { results := [.lit (.bool true)], args := [d] }
  | _ => none }
def fnNumberRow : OpenClaim := { program := "ytkdegkpjcjobaaa", sum := "570028dcfca193860595946050f855dcf3eca2ed887471e6d599e0a4f0238c04", func := "loop.example/mirrorgrids/laws.FnNumber", spec := "fnNumber", inPlace := ["internal/bytealg.IndexByteString", "internal/bytealg.IndexString"], unfollowed := true, recurses := true, named := ["internal/bytealg.MaxLen"], apart := false }
def FnNumberSaid : Prop := fnNumberRow.holds Try.pinned (OpenSpec.ofChange fnNumberSpec)

/-- ITS FALSE NEIGHBOUR: 'it returns false'. Refute it at one input. -/
def fnNumberWrong : ChangeSpec := { name := "fnNumber", fn := fun _ => fun
  | [d] => { results := [.lit (.bool false)], args := [d] }
  | _ => none }
def FnNumberWrongFalsely : Prop := fnNumberRow.holds Try.pinned (OpenSpec.ofChange fnNumberWrong)

/- THE SECOND FORM. 'bulk': how many values and letters a reading holds, each counted each time it is reached (what is shared counts as often as it is met; a slice's spare places count too). A statement '..UptoSaid' is the law's where the arguments, and the package variables that the reading takes, are together of bulk at most 1048576: NARROWER than '..Said'. Prove '..Said' where nothing that the law and all that it calls make is longer than what came in: it says more and counts as full. Else prove '..UptoSaid'. A law counts once. -/
mutual
def uptoBulk {H : Type} : DataW H → Nat
  | .lit (.string bytes) => bytes.length + 1
  | .lit _ => 1
  | .nil => 1
  | .ptr d => uptoBulk d + 1
  | .slice elems spare => uptoBulkAll elems + uptoBulkAll spare + 1
  | .agg parts => uptoBulkAll parts + 1
  | .iface _ d => uptoBulk d + 1
  | .map entries => uptoBulkEntries entries + 1
  | .held _ => 1
def uptoBulkAll {H : Type} : List (DataW H) → Nat
  | [] => 0
  | d :: r => uptoBulk d + uptoBulkAll r
def uptoBulkEntries {H : Type} : List (Lit × DataW H) → Nat
  | [] => 0
  | x :: r => uptoBulkEntry x + uptoBulkEntries r
def uptoBulkEntry {H : Type} : Lit × DataW H → Nat
  | (.string bytes, d) => bytes.length + uptoBulk d + 1
  | (_, d) => uptoBulk d + 1
 end
def uptoSmall : (H : Type) → List (DataW H) → Bool := fun _ ds => decide (uptoBulkAll ds ≤ 1048576)
def OpenSpec.upto (s : _root_.Go.ChangeSpec) : _root_.Go.OpenSpec := { _root_.Go.OpenSpec.ofChange s with cond := some uptoSmall }

/-- 'laws.FnExactGridIn', WHERE WHAT IT READS IS OF BULK AT MOST 1048576: true; the input reads as it did. -/
def fnExactGridInUptoRow : OpenClaim := { program := "ytkdegkpjcjobaaa", sum := "570028dcfca193860595946050f855dcf3eca2ed887471e6d599e0a4f0238c04", func := "loop.example/mirrorgrids/laws.FnExactGridIn", spec := "fnExactGridIn", inPlace := ["internal/bytealg.IndexByteString", "internal/bytealg.IndexString"], named := ["internal/bytealg.MaxLen"], apart := false, narrowed := true }
def FnExactGridInUptoSaid : Prop := fnExactGridInUptoRow.holds Try.pinned (OpenSpec.upto fnExactGridInSpec)

/-- 'laws.FnExactGridTurn', WHERE WHAT IT READS IS OF BULK AT MOST 1048576: true; the input reads as it did. -/
def fnExactGridTurnUptoRow : OpenClaim := { program := "ytkdegkpjcjobaaa", sum := "570028dcfca193860595946050f855dcf3eca2ed887471e6d599e0a4f0238c04", func := "loop.example/mirrorgrids/laws.FnExactGridTurn", spec := "fnExactGridTurn", inPlace := ["internal/bytealg.IndexByteString", "internal/bytealg.IndexString"], unfollowed := true, recurses := true, named := ["internal/bytealg.MaxLen"], apart := false, narrowed := true }
def FnExactGridTurnUptoSaid : Prop := fnExactGridTurnUptoRow.holds Try.pinned (OpenSpec.upto fnExactGridTurnSpec)

/-- 'laws.FnExactGridFlip', WHERE WHAT IT READS IS OF BULK AT MOST 1048576: true; the input reads as it did. -/
def fnExactGridFlipUptoRow : OpenClaim := { program := "ytkdegkpjcjobaaa", sum := "570028dcfca193860595946050f855dcf3eca2ed887471e6d599e0a4f0238c04", func := "loop.example/mirrorgrids/laws.FnExactGridFlip", spec := "fnExactGridFlip", inPlace := ["internal/bytealg.IndexByteString", "internal/bytealg.IndexString"], unfollowed := true, recurses := true, named := ["internal/bytealg.MaxLen"], apart := false, narrowed := true }
def FnExactGridFlipUptoSaid : Prop := fnExactGridFlipUptoRow.holds Try.pinned (OpenSpec.upto fnExactGridFlipSpec)

/-- 'laws.FnExactGridOther', WHERE WHAT IT READS IS OF BULK AT MOST 1048576: true; the input reads as it did. -/
def fnExactGridOtherUptoRow : OpenClaim := { program := "ytkdegkpjcjobaaa", sum := "570028dcfca193860595946050f855dcf3eca2ed887471e6d599e0a4f0238c04", func := "loop.example/mirrorgrids/laws.FnExactGridOther", spec := "fnExactGridOther", inPlace := ["internal/bytealg.IndexByteString", "internal/bytealg.IndexString"], unfollowed := true, recurses := true, named := ["internal/bytealg.MaxLen"], apart := false, narrowed := true }
def FnExactGridOtherUptoSaid : Prop := fnExactGridOtherUptoRow.holds Try.pinned (OpenSpec.upto fnExactGridOtherSpec)

/-- 'laws.FnExactGridBeside', WHERE WHAT IT READS IS OF BULK AT MOST 1048576: true; the input reads as it did. -/
def fnExactGridBesideUptoRow : OpenClaim := { program := "ytkdegkpjcjobaaa", sum := "570028dcfca193860595946050f855dcf3eca2ed887471e6d599e0a4f0238c04", func := "loop.example/mirrorgrids/laws.FnExactGridBeside", spec := "fnExactGridBeside", inPlace := ["internal/bytealg.IndexByteString", "internal/bytealg.IndexString"], unfollowed := true, recurses := true, named := ["internal/bytealg.MaxLen"], apart := false, narrowed := true }
def FnExactGridBesideUptoSaid : Prop := fnExactGridBesideUptoRow.holds Try.pinned (OpenSpec.upto fnExactGridBesideSpec)

/-- 'laws.FnExactGridUnder', WHERE WHAT IT READS IS OF BULK AT MOST 1048576: true; the input reads as it did. -/
def fnExactGridUnderUptoRow : OpenClaim := { program := "ytkdegkpjcjobaaa", sum := "570028dcfca193860595946050f855dcf3eca2ed887471e6d599e0a4f0238c04", func := "loop.example/mirrorgrids/laws.FnExactGridUnder", spec := "fnExactGridUnder", inPlace := ["internal/bytealg.IndexByteString", "internal/bytealg.IndexString"], unfollowed := true, recurses := true, named := ["internal/bytealg.MaxLen"], apart := false, narrowed := true }
def FnExactGridUnderUptoSaid : Prop := fnExactGridUnderUptoRow.holds Try.pinned (OpenSpec.upto fnExactGridUnderSpec)

/-- 'laws.FnExactGridPart', WHERE WHAT IT READS IS OF BULK AT MOST 1048576: true; the input reads as it did. -/
def fnExactGridPartUptoRow : OpenClaim := { program := "ytkdegkpjcjobaaa", sum := "570028dcfca193860595946050f855dcf3eca2ed887471e6d599e0a4f0238c04", func := "loop.example/mirrorgrids/laws.FnExactGridPart", spec := "fnExactGridPart", inPlace := ["internal/bytealg.IndexByteString", "internal/bytealg.IndexString"], unfollowed := true, recurses := true, named := ["internal/bytealg.MaxLen"], apart := false, narrowed := true }
def FnExactGridPartUptoSaid : Prop := fnExactGridPartUptoRow.holds Try.pinned (OpenSpec.upto fnExactGridPartSpec)

/-- 'laws.FnExactGridCount', WHERE WHAT IT READS IS OF BULK AT MOST 1048576: true; the input reads as it did. -/
def fnExactGridCountUptoRow : OpenClaim := { program := "ytkdegkpjcjobaaa", sum := "570028dcfca193860595946050f855dcf3eca2ed887471e6d599e0a4f0238c04", func := "loop.example/mirrorgrids/laws.FnExactGridCount", spec := "fnExactGridCount", inPlace := ["internal/bytealg.IndexByteString", "internal/bytealg.IndexString"], unfollowed := true, recurses := true, named := ["internal/bytealg.MaxLen"], apart := false, narrowed := true }
def FnExactGridCountUptoSaid : Prop := fnExactGridCountUptoRow.holds Try.pinned (OpenSpec.upto fnExactGridCountSpec)

/-- 'laws.FnExactGridFull', WHERE WHAT IT READS IS OF BULK AT MOST 1048576: true; the input reads as it did. -/
def fnExactGridFullUptoRow : OpenClaim := { program := "ytkdegkpjcjobaaa", sum := "570028dcfca193860595946050f855dcf3eca2ed887471e6d599e0a4f0238c04", func := "loop.example/mirrorgrids/laws.FnExactGridFull", spec := "fnExactGridFull", inPlace := ["internal/bytealg.IndexByteString", "internal/bytealg.IndexString"], unfollowed := true, recurses := true, named := ["internal/bytealg.MaxLen"], apart := false, narrowed := true }
def FnExactGridFullUptoSaid : Prop := fnExactGridFullUptoRow.holds Try.pinned (OpenSpec.upto fnExactGridFullSpec)

/-- 'laws.FnExactGridPut', WHERE WHAT IT READS IS OF BULK AT MOST 1048576: true; the input reads as it did. -/
def fnExactGridPutUptoRow : OpenClaim := { program := "ytkdegkpjcjobaaa", sum := "570028dcfca193860595946050f855dcf3eca2ed887471e6d599e0a4f0238c04", func := "loop.example/mirrorgrids/laws.FnExactGridPut", spec := "fnExactGridPut", inPlace := ["internal/bytealg.IndexByteString", "internal/bytealg.IndexString"], named := ["internal/bytealg.MaxLen"], apart := false, narrowed := true }
def FnExactGridPutUptoSaid : Prop := fnExactGridPutUptoRow.holds Try.pinned (OpenSpec.upto fnExactGridPutSpec)

/-- 'laws.FnExactGridOf', WHERE WHAT IT READS IS OF BULK AT MOST 1048576: true; the input reads as it did. -/
def fnExactGridOfUptoRow : OpenClaim := { program := "ytkdegkpjcjobaaa", sum := "570028dcfca193860595946050f855dcf3eca2ed887471e6d599e0a4f0238c04", func := "loop.example/mirrorgrids/laws.FnExactGridOf", spec := "fnExactGridOf", apart := false, narrowed := true }
def FnExactGridOfUptoSaid : Prop := fnExactGridOfUptoRow.holds Try.pinned (OpenSpec.upto fnExactGridOfSpec)

/-- 'laws.FnExactGridNumber', WHERE WHAT IT READS IS OF BULK AT MOST 1048576: true; the input reads as it did. -/
def fnExactGridNumberUptoRow : OpenClaim := { program := "ytkdegkpjcjobaaa", sum := "570028dcfca193860595946050f855dcf3eca2ed887471e6d599e0a4f0238c04", func := "loop.example/mirrorgrids/laws.FnExactGridNumber", spec := "fnExactGridNumber", inPlace := ["internal/bytealg.IndexByteString", "internal/bytealg.IndexString"], unfollowed := true, recurses := true, named := ["internal/bytealg.MaxLen"], apart := false, narrowed := true }
def FnExactGridNumberUptoSaid : Prop := fnExactGridNumberUptoRow.holds Try.pinned (OpenSpec.upto fnExactGridNumberSpec)

/-- 'laws.FnGrid', WHERE WHAT IT READS IS OF BULK AT MOST 1048576: true; the input reads as it did. -/
def fnGridUptoRow : OpenClaim := { program := "ytkdegkpjcjobaaa", sum := "570028dcfca193860595946050f855dcf3eca2ed887471e6d599e0a4f0238c04", func := "loop.example/mirrorgrids/laws.FnGrid", spec := "fnGrid", inPlace := ["internal/bytealg.IndexByteString", "internal/bytealg.IndexString"], unfollowed := true, recurses := true, named := ["internal/bytealg.MaxLen"], apart := false, narrowed := true }
def FnGridUptoSaid : Prop := fnGridUptoRow.holds Try.pinned (OpenSpec.upto fnGridSpec)

/-- 'laws.FnTurn', WHERE WHAT IT READS IS OF BULK AT MOST 1048576: true; the input reads as it did. -/
def fnTurnUptoRow : OpenClaim := { program := "ytkdegkpjcjobaaa", sum := "570028dcfca193860595946050f855dcf3eca2ed887471e6d599e0a4f0238c04", func := "loop.example/mirrorgrids/laws.FnTurn", spec := "fnTurn", inPlace := ["internal/bytealg.IndexByteString", "internal/bytealg.IndexString"], unfollowed := true, recurses := true, named := ["internal/bytealg.MaxLen"], apart := false, narrowed := true }
def FnTurnUptoSaid : Prop := fnTurnUptoRow.holds Try.pinned (OpenSpec.upto fnTurnSpec)

/-- 'laws.FnFlip', WHERE WHAT IT READS IS OF BULK AT MOST 1048576: true; the input reads as it did. -/
def fnFlipUptoRow : OpenClaim := { program := "ytkdegkpjcjobaaa", sum := "570028dcfca193860595946050f855dcf3eca2ed887471e6d599e0a4f0238c04", func := "loop.example/mirrorgrids/laws.FnFlip", spec := "fnFlip", inPlace := ["internal/bytealg.IndexByteString", "internal/bytealg.IndexString"], unfollowed := true, recurses := true, named := ["internal/bytealg.MaxLen"], apart := false, narrowed := true }
def FnFlipUptoSaid : Prop := fnFlipUptoRow.holds Try.pinned (OpenSpec.upto fnFlipSpec)

/-- 'laws.FnOther', WHERE WHAT IT READS IS OF BULK AT MOST 1048576: true; the input reads as it did. -/
def fnOtherUptoRow : OpenClaim := { program := "ytkdegkpjcjobaaa", sum := "570028dcfca193860595946050f855dcf3eca2ed887471e6d599e0a4f0238c04", func := "loop.example/mirrorgrids/laws.FnOther", spec := "fnOther", inPlace := ["internal/bytealg.IndexByteString", "internal/bytealg.IndexString"], unfollowed := true, recurses := true, named := ["internal/bytealg.MaxLen"], apart := false, narrowed := true }
def FnOtherUptoSaid : Prop := fnOtherUptoRow.holds Try.pinned (OpenSpec.upto fnOtherSpec)

/-- 'laws.FnBeside', WHERE WHAT IT READS IS OF BULK AT MOST 1048576: true; the input reads as it did. -/
def fnBesideUptoRow : OpenClaim := { program := "ytkdegkpjcjobaaa", sum := "570028dcfca193860595946050f855dcf3eca2ed887471e6d599e0a4f0238c04", func := "loop.example/mirrorgrids/laws.FnBeside", spec := "fnBeside", inPlace := ["internal/bytealg.IndexByteString", "internal/bytealg.IndexString"], unfollowed := true, recurses := true, named := ["internal/bytealg.MaxLen"], apart := false, narrowed := true }
def FnBesideUptoSaid : Prop := fnBesideUptoRow.holds Try.pinned (OpenSpec.upto fnBesideSpec)

/-- 'laws.FnUnder', WHERE WHAT IT READS IS OF BULK AT MOST 1048576: true; the input reads as it did. -/
def fnUnderUptoRow : OpenClaim := { program := "ytkdegkpjcjobaaa", sum := "570028dcfca193860595946050f855dcf3eca2ed887471e6d599e0a4f0238c04", func := "loop.example/mirrorgrids/laws.FnUnder", spec := "fnUnder", inPlace := ["internal/bytealg.IndexByteString", "internal/bytealg.IndexString"], unfollowed := true, recurses := true, named := ["internal/bytealg.MaxLen"], apart := false, narrowed := true }
def FnUnderUptoSaid : Prop := fnUnderUptoRow.holds Try.pinned (OpenSpec.upto fnUnderSpec)

/-- 'laws.FnPart', WHERE WHAT IT READS IS OF BULK AT MOST 1048576: true; the input reads as it did. -/
def fnPartUptoRow : OpenClaim := { program := "ytkdegkpjcjobaaa", sum := "570028dcfca193860595946050f855dcf3eca2ed887471e6d599e0a4f0238c04", func := "loop.example/mirrorgrids/laws.FnPart", spec := "fnPart", inPlace := ["internal/bytealg.IndexByteString", "internal/bytealg.IndexString"], unfollowed := true, recurses := true, named := ["internal/bytealg.MaxLen"], apart := false, narrowed := true }
def FnPartUptoSaid : Prop := fnPartUptoRow.holds Try.pinned (OpenSpec.upto fnPartSpec)

/-- 'laws.FnCount', WHERE WHAT IT READS IS OF BULK AT MOST 1048576: true; the input reads as it did. -/
def fnCountUptoRow : OpenClaim := { program := "ytkdegkpjcjobaaa", sum := "570028dcfca193860595946050f855dcf3eca2ed887471e6d599e0a4f0238c04", func := "loop.example/mirrorgrids/laws.FnCount", spec := "fnCount", inPlace := ["internal/bytealg.IndexByteString", "internal/bytealg.IndexString"], unfollowed := true, recurses := true, named := ["internal/bytealg.MaxLen"], apart := false, narrowed := true }
def FnCountUptoSaid : Prop := fnCountUptoRow.holds Try.pinned (OpenSpec.upto fnCountSpec)

/-- 'laws.FnFull', WHERE WHAT IT READS IS OF BULK AT MOST 1048576: true; the input reads as it did. -/
def fnFullUptoRow : OpenClaim := { program := "ytkdegkpjcjobaaa", sum := "570028dcfca193860595946050f855dcf3eca2ed887471e6d599e0a4f0238c04", func := "loop.example/mirrorgrids/laws.FnFull", spec := "fnFull", inPlace := ["internal/bytealg.IndexByteString", "internal/bytealg.IndexString"], unfollowed := true, recurses := true, named := ["internal/bytealg.MaxLen"], apart := false, narrowed := true }
def FnFullUptoSaid : Prop := fnFullUptoRow.holds Try.pinned (OpenSpec.upto fnFullSpec)

/-- 'laws.FnPut', WHERE WHAT IT READS IS OF BULK AT MOST 1048576: true; the input reads as it did. -/
def fnPutUptoRow : OpenClaim := { program := "ytkdegkpjcjobaaa", sum := "570028dcfca193860595946050f855dcf3eca2ed887471e6d599e0a4f0238c04", func := "loop.example/mirrorgrids/laws.FnPut", spec := "fnPut", inPlace := ["internal/bytealg.IndexByteString", "internal/bytealg.IndexString"], named := ["internal/bytealg.MaxLen"], apart := false, narrowed := true }
def FnPutUptoSaid : Prop := fnPutUptoRow.holds Try.pinned (OpenSpec.upto fnPutSpec)

/-- 'laws.FnOf', WHERE WHAT IT READS IS OF BULK AT MOST 1048576: true; the input reads as it did. -/
def fnOfUptoRow : OpenClaim := { program := "ytkdegkpjcjobaaa", sum := "570028dcfca193860595946050f855dcf3eca2ed887471e6d599e0a4f0238c04", func := "loop.example/mirrorgrids/laws.FnOf", spec := "fnOf", inPlace := ["internal/bytealg.IndexByteString", "internal/bytealg.IndexString"], unfollowed := true, recurses := true, named := ["internal/bytealg.MaxLen"], apart := false, narrowed := true }
def FnOfUptoSaid : Prop := fnOfUptoRow.holds Try.pinned (OpenSpec.upto fnOfSpec)

/-- 'laws.FnNumber', WHERE WHAT IT READS IS OF BULK AT MOST 1048576: true; the input reads as it did. -/
def fnNumberUptoRow : OpenClaim := { program := "ytkdegkpjcjobaaa", sum := "570028dcfca193860595946050f855dcf3eca2ed887471e6d599e0a4f0238c04", func := "loop.example/mirrorgrids/laws.FnNumber", spec := "fnNumber", inPlace := ["internal/bytealg.IndexByteString", "internal/bytealg.IndexString"], unfollowed := true, recurses := true, named := ["internal/bytealg.MaxLen"], apart := false, narrowed := true }
def FnNumberUptoSaid : Prop := fnNumberUptoRow.holds Try.pinned (OpenSpec.upto fnNumberSpec)

end Rows
end Go.Proofs.Ytkdegkpjcjobaaa
