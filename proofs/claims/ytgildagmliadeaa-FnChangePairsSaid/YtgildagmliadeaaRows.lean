/-
  No cell of these rows narrows 'for every input' (looked for: loops, veiled, ifaces, maps, wideKeys, modest, calm, conditions, laid).
  DERIVED. THE GIVEN ROWS OF THIS SEAT. 12 by the template 'for every input the law returns true; each argument reads behind the call as it read before'; 0 by the template 'total and deterministic' (their statements: YtgildagmliadeaaTotals.lean).
  GIVEN WITH THE SEED: the statements are not yours to turn. If you find one false, say at which input.
  Laid BY PROGRAM, IN A SANDBOX (cutbox-rows.mjs): the forced cells as the released guide's own fill.sh prints them over the translation b8e5b49223cececa… (all of the seat's roots in one cut). By AI agents, Wed Nov 11 2026. No macro, syntax, notation, axiom, sorry.
-/
import Derived.Test.YtgildagmliadeaaChecked
import GoSem.Claim
import GoSem.ClaimJoined
import GoSem.ClaimMapViews
import Derived.JoinedTies
import Derived.KernelRfl
namespace Go.Proofs.Ytgildagmliadeaa
/- THE CELL 'sum', in the pinned program and in every row, IS THE sha256 OF THE DUMP (.gsa) THAT YtgildagmliadeaaProg.lean LOADS. Nothing in Lean hashes anything: it is a label: what it is worth is what the hold of that sum in a sandbox is worth. -/
noncomputable def Try.pinned : Pinned := { name := "ytgildagmliadeaa", sum := "b8e5b49223cececaa0953639b4a1bbaa3bdfb438ef1143c41175dd3af7a79634", checked := Try.checked }
namespace Rows
def none {H : Type} : Left H := { results := [], args := [] }

/-- 'laws.FnTurnPairs': WHATEVER THE INPUT: true; the input reads as it did. -/
def fnTurnPairsSpec : ChangeSpec := { name := "fnTurnPairs", fn := fun _ => fun
  | [d] => { results := [.lit (.bool true)], args := [d] }
  | _ => none }
def fnTurnPairsRow : OpenClaim := { program := "ytgildagmliadeaa", sum := "b8e5b49223cececaa0953639b4a1bbaa3bdfb438ef1143c41175dd3af7a79634", func := "loop.example/mirrorgrids/laws.FnTurnPairs", spec := "fnTurnPairs", inPlace := ["internal/bytealg.IndexByteString", "internal/bytealg.IndexString"], unfollowed := true, recurses := true, named := ["internal/bytealg.MaxLen"], plainKeys := false, apart := false }
def FnTurnPairsSaid : Prop := fnTurnPairsRow.holds Try.pinned (OpenSpec.ofChange fnTurnPairsSpec)

/-- ITS FALSE NEIGHBOUR: 'it returns false'. Refute it at one input. -/
def fnTurnPairsWrong : ChangeSpec := { name := "fnTurnPairs", fn := fun _ => fun
  | [d] => { results := [.lit (.bool false)], args := [d] }
  | _ => none }
def FnTurnPairsWrongFalsely : Prop := fnTurnPairsRow.holds Try.pinned (OpenSpec.ofChange fnTurnPairsWrong)

/-- 'laws.FnFlipPairs': WHATEVER THE INPUT: true; the input reads as it did. -/
def fnFlipPairsSpec : ChangeSpec := { name := "fnFlipPairs", fn := fun _ => fun
  | [d] => { results := [.lit (.bool true)], args := [d] }
  | _ => none }
def fnFlipPairsRow : OpenClaim := { program := "ytgildagmliadeaa", sum := "b8e5b49223cececaa0953639b4a1bbaa3bdfb438ef1143c41175dd3af7a79634", func := "loop.example/mirrorgrids/laws.FnFlipPairs", spec := "fnFlipPairs", inPlace := ["internal/bytealg.IndexByteString", "internal/bytealg.IndexString"], unfollowed := true, recurses := true, named := ["internal/bytealg.MaxLen"], plainKeys := false, apart := false }
def FnFlipPairsSaid : Prop := fnFlipPairsRow.holds Try.pinned (OpenSpec.ofChange fnFlipPairsSpec)

/-- ITS FALSE NEIGHBOUR: 'it returns false'. Refute it at one input. -/
def fnFlipPairsWrong : ChangeSpec := { name := "fnFlipPairs", fn := fun _ => fun
  | [d] => { results := [.lit (.bool false)], args := [d] }
  | _ => none }
def FnFlipPairsWrongFalsely : Prop := fnFlipPairsRow.holds Try.pinned (OpenSpec.ofChange fnFlipPairsWrong)

/-- 'laws.FnRoundTwice': WHATEVER THE INPUT: true; the input reads as it did. -/
def fnRoundTwiceSpec : ChangeSpec := { name := "fnRoundTwice", fn := fun _ => fun
  | [d] => { results := [.lit (.bool true)], args := [d] }
  | _ => none }
def fnRoundTwiceRow : OpenClaim := { program := "ytgildagmliadeaa", sum := "b8e5b49223cececaa0953639b4a1bbaa3bdfb438ef1143c41175dd3af7a79634", func := "loop.example/mirrorgrids/laws.FnRoundTwice", spec := "fnRoundTwice", inPlace := ["internal/bytealg.IndexByteString", "internal/bytealg.IndexString"], unfollowed := true, recurses := true, named := ["internal/bytealg.MaxLen"], plainKeys := false, apart := false }
def FnRoundTwiceSaid : Prop := fnRoundTwiceRow.holds Try.pinned (OpenSpec.ofChange fnRoundTwiceSpec)

/-- ITS FALSE NEIGHBOUR: 'it returns false'. Refute it at one input. -/
def fnRoundTwiceWrong : ChangeSpec := { name := "fnRoundTwice", fn := fun _ => fun
  | [d] => { results := [.lit (.bool false)], args := [d] }
  | _ => none }
def FnRoundTwiceWrongFalsely : Prop := fnRoundTwiceRow.holds Try.pinned (OpenSpec.ofChange fnRoundTwiceWrong)

/-- 'laws.FnSelf': WHATEVER THE INPUT: true; the input reads as it did. -/
def fnSelfSpec : ChangeSpec := { name := "fnSelf", fn := fun _ => fun
  | [d] => { results := [.lit (.bool true)], args := [d] }
  | _ => none }
def fnSelfRow : OpenClaim := { program := "ytgildagmliadeaa", sum := "b8e5b49223cececaa0953639b4a1bbaa3bdfb438ef1143c41175dd3af7a79634", func := "loop.example/mirrorgrids/laws.FnSelf", spec := "fnSelf", inPlace := ["internal/bytealg.IndexByteString", "internal/bytealg.IndexString"], unfollowed := true, recurses := true, named := ["internal/bytealg.MaxLen"], plainKeys := false, apart := false }
def FnSelfSaid : Prop := fnSelfRow.holds Try.pinned (OpenSpec.ofChange fnSelfSpec)

/-- ITS FALSE NEIGHBOUR: 'it returns false'. Refute it at one input. -/
def fnSelfWrong : ChangeSpec := { name := "fnSelf", fn := fun _ => fun
  | [d] => { results := [.lit (.bool false)], args := [d] }
  | _ => none }
def FnSelfWrongFalsely : Prop := fnSelfRow.holds Try.pinned (OpenSpec.ofChange fnSelfWrong)

/-- 'laws.FnChangePairs': WHATEVER THE INPUT: true; the input reads as it did. -/
def fnChangePairsSpec : ChangeSpec := { name := "fnChangePairs", fn := fun _ => fun
  | [d] => { results := [.lit (.bool true)], args := [d] }
  | _ => none }
def fnChangePairsRow : OpenClaim := { program := "ytgildagmliadeaa", sum := "b8e5b49223cececaa0953639b4a1bbaa3bdfb438ef1143c41175dd3af7a79634", func := "loop.example/mirrorgrids/laws.FnChangePairs", spec := "fnChangePairs", inPlace := ["internal/bytealg.IndexByteString", "internal/bytealg.IndexString"], unfollowed := true, recurses := true, named := ["internal/bytealg.MaxLen"], plainKeys := false, apart := false }
def FnChangePairsSaid : Prop := fnChangePairsRow.holds Try.pinned (OpenSpec.ofChange fnChangePairsSpec)

/-- ITS FALSE NEIGHBOUR: 'it returns false'. Refute it at one input. -/
def fnChangePairsWrong : ChangeSpec := { name := "fnChangePairs", fn := fun _ => fun
  | [d] => { results := [.lit (.bool false)], args := [d] }
  | _ => none }
def FnChangePairsWrongFalsely : Prop := fnChangePairsRow.holds Try.pinned (OpenSpec.ofChange fnChangePairsWrong)

/-- 'laws.FnRoundAt': WHATEVER THE INPUT: true; the input reads as it did. -/
def fnRoundAtSpec : ChangeSpec := { name := "fnRoundAt", fn := fun _ => fun
  | [d] => { results := [.lit (.bool true)], args := [d] }
  | _ => none }
def fnRoundAtRow : OpenClaim := { program := "ytgildagmliadeaa", sum := "b8e5b49223cececaa0953639b4a1bbaa3bdfb438ef1143c41175dd3af7a79634", func := "loop.example/mirrorgrids/laws.FnRoundAt", spec := "fnRoundAt", inPlace := ["internal/bytealg.IndexByteString", "internal/bytealg.IndexString"], unfollowed := true, recurses := true, named := ["internal/bytealg.MaxLen"], plainKeys := false, apart := false }
def FnRoundAtSaid : Prop := fnRoundAtRow.holds Try.pinned (OpenSpec.ofChange fnRoundAtSpec)

/-- ITS FALSE NEIGHBOUR: 'it returns false'. Refute it at one input. -/
def fnRoundAtWrong : ChangeSpec := { name := "fnRoundAt", fn := fun _ => fun
  | [d] => { results := [.lit (.bool false)], args := [d] }
  | _ => none }
def FnRoundAtWrongFalsely : Prop := fnRoundAtRow.holds Try.pinned (OpenSpec.ofChange fnRoundAtWrong)

/-- 'laws.FnRoundLeast': WHATEVER THE INPUT: true; the input reads as it did. -/
def fnRoundLeastSpec : ChangeSpec := { name := "fnRoundLeast", fn := fun _ => fun
  | [d] => { results := [.lit (.bool true)], args := [d] }
  | _ => none }
def fnRoundLeastRow : OpenClaim := { program := "ytgildagmliadeaa", sum := "b8e5b49223cececaa0953639b4a1bbaa3bdfb438ef1143c41175dd3af7a79634", func := "loop.example/mirrorgrids/laws.FnRoundLeast", spec := "fnRoundLeast", inPlace := ["internal/bytealg.IndexByteString", "internal/bytealg.IndexString"], unfollowed := true, recurses := true, named := ["internal/bytealg.MaxLen"], plainKeys := false, apart := false }
def FnRoundLeastSaid : Prop := fnRoundLeastRow.holds Try.pinned (OpenSpec.ofChange fnRoundLeastSpec)

/-- ITS FALSE NEIGHBOUR: 'it returns false'. Refute it at one input. -/
def fnRoundLeastWrong : ChangeSpec := { name := "fnRoundLeast", fn := fun _ => fun
  | [d] => { results := [.lit (.bool false)], args := [d] }
  | _ => none }
def FnRoundLeastWrongFalsely : Prop := fnRoundLeastRow.holds Try.pinned (OpenSpec.ofChange fnRoundLeastWrong)

/-- 'laws.FnLengths': WHATEVER THE INPUT: true; the input reads as it did. -/
def fnLengthsSpec : ChangeSpec := { name := "fnLengths", fn := fun _ => fun
  | [d] => { results := [.lit (.bool true)], args := [d] }
  | _ => none }
def fnLengthsRow : OpenClaim := { program := "ytgildagmliadeaa", sum := "b8e5b49223cececaa0953639b4a1bbaa3bdfb438ef1143c41175dd3af7a79634", func := "loop.example/mirrorgrids/laws.FnLengths", spec := "fnLengths", inPlace := ["internal/bytealg.IndexByteString", "internal/bytealg.IndexString"], unfollowed := true, recurses := true, named := ["internal/bytealg.MaxLen"], plainKeys := false, apart := false }
def FnLengthsSaid : Prop := fnLengthsRow.holds Try.pinned (OpenSpec.ofChange fnLengthsSpec)

/-- ITS FALSE NEIGHBOUR: 'it returns false'. Refute it at one input. -/
def fnLengthsWrong : ChangeSpec := { name := "fnLengths", fn := fun _ => fun
  | [d] => { results := [.lit (.bool false)], args := [d] }
  | _ => none }
def FnLengthsWrongFalsely : Prop := fnLengthsRow.holds Try.pinned (OpenSpec.ofChange fnLengthsWrong)

/-- 'laws.FnRoundFull': WHATEVER THE INPUT: true; the input reads as it did. -/
def fnRoundFullSpec : ChangeSpec := { name := "fnRoundFull", fn := fun _ => fun
  | [d] => { results := [.lit (.bool true)], args := [d] }
  | _ => none }
def fnRoundFullRow : OpenClaim := { program := "ytgildagmliadeaa", sum := "b8e5b49223cececaa0953639b4a1bbaa3bdfb438ef1143c41175dd3af7a79634", func := "loop.example/mirrorgrids/laws.FnRoundFull", spec := "fnRoundFull", inPlace := ["internal/bytealg.IndexByteString", "internal/bytealg.IndexString"], unfollowed := true, recurses := true, named := ["internal/bytealg.MaxLen"], plainKeys := false, apart := false }
def FnRoundFullSaid : Prop := fnRoundFullRow.holds Try.pinned (OpenSpec.ofChange fnRoundFullSpec)

/-- ITS FALSE NEIGHBOUR: 'it returns false'. Refute it at one input. -/
def fnRoundFullWrong : ChangeSpec := { name := "fnRoundFull", fn := fun _ => fun
  | [d] => { results := [.lit (.bool false)], args := [d] }
  | _ => none }
def FnRoundFullWrongFalsely : Prop := fnRoundFullRow.holds Try.pinned (OpenSpec.ofChange fnRoundFullWrong)

/-- 'laws.FnMost': WHATEVER THE INPUT: true; the input reads as it did. -/
def fnMostSpec : ChangeSpec := { name := "fnMost", fn := fun _ => fun
  | [d] => { results := [.lit (.bool true)], args := [d] }
  | _ => none }
def fnMostRow : OpenClaim := { program := "ytgildagmliadeaa", sum := "b8e5b49223cececaa0953639b4a1bbaa3bdfb438ef1143c41175dd3af7a79634", func := "loop.example/mirrorgrids/laws.FnMost", spec := "fnMost", inPlace := ["internal/bytealg.IndexByteString", "internal/bytealg.IndexString"], unfollowed := true, recurses := true, named := ["internal/bytealg.MaxLen"], plainKeys := false, apart := false }
def FnMostSaid : Prop := fnMostRow.holds Try.pinned (OpenSpec.ofChange fnMostSpec)

/-- ITS FALSE NEIGHBOUR: 'it returns false'. Refute it at one input. -/
def fnMostWrong : ChangeSpec := { name := "fnMost", fn := fun _ => fun
  | [d] => { results := [.lit (.bool false)], args := [d] }
  | _ => none }
def FnMostWrongFalsely : Prop := fnMostRow.holds Try.pinned (OpenSpec.ofChange fnMostWrong)

/-- 'laws.FnJoin': WHATEVER THE INPUT: true; the input reads as it did. -/
def fnJoinSpec : ChangeSpec := { name := "fnJoin", fn := fun _ => fun
  | [d] => { results := [.lit (.bool true)], args := [d] }
  | _ => none }
def fnJoinRow : OpenClaim := { program := "ytgildagmliadeaa", sum := "b8e5b49223cececaa0953639b4a1bbaa3bdfb438ef1143c41175dd3af7a79634", func := "loop.example/mirrorgrids/laws.FnJoin", spec := "fnJoin", inPlace := ["slices.overlaps[int]"], plainKeys := false, apart := false }
def FnJoinSaid : Prop := fnJoinRow.holds Try.pinned (OpenSpec.ofChange fnJoinSpec)

/-- ITS FALSE NEIGHBOUR: 'it returns false'. Refute it at one input. -/
def fnJoinWrong : ChangeSpec := { name := "fnJoin", fn := fun _ => fun
  | [d] => { results := [.lit (.bool false)], args := [d] }
  | _ => none }
def FnJoinWrongFalsely : Prop := fnJoinRow.holds Try.pinned (OpenSpec.ofChange fnJoinWrong)

/-- 'laws.FnJoinRounds': WHATEVER THE INPUT: true; the input reads as it did. -/
def fnJoinRoundsSpec : ChangeSpec := { name := "fnJoinRounds", fn := fun _ => fun
  | [d] => { results := [.lit (.bool true)], args := [d] }
  | _ => none }
def fnJoinRoundsRow : OpenClaim := { program := "ytgildagmliadeaa", sum := "b8e5b49223cececaa0953639b4a1bbaa3bdfb438ef1143c41175dd3af7a79634", func := "loop.example/mirrorgrids/laws.FnJoinRounds", spec := "fnJoinRounds", inPlace := ["slices.overlaps[int]"], plainKeys := false, apart := false }
def FnJoinRoundsSaid : Prop := fnJoinRoundsRow.holds Try.pinned (OpenSpec.ofChange fnJoinRoundsSpec)

/-- ITS FALSE NEIGHBOUR: 'it returns false'. Refute it at one input. -/
def fnJoinRoundsWrong : ChangeSpec := { name := "fnJoinRounds", fn := fun _ => fun
  | [d] => { results := [.lit (.bool false)], args := [d] }
  | _ => none }
def FnJoinRoundsWrongFalsely : Prop := fnJoinRoundsRow.holds Try.pinned (OpenSpec.ofChange fnJoinRoundsWrong)

/- THE SECOND FORM. 'bulk': how many values and letters a reading holds, each counted each time it is reached (what is shared counts as often as it is met; a slice's spare places count too). A statement '..UptoSaid' is the law's where the arguments, and the package variables that the reading takes, are together of bulk at most 1048576: NARROWER than '..Said'. Prove '..Said' where nothing that the law and all that it calls make is longer than what came in: it says more and counts as full. Else prove '..UptoSaid'. A law counts once. -/
mutual
def uptoBulk {H : Type} : DataW H → Nat
  | .lit (.string bytes) => bytes.length + 1
  | .lit _ => 1
  | .nil => 1
  | .ptr d => uptoBulk d + 1
  | .slice elems spare => uptoBulkAll elems + uptoBulkAll spare + 1
  | .agg parts => uptoBulkAll parts + 1
  | .iface _ d => uptoBulk d + 1
  | .map entries => uptoBulkEntries entries + 1
  | .held _ => 1
def uptoBulkAll {H : Type} : List (DataW H) → Nat
  | [] => 0
  | d :: r => uptoBulk d + uptoBulkAll r
def uptoBulkEntries {H : Type} : List (Lit × DataW H) → Nat
  | [] => 0
  | x :: r => uptoBulkEntry x + uptoBulkEntries r
def uptoBulkEntry {H : Type} : Lit × DataW H → Nat
  | (.string bytes, d) => bytes.length + uptoBulk d + 1
  | (_, d) => uptoBulk d + 1
 end
def uptoSmall : (H : Type) → List (DataW H) → Bool := fun _ ds => decide (uptoBulkAll ds ≤ 1048576)
def OpenSpec.upto (s : _root_.Go.ChangeSpec) : _root_.Go.OpenSpec := { _root_.Go.OpenSpec.ofChange s with cond := some uptoSmall }

/-- 'laws.FnTurnPairs', WHERE WHAT IT READS IS OF BULK AT MOST 1048576: true; the input reads as it did. -/
def fnTurnPairsUptoRow : OpenClaim := { program := "ytgildagmliadeaa", sum := "b8e5b49223cececaa0953639b4a1bbaa3bdfb438ef1143c41175dd3af7a79634", func := "loop.example/mirrorgrids/laws.FnTurnPairs", spec := "fnTurnPairs", inPlace := ["internal/bytealg.IndexByteString", "internal/bytealg.IndexString"], unfollowed := true, recurses := true, named := ["internal/bytealg.MaxLen"], plainKeys := false, apart := false, narrowed := true }
def FnTurnPairsUptoSaid : Prop := fnTurnPairsUptoRow.holds Try.pinned (OpenSpec.upto fnTurnPairsSpec)

/-- 'laws.FnFlipPairs', WHERE WHAT IT READS IS OF BULK AT MOST 1048576: true; the input reads as it did. -/
def fnFlipPairsUptoRow : OpenClaim := { program := "ytgildagmliadeaa", sum := "b8e5b49223cececaa0953639b4a1bbaa3bdfb438ef1143c41175dd3af7a79634", func := "loop.example/mirrorgrids/laws.FnFlipPairs", spec := "fnFlipPairs", inPlace := ["internal/bytealg.IndexByteString", "internal/bytealg.IndexString"], unfollowed := true, recurses := true, named := ["internal/bytealg.MaxLen"], plainKeys := false, apart := false, narrowed := true }
def FnFlipPairsUptoSaid : Prop := fnFlipPairsUptoRow.holds Try.pinned (OpenSpec.upto fnFlipPairsSpec)

/-- 'laws.FnRoundTwice', WHERE WHAT IT READS IS OF BULK AT MOST 1048576: true; the input reads as it did. -/
def fnRoundTwiceUptoRow : OpenClaim := { program := "ytgildagmliadeaa", sum := "b8e5b49223cececaa0953639b4a1bbaa3bdfb438ef1143c41175dd3af7a79634", func := "loop.example/mirrorgrids/laws.FnRoundTwice", spec := "fnRoundTwice", inPlace := ["internal/bytealg.IndexByteString", "internal/bytealg.IndexString"], unfollowed := true, recurses := true, named := ["internal/bytealg.MaxLen"], plainKeys := false, apart := false, narrowed := true }
def FnRoundTwiceUptoSaid : Prop := fnRoundTwiceUptoRow.holds Try.pinned (OpenSpec.upto fnRoundTwiceSpec)

/-- 'laws.FnSelf', WHERE WHAT IT READS IS OF BULK AT MOST 1048576: true; the input reads as it did. -/
def fnSelfUptoRow : OpenClaim := { program := "ytgildagmliadeaa", sum := "b8e5b49223cececaa0953639b4a1bbaa3bdfb438ef1143c41175dd3af7a79634", func := "loop.example/mirrorgrids/laws.FnSelf", spec := "fnSelf", inPlace := ["internal/bytealg.IndexByteString", "internal/bytealg.IndexString"], unfollowed := true, recurses := true, named := ["internal/bytealg.MaxLen"], plainKeys := false, apart := false, narrowed := true }
def FnSelfUptoSaid : Prop := fnSelfUptoRow.holds Try.pinned (OpenSpec.upto fnSelfSpec)

/-- 'laws.FnChangePairs', WHERE WHAT IT READS IS OF BULK AT MOST 1048576: true; the input reads as it did. -/
def fnChangePairsUptoRow : OpenClaim := { program := "ytgildagmliadeaa", sum := "b8e5b49223cececaa0953639b4a1bbaa3bdfb438ef1143c41175dd3af7a79634", func := "loop.example/mirrorgrids/laws.FnChangePairs", spec := "fnChangePairs", inPlace := ["internal/bytealg.IndexByteString", "internal/bytealg.IndexString"], unfollowed := true, recurses := true, named := ["internal/bytealg.MaxLen"], plainKeys := false, apart := false, narrowed := true }
def FnChangePairsUptoSaid : Prop := fnChangePairsUptoRow.holds Try.pinned (OpenSpec.upto fnChangePairsSpec)

/-- 'laws.FnRoundAt', WHERE WHAT IT READS IS OF BULK AT MOST 1048576: true; the input reads as it did. -/
def fnRoundAtUptoRow : OpenClaim := { program := "ytgildagmliadeaa", sum := "b8e5b49223cececaa0953639b4a1bbaa3bdfb438ef1143c41175dd3af7a79634", func := "loop.example/mirrorgrids/laws.FnRoundAt", spec := "fnRoundAt", inPlace := ["internal/bytealg.IndexByteString", "internal/bytealg.IndexString"], unfollowed := true, recurses := true, named := ["internal/bytealg.MaxLen"], plainKeys := false, apart := false, narrowed := true }
def FnRoundAtUptoSaid : Prop := fnRoundAtUptoRow.holds Try.pinned (OpenSpec.upto fnRoundAtSpec)

/-- 'laws.FnRoundLeast', WHERE WHAT IT READS IS OF BULK AT MOST 1048576: true; the input reads as it did. -/
def fnRoundLeastUptoRow : OpenClaim := { program := "ytgildagmliadeaa", sum := "b8e5b49223cececaa0953639b4a1bbaa3bdfb438ef1143c41175dd3af7a79634", func := "loop.example/mirrorgrids/laws.FnRoundLeast", spec := "fnRoundLeast", inPlace := ["internal/bytealg.IndexByteString", "internal/bytealg.IndexString"], unfollowed := true, recurses := true, named := ["internal/bytealg.MaxLen"], plainKeys := false, apart := false, narrowed := true }
def FnRoundLeastUptoSaid : Prop := fnRoundLeastUptoRow.holds Try.pinned (OpenSpec.upto fnRoundLeastSpec)

/-- 'laws.FnLengths', WHERE WHAT IT READS IS OF BULK AT MOST 1048576: true; the input reads as it did. -/
def fnLengthsUptoRow : OpenClaim := { program := "ytgildagmliadeaa", sum := "b8e5b49223cececaa0953639b4a1bbaa3bdfb438ef1143c41175dd3af7a79634", func := "loop.example/mirrorgrids/laws.FnLengths", spec := "fnLengths", inPlace := ["internal/bytealg.IndexByteString", "internal/bytealg.IndexString"], unfollowed := true, recurses := true, named := ["internal/bytealg.MaxLen"], plainKeys := false, apart := false, narrowed := true }
def FnLengthsUptoSaid : Prop := fnLengthsUptoRow.holds Try.pinned (OpenSpec.upto fnLengthsSpec)

/-- 'laws.FnRoundFull', WHERE WHAT IT READS IS OF BULK AT MOST 1048576: true; the input reads as it did. -/
def fnRoundFullUptoRow : OpenClaim := { program := "ytgildagmliadeaa", sum := "b8e5b49223cececaa0953639b4a1bbaa3bdfb438ef1143c41175dd3af7a79634", func := "loop.example/mirrorgrids/laws.FnRoundFull", spec := "fnRoundFull", inPlace := ["internal/bytealg.IndexByteString", "internal/bytealg.IndexString"], unfollowed := true, recurses := true, named := ["internal/bytealg.MaxLen"], plainKeys := false, apart := false, narrowed := true }
def FnRoundFullUptoSaid : Prop := fnRoundFullUptoRow.holds Try.pinned (OpenSpec.upto fnRoundFullSpec)

/-- 'laws.FnMost', WHERE WHAT IT READS IS OF BULK AT MOST 1048576: true; the input reads as it did. -/
def fnMostUptoRow : OpenClaim := { program := "ytgildagmliadeaa", sum := "b8e5b49223cececaa0953639b4a1bbaa3bdfb438ef1143c41175dd3af7a79634", func := "loop.example/mirrorgrids/laws.FnMost", spec := "fnMost", inPlace := ["internal/bytealg.IndexByteString", "internal/bytealg.IndexString"], unfollowed := true, recurses := true, named := ["internal/bytealg.MaxLen"], plainKeys := false, apart := false, narrowed := true }
def FnMostUptoSaid : Prop := fnMostUptoRow.holds Try.pinned (OpenSpec.upto fnMostSpec)

/-- 'laws.FnJoin', WHERE WHAT IT READS IS OF BULK AT MOST 1048576: true; the input reads as it did. -/
def fnJoinUptoRow : OpenClaim := { program := "ytgildagmliadeaa", sum := "b8e5b49223cececaa0953639b4a1bbaa3bdfb438ef1143c41175dd3af7a79634", func := "loop.example/mirrorgrids/laws.FnJoin", spec := "fnJoin", inPlace := ["slices.overlaps[int]"], plainKeys := false, apart := false, narrowed := true }
def FnJoinUptoSaid : Prop := fnJoinUptoRow.holds Try.pinned (OpenSpec.upto fnJoinSpec)

/-- 'laws.FnJoinRounds', WHERE WHAT IT READS IS OF BULK AT MOST 1048576: true; the input reads as it did. -/
def fnJoinRoundsUptoRow : OpenClaim := { program := "ytgildagmliadeaa", sum := "b8e5b49223cececaa0953639b4a1bbaa3bdfb438ef1143c41175dd3af7a79634", func := "loop.example/mirrorgrids/laws.FnJoinRounds", spec := "fnJoinRounds", inPlace := ["slices.overlaps[int]"], plainKeys := false, apart := false, narrowed := true }
def FnJoinRoundsUptoSaid : Prop := fnJoinRoundsUptoRow.holds Try.pinned (OpenSpec.upto fnJoinRoundsSpec)

end Rows
end Go.Proofs.Ytgildagmliadeaa
