/-
  No cell of these rows narrows 'for every input' (looked for: loops, veiled, ifaces, maps, wideKeys, modest, calm, conditions, laid).
  DERIVED. THE GIVEN ROWS OF THIS SEAT. 11 by the template 'for every input the law returns true; each argument reads behind the call as it read before'; 0 by the template 'total and deterministic' (their statements: YtminailbhgimkaaTotals.lean).
  GIVEN WITH THE SEED: the statements are not yours to turn. If you find one false, say at which input.
  Laid BY PROGRAM, IN A SANDBOX (cutbox-rows.mjs): the forced cells as the released guide's own fill.sh prints them over the translation 8bd3ee02c1d34a69… (all of the seat's roots in one cut). By AI agents, Wed Nov 11 2026. No macro, syntax, notation, axiom, sorry.
-/
import Derived.Test.YtminailbhgimkaaChecked
import GoSem.Claim
import GoSem.ClaimJoined
import GoSem.ClaimMapViews
import Derived.JoinedTies
import Derived.KernelRfl
namespace Go.Proofs.Ytminailbhgimkaa
/- THE CELL 'sum', in the pinned program and in every row, IS THE sha256 OF THE DUMP (.gsa) THAT YtminailbhgimkaaProg.lean LOADS. Nothing in Lean hashes anything: it is a label: what it is worth is what the hold of that sum in a sandbox is worth. -/
noncomputable def Try.pinned : Pinned := { name := "ytminailbhgimkaa", sum := "8bd3ee02c1d34a69175d4f4ee9aae6bbd390d222b0990c977d6dbbc48cb4b14b", checked := Try.checked }
namespace Rows
def none {H : Type} : Left H := { results := [], args := [] }

/-- 'laws.FnCountRounds': WHATEVER THE INPUT: true; the input reads as it did. -/
def fnCountRoundsSpec : ChangeSpec := { name := "fnCountRounds", fn := fun _ => fun
  | [d] => { results := [.lit (.bool true)], args := [d] }
  | _ => none }
def fnCountRoundsRow : OpenClaim := { program := "ytminailbhgimkaa", sum := "8bd3ee02c1d34a69175d4f4ee9aae6bbd390d222b0990c977d6dbbc48cb4b14b", func := "loop.example/mirrorgrids/laws.FnCountRounds", spec := "fnCountRounds", unfollowed := true, recurses := true, plainKeys := false, apart := false }
def FnCountRoundsSaid : Prop := fnCountRoundsRow.holds Try.pinned (OpenSpec.ofChange fnCountRoundsSpec)

/-- ITS FALSE NEIGHBOUR: 'it returns false'. Refute it at one input. -/
def fnCountRoundsWrong : ChangeSpec := { name := "fnCountRounds", fn := fun _ => fun
  | [d] => { results := [.lit (.bool false)], args := [d] }
  | _ => none }
def FnCountRoundsWrongFalsely : Prop := fnCountRoundsRow.holds Try.pinned (OpenSpec.ofChange fnCountRoundsWrong)

/-- 'laws.FnCountTotal': WHATEVER THE INPUT: true; the input reads as it did. -/
def fnCountTotalSpec : ChangeSpec := { name := "fnCountTotal", fn := fun _ => fun
  | [d] => { results := [.lit (.bool true)], args := [d] }
  | _ => none }
def fnCountTotalRow : OpenClaim := { program := "ytminailbhgimkaa", sum := "8bd3ee02c1d34a69175d4f4ee9aae6bbd390d222b0990c977d6dbbc48cb4b14b", func := "loop.example/mirrorgrids/laws.FnCountTotal", spec := "fnCountTotal", unfollowed := true, recurses := true, plainKeys := false, apart := false }
def FnCountTotalSaid : Prop := fnCountTotalRow.holds Try.pinned (OpenSpec.ofChange fnCountTotalSpec)

/-- ITS FALSE NEIGHBOUR: 'it returns false'. Refute it at one input. -/
def fnCountTotalWrong : ChangeSpec := { name := "fnCountTotal", fn := fun _ => fun
  | [d] => { results := [.lit (.bool false)], args := [d] }
  | _ => none }
def FnCountTotalWrongFalsely : Prop := fnCountTotalRow.holds Try.pinned (OpenSpec.ofChange fnCountTotalWrong)

/-- 'laws.FnCountPorts': WHATEVER THE INPUT: true; the input reads as it did. -/
def fnCountPortsSpec : ChangeSpec := { name := "fnCountPorts", fn := fun _ => fun
  | [d] => { results := [.lit (.bool true)], args := [d] }
  | _ => none }
def fnCountPortsRow : OpenClaim := { program := "ytminailbhgimkaa", sum := "8bd3ee02c1d34a69175d4f4ee9aae6bbd390d222b0990c977d6dbbc48cb4b14b", func := "loop.example/mirrorgrids/laws.FnCountPorts", spec := "fnCountPorts", unfollowed := true, recurses := true, plainKeys := false, apart := false }
def FnCountPortsSaid : Prop := fnCountPortsRow.holds Try.pinned (OpenSpec.ofChange fnCountPortsSpec)

/-- ITS FALSE NEIGHBOUR: 'it returns false'. Refute it at one input. -/
def fnCountPortsWrong : ChangeSpec := { name := "fnCountPorts", fn := fun _ => fun
  | [d] => { results := [.lit (.bool false)], args := [d] }
  | _ => none }
def FnCountPortsWrongFalsely : Prop := fnCountPortsRow.holds Try.pinned (OpenSpec.ofChange fnCountPortsWrong)

/-- 'laws.FnCountSame': WHATEVER THE INPUT: true; the input reads as it did. -/
def fnCountSameSpec : ChangeSpec := { name := "fnCountSame", fn := fun _ => fun
  | [d] => { results := [.lit (.bool true)], args := [d] }
  | _ => none }
def fnCountSameRow : OpenClaim := { program := "ytminailbhgimkaa", sum := "8bd3ee02c1d34a69175d4f4ee9aae6bbd390d222b0990c977d6dbbc48cb4b14b", func := "loop.example/mirrorgrids/laws.FnCountSame", spec := "fnCountSame", inPlace := ["internal/bytealg.IndexByteString", "internal/bytealg.IndexString"], unfollowed := true, recurses := true, named := ["internal/bytealg.MaxLen"], plainKeys := false, apart := false }
def FnCountSameSaid : Prop := fnCountSameRow.holds Try.pinned (OpenSpec.ofChange fnCountSameSpec)

/-- ITS FALSE NEIGHBOUR: 'it returns false'. Refute it at one input. -/
def fnCountSameWrong : ChangeSpec := { name := "fnCountSame", fn := fun _ => fun
  | [d] => { results := [.lit (.bool false)], args := [d] }
  | _ => none }
def FnCountSameWrongFalsely : Prop := fnCountSameRow.holds Try.pinned (OpenSpec.ofChange fnCountSameWrong)

/-- 'laws.FnExactCountRounds': WHATEVER THE INPUT: true; the input reads as it did. -/
def fnExactCountRoundsSpec : ChangeSpec := { name := "fnExactCountRounds", fn := fun _ => fun
  | [d1, d2] => { results := [.lit (.bool true)], args := [d1, d2] }
  | _ => none }
def fnExactCountRoundsRow : OpenClaim := { program := "ytminailbhgimkaa", sum := "8bd3ee02c1d34a69175d4f4ee9aae6bbd390d222b0990c977d6dbbc48cb4b14b", func := "loop.example/mirrorgrids/laws.FnExactCountRounds", spec := "fnExactCountRounds", unfollowed := true, recurses := true, plainKeys := false, apart := false }
def FnExactCountRoundsSaid : Prop := fnExactCountRoundsRow.holds Try.pinned (OpenSpec.ofChange fnExactCountRoundsSpec)

/-- ITS FALSE NEIGHBOUR: 'it returns false'. Refute it at one input. -/
def fnExactCountRoundsWrong : ChangeSpec := { name := "fnExactCountRounds", fn := fun _ => fun
  | [d1, d2] => { results := [.lit (.bool false)], args := [d1, d2] }
  | _ => none }
def FnExactCountRoundsWrongFalsely : Prop := fnExactCountRoundsRow.holds Try.pinned (OpenSpec.ofChange fnExactCountRoundsWrong)

/-- 'laws.FnExactCountJoined': WHATEVER THE INPUT: true; the input reads as it did. -/
def fnExactCountJoinedSpec : ChangeSpec := { name := "fnExactCountJoined", fn := fun _ => fun
  | [d1, d2] => { results := [.lit (.bool true)], args := [d1, d2] }
  | _ => none }
def fnExactCountJoinedRow : OpenClaim := { program := "ytminailbhgimkaa", sum := "8bd3ee02c1d34a69175d4f4ee9aae6bbd390d222b0990c977d6dbbc48cb4b14b", func := "loop.example/mirrorgrids/laws.FnExactCountJoined", spec := "fnExactCountJoined", inPlace := ["slices.overlaps[int]"], unfollowed := true, recurses := true, plainKeys := false, apart := false }
def FnExactCountJoinedSaid : Prop := fnExactCountJoinedRow.holds Try.pinned (OpenSpec.ofChange fnExactCountJoinedSpec)

/-- ITS FALSE NEIGHBOUR: 'it returns false'. Refute it at one input. -/
def fnExactCountJoinedWrong : ChangeSpec := { name := "fnExactCountJoined", fn := fun _ => fun
  | [d1, d2] => { results := [.lit (.bool false)], args := [d1, d2] }
  | _ => none }
def FnExactCountJoinedWrongFalsely : Prop := fnExactCountJoinedRow.holds Try.pinned (OpenSpec.ofChange fnExactCountJoinedWrong)

/-- 'laws.FnExactCountTotal': WHATEVER THE INPUT: true; the input reads as it did. -/
def fnExactCountTotalSpec : ChangeSpec := { name := "fnExactCountTotal", fn := fun _ => fun
  | [d1, d2] => { results := [.lit (.bool true)], args := [d1, d2] }
  | _ => none }
def fnExactCountTotalRow : OpenClaim := { program := "ytminailbhgimkaa", sum := "8bd3ee02c1d34a69175d4f4ee9aae6bbd390d222b0990c977d6dbbc48cb4b14b", func := "loop.example/mirrorgrids/laws.FnExactCountTotal", spec := "fnExactCountTotal", unfollowed := true, recurses := true, plainKeys := false, apart := false }
def FnExactCountTotalSaid : Prop := fnExactCountTotalRow.holds Try.pinned (OpenSpec.ofChange fnExactCountTotalSpec)

/-- ITS FALSE NEIGHBOUR: 'it returns false'. Refute it at one input. -/
def fnExactCountTotalWrong : ChangeSpec := { name := "fnExactCountTotal", fn := fun _ => fun
  | [d1, d2] => { results := [.lit (.bool false)], args := [d1, d2] }
  | _ => none }
def FnExactCountTotalWrongFalsely : Prop := fnExactCountTotalRow.holds Try.pinned (OpenSpec.ofChange fnExactCountTotalWrong)

/-- 'laws.FnExactCountPorts': WHATEVER THE INPUT: true; the input reads as it did. -/
def fnExactCountPortsSpec : ChangeSpec := { name := "fnExactCountPorts", fn := fun _ => fun
  | [d1, d2] => { results := [.lit (.bool true)], args := [d1, d2] }
  | _ => none }
def fnExactCountPortsRow : OpenClaim := { program := "ytminailbhgimkaa", sum := "8bd3ee02c1d34a69175d4f4ee9aae6bbd390d222b0990c977d6dbbc48cb4b14b", func := "loop.example/mirrorgrids/laws.FnExactCountPorts", spec := "fnExactCountPorts", unfollowed := true, recurses := true, plainKeys := false, apart := false }
def FnExactCountPortsSaid : Prop := fnExactCountPortsRow.holds Try.pinned (OpenSpec.ofChange fnExactCountPortsSpec)

/-- ITS FALSE NEIGHBOUR: 'it returns false'. Refute it at one input. -/
def fnExactCountPortsWrong : ChangeSpec := { name := "fnExactCountPorts", fn := fun _ => fun
  | [d1, d2] => { results := [.lit (.bool false)], args := [d1, d2] }
  | _ => none }
def FnExactCountPortsWrongFalsely : Prop := fnExactCountPortsRow.holds Try.pinned (OpenSpec.ofChange fnExactCountPortsWrong)

/-- 'laws.FnExactAskOf': WHATEVER THE INPUT: true; the input reads as it did. -/
def fnExactAskOfSpec : ChangeSpec := { name := "fnExactAskOf", fn := fun _ => fun
  | [d1, d2] => { results := [.lit (.bool true)], args := [d1, d2] }
  | _ => none }
def fnExactAskOfRow : OpenClaim := { program := "ytminailbhgimkaa", sum := "8bd3ee02c1d34a69175d4f4ee9aae6bbd390d222b0990c977d6dbbc48cb4b14b", func := "loop.example/mirrorgrids/laws.FnExactAskOf", spec := "fnExactAskOf", inPlace := ["internal/bytealg.IndexByteString", "internal/bytealg.IndexString"], unfollowed := true, recurses := true, named := ["internal/bytealg.MaxLen"], plainKeys := false, apart := false }
def FnExactAskOfSaid : Prop := fnExactAskOfRow.holds Try.pinned (OpenSpec.ofChange fnExactAskOfSpec)

/-- ITS FALSE NEIGHBOUR: 'it returns false'. Refute it at one input. -/
def fnExactAskOfWrong : ChangeSpec := { name := "fnExactAskOf", fn := fun _ => fun
  | [d1, d2] => { results := [.lit (.bool false)], args := [d1, d2] }
  | _ => none }
def FnExactAskOfWrongFalsely : Prop := fnExactAskOfRow.holds Try.pinned (OpenSpec.ofChange fnExactAskOfWrong)

/-- 'laws.FnExactAimGo': WHATEVER THE INPUT: true; the input reads as it did. -/
def fnExactAimGoSpec : ChangeSpec := { name := "fnExactAimGo", fn := fun _ => fun
  | [d1, d2, d3] => { results := [.lit (.bool true)], args := [d1, d2, d3] }
  | _ => none }
def fnExactAimGoRow : OpenClaim := { program := "ytminailbhgimkaa", sum := "8bd3ee02c1d34a69175d4f4ee9aae6bbd390d222b0990c977d6dbbc48cb4b14b", func := "loop.example/mirrorgrids/laws.FnExactAimGo", spec := "fnExactAimGo", inPlace := ["internal/bytealg.IndexByteString", "internal/bytealg.IndexString"], unfollowed := true, recurses := true, named := ["internal/bytealg.MaxLen"], plainKeys := false, apart := false }
def FnExactAimGoSaid : Prop := fnExactAimGoRow.holds Try.pinned (OpenSpec.ofChange fnExactAimGoSpec)

/-- ITS FALSE NEIGHBOUR: 'it returns false'. Refute it at one input. -/
def fnExactAimGoWrong : ChangeSpec := { name := "fnExactAimGo", fn := fun _ => fun
  | [d1, d2, d3] => { results := [.lit (.bool false)], args := [d1, d2, d3] }
  | _ => none }
def FnExactAimGoWrongFalsely : Prop := fnExactAimGoRow.holds Try.pinned (OpenSpec.ofChange fnExactAimGoWrong)

/-- 'laws.FnExactAimEmpty': WHATEVER THE INPUT: true; the input reads as it did. -/
def fnExactAimEmptySpec : ChangeSpec := { name := "fnExactAimEmpty", fn := fun _ => fun
  | [d1, d2, d3, d4] => { results := [.lit (.bool true)], args := [d1, d2, d3, d4] }
  | _ => none }
def fnExactAimEmptyRow : OpenClaim := { program := "ytminailbhgimkaa", sum := "8bd3ee02c1d34a69175d4f4ee9aae6bbd390d222b0990c977d6dbbc48cb4b14b", func := "loop.example/mirrorgrids/laws.FnExactAimEmpty", spec := "fnExactAimEmpty", unfollowed := true, recurses := true, plainKeys := false, apart := false }
def FnExactAimEmptySaid : Prop := fnExactAimEmptyRow.holds Try.pinned (OpenSpec.ofChange fnExactAimEmptySpec)

/-- ITS FALSE NEIGHBOUR: 'it returns false'. Refute it at one input. -/
def fnExactAimEmptyWrong : ChangeSpec := { name := "fnExactAimEmpty", fn := fun _ => fun
  | [d1, d2, d3, d4] => { results := [.lit (.bool false)], args := [d1, d2, d3, d4] }
  | _ => none }
def FnExactAimEmptyWrongFalsely : Prop := fnExactAimEmptyRow.holds Try.pinned (OpenSpec.ofChange fnExactAimEmptyWrong)

/- THE SECOND FORM. 'bulk': how many values and letters a reading holds, each counted each time it is reached (what is shared counts as often as it is met; a slice's spare places count too). A statement '..UptoSaid' is the law's where the arguments, and the package variables that the reading takes, are together of bulk at most 1048576: NARROWER than '..Said'. Prove '..Said' where nothing that the law and all that it calls make is longer than what came in: it says more and counts as full. Else prove '..UptoSaid'. A law counts once. -/
mutual
def uptoBulk {H : Type} : DataW H → Nat
  | .lit (.string bytes) => bytes.length + 1
  | .lit _ => 1
  | .nil => 1
  | .ptr d => uptoBulk d + 1
  | .slice elems spare => uptoBulkAll elems + uptoBulkAll spare + 1
  | .agg parts => uptoBulkAll parts + 1
  | .iface _ d => uptoBulk d + 1
  | .map entries => uptoBulkEntries entries + 1
  | .held _ => 1
def uptoBulkAll {H : Type} : List (DataW H) → Nat
  | [] => 0
  | d :: r => uptoBulk d + uptoBulkAll r
def uptoBulkEntries {H : Type} : List (Lit × DataW H) → Nat
  | [] => 0
  | x :: r => uptoBulkEntry x + uptoBulkEntries r
def uptoBulkEntry {H : Type} : Lit × DataW H → Nat
  | (.string bytes, d) => bytes.length + uptoBulk d + 1
  | (_, d) => uptoBulk d + 1
 end
def uptoSmall : (H : Type) → List (DataW H) → Bool := fun _ ds => decide (uptoBulkAll ds ≤ 1048576)
def OpenSpec.upto (s : _root_.Go.ChangeSpec) : _root_.Go.OpenSpec := { _root_.Go.OpenSpec.ofChange s with cond := some uptoSmall }

/-- 'laws.FnCountRounds', WHERE WHAT IT READS IS OF BULK AT MOST 1048576: true; the input reads as it did. -/
def fnCountRoundsUptoRow : OpenClaim := { program := "ytminailbhgimkaa", sum := "8bd3ee02c1d34a69175d4f4ee9aae6bbd390d222b0990c977d6dbbc48cb4b14b", func := "loop.example/mirrorgrids/laws.FnCountRounds", spec := "fnCountRounds", unfollowed := true, recurses := true, plainKeys := false, apart := false, narrowed := true }
def FnCountRoundsUptoSaid : Prop := fnCountRoundsUptoRow.holds Try.pinned (OpenSpec.upto fnCountRoundsSpec)

/-- 'laws.FnCountTotal', WHERE WHAT IT READS IS OF BULK AT MOST 1048576: true; the input reads as it did. -/
def fnCountTotalUptoRow : OpenClaim := { program := "ytminailbhgimkaa", sum := "8bd3ee02c1d34a69175d4f4ee9aae6bbd390d222b0990c977d6dbbc48cb4b14b", func := "loop.example/mirrorgrids/laws.FnCountTotal", spec := "fnCountTotal", unfollowed := true, recurses := true, plainKeys := false, apart := false, narrowed := true }
def FnCountTotalUptoSaid : Prop := fnCountTotalUptoRow.holds Try.pinned (OpenSpec.upto fnCountTotalSpec)

/-- 'laws.FnCountPorts', WHERE WHAT IT READS IS OF BULK AT MOST 1048576: true; the input reads as it did. -/
def fnCountPortsUptoRow : OpenClaim := { program := "ytminailbhgimkaa", sum := "8bd3ee02c1d34a69175d4f4ee9aae6bbd390d222b0990c977d6dbbc48cb4b14b", func := "loop.example/mirrorgrids/laws.FnCountPorts", spec := "fnCountPorts", unfollowed := true, recurses := true, plainKeys := false, apart := false, narrowed := true }
def FnCountPortsUptoSaid : Prop := fnCountPortsUptoRow.holds Try.pinned (OpenSpec.upto fnCountPortsSpec)

/-- 'laws.FnCountSame', WHERE WHAT IT READS IS OF BULK AT MOST 1048576: true; the input reads as it did. -/
def fnCountSameUptoRow : OpenClaim := { program := "ytminailbhgimkaa", sum := "8bd3ee02c1d34a69175d4f4ee9aae6bbd390d222b0990c977d6dbbc48cb4b14b", func := "loop.example/mirrorgrids/laws.FnCountSame", spec := "fnCountSame", inPlace := ["internal/bytealg.IndexByteString", "internal/bytealg.IndexString"], unfollowed := true, recurses := true, named := ["internal/bytealg.MaxLen"], plainKeys := false, apart := false, narrowed := true }
def FnCountSameUptoSaid : Prop := fnCountSameUptoRow.holds Try.pinned (OpenSpec.upto fnCountSameSpec)

/-- 'laws.FnExactCountRounds', WHERE WHAT IT READS IS OF BULK AT MOST 1048576: true; the input reads as it did. -/
def fnExactCountRoundsUptoRow : OpenClaim := { program := "ytminailbhgimkaa", sum := "8bd3ee02c1d34a69175d4f4ee9aae6bbd390d222b0990c977d6dbbc48cb4b14b", func := "loop.example/mirrorgrids/laws.FnExactCountRounds", spec := "fnExactCountRounds", unfollowed := true, recurses := true, plainKeys := false, apart := false, narrowed := true }
def FnExactCountRoundsUptoSaid : Prop := fnExactCountRoundsUptoRow.holds Try.pinned (OpenSpec.upto fnExactCountRoundsSpec)

/-- 'laws.FnExactCountJoined', WHERE WHAT IT READS IS OF BULK AT MOST 1048576: true; the input reads as it did. -/
def fnExactCountJoinedUptoRow : OpenClaim := { program := "ytminailbhgimkaa", sum := "8bd3ee02c1d34a69175d4f4ee9aae6bbd390d222b0990c977d6dbbc48cb4b14b", func := "loop.example/mirrorgrids/laws.FnExactCountJoined", spec := "fnExactCountJoined", inPlace := ["slices.overlaps[int]"], unfollowed := true, recurses := true, plainKeys := false, apart := false, narrowed := true }
def FnExactCountJoinedUptoSaid : Prop := fnExactCountJoinedUptoRow.holds Try.pinned (OpenSpec.upto fnExactCountJoinedSpec)

/-- 'laws.FnExactCountTotal', WHERE WHAT IT READS IS OF BULK AT MOST 1048576: true; the input reads as it did. -/
def fnExactCountTotalUptoRow : OpenClaim := { program := "ytminailbhgimkaa", sum := "8bd3ee02c1d34a69175d4f4ee9aae6bbd390d222b0990c977d6dbbc48cb4b14b", func := "loop.example/mirrorgrids/laws.FnExactCountTotal", spec := "fnExactCountTotal", unfollowed := true, recurses := true, plainKeys := false, apart := false, narrowed := true }
def FnExactCountTotalUptoSaid : Prop := fnExactCountTotalUptoRow.holds Try.pinned (OpenSpec.upto fnExactCountTotalSpec)

/-- 'laws.FnExactCountPorts', WHERE WHAT IT READS IS OF BULK AT MOST 1048576: true; the input reads as it did. -/
def fnExactCountPortsUptoRow : OpenClaim := { program := "ytminailbhgimkaa", sum := "8bd3ee02c1d34a69175d4f4ee9aae6bbd390d222b0990c977d6dbbc48cb4b14b", func := "loop.example/mirrorgrids/laws.FnExactCountPorts", spec := "fnExactCountPorts", unfollowed := true, recurses := true, plainKeys := false, apart := false, narrowed := true }
def FnExactCountPortsUptoSaid : Prop := fnExactCountPortsUptoRow.holds Try.pinned (OpenSpec.upto fnExactCountPortsSpec)

/-- 'laws.FnExactAskOf', WHERE WHAT IT READS IS OF BULK AT MOST 1048576: true; the input reads as it did. -/
def fnExactAskOfUptoRow : OpenClaim := { program := "ytminailbhgimkaa", sum := "8bd3ee02c1d34a69175d4f4ee9aae6bbd390d222b0990c977d6dbbc48cb4b14b", func := "loop.example/mirrorgrids/laws.FnExactAskOf", spec := "fnExactAskOf", inPlace := ["internal/bytealg.IndexByteString", "internal/bytealg.IndexString"], unfollowed := true, recurses := true, named := ["internal/bytealg.MaxLen"], plainKeys := false, apart := false, narrowed := true }
def FnExactAskOfUptoSaid : Prop := fnExactAskOfUptoRow.holds Try.pinned (OpenSpec.upto fnExactAskOfSpec)

/-- 'laws.FnExactAimGo', WHERE WHAT IT READS IS OF BULK AT MOST 1048576: true; the input reads as it did. -/
def fnExactAimGoUptoRow : OpenClaim := { program := "ytminailbhgimkaa", sum := "8bd3ee02c1d34a69175d4f4ee9aae6bbd390d222b0990c977d6dbbc48cb4b14b", func := "loop.example/mirrorgrids/laws.FnExactAimGo", spec := "fnExactAimGo", inPlace := ["internal/bytealg.IndexByteString", "internal/bytealg.IndexString"], unfollowed := true, recurses := true, named := ["internal/bytealg.MaxLen"], plainKeys := false, apart := false, narrowed := true }
def FnExactAimGoUptoSaid : Prop := fnExactAimGoUptoRow.holds Try.pinned (OpenSpec.upto fnExactAimGoSpec)

/-- 'laws.FnExactAimEmpty', WHERE WHAT IT READS IS OF BULK AT MOST 1048576: true; the input reads as it did. -/
def fnExactAimEmptyUptoRow : OpenClaim := { program := "ytminailbhgimkaa", sum := "8bd3ee02c1d34a69175d4f4ee9aae6bbd390d222b0990c977d6dbbc48cb4b14b", func := "loop.example/mirrorgrids/laws.FnExactAimEmpty", spec := "fnExactAimEmpty", unfollowed := true, recurses := true, plainKeys := false, apart := false, narrowed := true }
def FnExactAimEmptyUptoSaid : Prop := fnExactAimEmptyUptoRow.holds Try.pinned (OpenSpec.upto fnExactAimEmptySpec)

end Rows
end Go.Proofs.Ytminailbhgimkaa
