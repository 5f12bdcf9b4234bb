/-
  No cell of these rows narrows 'for every input' (looked for: loops, veiled, ifaces, maps, wideKeys, modest, calm, conditions, laid).
  DERIVED. THE GIVEN ROWS OF THIS SEAT. 11 by the template 'for every input the law returns true; each argument reads behind the call as it read before'; 0 by the template 'total and deterministic' (their statements: YtkkifpjeafchnaaTotals.lean).
  GIVEN WITH THE SEED: the statements are not yours to turn. If you find one false, say at which input.
  Laid BY PROGRAM, IN A SANDBOX (cutbox-rows.mjs): the forced cells as the released guide's own fill.sh prints them over the translation 8c0b81036836655e… (all of the seat's roots in one cut). By AI agents, Wed Nov 11 2026. No macro, syntax, notation, axiom, sorry.
-/
import Derived.Test.YtkkifpjeafchnaaChecked
import GoSem.Claim
import GoSem.ClaimJoined
import GoSem.ClaimMapViews
import Derived.JoinedTies
import Derived.KernelRfl
namespace Go.Proofs.Ytkkifpjeafchnaa
/- THE CELL 'sum', in the pinned program and in every row, IS THE sha256 OF THE DUMP (.gsa) THAT YtkkifpjeafchnaaProg.lean LOADS. Nothing in Lean hashes anything: it is a label: what it is worth is what the hold of that sum in a sandbox is worth. -/
noncomputable def Try.pinned : Pinned := { name := "ytkkifpjeafchnaa", sum := "8c0b81036836655e0e7ebae5de242d319ba7b4b35d77121a7c11ff7bdb395add", checked := Try.checked }
namespace Rows
def none {H : Type} : Left H := { results := [], args := [] }

/-- 'laws.FnExactMakeAll': WHATEVER THE INPUT: true; the input reads as it did. -/
def fnExactMakeAllSpec : ChangeSpec := { name := "fnExactMakeAll", fn := fun _ => fun
  | [d1, d2] => { results := [.lit (.bool true)], args := [d1, d2] }
  | _ => none }
def fnExactMakeAllRow : OpenClaim := { program := "ytkkifpjeafchnaa", sum := "8c0b81036836655e0e7ebae5de242d319ba7b4b35d77121a7c11ff7bdb395add", func := "loop.example/mirrorgrids/laws.FnExactMakeAll", spec := "fnExactMakeAll", inPlace := ["(*sync.WaitGroup).Add", "internal/race.ReleaseMerge", "internal/race.Disable", "internal/race.Enable", "internal/synctest.IsInBubble", "internal/synctest.Associate[sync.WaitGroup]", "sync.fatal", "sync/atomic.OrUint64", "sync/atomic.AddUint64", "internal/race.Read", "sync/atomic.LoadUint64", "sync/atomic.StoreUint64", "internal/synctest.Disassociate[sync.WaitGroup]", "sync.runtime_Semrelease", "(*sync.WaitGroup).Done", "(*sync.WaitGroup).Wait", "internal/race.Acquire", "internal/synctest.IsAssociated[sync.WaitGroup]", "sync/atomic.CompareAndSwapUint64", "internal/race.Write", "sync.runtime_SemacquireWaitGroup"], unfollowed := true, recurses := true, plainKeys := false, leaving := true, apart := false }
def FnExactMakeAllSaid : Prop := fnExactMakeAllRow.holds Try.pinned (OpenSpec.ofChange fnExactMakeAllSpec)

/-- ITS FALSE NEIGHBOUR: 'it returns false'. Refute it at one input. -/
def fnExactMakeAllWrong : ChangeSpec := { name := "fnExactMakeAll", fn := fun _ => fun
  | [d1, d2] => { results := [.lit (.bool false)], args := [d1, d2] }
  | _ => none }
def FnExactMakeAllWrongFalsely : Prop := fnExactMakeAllRow.holds Try.pinned (OpenSpec.ofChange fnExactMakeAllWrong)

/-- 'laws.FnExactMakeFull': WHATEVER THE INPUT: true; the input reads as it did. -/
def fnExactMakeFullSpec : ChangeSpec := { name := "fnExactMakeFull", fn := fun _ => fun
  | [d1, d2] => { results := [.lit (.bool true)], args := [d1, d2] }
  | _ => none }
def fnExactMakeFullRow : OpenClaim := { program := "ytkkifpjeafchnaa", sum := "8c0b81036836655e0e7ebae5de242d319ba7b4b35d77121a7c11ff7bdb395add", func := "loop.example/mirrorgrids/laws.FnExactMakeFull", spec := "fnExactMakeFull", inPlace := ["(*sync.WaitGroup).Add", "internal/race.ReleaseMerge", "internal/race.Disable", "internal/race.Enable", "internal/synctest.IsInBubble", "internal/synctest.Associate[sync.WaitGroup]", "sync.fatal", "sync/atomic.OrUint64", "sync/atomic.AddUint64", "internal/race.Read", "sync/atomic.LoadUint64", "sync/atomic.StoreUint64", "internal/synctest.Disassociate[sync.WaitGroup]", "sync.runtime_Semrelease", "(*sync.WaitGroup).Done", "(*sync.WaitGroup).Wait", "internal/race.Acquire", "internal/synctest.IsAssociated[sync.WaitGroup]", "sync/atomic.CompareAndSwapUint64", "internal/race.Write", "sync.runtime_SemacquireWaitGroup"], unfollowed := true, recurses := true, plainKeys := false, leaving := true, apart := false }
def FnExactMakeFullSaid : Prop := fnExactMakeFullRow.holds Try.pinned (OpenSpec.ofChange fnExactMakeFullSpec)

/-- ITS FALSE NEIGHBOUR: 'it returns false'. Refute it at one input. -/
def fnExactMakeFullWrong : ChangeSpec := { name := "fnExactMakeFull", fn := fun _ => fun
  | [d1, d2] => { results := [.lit (.bool false)], args := [d1, d2] }
  | _ => none }
def FnExactMakeFullWrongFalsely : Prop := fnExactMakeFullRow.holds Try.pinned (OpenSpec.ofChange fnExactMakeFullWrong)

/-- 'laws.FnExactMakeMany': WHATEVER THE INPUT: true; the input reads as it did. -/
def fnExactMakeManySpec : ChangeSpec := { name := "fnExactMakeMany", fn := fun _ => fun
  | [d1, d2, d3] => { results := [.lit (.bool true)], args := [d1, d2, d3] }
  | _ => none }
def fnExactMakeManyRow : OpenClaim := { program := "ytkkifpjeafchnaa", sum := "8c0b81036836655e0e7ebae5de242d319ba7b4b35d77121a7c11ff7bdb395add", func := "loop.example/mirrorgrids/laws.FnExactMakeMany", spec := "fnExactMakeMany", inPlace := ["(*sync.WaitGroup).Add", "internal/race.ReleaseMerge", "internal/race.Disable", "internal/race.Enable", "internal/synctest.IsInBubble", "internal/synctest.Associate[sync.WaitGroup]", "sync.fatal", "sync/atomic.OrUint64", "sync/atomic.AddUint64", "internal/race.Read", "sync/atomic.LoadUint64", "sync/atomic.StoreUint64", "internal/synctest.Disassociate[sync.WaitGroup]", "sync.runtime_Semrelease", "(*sync.WaitGroup).Done", "(*sync.WaitGroup).Wait", "internal/race.Acquire", "internal/synctest.IsAssociated[sync.WaitGroup]", "sync/atomic.CompareAndSwapUint64", "internal/race.Write", "sync.runtime_SemacquireWaitGroup"], unfollowed := true, recurses := true, plainKeys := false, leaving := true, apart := false }
def FnExactMakeManySaid : Prop := fnExactMakeManyRow.holds Try.pinned (OpenSpec.ofChange fnExactMakeManySpec)

/-- ITS FALSE NEIGHBOUR: 'it returns false'. Refute it at one input. -/
def fnExactMakeManyWrong : ChangeSpec := { name := "fnExactMakeMany", fn := fun _ => fun
  | [d1, d2, d3] => { results := [.lit (.bool false)], args := [d1, d2, d3] }
  | _ => none }
def FnExactMakeManyWrongFalsely : Prop := fnExactMakeManyRow.holds Try.pinned (OpenSpec.ofChange fnExactMakeManyWrong)

/-- 'laws.FnExactMakeFirst': WHATEVER THE INPUT: true; the input reads as it did. -/
def fnExactMakeFirstSpec : ChangeSpec := { name := "fnExactMakeFirst", fn := fun _ => fun
  | [d1, d2, d3] => { results := [.lit (.bool true)], args := [d1, d2, d3] }
  | _ => none }
def fnExactMakeFirstRow : OpenClaim := { program := "ytkkifpjeafchnaa", sum := "8c0b81036836655e0e7ebae5de242d319ba7b4b35d77121a7c11ff7bdb395add", func := "loop.example/mirrorgrids/laws.FnExactMakeFirst", spec := "fnExactMakeFirst", inPlace := ["(*sync.WaitGroup).Add", "internal/race.ReleaseMerge", "internal/race.Disable", "internal/race.Enable", "internal/synctest.IsInBubble", "internal/synctest.Associate[sync.WaitGroup]", "sync.fatal", "sync/atomic.OrUint64", "sync/atomic.AddUint64", "internal/race.Read", "sync/atomic.LoadUint64", "sync/atomic.StoreUint64", "internal/synctest.Disassociate[sync.WaitGroup]", "sync.runtime_Semrelease", "(*sync.WaitGroup).Done", "(*sync.WaitGroup).Wait", "internal/race.Acquire", "internal/synctest.IsAssociated[sync.WaitGroup]", "sync/atomic.CompareAndSwapUint64", "internal/race.Write", "sync.runtime_SemacquireWaitGroup", "internal/bytealg.IndexByteString"], unfollowed := true, recurses := true, plainKeys := false, leaving := true, apart := false }
def FnExactMakeFirstSaid : Prop := fnExactMakeFirstRow.holds Try.pinned (OpenSpec.ofChange fnExactMakeFirstSpec)

/-- ITS FALSE NEIGHBOUR: 'it returns false'. Refute it at one input. -/
def fnExactMakeFirstWrong : ChangeSpec := { name := "fnExactMakeFirst", fn := fun _ => fun
  | [d1, d2, d3] => { results := [.lit (.bool false)], args := [d1, d2, d3] }
  | _ => none }
def FnExactMakeFirstWrongFalsely : Prop := fnExactMakeFirstRow.holds Try.pinned (OpenSpec.ofChange fnExactMakeFirstWrong)

/-- 'laws.FnExactMakeFewest': WHATEVER THE INPUT: true; the input reads as it did. -/
def fnExactMakeFewestSpec : ChangeSpec := { name := "fnExactMakeFewest", fn := fun _ => fun
  | [d1, d2, d3] => { results := [.lit (.bool true)], args := [d1, d2, d3] }
  | _ => none }
def fnExactMakeFewestRow : OpenClaim := { program := "ytkkifpjeafchnaa", sum := "8c0b81036836655e0e7ebae5de242d319ba7b4b35d77121a7c11ff7bdb395add", func := "loop.example/mirrorgrids/laws.FnExactMakeFewest", spec := "fnExactMakeFewest", inPlace := ["(*sync.WaitGroup).Add", "internal/race.ReleaseMerge", "internal/race.Disable", "internal/race.Enable", "internal/synctest.IsInBubble", "internal/synctest.Associate[sync.WaitGroup]", "sync.fatal", "sync/atomic.OrUint64", "sync/atomic.AddUint64", "internal/race.Read", "sync/atomic.LoadUint64", "sync/atomic.StoreUint64", "internal/synctest.Disassociate[sync.WaitGroup]", "sync.runtime_Semrelease", "(*sync.WaitGroup).Done", "(*sync.WaitGroup).Wait", "internal/race.Acquire", "internal/synctest.IsAssociated[sync.WaitGroup]", "sync/atomic.CompareAndSwapUint64", "internal/race.Write", "sync.runtime_SemacquireWaitGroup"], unfollowed := true, recurses := true, plainKeys := false, leaving := true, apart := false }
def FnExactMakeFewestSaid : Prop := fnExactMakeFewestRow.holds Try.pinned (OpenSpec.ofChange fnExactMakeFewestSpec)

/-- ITS FALSE NEIGHBOUR: 'it returns false'. Refute it at one input. -/
def fnExactMakeFewestWrong : ChangeSpec := { name := "fnExactMakeFewest", fn := fun _ => fun
  | [d1, d2, d3] => { results := [.lit (.bool false)], args := [d1, d2, d3] }
  | _ => none }
def FnExactMakeFewestWrongFalsely : Prop := fnExactMakeFewestRow.holds Try.pinned (OpenSpec.ofChange fnExactMakeFewestWrong)

/-- 'laws.FnExactMakePlain': WHATEVER THE INPUT: true; the input reads as it did. -/
def fnExactMakePlainSpec : ChangeSpec := { name := "fnExactMakePlain", fn := fun _ => fun
  | [d] => { results := [.lit (.bool true)], args := [d] }
  | _ => none }
def fnExactMakePlainRow : OpenClaim := { program := "ytkkifpjeafchnaa", sum := "8c0b81036836655e0e7ebae5de242d319ba7b4b35d77121a7c11ff7bdb395add", func := "loop.example/mirrorgrids/laws.FnExactMakePlain", spec := "fnExactMakePlain", plainKeys := false, apart := false }
def FnExactMakePlainSaid : Prop := fnExactMakePlainRow.holds Try.pinned (OpenSpec.ofChange fnExactMakePlainSpec)

/-- ITS FALSE NEIGHBOUR: 'it returns false'. Refute it at one input. -/
def fnExactMakePlainWrong : ChangeSpec := { name := "fnExactMakePlain", fn := fun _ => fun
  | [d] => { results := [.lit (.bool false)], args := [d] }
  | _ => none }
def FnExactMakePlainWrongFalsely : Prop := fnExactMakePlainRow.holds Try.pinned (OpenSpec.ofChange fnExactMakePlainWrong)

/-- 'laws.FnPlain': WHATEVER THE INPUT: true; the input reads as it did. -/
def fnPlainSpec : ChangeSpec := { name := "fnPlain", fn := fun _ => fun
  | [d] => { results := [.lit (.bool true)], args := [d] }
  | _ => none }
def fnPlainRow : OpenClaim := { program := "ytkkifpjeafchnaa", sum := "8c0b81036836655e0e7ebae5de242d319ba7b4b35d77121a7c11ff7bdb395add", func := "loop.example/mirrorgrids/laws.FnPlain", spec := "fnPlain", plainKeys := false, apart := false }
def FnPlainSaid : Prop := fnPlainRow.holds Try.pinned (OpenSpec.ofChange fnPlainSpec)

/-- ITS FALSE NEIGHBOUR: 'it returns false'. Refute it at one input. -/
def fnPlainWrong : ChangeSpec := { name := "fnPlain", fn := fun _ => fun
  | [d] => { results := [.lit (.bool false)], args := [d] }
  | _ => none }
def FnPlainWrongFalsely : Prop := fnPlainRow.holds Try.pinned (OpenSpec.ofChange fnPlainWrong)

/-- 'laws.FnJoinChords': WHATEVER THE INPUT: true; the input reads as it did. -/
def fnJoinChordsSpec : ChangeSpec := { name := "fnJoinChords", fn := fun _ => fun
  | [d] => { results := [.lit (.bool true)], args := [d] }
  | _ => none }
def fnJoinChordsRow : OpenClaim := { program := "ytkkifpjeafchnaa", sum := "8c0b81036836655e0e7ebae5de242d319ba7b4b35d77121a7c11ff7bdb395add", func := "loop.example/mirrorgrids/laws.FnJoinChords", spec := "fnJoinChords", inPlace := ["slices.overlaps[int]"], plainKeys := false, apart := false }
def FnJoinChordsSaid : Prop := fnJoinChordsRow.holds Try.pinned (OpenSpec.ofChange fnJoinChordsSpec)

/-- ITS FALSE NEIGHBOUR: 'it returns false'. Refute it at one input. -/
def fnJoinChordsWrong : ChangeSpec := { name := "fnJoinChords", fn := fun _ => fun
  | [d] => { results := [.lit (.bool false)], args := [d] }
  | _ => none }
def FnJoinChordsWrongFalsely : Prop := fnJoinChordsRow.holds Try.pinned (OpenSpec.ofChange fnJoinChordsWrong)

/-- 'laws.FnExactRoundMost': WHATEVER THE INPUT: true; the input reads as it did. -/
def fnExactRoundMostSpec : ChangeSpec := { name := "fnExactRoundMost", fn := fun _ => fun
  | [d1, d2] => { results := [.lit (.bool true)], args := [d1, d2] }
  | _ => none }
def fnExactRoundMostRow : OpenClaim := { program := "ytkkifpjeafchnaa", sum := "8c0b81036836655e0e7ebae5de242d319ba7b4b35d77121a7c11ff7bdb395add", func := "loop.example/mirrorgrids/laws.FnExactRoundMost", spec := "fnExactRoundMost", unfollowed := true, recurses := true, plainKeys := false, leaving := true, apart := false }
def FnExactRoundMostSaid : Prop := fnExactRoundMostRow.holds Try.pinned (OpenSpec.ofChange fnExactRoundMostSpec)

/-- ITS FALSE NEIGHBOUR: 'it returns false'. Refute it at one input. -/
def fnExactRoundMostWrong : ChangeSpec := { name := "fnExactRoundMost", fn := fun _ => fun
  | [d1, d2] => { results := [.lit (.bool false)], args := [d1, d2] }
  | _ => none }
def FnExactRoundMostWrongFalsely : Prop := fnExactRoundMostRow.holds Try.pinned (OpenSpec.ofChange fnExactRoundMostWrong)

/-- 'laws.FnExactJoinGrid': WHATEVER THE INPUT: true; the input reads as it did. -/
def fnExactJoinGridSpec : ChangeSpec := { name := "fnExactJoinGrid", fn := fun _ => fun
  | [d] => { results := [.lit (.bool true)], args := [d] }
  | _ => none }
def fnExactJoinGridRow : OpenClaim := { program := "ytkkifpjeafchnaa", sum := "8c0b81036836655e0e7ebae5de242d319ba7b4b35d77121a7c11ff7bdb395add", func := "loop.example/mirrorgrids/laws.FnExactJoinGrid", spec := "fnExactJoinGrid", inPlace := ["internal/bytealg.IndexByteString", "internal/bytealg.IndexString", "slices.overlaps[int]"], unfollowed := true, recurses := true, named := ["internal/bytealg.MaxLen"], plainKeys := false, leaving := true, apart := false }
def FnExactJoinGridSaid : Prop := fnExactJoinGridRow.holds Try.pinned (OpenSpec.ofChange fnExactJoinGridSpec)

/-- ITS FALSE NEIGHBOUR: 'it returns false'. Refute it at one input. -/
def fnExactJoinGridWrong : ChangeSpec := { name := "fnExactJoinGrid", fn := fun _ => fun
  | [d] => { results := [.lit (.bool false)], args := [d] }
  | _ => none }
def FnExactJoinGridWrongFalsely : Prop := fnExactJoinGridRow.holds Try.pinned (OpenSpec.ofChange fnExactJoinGridWrong)

/-- 'laws.FnExactJoinMany': WHATEVER THE INPUT: true; the input reads as it did. -/
def fnExactJoinManySpec : ChangeSpec := { name := "fnExactJoinMany", fn := fun _ => fun
  | [d] => { results := [.lit (.bool true)], args := [d] }
  | _ => none }
def fnExactJoinManyRow : OpenClaim := { program := "ytkkifpjeafchnaa", sum := "8c0b81036836655e0e7ebae5de242d319ba7b4b35d77121a7c11ff7bdb395add", func := "loop.example/mirrorgrids/laws.FnExactJoinMany", spec := "fnExactJoinMany", inPlace := ["internal/bytealg.IndexByteString", "internal/bytealg.IndexString", "slices.overlaps[int]"], unfollowed := true, recurses := true, named := ["internal/bytealg.MaxLen"], plainKeys := false, leaving := true, apart := false }
def FnExactJoinManySaid : Prop := fnExactJoinManyRow.holds Try.pinned (OpenSpec.ofChange fnExactJoinManySpec)

/-- ITS FALSE NEIGHBOUR: 'it returns false'. Refute it at one input. -/
def fnExactJoinManyWrong : ChangeSpec := { name := "fnExactJoinMany", fn := fun _ => fun
  | [d] => { results := [.lit (.bool false)], args := [d] }
  | _ => none }
def FnExactJoinManyWrongFalsely : Prop := fnExactJoinManyRow.holds Try.pinned (OpenSpec.ofChange fnExactJoinManyWrong)

/- THE SECOND FORM. 'bulk': how many values and letters a reading holds, each counted each time it is reached (what is shared counts as often as it is met; a slice's spare places count too). A statement '..UptoSaid' is the law's where the arguments, and the package variables that the reading takes, are together of bulk at most 1048576: NARROWER than '..Said'. Prove '..Said' where nothing that the law and all that it calls make is longer than what came in: it says more and counts as full. Else prove '..UptoSaid'. A law counts once. -/
mutual
def uptoBulk {H : Type} : DataW H → Nat
  | .lit (.string bytes) => bytes.length + 1
  | .lit _ => 1
  | .nil => 1
  | .ptr d => uptoBulk d + 1
  | .slice elems spare => uptoBulkAll elems + uptoBulkAll spare + 1
  | .agg parts => uptoBulkAll parts + 1
  | .iface _ d => uptoBulk d + 1
  | .map entries => uptoBulkEntries entries + 1
  | .held _ => 1
def uptoBulkAll {H : Type} : List (DataW H) → Nat
  | [] => 0
  | d :: r => uptoBulk d + uptoBulkAll r
def uptoBulkEntries {H : Type} : List (Lit × DataW H) → Nat
  | [] => 0
  | x :: r => uptoBulkEntry x + uptoBulkEntries r
def uptoBulkEntry {H : Type} : Lit × DataW H → Nat
  | (.string bytes, d) => bytes.length + uptoBulk d + 1
  | (_, d) => uptoBulk d + 1
 end
def uptoSmall : (H : Type) → List (DataW H) → Bool := fun _ ds => decide (uptoBulkAll ds ≤ 1048576)
def OpenSpec.upto (s : _root_.Go.ChangeSpec) : _root_.Go.OpenSpec := { _root_.Go.OpenSpec.ofChange s with cond := some uptoSmall }

/-- 'laws.FnExactMakeAll', WHERE WHAT IT READS IS OF BULK AT MOST 1048576: true; the input reads as it did. -/
def fnExactMakeAllUptoRow : OpenClaim := { program := "ytkkifpjeafchnaa", sum := "8c0b81036836655e0e7ebae5de242d319ba7b4b35d77121a7c11ff7bdb395add", func := "loop.example/mirrorgrids/laws.FnExactMakeAll", spec := "fnExactMakeAll", inPlace := ["(*sync.WaitGroup).Add", "internal/race.ReleaseMerge", "internal/race.Disable", "internal/race.Enable", "internal/synctest.IsInBubble", "internal/synctest.Associate[sync.WaitGroup]", "sync.fatal", "sync/atomic.OrUint64", "sync/atomic.AddUint64", "internal/race.Read", "sync/atomic.LoadUint64", "sync/atomic.StoreUint64", "internal/synctest.Disassociate[sync.WaitGroup]", "sync.runtime_Semrelease", "(*sync.WaitGroup).Done", "(*sync.WaitGroup).Wait", "internal/race.Acquire", "internal/synctest.IsAssociated[sync.WaitGroup]", "sync/atomic.CompareAndSwapUint64", "internal/race.Write", "sync.runtime_SemacquireWaitGroup"], unfollowed := true, recurses := true, plainKeys := false, leaving := true, apart := false, narrowed := true }
def FnExactMakeAllUptoSaid : Prop := fnExactMakeAllUptoRow.holds Try.pinned (OpenSpec.upto fnExactMakeAllSpec)

/-- 'laws.FnExactMakeFull', WHERE WHAT IT READS IS OF BULK AT MOST 1048576: true; the input reads as it did. -/
def fnExactMakeFullUptoRow : OpenClaim := { program := "ytkkifpjeafchnaa", sum := "8c0b81036836655e0e7ebae5de242d319ba7b4b35d77121a7c11ff7bdb395add", func := "loop.example/mirrorgrids/laws.FnExactMakeFull", spec := "fnExactMakeFull", inPlace := ["(*sync.WaitGroup).Add", "internal/race.ReleaseMerge", "internal/race.Disable", "internal/race.Enable", "internal/synctest.IsInBubble", "internal/synctest.Associate[sync.WaitGroup]", "sync.fatal", "sync/atomic.OrUint64", "sync/atomic.AddUint64", "internal/race.Read", "sync/atomic.LoadUint64", "sync/atomic.StoreUint64", "internal/synctest.Disassociate[sync.WaitGroup]", "sync.runtime_Semrelease", "(*sync.WaitGroup).Done", "(*sync.WaitGroup).Wait", "internal/race.Acquire", "internal/synctest.IsAssociated[sync.WaitGroup]", "sync/atomic.CompareAndSwapUint64", "internal/race.Write", "sync.runtime_SemacquireWaitGroup"], unfollowed := true, recurses := true, plainKeys := false, leaving := true, apart := false, narrowed := true }
def FnExactMakeFullUptoSaid : Prop := fnExactMakeFullUptoRow.holds Try.pinned (OpenSpec.upto fnExactMakeFullSpec)

/-- 'laws.FnExactMakeMany', WHERE WHAT IT READS IS OF BULK AT MOST 1048576: true; the input reads as it did. -/
def fnExactMakeManyUptoRow : OpenClaim := { program := "ytkkifpjeafchnaa", sum := "8c0b81036836655e0e7ebae5de242d319ba7b4b35d77121a7c11ff7bdb395add", func := "loop.example/mirrorgrids/laws.FnExactMakeMany", spec := "fnExactMakeMany", inPlace := ["(*sync.WaitGroup).Add", "internal/race.ReleaseMerge", "internal/race.Disable", "internal/race.Enable", "internal/synctest.IsInBubble", "internal/synctest.Associate[sync.WaitGroup]", "sync.fatal", "sync/atomic.OrUint64", "sync/atomic.AddUint64", "internal/race.Read", "sync/atomic.LoadUint64", "sync/atomic.StoreUint64", "internal/synctest.Disassociate[sync.WaitGroup]", "sync.runtime_Semrelease", "(*sync.WaitGroup).Done", "(*sync.WaitGroup).Wait", "internal/race.Acquire", "internal/synctest.IsAssociated[sync.WaitGroup]", "sync/atomic.CompareAndSwapUint64", "internal/race.Write", "sync.runtime_SemacquireWaitGroup"], unfollowed := true, recurses := true, plainKeys := false, leaving := true, apart := false, narrowed := true }
def FnExactMakeManyUptoSaid : Prop := fnExactMakeManyUptoRow.holds Try.pinned (OpenSpec.upto fnExactMakeManySpec)

/-- 'laws.FnExactMakeFirst', WHERE WHAT IT READS IS OF BULK AT MOST 1048576: true; the input reads as it did. -/
def fnExactMakeFirstUptoRow : OpenClaim := { program := "ytkkifpjeafchnaa", sum := "8c0b81036836655e0e7ebae5de242d319ba7b4b35d77121a7c11ff7bdb395add", func := "loop.example/mirrorgrids/laws.FnExactMakeFirst", spec := "fnExactMakeFirst", inPlace := ["(*sync.WaitGroup).Add", "internal/race.ReleaseMerge", "internal/race.Disable", "internal/race.Enable", "internal/synctest.IsInBubble", "internal/synctest.Associate[sync.WaitGroup]", "sync.fatal", "sync/atomic.OrUint64", "sync/atomic.AddUint64", "internal/race.Read", "sync/atomic.LoadUint64", "sync/atomic.StoreUint64", "internal/synctest.Disassociate[sync.WaitGroup]", "sync.runtime_Semrelease", "(*sync.WaitGroup).Done", "(*sync.WaitGroup).Wait", "internal/race.Acquire", "internal/synctest.IsAssociated[sync.WaitGroup]", "sync/atomic.CompareAndSwapUint64", "internal/race.Write", "sync.runtime_SemacquireWaitGroup", "internal/bytealg.IndexByteString"], unfollowed := true, recurses := true, plainKeys := false, leaving := true, apart := false, narrowed := true }
def FnExactMakeFirstUptoSaid : Prop := fnExactMakeFirstUptoRow.holds Try.pinned (OpenSpec.upto fnExactMakeFirstSpec)

/-- 'laws.FnExactMakeFewest', WHERE WHAT IT READS IS OF BULK AT MOST 1048576: true; the input reads as it did. -/
def fnExactMakeFewestUptoRow : OpenClaim := { program := "ytkkifpjeafchnaa", sum := "8c0b81036836655e0e7ebae5de242d319ba7b4b35d77121a7c11ff7bdb395add", func := "loop.example/mirrorgrids/laws.FnExactMakeFewest", spec := "fnExactMakeFewest", inPlace := ["(*sync.WaitGroup).Add", "internal/race.ReleaseMerge", "internal/race.Disable", "internal/race.Enable", "internal/synctest.IsInBubble", "internal/synctest.Associate[sync.WaitGroup]", "sync.fatal", "sync/atomic.OrUint64", "sync/atomic.AddUint64", "internal/race.Read", "sync/atomic.LoadUint64", "sync/atomic.StoreUint64", "internal/synctest.Disassociate[sync.WaitGroup]", "sync.runtime_Semrelease", "(*sync.WaitGroup).Done", "(*sync.WaitGroup).Wait", "internal/race.Acquire", "internal/synctest.IsAssociated[sync.WaitGroup]", "sync/atomic.CompareAndSwapUint64", "internal/race.Write", "sync.runtime_SemacquireWaitGroup"], unfollowed := true, recurses := true, plainKeys := false, leaving := true, apart := false, narrowed := true }
def FnExactMakeFewestUptoSaid : Prop := fnExactMakeFewestUptoRow.holds Try.pinned (OpenSpec.upto fnExactMakeFewestSpec)

/-- 'laws.FnExactMakePlain', WHERE WHAT IT READS IS OF BULK AT MOST 1048576: true; the input reads as it did. -/
def fnExactMakePlainUptoRow : OpenClaim := { program := "ytkkifpjeafchnaa", sum := "8c0b81036836655e0e7ebae5de242d319ba7b4b35d77121a7c11ff7bdb395add", func := "loop.example/mirrorgrids/laws.FnExactMakePlain", spec := "fnExactMakePlain", plainKeys := false, apart := false, narrowed := true }
def FnExactMakePlainUptoSaid : Prop := fnExactMakePlainUptoRow.holds Try.pinned (OpenSpec.upto fnExactMakePlainSpec)

/-- 'laws.FnPlain', WHERE WHAT IT READS IS OF BULK AT MOST 1048576: true; the input reads as it did. -/
def fnPlainUptoRow : OpenClaim := { program := "ytkkifpjeafchnaa", sum := "8c0b81036836655e0e7ebae5de242d319ba7b4b35d77121a7c11ff7bdb395add", func := "loop.example/mirrorgrids/laws.FnPlain", spec := "fnPlain", plainKeys := false, apart := false, narrowed := true }
def FnPlainUptoSaid : Prop := fnPlainUptoRow.holds Try.pinned (OpenSpec.upto fnPlainSpec)

/-- 'laws.FnJoinChords', WHERE WHAT IT READS IS OF BULK AT MOST 1048576: true; the input reads as it did. -/
def fnJoinChordsUptoRow : OpenClaim := { program := "ytkkifpjeafchnaa", sum := "8c0b81036836655e0e7ebae5de242d319ba7b4b35d77121a7c11ff7bdb395add", func := "loop.example/mirrorgrids/laws.FnJoinChords", spec := "fnJoinChords", inPlace := ["slices.overlaps[int]"], plainKeys := false, apart := false, narrowed := true }
def FnJoinChordsUptoSaid : Prop := fnJoinChordsUptoRow.holds Try.pinned (OpenSpec.upto fnJoinChordsSpec)

/-- 'laws.FnExactRoundMost', WHERE WHAT IT READS IS OF BULK AT MOST 1048576: true; the input reads as it did. -/
def fnExactRoundMostUptoRow : OpenClaim := { program := "ytkkifpjeafchnaa", sum := "8c0b81036836655e0e7ebae5de242d319ba7b4b35d77121a7c11ff7bdb395add", func := "loop.example/mirrorgrids/laws.FnExactRoundMost", spec := "fnExactRoundMost", unfollowed := true, recurses := true, plainKeys := false, leaving := true, apart := false, narrowed := true }
def FnExactRoundMostUptoSaid : Prop := fnExactRoundMostUptoRow.holds Try.pinned (OpenSpec.upto fnExactRoundMostSpec)

/-- 'laws.FnExactJoinGrid', WHERE WHAT IT READS IS OF BULK AT MOST 1048576: true; the input reads as it did. -/
def fnExactJoinGridUptoRow : OpenClaim := { program := "ytkkifpjeafchnaa", sum := "8c0b81036836655e0e7ebae5de242d319ba7b4b35d77121a7c11ff7bdb395add", func := "loop.example/mirrorgrids/laws.FnExactJoinGrid", spec := "fnExactJoinGrid", inPlace := ["internal/bytealg.IndexByteString", "internal/bytealg.IndexString", "slices.overlaps[int]"], unfollowed := true, recurses := true, named := ["internal/bytealg.MaxLen"], plainKeys := false, leaving := true, apart := false, narrowed := true }
def FnExactJoinGridUptoSaid : Prop := fnExactJoinGridUptoRow.holds Try.pinned (OpenSpec.upto fnExactJoinGridSpec)

/-- 'laws.FnExactJoinMany', WHERE WHAT IT READS IS OF BULK AT MOST 1048576: true; the input reads as it did. -/
def fnExactJoinManyUptoRow : OpenClaim := { program := "ytkkifpjeafchnaa", sum := "8c0b81036836655e0e7ebae5de242d319ba7b4b35d77121a7c11ff7bdb395add", func := "loop.example/mirrorgrids/laws.FnExactJoinMany", spec := "fnExactJoinMany", inPlace := ["internal/bytealg.IndexByteString", "internal/bytealg.IndexString", "slices.overlaps[int]"], unfollowed := true, recurses := true, named := ["internal/bytealg.MaxLen"], plainKeys := false, leaving := true, apart := false, narrowed := true }
def FnExactJoinManyUptoSaid : Prop := fnExactJoinManyUptoRow.holds Try.pinned (OpenSpec.upto fnExactJoinManySpec)

end Rows
end Go.Proofs.Ytkkifpjeafchnaa
