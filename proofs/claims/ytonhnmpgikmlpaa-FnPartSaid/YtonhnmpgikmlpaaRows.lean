/-
  No cell of these rows narrows 'for every input' (looked for: loops, veiled, ifaces, maps, wideKeys, modest, calm, conditions, laid).
  DERIVED. THE GIVEN ROWS OF THIS SEAT. 12 by the template 'for every input the law returns true; each argument reads behind the call as it read before'; 0 by the template 'total and deterministic' (their statements: YtonhnmpgikmlpaaTotals.lean).
  GIVEN WITH THE SEED: the statements are not yours to turn. If you find one false, say at which input.
  Laid BY PROGRAM, IN A SANDBOX (cutbox-rows.mjs): the forced cells as the released guide's own fill.sh prints them over the translation 2459137a826c0253… (all of the seat's roots in one cut). By AI agents, Wed Nov 11 2026. No macro, syntax, notation, axiom, sorry.
-/
import Derived.Test.YtonhnmpgikmlpaaChecked
import GoSem.Claim
import GoSem.ClaimJoined
import GoSem.ClaimMapViews
import Derived.JoinedTies
import Derived.KernelRfl
namespace Go.Proofs.Ytonhnmpgikmlpaa
/- THE CELL 'sum', in the pinned program and in every row, IS THE sha256 OF THE DUMP (.gsa) THAT YtonhnmpgikmlpaaProg.lean LOADS. Nothing in Lean hashes anything: it is a label: what it is worth is what the hold of that sum in a sandbox is worth. -/
noncomputable def Try.pinned : Pinned := { name := "ytonhnmpgikmlpaa", sum := "2459137a826c02532d11211d915cd307fb64863065838893cc0bd7502b0f7485", checked := Try.checked }
namespace Rows
def none {H : Type} : Left H := { results := [], args := [] }

/-- 'laws.FnBetween': WHATEVER THE INPUT: true; the input reads as it did. -/
def fnBetweenSpec : ChangeSpec := { name := "fnBetween", fn := fun _ => fun
  | [d] => { results := [.lit (.bool true)], args := [d] }
  | _ => none }
def fnBetweenRow : OpenClaim := { program := "ytonhnmpgikmlpaa", sum := "2459137a826c02532d11211d915cd307fb64863065838893cc0bd7502b0f7485", func := "loop.example/mirrorgrids/laws.FnBetween", spec := "fnBetween", inPlace := ["internal/bytealg.IndexByteString", "internal/bytealg.IndexString"], unfollowed := true, recurses := true, named := ["internal/bytealg.MaxLen"], plainKeys := false, apart := false }
def FnBetweenSaid : Prop := fnBetweenRow.holds Try.pinned (OpenSpec.ofChange fnBetweenSpec)

/-- ITS FALSE NEIGHBOUR: 'it returns false'. Refute it at one input. -/
def fnBetweenWrong : ChangeSpec := { name := "fnBetween", fn := fun _ => fun
  | [d] => { results := [.lit (.bool false)], args := [d] }
  | _ => none }
def FnBetweenWrongFalsely : Prop := fnBetweenRow.holds Try.pinned (OpenSpec.ofChange fnBetweenWrong)

/-- 'laws.FnTotal': WHATEVER THE INPUT: true; the input reads as it did. -/
def fnTotalSpec : ChangeSpec := { name := "fnTotal", fn := fun _ => fun
  | [d] => { results := [.lit (.bool true)], args := [d] }
  | _ => none }
def fnTotalRow : OpenClaim := { program := "ytonhnmpgikmlpaa", sum := "2459137a826c02532d11211d915cd307fb64863065838893cc0bd7502b0f7485", func := "loop.example/mirrorgrids/laws.FnTotal", spec := "fnTotal", inPlace := ["internal/bytealg.IndexByteString", "internal/bytealg.IndexString"], unfollowed := true, recurses := true, named := ["internal/bytealg.MaxLen"], plainKeys := false, apart := false }
def FnTotalSaid : Prop := fnTotalRow.holds Try.pinned (OpenSpec.ofChange fnTotalSpec)

/-- ITS FALSE NEIGHBOUR: 'it returns false'. Refute it at one input. -/
def fnTotalWrong : ChangeSpec := { name := "fnTotal", fn := fun _ => fun
  | [d] => { results := [.lit (.bool false)], args := [d] }
  | _ => none }
def FnTotalWrongFalsely : Prop := fnTotalRow.holds Try.pinned (OpenSpec.ofChange fnTotalWrong)

/-- 'laws.FnBeams': WHATEVER THE INPUT: true; the input reads as it did. -/
def fnBeamsSpec : ChangeSpec := { name := "fnBeams", fn := fun _ => fun
  | [d] => { results := [.lit (.bool true)], args := [d] }
  | _ => none }
def fnBeamsRow : OpenClaim := { program := "ytonhnmpgikmlpaa", sum := "2459137a826c02532d11211d915cd307fb64863065838893cc0bd7502b0f7485", func := "loop.example/mirrorgrids/laws.FnBeams", spec := "fnBeams", inPlace := ["internal/bytealg.IndexByteString", "internal/bytealg.IndexString"], unfollowed := true, recurses := true, named := ["internal/bytealg.MaxLen"], plainKeys := false, apart := false }
def FnBeamsSaid : Prop := fnBeamsRow.holds Try.pinned (OpenSpec.ofChange fnBeamsSpec)

/-- ITS FALSE NEIGHBOUR: 'it returns false'. Refute it at one input. -/
def fnBeamsWrong : ChangeSpec := { name := "fnBeams", fn := fun _ => fun
  | [d] => { results := [.lit (.bool false)], args := [d] }
  | _ => none }
def FnBeamsWrongFalsely : Prop := fnBeamsRow.holds Try.pinned (OpenSpec.ofChange fnBeamsWrong)

/-- 'laws.FnCrossRounds': WHATEVER THE INPUT: true; the input reads as it did. -/
def fnCrossRoundsSpec : ChangeSpec := { name := "fnCrossRounds", fn := fun _ => fun
  | [d] => { results := [.lit (.bool true)], args := [d] }
  | _ => none }
def fnCrossRoundsRow : OpenClaim := { program := "ytonhnmpgikmlpaa", sum := "2459137a826c02532d11211d915cd307fb64863065838893cc0bd7502b0f7485", func := "loop.example/mirrorgrids/laws.FnCrossRounds", spec := "fnCrossRounds", inPlace := ["internal/bytealg.IndexByteString", "internal/bytealg.IndexString"], unfollowed := true, recurses := true, named := ["internal/bytealg.MaxLen"], plainKeys := false, apart := false }
def FnCrossRoundsSaid : Prop := fnCrossRoundsRow.holds Try.pinned (OpenSpec.ofChange fnCrossRoundsSpec)

/-- ITS FALSE NEIGHBOUR: 'it returns false'. Refute it at one input. -/
def fnCrossRoundsWrong : ChangeSpec := { name := "fnCrossRounds", fn := fun _ => fun
  | [d] => { results := [.lit (.bool false)], args := [d] }
  | _ => none }
def FnCrossRoundsWrongFalsely : Prop := fnCrossRoundsRow.holds Try.pinned (OpenSpec.ofChange fnCrossRoundsWrong)

/-- 'laws.FnClose': WHATEVER THE INPUT: true; the input reads as it did. -/
def fnCloseSpec : ChangeSpec := { name := "fnClose", fn := fun _ => fun
  | [d] => { results := [.lit (.bool true)], args := [d] }
  | _ => none }
def fnCloseRow : OpenClaim := { program := "ytonhnmpgikmlpaa", sum := "2459137a826c02532d11211d915cd307fb64863065838893cc0bd7502b0f7485", func := "loop.example/mirrorgrids/laws.FnClose", spec := "fnClose", plainKeys := false, apart := false }
def FnCloseSaid : Prop := fnCloseRow.holds Try.pinned (OpenSpec.ofChange fnCloseSpec)

/-- ITS FALSE NEIGHBOUR: 'it returns false'. Refute it at one input. -/
def fnCloseWrong : ChangeSpec := { name := "fnClose", fn := fun _ => fun
  | [d] => { results := [.lit (.bool false)], args := [d] }
  | _ => none }
def FnCloseWrongFalsely : Prop := fnCloseRow.holds Try.pinned (OpenSpec.ofChange fnCloseWrong)

/-- 'laws.FnCloseBoth': WHATEVER THE INPUT: true; the input reads as it did. -/
def fnCloseBothSpec : ChangeSpec := { name := "fnCloseBoth", fn := fun _ => fun
  | [d] => { results := [.lit (.bool true)], args := [d] }
  | _ => none }
def fnCloseBothRow : OpenClaim := { program := "ytonhnmpgikmlpaa", sum := "2459137a826c02532d11211d915cd307fb64863065838893cc0bd7502b0f7485", func := "loop.example/mirrorgrids/laws.FnCloseBoth", spec := "fnCloseBoth", inPlace := ["slices.overlaps[int]"], plainKeys := false, apart := false }
def FnCloseBothSaid : Prop := fnCloseBothRow.holds Try.pinned (OpenSpec.ofChange fnCloseBothSpec)

/-- ITS FALSE NEIGHBOUR: 'it returns false'. Refute it at one input. -/
def fnCloseBothWrong : ChangeSpec := { name := "fnCloseBoth", fn := fun _ => fun
  | [d] => { results := [.lit (.bool false)], args := [d] }
  | _ => none }
def FnCloseBothWrongFalsely : Prop := fnCloseBothRow.holds Try.pinned (OpenSpec.ofChange fnCloseBothWrong)

/-- 'laws.FnJoinGrid': WHATEVER THE INPUT: true; the input reads as it did. -/
def fnJoinGridSpec : ChangeSpec := { name := "fnJoinGrid", fn := fun _ => fun
  | [d] => { results := [.lit (.bool true)], args := [d] }
  | _ => none }
def fnJoinGridRow : OpenClaim := { program := "ytonhnmpgikmlpaa", sum := "2459137a826c02532d11211d915cd307fb64863065838893cc0bd7502b0f7485", func := "loop.example/mirrorgrids/laws.FnJoinGrid", spec := "fnJoinGrid", inPlace := ["internal/bytealg.IndexByteString", "internal/bytealg.IndexString", "slices.overlaps[int]"], unfollowed := true, recurses := true, named := ["internal/bytealg.MaxLen"], plainKeys := false, apart := false }
def FnJoinGridSaid : Prop := fnJoinGridRow.holds Try.pinned (OpenSpec.ofChange fnJoinGridSpec)

/-- ITS FALSE NEIGHBOUR: 'it returns false'. Refute it at one input. -/
def fnJoinGridWrong : ChangeSpec := { name := "fnJoinGrid", fn := fun _ => fun
  | [d] => { results := [.lit (.bool false)], args := [d] }
  | _ => none }
def FnJoinGridWrongFalsely : Prop := fnJoinGridRow.holds Try.pinned (OpenSpec.ofChange fnJoinGridWrong)

/-- 'laws.FnJoinMany': WHATEVER THE INPUT: true; the input reads as it did. -/
def fnJoinManySpec : ChangeSpec := { name := "fnJoinMany", fn := fun _ => fun
  | [d] => { results := [.lit (.bool true)], args := [d] }
  | _ => none }
def fnJoinManyRow : OpenClaim := { program := "ytonhnmpgikmlpaa", sum := "2459137a826c02532d11211d915cd307fb64863065838893cc0bd7502b0f7485", func := "loop.example/mirrorgrids/laws.FnJoinMany", spec := "fnJoinMany", inPlace := ["internal/bytealg.IndexByteString", "internal/bytealg.IndexString", "slices.overlaps[int]"], unfollowed := true, recurses := true, named := ["internal/bytealg.MaxLen"], plainKeys := false, apart := false }
def FnJoinManySaid : Prop := fnJoinManyRow.holds Try.pinned (OpenSpec.ofChange fnJoinManySpec)

/-- ITS FALSE NEIGHBOUR: 'it returns false'. Refute it at one input. -/
def fnJoinManyWrong : ChangeSpec := { name := "fnJoinMany", fn := fun _ => fun
  | [d] => { results := [.lit (.bool false)], args := [d] }
  | _ => none }
def FnJoinManyWrongFalsely : Prop := fnJoinManyRow.holds Try.pinned (OpenSpec.ofChange fnJoinManyWrong)

/-- 'laws.FnJoinBeside': WHATEVER THE INPUT: true; the input reads as it did. -/
def fnJoinBesideSpec : ChangeSpec := { name := "fnJoinBeside", fn := fun _ => fun
  | [d] => { results := [.lit (.bool true)], args := [d] }
  | _ => none }
def fnJoinBesideRow : OpenClaim := { program := "ytonhnmpgikmlpaa", sum := "2459137a826c02532d11211d915cd307fb64863065838893cc0bd7502b0f7485", func := "loop.example/mirrorgrids/laws.FnJoinBeside", spec := "fnJoinBeside", inPlace := ["internal/bytealg.IndexByteString", "internal/bytealg.IndexString", "slices.overlaps[int]"], unfollowed := true, recurses := true, named := ["internal/bytealg.MaxLen"], plainKeys := false, apart := false }
def FnJoinBesideSaid : Prop := fnJoinBesideRow.holds Try.pinned (OpenSpec.ofChange fnJoinBesideSpec)

/-- ITS FALSE NEIGHBOUR: 'it returns false'. Refute it at one input. -/
def fnJoinBesideWrong : ChangeSpec := { name := "fnJoinBeside", fn := fun _ => fun
  | [d] => { results := [.lit (.bool false)], args := [d] }
  | _ => none }
def FnJoinBesideWrongFalsely : Prop := fnJoinBesideRow.holds Try.pinned (OpenSpec.ofChange fnJoinBesideWrong)

/-- 'laws.FnPart': WHATEVER THE INPUT: true; the input reads as it did. -/
def fnPartSpec : ChangeSpec := { name := "fnPart", fn := fun _ => fun
  | [d] => { results := [.lit (.bool true)], args := [d] }
  | _ => none }
def fnPartRow : OpenClaim := { program := "ytonhnmpgikmlpaa", sum := "2459137a826c02532d11211d915cd307fb64863065838893cc0bd7502b0f7485", func := "loop.example/mirrorgrids/laws.FnPart", spec := "fnPart", inPlace := ["internal/bytealg.IndexByteString", "internal/bytealg.IndexString"], unfollowed := true, recurses := true, named := ["internal/bytealg.MaxLen"], plainKeys := false, apart := false }
def FnPartSaid : Prop := fnPartRow.holds Try.pinned (OpenSpec.ofChange fnPartSpec)

/-- ITS FALSE NEIGHBOUR: 'it returns false'. Refute it at one input. -/
def fnPartWrong : ChangeSpec := { name := "fnPart", fn := fun _ => fun
  | [d] => { results := [.lit (.bool false)], args := [d] }
  | _ => none }
def FnPartWrongFalsely : Prop := fnPartRow.holds Try.pinned (OpenSpec.ofChange fnPartWrong)

/-- 'laws.FnJoin': WHATEVER THE INPUT: true; the input reads as it did. -/
def fnJoinSpec : ChangeSpec := { name := "fnJoin", fn := fun _ => fun
  | [d] => { results := [.lit (.bool true)], args := [d] }
  | _ => none }
def fnJoinRow : OpenClaim := { program := "ytonhnmpgikmlpaa", sum := "2459137a826c02532d11211d915cd307fb64863065838893cc0bd7502b0f7485", func := "loop.example/mirrorgrids/laws.FnJoin", spec := "fnJoin", inPlace := ["slices.overlaps[int]"], plainKeys := false, apart := false }
def FnJoinSaid : Prop := fnJoinRow.holds Try.pinned (OpenSpec.ofChange fnJoinSpec)

/-- ITS FALSE NEIGHBOUR: 'it returns false'. Refute it at one input. -/
def fnJoinWrong : ChangeSpec := { name := "fnJoin", fn := fun _ => fun
  | [d] => { results := [.lit (.bool false)], args := [d] }
  | _ => none }
def FnJoinWrongFalsely : Prop := fnJoinRow.holds Try.pinned (OpenSpec.ofChange fnJoinWrong)

/-- 'laws.FnJoinRounds': WHATEVER THE INPUT: true; the input reads as it did. -/
def fnJoinRoundsSpec : ChangeSpec := { name := "fnJoinRounds", fn := fun _ => fun
  | [d] => { results := [.lit (.bool true)], args := [d] }
  | _ => none }
def fnJoinRoundsRow : OpenClaim := { program := "ytonhnmpgikmlpaa", sum := "2459137a826c02532d11211d915cd307fb64863065838893cc0bd7502b0f7485", func := "loop.example/mirrorgrids/laws.FnJoinRounds", spec := "fnJoinRounds", inPlace := ["slices.overlaps[int]"], plainKeys := false, apart := false }
def FnJoinRoundsSaid : Prop := fnJoinRoundsRow.holds Try.pinned (OpenSpec.ofChange fnJoinRoundsSpec)

/-- ITS FALSE NEIGHBOUR: 'it returns false'. Refute it at one input. -/
def fnJoinRoundsWrong : ChangeSpec := { name := "fnJoinRounds", fn := fun _ => fun
  | [d] => { results := [.lit (.bool false)], args := [d] }
  | _ => none }
def FnJoinRoundsWrongFalsely : Prop := fnJoinRoundsRow.holds Try.pinned (OpenSpec.ofChange fnJoinRoundsWrong)

/- THE SECOND FORM. 'bulk': how many values and letters a reading holds, each counted each time it is reached (what is shared counts as often as it is met; a slice's spare places count too). A statement '..UptoSaid' is the law's where the arguments, and the package variables that the reading takes, are together of bulk at most 1048576: NARROWER than '..Said'. Prove '..Said' where nothing that the law and all that it calls make is longer than what came in: it says more and counts as full. Else prove '..UptoSaid'. A law counts once. -/
mutual
def uptoBulk {H : Type} : DataW H → Nat
  | .lit (.string bytes) => bytes.length + 1
  | .lit _ => 1
  | .nil => 1
  | .ptr d => uptoBulk d + 1
  | .slice elems spare => uptoBulkAll elems + uptoBulkAll spare + 1
  | .agg parts => uptoBulkAll parts + 1
  | .iface _ d => uptoBulk d + 1
  | .map entries => uptoBulkEntries entries + 1
  | .held _ => 1
def uptoBulkAll {H : Type} : List (DataW H) → Nat
  | [] => 0
  | d :: r => uptoBulk d + uptoBulkAll r
def uptoBulkEntries {H : Type} : List (Lit × DataW H) → Nat
  | [] => 0
  | x :: r => uptoBulkEntry x + uptoBulkEntries r
def uptoBulkEntry {H : Type} : Lit × DataW H → Nat
  | (.string bytes, d) => bytes.length + uptoBulk d + 1
  | (_, d) => uptoBulk d + 1
 end
def uptoSmall : (H : Type) → List (DataW H) → Bool := fun _ ds => decide (uptoBulkAll ds ≤ 1048576)
def OpenSpec.upto (s : _root_.Go.ChangeSpec) : _root_.Go.OpenSpec := { _root_.Go.OpenSpec.ofChange s with cond := some uptoSmall }

/-- 'laws.FnBetween', WHERE WHAT IT READS IS OF BULK AT MOST 1048576: true; the input reads as it did. -/
def fnBetweenUptoRow : OpenClaim := { program := "ytonhnmpgikmlpaa", sum := "2459137a826c02532d11211d915cd307fb64863065838893cc0bd7502b0f7485", func := "loop.example/mirrorgrids/laws.FnBetween", spec := "fnBetween", inPlace := ["internal/bytealg.IndexByteString", "internal/bytealg.IndexString"], unfollowed := true, recurses := true, named := ["internal/bytealg.MaxLen"], plainKeys := false, apart := false, narrowed := true }
def FnBetweenUptoSaid : Prop := fnBetweenUptoRow.holds Try.pinned (OpenSpec.upto fnBetweenSpec)

/-- 'laws.FnTotal', WHERE WHAT IT READS IS OF BULK AT MOST 1048576: true; the input reads as it did. -/
def fnTotalUptoRow : OpenClaim := { program := "ytonhnmpgikmlpaa", sum := "2459137a826c02532d11211d915cd307fb64863065838893cc0bd7502b0f7485", func := "loop.example/mirrorgrids/laws.FnTotal", spec := "fnTotal", inPlace := ["internal/bytealg.IndexByteString", "internal/bytealg.IndexString"], unfollowed := true, recurses := true, named := ["internal/bytealg.MaxLen"], plainKeys := false, apart := false, narrowed := true }
def FnTotalUptoSaid : Prop := fnTotalUptoRow.holds Try.pinned (OpenSpec.upto fnTotalSpec)

/-- 'laws.FnBeams', WHERE WHAT IT READS IS OF BULK AT MOST 1048576: true; the input reads as it did. -/
def fnBeamsUptoRow : OpenClaim := { program := "ytonhnmpgikmlpaa", sum := "2459137a826c02532d11211d915cd307fb64863065838893cc0bd7502b0f7485", func := "loop.example/mirrorgrids/laws.FnBeams", spec := "fnBeams", inPlace := ["internal/bytealg.IndexByteString", "internal/bytealg.IndexString"], unfollowed := true, recurses := true, named := ["internal/bytealg.MaxLen"], plainKeys := false, apart := false, narrowed := true }
def FnBeamsUptoSaid : Prop := fnBeamsUptoRow.holds Try.pinned (OpenSpec.upto fnBeamsSpec)

/-- 'laws.FnCrossRounds', WHERE WHAT IT READS IS OF BULK AT MOST 1048576: true; the input reads as it did. -/
def fnCrossRoundsUptoRow : OpenClaim := { program := "ytonhnmpgikmlpaa", sum := "2459137a826c02532d11211d915cd307fb64863065838893cc0bd7502b0f7485", func := "loop.example/mirrorgrids/laws.FnCrossRounds", spec := "fnCrossRounds", inPlace := ["internal/bytealg.IndexByteString", "internal/bytealg.IndexString"], unfollowed := true, recurses := true, named := ["internal/bytealg.MaxLen"], plainKeys := false, apart := false, narrowed := true }
def FnCrossRoundsUptoSaid : Prop := fnCrossRoundsUptoRow.holds Try.pinned (OpenSpec.upto fnCrossRoundsSpec)

/-- 'laws.FnClose', WHERE WHAT IT READS IS OF BULK AT MOST 1048576: true; the input reads as it did. -/
def fnCloseUptoRow : OpenClaim := { program := "ytonhnmpgikmlpaa", sum := "2459137a826c02532d11211d915cd307fb64863065838893cc0bd7502b0f7485", func := "loop.example/mirrorgrids/laws.FnClose", spec := "fnClose", plainKeys := false, apart := false, narrowed := true }
def FnCloseUptoSaid : Prop := fnCloseUptoRow.holds Try.pinned (OpenSpec.upto fnCloseSpec)

/-- 'laws.FnCloseBoth', WHERE WHAT IT READS IS OF BULK AT MOST 1048576: true; the input reads as it did. -/
def fnCloseBothUptoRow : OpenClaim := { program := "ytonhnmpgikmlpaa", sum := "2459137a826c02532d11211d915cd307fb64863065838893cc0bd7502b0f7485", func := "loop.example/mirrorgrids/laws.FnCloseBoth", spec := "fnCloseBoth", inPlace := ["slices.overlaps[int]"], plainKeys := false, apart := false, narrowed := true }
def FnCloseBothUptoSaid : Prop := fnCloseBothUptoRow.holds Try.pinned (OpenSpec.upto fnCloseBothSpec)

/-- 'laws.FnJoinGrid', WHERE WHAT IT READS IS OF BULK AT MOST 1048576: true; the input reads as it did. -/
def fnJoinGridUptoRow : OpenClaim := { program := "ytonhnmpgikmlpaa", sum := "2459137a826c02532d11211d915cd307fb64863065838893cc0bd7502b0f7485", func := "loop.example/mirrorgrids/laws.FnJoinGrid", spec := "fnJoinGrid", inPlace := ["internal/bytealg.IndexByteString", "internal/bytealg.IndexString", "slices.overlaps[int]"], unfollowed := true, recurses := true, named := ["internal/bytealg.MaxLen"], plainKeys := false, apart := false, narrowed := true }
def FnJoinGridUptoSaid : Prop := fnJoinGridUptoRow.holds Try.pinned (OpenSpec.upto fnJoinGridSpec)

/-- 'laws.FnJoinMany', WHERE WHAT IT READS IS OF BULK AT MOST 1048576: true; the input reads as it did. -/
def fnJoinManyUptoRow : OpenClaim := { program := "ytonhnmpgikmlpaa", sum := "2459137a826c02532d11211d915cd307fb64863065838893cc0bd7502b0f7485", func := "loop.example/mirrorgrids/laws.FnJoinMany", spec := "fnJoinMany", inPlace := ["internal/bytealg.IndexByteString", "internal/bytealg.IndexString", "slices.overlaps[int]"], unfollowed := true, recurses := true, named := ["internal/bytealg.MaxLen"], plainKeys := false, apart := false, narrowed := true }
def FnJoinManyUptoSaid : Prop := fnJoinManyUptoRow.holds Try.pinned (OpenSpec.upto fnJoinManySpec)

/-- 'laws.FnJoinBeside', WHERE WHAT IT READS IS OF BULK AT MOST 1048576: true; the input reads as it did. -/
def fnJoinBesideUptoRow : OpenClaim := { program := "ytonhnmpgikmlpaa", sum := "2459137a826c02532d11211d915cd307fb64863065838893cc0bd7502b0f7485", func := "loop.example/mirrorgrids/laws.FnJoinBeside", spec := "fnJoinBeside", inPlace := ["internal/bytealg.IndexByteString", "internal/bytealg.IndexString", "slices.overlaps[int]"], unfollowed := true, recurses := true, named := ["internal/bytealg.MaxLen"], plainKeys := false, apart := false, narrowed := true }
def FnJoinBesideUptoSaid : Prop := fnJoinBesideUptoRow.holds Try.pinned (OpenSpec.upto fnJoinBesideSpec)

/-- 'laws.FnPart', WHERE WHAT IT READS IS OF BULK AT MOST 1048576: true; the input reads as it did. -/
def fnPartUptoRow : OpenClaim := { program := "ytonhnmpgikmlpaa", sum := "2459137a826c02532d11211d915cd307fb64863065838893cc0bd7502b0f7485", func := "loop.example/mirrorgrids/laws.FnPart", spec := "fnPart", inPlace := ["internal/bytealg.IndexByteString", "internal/bytealg.IndexString"], unfollowed := true, recurses := true, named := ["internal/bytealg.MaxLen"], plainKeys := false, apart := false, narrowed := true }
def FnPartUptoSaid : Prop := fnPartUptoRow.holds Try.pinned (OpenSpec.upto fnPartSpec)

/-- 'laws.FnJoin', WHERE WHAT IT READS IS OF BULK AT MOST 1048576: true; the input reads as it did. -/
def fnJoinUptoRow : OpenClaim := { program := "ytonhnmpgikmlpaa", sum := "2459137a826c02532d11211d915cd307fb64863065838893cc0bd7502b0f7485", func := "loop.example/mirrorgrids/laws.FnJoin", spec := "fnJoin", inPlace := ["slices.overlaps[int]"], plainKeys := false, apart := false, narrowed := true }
def FnJoinUptoSaid : Prop := fnJoinUptoRow.holds Try.pinned (OpenSpec.upto fnJoinSpec)

/-- 'laws.FnJoinRounds', WHERE WHAT IT READS IS OF BULK AT MOST 1048576: true; the input reads as it did. -/
def fnJoinRoundsUptoRow : OpenClaim := { program := "ytonhnmpgikmlpaa", sum := "2459137a826c02532d11211d915cd307fb64863065838893cc0bd7502b0f7485", func := "loop.example/mirrorgrids/laws.FnJoinRounds", spec := "fnJoinRounds", inPlace := ["slices.overlaps[int]"], plainKeys := false, apart := false, narrowed := true }
def FnJoinRoundsUptoSaid : Prop := fnJoinRoundsUptoRow.holds Try.pinned (OpenSpec.upto fnJoinRoundsSpec)

end Rows
end Go.Proofs.Ytonhnmpgikmlpaa
