/-
  No cell of these rows narrows 'for every input' (looked for: loops, veiled, ifaces, maps, wideKeys, modest, calm, conditions, laid).
  DERIVED. THE GIVEN ROWS OF THIS SEAT. 9 by the template 'for every input the law returns true; each argument reads behind the call as it read before'; 0 by the template 'total and deterministic' (their statements: YtkooahfpogcmiaaTotals.lean).
  GIVEN WITH THE SEED: the statements are not yours to turn. If you find one false, say at which input.
  Laid BY PROGRAM, IN A SANDBOX (cutbox-rows.mjs): the forced cells as the released guide's own fill.sh prints them over the translation 0c3bed2dee139625… (all of the seat's roots in one cut). By AI agents, Wed Nov 11 2026. No macro, syntax, notation, axiom, sorry.
-/
import Derived.Test.YtkooahfpogcmiaaChecked
import GoSem.Claim
import GoSem.ClaimJoined
import GoSem.ClaimMapViews
import Derived.JoinedTies
import Derived.KernelRfl
namespace Go.Proofs.Ytkooahfpogcmiaa
/- THE CELL 'sum', in the pinned program and in every row, IS THE sha256 OF THE DUMP (.gsa) THAT YtkooahfpogcmiaaProg.lean LOADS. Nothing in Lean hashes anything: it is a label: what it is worth is what the hold of that sum in a sandbox is worth. -/
noncomputable def Try.pinned : Pinned := { name := "ytkooahfpogcmiaa", sum := "0c3bed2dee139625ff4c2104ee99b4fa426a9b34cdfe072bb1a36def4423861f", checked := Try.checked }
namespace Rows
def none {H : Type} : Left H := { results := [], args := [] }

/-- 'laws.FnJoinChords': WHATEVER THE INPUT: true; the input reads as it did. -/
def fnJoinChordsSpec : ChangeSpec := { name := "fnJoinChords", fn := fun _ => fun
  | [d] => { results := [.lit (.bool true)], args := [d] }
  | _ => none }
def fnJoinChordsRow : OpenClaim := { program := "ytkooahfpogcmiaa", sum := "0c3bed2dee139625ff4c2104ee99b4fa426a9b34cdfe072bb1a36def4423861f", func := "loop.example/mirrorgrids/laws.FnJoinChords", spec := "fnJoinChords", inPlace := ["slices.overlaps[int]"], apart := false }
def FnJoinChordsSaid : Prop := fnJoinChordsRow.holds Try.pinned (OpenSpec.ofChange fnJoinChordsSpec)

/-- ITS FALSE NEIGHBOUR: 'it returns false'. Refute it at one input. -/
def fnJoinChordsWrong : ChangeSpec := { name := "fnJoinChords", fn := fun _ => fun
  | [d] => { results := [.lit (.bool false)], args := [d] }
  | _ => none }
def FnJoinChordsWrongFalsely : Prop := fnJoinChordsRow.holds Try.pinned (OpenSpec.ofChange fnJoinChordsWrong)

/-- 'laws.FnExactJoinPairs': WHATEVER THE INPUT: true; the input reads as it did. -/
def fnExactJoinPairsSpec : ChangeSpec := { name := "fnExactJoinPairs", fn := fun _ => fun
  | [d1, d2, d3, d4, d5] => { results := [.lit (.bool true)], args := [d1, d2, d3, d4, d5] }
  | _ => none }
def fnExactJoinPairsRow : OpenClaim := { program := "ytkooahfpogcmiaa", sum := "0c3bed2dee139625ff4c2104ee99b4fa426a9b34cdfe072bb1a36def4423861f", func := "loop.example/mirrorgrids/laws.FnExactJoinPairs", spec := "fnExactJoinPairs", inPlace := ["slices.overlaps[int]"], apart := false }
def FnExactJoinPairsSaid : Prop := fnExactJoinPairsRow.holds Try.pinned (OpenSpec.ofChange fnExactJoinPairsSpec)

/-- ITS FALSE NEIGHBOUR: 'it returns false'. Refute it at one input. -/
def fnExactJoinPairsWrong : ChangeSpec := { name := "fnExactJoinPairs", fn := fun _ => fun
  | [d1, d2, d3, d4, d5] => { results := [.lit (.bool false)], args := [d1, d2, d3, d4, d5] }
  | _ => none }
def FnExactJoinPairsWrongFalsely : Prop := fnExactJoinPairsRow.holds Try.pinned (OpenSpec.ofChange fnExactJoinPairsWrong)

/-- 'laws.FnExactJoinRounds': WHATEVER THE INPUT: true; the input reads as it did. -/
def fnExactJoinRoundsSpec : ChangeSpec := { name := "fnExactJoinRounds", fn := fun _ => fun
  | [d1, d2, d3, d4, d5] => { results := [.lit (.bool true)], args := [d1, d2, d3, d4, d5] }
  | _ => none }
def fnExactJoinRoundsRow : OpenClaim := { program := "ytkooahfpogcmiaa", sum := "0c3bed2dee139625ff4c2104ee99b4fa426a9b34cdfe072bb1a36def4423861f", func := "loop.example/mirrorgrids/laws.FnExactJoinRounds", spec := "fnExactJoinRounds", inPlace := ["slices.overlaps[int]"], apart := false }
def FnExactJoinRoundsSaid : Prop := fnExactJoinRoundsRow.holds Try.pinned (OpenSpec.ofChange fnExactJoinRoundsSpec)

/-- ITS FALSE NEIGHBOUR: 'it returns false'. Refute it at one input. -/
def fnExactJoinRoundsWrong : ChangeSpec := { name := "fnExactJoinRounds", fn := fun _ => fun
  | [d1, d2, d3, d4, d5] => { results := [.lit (.bool false)], args := [d1, d2, d3, d4, d5] }
  | _ => none }
def FnExactJoinRoundsWrongFalsely : Prop := fnExactJoinRoundsRow.holds Try.pinned (OpenSpec.ofChange fnExactJoinRoundsWrong)

/-- 'laws.FnExactJoinFlip': WHATEVER THE INPUT: true; the input reads as it did. -/
def fnExactJoinFlipSpec : ChangeSpec := { name := "fnExactJoinFlip", fn := fun _ => fun
  | [d1, d2, d3] => { results := [.lit (.bool true)], args := [d1, d2, d3] }
  | _ => none }
def fnExactJoinFlipRow : OpenClaim := { program := "ytkooahfpogcmiaa", sum := "0c3bed2dee139625ff4c2104ee99b4fa426a9b34cdfe072bb1a36def4423861f", func := "loop.example/mirrorgrids/laws.FnExactJoinFlip", spec := "fnExactJoinFlip", apart := false }
def FnExactJoinFlipSaid : Prop := fnExactJoinFlipRow.holds Try.pinned (OpenSpec.ofChange fnExactJoinFlipSpec)

/-- ITS FALSE NEIGHBOUR: 'it returns false'. Refute it at one input. -/
def fnExactJoinFlipWrong : ChangeSpec := { name := "fnExactJoinFlip", fn := fun _ => fun
  | [d1, d2, d3] => { results := [.lit (.bool false)], args := [d1, d2, d3] }
  | _ => none }
def FnExactJoinFlipWrongFalsely : Prop := fnExactJoinFlipRow.holds Try.pinned (OpenSpec.ofChange fnExactJoinFlipWrong)

/-- 'laws.FnExactJoinTurn': WHATEVER THE INPUT: true; the input reads as it did. -/
def fnExactJoinTurnSpec : ChangeSpec := { name := "fnExactJoinTurn", fn := fun _ => fun
  | [d1, d2, d3] => { results := [.lit (.bool true)], args := [d1, d2, d3] }
  | _ => none }
def fnExactJoinTurnRow : OpenClaim := { program := "ytkooahfpogcmiaa", sum := "0c3bed2dee139625ff4c2104ee99b4fa426a9b34cdfe072bb1a36def4423861f", func := "loop.example/mirrorgrids/laws.FnExactJoinTurn", spec := "fnExactJoinTurn", apart := false }
def FnExactJoinTurnSaid : Prop := fnExactJoinTurnRow.holds Try.pinned (OpenSpec.ofChange fnExactJoinTurnSpec)

/-- ITS FALSE NEIGHBOUR: 'it returns false'. Refute it at one input. -/
def fnExactJoinTurnWrong : ChangeSpec := { name := "fnExactJoinTurn", fn := fun _ => fun
  | [d1, d2, d3] => { results := [.lit (.bool false)], args := [d1, d2, d3] }
  | _ => none }
def FnExactJoinTurnWrongFalsely : Prop := fnExactJoinTurnRow.holds Try.pinned (OpenSpec.ofChange fnExactJoinTurnWrong)

/-- 'laws.FnExactJoinGrid': WHATEVER THE INPUT: true; the input reads as it did. -/
def fnExactJoinGridSpec : ChangeSpec := { name := "fnExactJoinGrid", fn := fun _ => fun
  | [d] => { results := [.lit (.bool true)], args := [d] }
  | _ => none }
def fnExactJoinGridRow : OpenClaim := { program := "ytkooahfpogcmiaa", sum := "0c3bed2dee139625ff4c2104ee99b4fa426a9b34cdfe072bb1a36def4423861f", func := "loop.example/mirrorgrids/laws.FnExactJoinGrid", spec := "fnExactJoinGrid", inPlace := ["internal/bytealg.IndexByteString", "internal/bytealg.IndexString", "slices.overlaps[int]"], unfollowed := true, recurses := true, named := ["internal/bytealg.MaxLen"], apart := false }
def FnExactJoinGridSaid : Prop := fnExactJoinGridRow.holds Try.pinned (OpenSpec.ofChange fnExactJoinGridSpec)

/-- ITS FALSE NEIGHBOUR: 'it returns false'. Refute it at one input. -/
def fnExactJoinGridWrong : ChangeSpec := { name := "fnExactJoinGrid", fn := fun _ => fun
  | [d] => { results := [.lit (.bool false)], args := [d] }
  | _ => none }
def FnExactJoinGridWrongFalsely : Prop := fnExactJoinGridRow.holds Try.pinned (OpenSpec.ofChange fnExactJoinGridWrong)

/-- 'laws.FnExactJoinMany': WHATEVER THE INPUT: true; the input reads as it did. -/
def fnExactJoinManySpec : ChangeSpec := { name := "fnExactJoinMany", fn := fun _ => fun
  | [d] => { results := [.lit (.bool true)], args := [d] }
  | _ => none }
def fnExactJoinManyRow : OpenClaim := { program := "ytkooahfpogcmiaa", sum := "0c3bed2dee139625ff4c2104ee99b4fa426a9b34cdfe072bb1a36def4423861f", func := "loop.example/mirrorgrids/laws.FnExactJoinMany", spec := "fnExactJoinMany", inPlace := ["internal/bytealg.IndexByteString", "internal/bytealg.IndexString", "slices.overlaps[int]"], unfollowed := true, recurses := true, named := ["internal/bytealg.MaxLen"], apart := false }
def FnExactJoinManySaid : Prop := fnExactJoinManyRow.holds Try.pinned (OpenSpec.ofChange fnExactJoinManySpec)

/-- ITS FALSE NEIGHBOUR: 'it returns false'. Refute it at one input. -/
def fnExactJoinManyWrong : ChangeSpec := { name := "fnExactJoinMany", fn := fun _ => fun
  | [d] => { results := [.lit (.bool false)], args := [d] }
  | _ => none }
def FnExactJoinManyWrongFalsely : Prop := fnExactJoinManyRow.holds Try.pinned (OpenSpec.ofChange fnExactJoinManyWrong)

/-- 'laws.FnExactJoinUnit': WHATEVER THE INPUT: true; the input reads as it did. -/
def fnExactJoinUnitSpec : ChangeSpec := { name := "fnExactJoinUnit", fn := fun _ => fun
  | [d1, d2] => { results := [.lit (.bool true)], args := [d1, d2] }
  | _ => none }
def fnExactJoinUnitRow : OpenClaim := { program := "ytkooahfpogcmiaa", sum := "0c3bed2dee139625ff4c2104ee99b4fa426a9b34cdfe072bb1a36def4423861f", func := "loop.example/mirrorgrids/laws.FnExactJoinUnit", spec := "fnExactJoinUnit", apart := false }
def FnExactJoinUnitSaid : Prop := fnExactJoinUnitRow.holds Try.pinned (OpenSpec.ofChange fnExactJoinUnitSpec)

/-- ITS FALSE NEIGHBOUR: 'it returns false'. Refute it at one input. -/
def fnExactJoinUnitWrong : ChangeSpec := { name := "fnExactJoinUnit", fn := fun _ => fun
  | [d1, d2] => { results := [.lit (.bool false)], args := [d1, d2] }
  | _ => none }
def FnExactJoinUnitWrongFalsely : Prop := fnExactJoinUnitRow.holds Try.pinned (OpenSpec.ofChange fnExactJoinUnitWrong)

/-- 'laws.FnExactJoinClose': WHATEVER THE INPUT: true; the input reads as it did. -/
def fnExactJoinCloseSpec : ChangeSpec := { name := "fnExactJoinClose", fn := fun _ => fun
  | [d1, d2, d3] => { results := [.lit (.bool true)], args := [d1, d2, d3] }
  | _ => none }
def fnExactJoinCloseRow : OpenClaim := { program := "ytkooahfpogcmiaa", sum := "0c3bed2dee139625ff4c2104ee99b4fa426a9b34cdfe072bb1a36def4423861f", func := "loop.example/mirrorgrids/laws.FnExactJoinClose", spec := "fnExactJoinClose", apart := false }
def FnExactJoinCloseSaid : Prop := fnExactJoinCloseRow.holds Try.pinned (OpenSpec.ofChange fnExactJoinCloseSpec)

/-- ITS FALSE NEIGHBOUR: 'it returns false'. Refute it at one input. -/
def fnExactJoinCloseWrong : ChangeSpec := { name := "fnExactJoinClose", fn := fun _ => fun
  | [d1, d2, d3] => { results := [.lit (.bool false)], args := [d1, d2, d3] }
  | _ => none }
def FnExactJoinCloseWrongFalsely : Prop := fnExactJoinCloseRow.holds Try.pinned (OpenSpec.ofChange fnExactJoinCloseWrong)

/- THE SECOND FORM. 'bulk': how many values and letters a reading holds, each counted each time it is reached (what is shared counts as often as it is met; a slice's spare places count too). A statement '..UptoSaid' is the law's where the arguments, and the package variables that the reading takes, are together of bulk at most 1048576: NARROWER than '..Said'. Prove '..Said' where nothing that the law and all that it calls make is longer than what came in: it says more and counts as full. Else prove '..UptoSaid'. A law counts once. -/
mutual
def uptoBulk {H : Type} : DataW H → Nat
  | .lit (.string bytes) => bytes.length + 1
  | .lit _ => 1
  | .nil => 1
  | .ptr d => uptoBulk d + 1
  | .slice elems spare => uptoBulkAll elems + uptoBulkAll spare + 1
  | .agg parts => uptoBulkAll parts + 1
  | .iface _ d => uptoBulk d + 1
  | .map entries => uptoBulkEntries entries + 1
  | .held _ => 1
def uptoBulkAll {H : Type} : List (DataW H) → Nat
  | [] => 0
  | d :: r => uptoBulk d + uptoBulkAll r
def uptoBulkEntries {H : Type} : List (Lit × DataW H) → Nat
  | [] => 0
  | x :: r => uptoBulkEntry x + uptoBulkEntries r
def uptoBulkEntry {H : Type} : Lit × DataW H → Nat
  | (.string bytes, d) => bytes.length + uptoBulk d + 1
  | (_, d) => uptoBulk d + 1
 end
def uptoSmall : (H : Type) → List (DataW H) → Bool := fun _ ds => decide (uptoBulkAll ds ≤ 1048576)
def OpenSpec.upto (s : _root_.Go.ChangeSpec) : _root_.Go.OpenSpec := { _root_.Go.OpenSpec.ofChange s with cond := some uptoSmall }

/-- 'laws.FnJoinChords', WHERE WHAT IT READS IS OF BULK AT MOST 1048576: true; the input reads as it did. -/
def fnJoinChordsUptoRow : OpenClaim := { program := "ytkooahfpogcmiaa", sum := "0c3bed2dee139625ff4c2104ee99b4fa426a9b34cdfe072bb1a36def4423861f", func := "loop.example/mirrorgrids/laws.FnJoinChords", spec := "fnJoinChords", inPlace := ["slices.overlaps[int]"], apart := false, narrowed := true }
def FnJoinChordsUptoSaid : Prop := fnJoinChordsUptoRow.holds Try.pinned (OpenSpec.upto fnJoinChordsSpec)

/-- 'laws.FnExactJoinPairs', WHERE WHAT IT READS IS OF BULK AT MOST 1048576: true; the input reads as it did. -/
def fnExactJoinPairsUptoRow : OpenClaim := { program := "ytkooahfpogcmiaa", sum := "0c3bed2dee139625ff4c2104ee99b4fa426a9b34cdfe072bb1a36def4423861f", func := "loop.example/mirrorgrids/laws.FnExactJoinPairs", spec := "fnExactJoinPairs", inPlace := ["slices.overlaps[int]"], apart := false, narrowed := true }
def FnExactJoinPairsUptoSaid : Prop := fnExactJoinPairsUptoRow.holds Try.pinned (OpenSpec.upto fnExactJoinPairsSpec)

/-- 'laws.FnExactJoinRounds', WHERE WHAT IT READS IS OF BULK AT MOST 1048576: true; the input reads as it did. -/
def fnExactJoinRoundsUptoRow : OpenClaim := { program := "ytkooahfpogcmiaa", sum := "0c3bed2dee139625ff4c2104ee99b4fa426a9b34cdfe072bb1a36def4423861f", func := "loop.example/mirrorgrids/laws.FnExactJoinRounds", spec := "fnExactJoinRounds", inPlace := ["slices.overlaps[int]"], apart := false, narrowed := true }
def FnExactJoinRoundsUptoSaid : Prop := fnExactJoinRoundsUptoRow.holds Try.pinned (OpenSpec.upto fnExactJoinRoundsSpec)

/-- 'laws.FnExactJoinFlip', WHERE WHAT IT READS IS OF BULK AT MOST 1048576: true; the input reads as it did. -/
def fnExactJoinFlipUptoRow : OpenClaim := { program := "ytkooahfpogcmiaa", sum := "0c3bed2dee139625ff4c2104ee99b4fa426a9b34cdfe072bb1a36def4423861f", func := "loop.example/mirrorgrids/laws.FnExactJoinFlip", spec := "fnExactJoinFlip", apart := false, narrowed := true }
def FnExactJoinFlipUptoSaid : Prop := fnExactJoinFlipUptoRow.holds Try.pinned (OpenSpec.upto fnExactJoinFlipSpec)

/-- 'laws.FnExactJoinTurn', WHERE WHAT IT READS IS OF BULK AT MOST 1048576: true; the input reads as it did. -/
def fnExactJoinTurnUptoRow : OpenClaim := { program := "ytkooahfpogcmiaa", sum := "0c3bed2dee139625ff4c2104ee99b4fa426a9b34cdfe072bb1a36def4423861f", func := "loop.example/mirrorgrids/laws.FnExactJoinTurn", spec := "fnExactJoinTurn", apart := false, narrowed := true }
def FnExactJoinTurnUptoSaid : Prop := fnExactJoinTurnUptoRow.holds Try.pinned (OpenSpec.upto fnExactJoinTurnSpec)

/-- 'laws.FnExactJoinGrid', WHERE WHAT IT READS IS OF BULK AT MOST 1048576: true; the input reads as it did. -/
def fnExactJoinGridUptoRow : OpenClaim := { program := "ytkooahfpogcmiaa", sum := "0c3bed2dee139625ff4c2104ee99b4fa426a9b34cdfe072bb1a36def4423861f", func := "loop.example/mirrorgrids/laws.FnExactJoinGrid", spec := "fnExactJoinGrid", inPlace := ["internal/bytealg.IndexByteString", "internal/bytealg.IndexString", "slices.overlaps[int]"], unfollowed := true, recurses := true, named := ["internal/bytealg.MaxLen"], apart := false, narrowed := true }
def FnExactJoinGridUptoSaid : Prop := fnExactJoinGridUptoRow.holds Try.pinned (OpenSpec.upto fnExactJoinGridSpec)

/-- 'laws.FnExactJoinMany', WHERE WHAT IT READS IS OF BULK AT MOST 1048576: true; the input reads as it did. -/
def fnExactJoinManyUptoRow : OpenClaim := { program := "ytkooahfpogcmiaa", sum := "0c3bed2dee139625ff4c2104ee99b4fa426a9b34cdfe072bb1a36def4423861f", func := "loop.example/mirrorgrids/laws.FnExactJoinMany", spec := "fnExactJoinMany", inPlace := ["internal/bytealg.IndexByteString", "internal/bytealg.IndexString", "slices.overlaps[int]"], unfollowed := true, recurses := true, named := ["internal/bytealg.MaxLen"], apart := false, narrowed := true }
def FnExactJoinManyUptoSaid : Prop := fnExactJoinManyUptoRow.holds Try.pinned (OpenSpec.upto fnExactJoinManySpec)

/-- 'laws.FnExactJoinUnit', WHERE WHAT IT READS IS OF BULK AT MOST 1048576: true; the input reads as it did. -/
def fnExactJoinUnitUptoRow : OpenClaim := { program := "ytkooahfpogcmiaa", sum := "0c3bed2dee139625ff4c2104ee99b4fa426a9b34cdfe072bb1a36def4423861f", func := "loop.example/mirrorgrids/laws.FnExactJoinUnit", spec := "fnExactJoinUnit", apart := false, narrowed := true }
def FnExactJoinUnitUptoSaid : Prop := fnExactJoinUnitUptoRow.holds Try.pinned (OpenSpec.upto fnExactJoinUnitSpec)

/-- 'laws.FnExactJoinClose', WHERE WHAT IT READS IS OF BULK AT MOST 1048576: true; the input reads as it did. -/
def fnExactJoinCloseUptoRow : OpenClaim := { program := "ytkooahfpogcmiaa", sum := "0c3bed2dee139625ff4c2104ee99b4fa426a9b34cdfe072bb1a36def4423861f", func := "loop.example/mirrorgrids/laws.FnExactJoinClose", spec := "fnExactJoinClose", apart := false, narrowed := true }
def FnExactJoinCloseUptoSaid : Prop := fnExactJoinCloseUptoRow.holds Try.pinned (OpenSpec.upto fnExactJoinCloseSpec)

end Rows
end Go.Proofs.Ytkooahfpogcmiaa
