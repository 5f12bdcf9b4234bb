/-
  No cell of these rows narrows 'for every input' (looked for: loops, veiled, ifaces, maps, wideKeys, modest, calm, conditions, laid).
  DERIVED. THE GIVEN ROWS OF THIS SEAT. 10 by the template 'for every input the law returns true; each argument reads behind the call as it read before'; 0 by the template 'total and deterministic' (their statements: YtagnecclhmbofaaTotals.lean).
  GIVEN WITH THE SEED: the statements are not yours to turn. If you find one false, say at which input.
  Laid BY PROGRAM, IN A SANDBOX (cutbox-rows.mjs): the forced cells as the released guide's own fill.sh prints them over the translation 53a5ecdbed8f5327… (all of the seat's roots in one cut). By AI agents, Wed Nov 11 2026. No macro, syntax, notation, axiom, sorry.
-/
import Derived.Test.YtagnecclhmbofaaChecked
import GoSem.Claim
import GoSem.ClaimJoined
import GoSem.ClaimMapViews
import Derived.JoinedTies
import Derived.KernelRfl
namespace Go.Proofs.Ytagnecclhmbofaa
/- THE CELL 'sum', in the pinned program and in every row, IS THE sha256 OF THE DUMP (.gsa) THAT YtagnecclhmbofaaProg.lean LOADS. Nothing in Lean hashes anything: it is a label: what it is worth is what the hold of that sum in a sandbox is worth. -/
noncomputable def Try.pinned : Pinned := { name := "ytagnecclhmbofaa", sum := "53a5ecdbed8f5327ee124dcc23ad463db949e1ab166691e6dbc3395b33a12d52", checked := Try.checked }
namespace Rows
def none {H : Type} : Left H := { results := [], args := [] }

/-- 'laws.FnExactBeamTwice': WHATEVER THE INPUT: true; the input reads as it did. -/
def fnExactBeamTwiceSpec : ChangeSpec := { name := "fnExactBeamTwice", fn := fun _ => fun
  | [d1, d2] => { results := [.lit (.bool true)], args := [d1, d2] }
  | _ => none }
def fnExactBeamTwiceRow : OpenClaim := { program := "ytagnecclhmbofaa", sum := "53a5ecdbed8f5327ee124dcc23ad463db949e1ab166691e6dbc3395b33a12d52", func := "loop.example/mirrorgrids/laws.FnExactBeamTwice", spec := "fnExactBeamTwice", inPlace := ["internal/bytealg.IndexByteString", "internal/bytealg.IndexString"], unfollowed := true, recurses := true, named := ["internal/bytealg.MaxLen"], plainKeys := false, apart := false }
def FnExactBeamTwiceSaid : Prop := fnExactBeamTwiceRow.holds Try.pinned (OpenSpec.ofChange fnExactBeamTwiceSpec)

/-- ITS FALSE NEIGHBOUR: 'it returns false'. Refute it at one input. -/
def fnExactBeamTwiceWrong : ChangeSpec := { name := "fnExactBeamTwice", fn := fun _ => fun
  | [d1, d2] => { results := [.lit (.bool false)], args := [d1, d2] }
  | _ => none }
def FnExactBeamTwiceWrongFalsely : Prop := fnExactBeamTwiceRow.holds Try.pinned (OpenSpec.ofChange fnExactBeamTwiceWrong)

/-- 'laws.FnExactBeamMeets': WHATEVER THE INPUT: true; the input reads as it did. -/
def fnExactBeamMeetsSpec : ChangeSpec := { name := "fnExactBeamMeets", fn := fun _ => fun
  | [d1, d2, d3] => { results := [.lit (.bool true)], args := [d1, d2, d3] }
  | _ => none }
def fnExactBeamMeetsRow : OpenClaim := { program := "ytagnecclhmbofaa", sum := "53a5ecdbed8f5327ee124dcc23ad463db949e1ab166691e6dbc3395b33a12d52", func := "loop.example/mirrorgrids/laws.FnExactBeamMeets", spec := "fnExactBeamMeets", inPlace := ["internal/bytealg.IndexByteString", "internal/bytealg.IndexString"], unfollowed := true, recurses := true, named := ["internal/bytealg.MaxLen"], plainKeys := false, apart := false }
def FnExactBeamMeetsSaid : Prop := fnExactBeamMeetsRow.holds Try.pinned (OpenSpec.ofChange fnExactBeamMeetsSpec)

/-- ITS FALSE NEIGHBOUR: 'it returns false'. Refute it at one input. -/
def fnExactBeamMeetsWrong : ChangeSpec := { name := "fnExactBeamMeets", fn := fun _ => fun
  | [d1, d2, d3] => { results := [.lit (.bool false)], args := [d1, d2, d3] }
  | _ => none }
def FnExactBeamMeetsWrongFalsely : Prop := fnExactBeamMeetsRow.holds Try.pinned (OpenSpec.ofChange fnExactBeamMeetsWrong)

/-- 'laws.FnExactCrossBetween': WHATEVER THE INPUT: true; the input reads as it did. -/
def fnExactCrossBetweenSpec : ChangeSpec := { name := "fnExactCrossBetween", fn := fun _ => fun
  | [d1, d2, d3] => { results := [.lit (.bool true)], args := [d1, d2, d3] }
  | _ => none }
def fnExactCrossBetweenRow : OpenClaim := { program := "ytagnecclhmbofaa", sum := "53a5ecdbed8f5327ee124dcc23ad463db949e1ab166691e6dbc3395b33a12d52", func := "loop.example/mirrorgrids/laws.FnExactCrossBetween", spec := "fnExactCrossBetween", inPlace := ["internal/bytealg.IndexByteString", "internal/bytealg.IndexString"], unfollowed := true, recurses := true, named := ["internal/bytealg.MaxLen"], plainKeys := false, apart := false }
def FnExactCrossBetweenSaid : Prop := fnExactCrossBetweenRow.holds Try.pinned (OpenSpec.ofChange fnExactCrossBetweenSpec)

/-- ITS FALSE NEIGHBOUR: 'it returns false'. Refute it at one input. -/
def fnExactCrossBetweenWrong : ChangeSpec := { name := "fnExactCrossBetween", fn := fun _ => fun
  | [d1, d2, d3] => { results := [.lit (.bool false)], args := [d1, d2, d3] }
  | _ => none }
def FnExactCrossBetweenWrongFalsely : Prop := fnExactCrossBetweenRow.holds Try.pinned (OpenSpec.ofChange fnExactCrossBetweenWrong)

/-- 'laws.FnExactCrossSelf': WHATEVER THE INPUT: true; the input reads as it did. -/
def fnExactCrossSelfSpec : ChangeSpec := { name := "fnExactCrossSelf", fn := fun _ => fun
  | [d1, d2] => { results := [.lit (.bool true)], args := [d1, d2] }
  | _ => none }
def fnExactCrossSelfRow : OpenClaim := { program := "ytagnecclhmbofaa", sum := "53a5ecdbed8f5327ee124dcc23ad463db949e1ab166691e6dbc3395b33a12d52", func := "loop.example/mirrorgrids/laws.FnExactCrossSelf", spec := "fnExactCrossSelf", inPlace := ["internal/bytealg.IndexByteString", "internal/bytealg.IndexString"], unfollowed := true, recurses := true, named := ["internal/bytealg.MaxLen"], plainKeys := false, apart := false }
def FnExactCrossSelfSaid : Prop := fnExactCrossSelfRow.holds Try.pinned (OpenSpec.ofChange fnExactCrossSelfSpec)

/-- ITS FALSE NEIGHBOUR: 'it returns false'. Refute it at one input. -/
def fnExactCrossSelfWrong : ChangeSpec := { name := "fnExactCrossSelf", fn := fun _ => fun
  | [d1, d2] => { results := [.lit (.bool false)], args := [d1, d2] }
  | _ => none }
def FnExactCrossSelfWrongFalsely : Prop := fnExactCrossSelfRow.holds Try.pinned (OpenSpec.ofChange fnExactCrossSelfWrong)

/-- 'laws.FnExactCrossIn': WHATEVER THE INPUT: true; the input reads as it did. -/
def fnExactCrossInSpec : ChangeSpec := { name := "fnExactCrossIn", fn := fun _ => fun
  | [d] => { results := [.lit (.bool true)], args := [d] }
  | _ => none }
def fnExactCrossInRow : OpenClaim := { program := "ytagnecclhmbofaa", sum := "53a5ecdbed8f5327ee124dcc23ad463db949e1ab166691e6dbc3395b33a12d52", func := "loop.example/mirrorgrids/laws.FnExactCrossIn", spec := "fnExactCrossIn", plainKeys := false, apart := false }
def FnExactCrossInSaid : Prop := fnExactCrossInRow.holds Try.pinned (OpenSpec.ofChange fnExactCrossInSpec)

/-- ITS FALSE NEIGHBOUR: 'it returns false'. Refute it at one input. -/
def fnExactCrossInWrong : ChangeSpec := { name := "fnExactCrossIn", fn := fun _ => fun
  | [d] => { results := [.lit (.bool false)], args := [d] }
  | _ => none }
def FnExactCrossInWrongFalsely : Prop := fnExactCrossInRow.holds Try.pinned (OpenSpec.ofChange fnExactCrossInWrong)

/-- 'laws.FnExactCrossChords': WHATEVER THE INPUT: true; the input reads as it did. -/
def fnExactCrossChordsSpec : ChangeSpec := { name := "fnExactCrossChords", fn := fun _ => fun
  | [d] => { results := [.lit (.bool true)], args := [d] }
  | _ => none }
def fnExactCrossChordsRow : OpenClaim := { program := "ytagnecclhmbofaa", sum := "53a5ecdbed8f5327ee124dcc23ad463db949e1ab166691e6dbc3395b33a12d52", func := "loop.example/mirrorgrids/laws.FnExactCrossChords", spec := "fnExactCrossChords", plainKeys := false, apart := false }
def FnExactCrossChordsSaid : Prop := fnExactCrossChordsRow.holds Try.pinned (OpenSpec.ofChange fnExactCrossChordsSpec)

/-- ITS FALSE NEIGHBOUR: 'it returns false'. Refute it at one input. -/
def fnExactCrossChordsWrong : ChangeSpec := { name := "fnExactCrossChords", fn := fun _ => fun
  | [d] => { results := [.lit (.bool false)], args := [d] }
  | _ => none }
def FnExactCrossChordsWrongFalsely : Prop := fnExactCrossChordsRow.holds Try.pinned (OpenSpec.ofChange fnExactCrossChordsWrong)

/-- 'laws.FnExactCrossTotal': WHATEVER THE INPUT: true; the input reads as it did. -/
def fnExactCrossTotalSpec : ChangeSpec := { name := "fnExactCrossTotal", fn := fun _ => fun
  | [d] => { results := [.lit (.bool true)], args := [d] }
  | _ => none }
def fnExactCrossTotalRow : OpenClaim := { program := "ytagnecclhmbofaa", sum := "53a5ecdbed8f5327ee124dcc23ad463db949e1ab166691e6dbc3395b33a12d52", func := "loop.example/mirrorgrids/laws.FnExactCrossTotal", spec := "fnExactCrossTotal", inPlace := ["internal/bytealg.IndexByteString", "internal/bytealg.IndexString"], unfollowed := true, recurses := true, named := ["internal/bytealg.MaxLen"], plainKeys := false, apart := false }
def FnExactCrossTotalSaid : Prop := fnExactCrossTotalRow.holds Try.pinned (OpenSpec.ofChange fnExactCrossTotalSpec)

/-- ITS FALSE NEIGHBOUR: 'it returns false'. Refute it at one input. -/
def fnExactCrossTotalWrong : ChangeSpec := { name := "fnExactCrossTotal", fn := fun _ => fun
  | [d] => { results := [.lit (.bool false)], args := [d] }
  | _ => none }
def FnExactCrossTotalWrongFalsely : Prop := fnExactCrossTotalRow.holds Try.pinned (OpenSpec.ofChange fnExactCrossTotalWrong)

/-- 'laws.FnExactCrossBeams': WHATEVER THE INPUT: true; the input reads as it did. -/
def fnExactCrossBeamsSpec : ChangeSpec := { name := "fnExactCrossBeams", fn := fun _ => fun
  | [d] => { results := [.lit (.bool true)], args := [d] }
  | _ => none }
def fnExactCrossBeamsRow : OpenClaim := { program := "ytagnecclhmbofaa", sum := "53a5ecdbed8f5327ee124dcc23ad463db949e1ab166691e6dbc3395b33a12d52", func := "loop.example/mirrorgrids/laws.FnExactCrossBeams", spec := "fnExactCrossBeams", inPlace := ["internal/bytealg.IndexByteString", "internal/bytealg.IndexString"], unfollowed := true, recurses := true, named := ["internal/bytealg.MaxLen"], plainKeys := false, apart := false }
def FnExactCrossBeamsSaid : Prop := fnExactCrossBeamsRow.holds Try.pinned (OpenSpec.ofChange fnExactCrossBeamsSpec)

/-- ITS FALSE NEIGHBOUR: 'it returns false'. Refute it at one input. -/
def fnExactCrossBeamsWrong : ChangeSpec := { name := "fnExactCrossBeams", fn := fun _ => fun
  | [d] => { results := [.lit (.bool false)], args := [d] }
  | _ => none }
def FnExactCrossBeamsWrongFalsely : Prop := fnExactCrossBeamsRow.holds Try.pinned (OpenSpec.ofChange fnExactCrossBeamsWrong)

/-- 'laws.FnExactCrossTurn': WHATEVER THE INPUT: true; the input reads as it did. -/
def fnExactCrossTurnSpec : ChangeSpec := { name := "fnExactCrossTurn", fn := fun _ => fun
  | [d1, d2] => { results := [.lit (.bool true)], args := [d1, d2] }
  | _ => none }
def fnExactCrossTurnRow : OpenClaim := { program := "ytagnecclhmbofaa", sum := "53a5ecdbed8f5327ee124dcc23ad463db949e1ab166691e6dbc3395b33a12d52", func := "loop.example/mirrorgrids/laws.FnExactCrossTurn", spec := "fnExactCrossTurn", plainKeys := false, apart := false }
def FnExactCrossTurnSaid : Prop := fnExactCrossTurnRow.holds Try.pinned (OpenSpec.ofChange fnExactCrossTurnSpec)

/-- ITS FALSE NEIGHBOUR: 'it returns false'. Refute it at one input. -/
def fnExactCrossTurnWrong : ChangeSpec := { name := "fnExactCrossTurn", fn := fun _ => fun
  | [d1, d2] => { results := [.lit (.bool false)], args := [d1, d2] }
  | _ => none }
def FnExactCrossTurnWrongFalsely : Prop := fnExactCrossTurnRow.holds Try.pinned (OpenSpec.ofChange fnExactCrossTurnWrong)

/-- 'laws.FnExactCrossRounds': WHATEVER THE INPUT: true; the input reads as it did. -/
def fnExactCrossRoundsSpec : ChangeSpec := { name := "fnExactCrossRounds", fn := fun _ => fun
  | [d] => { results := [.lit (.bool true)], args := [d] }
  | _ => none }
def fnExactCrossRoundsRow : OpenClaim := { program := "ytagnecclhmbofaa", sum := "53a5ecdbed8f5327ee124dcc23ad463db949e1ab166691e6dbc3395b33a12d52", func := "loop.example/mirrorgrids/laws.FnExactCrossRounds", spec := "fnExactCrossRounds", inPlace := ["internal/bytealg.IndexByteString", "internal/bytealg.IndexString"], unfollowed := true, recurses := true, named := ["internal/bytealg.MaxLen"], plainKeys := false, apart := false }
def FnExactCrossRoundsSaid : Prop := fnExactCrossRoundsRow.holds Try.pinned (OpenSpec.ofChange fnExactCrossRoundsSpec)

/-- ITS FALSE NEIGHBOUR: 'it returns false'. Refute it at one input. -/
def fnExactCrossRoundsWrong : ChangeSpec := { name := "fnExactCrossRounds", fn := fun _ => fun
  | [d] => { results := [.lit (.bool false)], args := [d] }
  | _ => none }
def FnExactCrossRoundsWrongFalsely : Prop := fnExactCrossRoundsRow.holds Try.pinned (OpenSpec.ofChange fnExactCrossRoundsWrong)

/- THE SECOND FORM. 'bulk': how many values and letters a reading holds, each counted each time it is reached (what is shared counts as often as it is met; a slice's spare places count too). A statement '..UptoSaid' is the law's where the arguments, and the package variables that the reading takes, are together of bulk at most 1048576: NARROWER than '..Said'. Prove '..Said' where nothing that the law and all that it calls make is longer than what came in: it says more and counts as full. Else prove '..UptoSaid'. A law counts once. -/
mutual
def uptoBulk {H : Type} : DataW H → Nat
  | .lit (.string bytes) => bytes.length + 1
  | .lit _ => 1
  | .nil => 1
  | .ptr d => uptoBulk d + 1
  | .slice elems spare => uptoBulkAll elems + uptoBulkAll spare + 1
  | .agg parts => uptoBulkAll parts + 1
  | .iface _ d => uptoBulk d + 1
  | .map entries => uptoBulkEntries entries + 1
  | .held _ => 1
def uptoBulkAll {H : Type} : List (DataW H) → Nat
  | [] => 0
  | d :: r => uptoBulk d + uptoBulkAll r
def uptoBulkEntries {H : Type} : List (Lit × DataW H) → Nat
  | [] => 0
  | x :: r => uptoBulkEntry x + uptoBulkEntries r
def uptoBulkEntry {H : Type} : Lit × DataW H → Nat
  | (.string bytes, d) => bytes.length + uptoBulk d + 1
  | (_, d) => uptoBulk d + 1
 end
def uptoSmall : (H : Type) → List (DataW H) → Bool := fun _ ds => decide (uptoBulkAll ds ≤ 1048576)
def OpenSpec.upto (s : _root_.Go.ChangeSpec) : _root_.Go.OpenSpec := { _root_.Go.OpenSpec.ofChange s with cond := some uptoSmall }

/-- 'laws.FnExactBeamTwice', WHERE WHAT IT READS IS OF BULK AT MOST 1048576: true; the input reads as it did. -/
def fnExactBeamTwiceUptoRow : OpenClaim := { program := "ytagnecclhmbofaa", sum := "53a5ecdbed8f5327ee124dcc23ad463db949e1ab166691e6dbc3395b33a12d52", func := "loop.example/mirrorgrids/laws.FnExactBeamTwice", spec := "fnExactBeamTwice", inPlace := ["internal/bytealg.IndexByteString", "internal/bytealg.IndexString"], unfollowed := true, recurses := true, named := ["internal/bytealg.MaxLen"], plainKeys := false, apart := false, narrowed := true }
def FnExactBeamTwiceUptoSaid : Prop := fnExactBeamTwiceUptoRow.holds Try.pinned (OpenSpec.upto fnExactBeamTwiceSpec)

/-- 'laws.FnExactBeamMeets', WHERE WHAT IT READS IS OF BULK AT MOST 1048576: true; the input reads as it did. -/
def fnExactBeamMeetsUptoRow : OpenClaim := { program := "ytagnecclhmbofaa", sum := "53a5ecdbed8f5327ee124dcc23ad463db949e1ab166691e6dbc3395b33a12d52", func := "loop.example/mirrorgrids/laws.FnExactBeamMeets", spec := "fnExactBeamMeets", inPlace := ["internal/bytealg.IndexByteString", "internal/bytealg.IndexString"], unfollowed := true, recurses := true, named := ["internal/bytealg.MaxLen"], plainKeys := false, apart := false, narrowed := true }
def FnExactBeamMeetsUptoSaid : Prop := fnExactBeamMeetsUptoRow.holds Try.pinned (OpenSpec.upto fnExactBeamMeetsSpec)

/-- 'laws.FnExactCrossBetween', WHERE WHAT IT READS IS OF BULK AT MOST 1048576: true; the input reads as it did. -/
def fnExactCrossBetweenUptoRow : OpenClaim := { program := "ytagnecclhmbofaa", sum := "53a5ecdbed8f5327ee124dcc23ad463db949e1ab166691e6dbc3395b33a12d52", func := "loop.example/mirrorgrids/laws.FnExactCrossBetween", spec := "fnExactCrossBetween", inPlace := ["internal/bytealg.IndexByteString", "internal/bytealg.IndexString"], unfollowed := true, recurses := true, named := ["internal/bytealg.MaxLen"], plainKeys := false, apart := false, narrowed := true }
def FnExactCrossBetweenUptoSaid : Prop := fnExactCrossBetweenUptoRow.holds Try.pinned (OpenSpec.upto fnExactCrossBetweenSpec)

/-- 'laws.FnExactCrossSelf', WHERE WHAT IT READS IS OF BULK AT MOST 1048576: true; the input reads as it did. -/
def fnExactCrossSelfUptoRow : OpenClaim := { program := "ytagnecclhmbofaa", sum := "53a5ecdbed8f5327ee124dcc23ad463db949e1ab166691e6dbc3395b33a12d52", func := "loop.example/mirrorgrids/laws.FnExactCrossSelf", spec := "fnExactCrossSelf", inPlace := ["internal/bytealg.IndexByteString", "internal/bytealg.IndexString"], unfollowed := true, recurses := true, named := ["internal/bytealg.MaxLen"], plainKeys := false, apart := false, narrowed := true }
def FnExactCrossSelfUptoSaid : Prop := fnExactCrossSelfUptoRow.holds Try.pinned (OpenSpec.upto fnExactCrossSelfSpec)

/-- 'laws.FnExactCrossIn', WHERE WHAT IT READS IS OF BULK AT MOST 1048576: true; the input reads as it did. -/
def fnExactCrossInUptoRow : OpenClaim := { program := "ytagnecclhmbofaa", sum := "53a5ecdbed8f5327ee124dcc23ad463db949e1ab166691e6dbc3395b33a12d52", func := "loop.example/mirrorgrids/laws.FnExactCrossIn", spec := "fnExactCrossIn", plainKeys := false, apart := false, narrowed := true }
def FnExactCrossInUptoSaid : Prop := fnExactCrossInUptoRow.holds Try.pinned (OpenSpec.upto fnExactCrossInSpec)

/-- 'laws.FnExactCrossChords', WHERE WHAT IT READS IS OF BULK AT MOST 1048576: true; the input reads as it did. -/
def fnExactCrossChordsUptoRow : OpenClaim := { program := "ytagnecclhmbofaa", sum := "53a5ecdbed8f5327ee124dcc23ad463db949e1ab166691e6dbc3395b33a12d52", func := "loop.example/mirrorgrids/laws.FnExactCrossChords", spec := "fnExactCrossChords", plainKeys := false, apart := false, narrowed := true }
def FnExactCrossChordsUptoSaid : Prop := fnExactCrossChordsUptoRow.holds Try.pinned (OpenSpec.upto fnExactCrossChordsSpec)

/-- 'laws.FnExactCrossTotal', WHERE WHAT IT READS IS OF BULK AT MOST 1048576: true; the input reads as it did. -/
def fnExactCrossTotalUptoRow : OpenClaim := { program := "ytagnecclhmbofaa", sum := "53a5ecdbed8f5327ee124dcc23ad463db949e1ab166691e6dbc3395b33a12d52", func := "loop.example/mirrorgrids/laws.FnExactCrossTotal", spec := "fnExactCrossTotal", inPlace := ["internal/bytealg.IndexByteString", "internal/bytealg.IndexString"], unfollowed := true, recurses := true, named := ["internal/bytealg.MaxLen"], plainKeys := false, apart := false, narrowed := true }
def FnExactCrossTotalUptoSaid : Prop := fnExactCrossTotalUptoRow.holds Try.pinned (OpenSpec.upto fnExactCrossTotalSpec)

/-- 'laws.FnExactCrossBeams', WHERE WHAT IT READS IS OF BULK AT MOST 1048576: true; the input reads as it did. -/
def fnExactCrossBeamsUptoRow : OpenClaim := { program := "ytagnecclhmbofaa", sum := "53a5ecdbed8f5327ee124dcc23ad463db949e1ab166691e6dbc3395b33a12d52", func := "loop.example/mirrorgrids/laws.FnExactCrossBeams", spec := "fnExactCrossBeams", inPlace := ["internal/bytealg.IndexByteString", "internal/bytealg.IndexString"], unfollowed := true, recurses := true, named := ["internal/bytealg.MaxLen"], plainKeys := false, apart := false, narrowed := true }
def FnExactCrossBeamsUptoSaid : Prop := fnExactCrossBeamsUptoRow.holds Try.pinned (OpenSpec.upto fnExactCrossBeamsSpec)

/-- 'laws.FnExactCrossTurn', WHERE WHAT IT READS IS OF BULK AT MOST 1048576: true; the input reads as it did. -/
def fnExactCrossTurnUptoRow : OpenClaim := { program := "ytagnecclhmbofaa", sum := "53a5ecdbed8f5327ee124dcc23ad463db949e1ab166691e6dbc3395b33a12d52", func := "loop.example/mirrorgrids/laws.FnExactCrossTurn", spec := "fnExactCrossTurn", plainKeys := false, apart := false, narrowed := true }
def FnExactCrossTurnUptoSaid : Prop := fnExactCrossTurnUptoRow.holds Try.pinned (OpenSpec.upto fnExactCrossTurnSpec)

/-- 'laws.FnExactCrossRounds', WHERE WHAT IT READS IS OF BULK AT MOST 1048576: true; the input reads as it did. -/
def fnExactCrossRoundsUptoRow : OpenClaim := { program := "ytagnecclhmbofaa", sum := "53a5ecdbed8f5327ee124dcc23ad463db949e1ab166691e6dbc3395b33a12d52", func := "loop.example/mirrorgrids/laws.FnExactCrossRounds", spec := "fnExactCrossRounds", inPlace := ["internal/bytealg.IndexByteString", "internal/bytealg.IndexString"], unfollowed := true, recurses := true, named := ["internal/bytealg.MaxLen"], plainKeys := false, apart := false, narrowed := true }
def FnExactCrossRoundsUptoSaid : Prop := fnExactCrossRoundsUptoRow.holds Try.pinned (OpenSpec.upto fnExactCrossRoundsSpec)

end Rows
end Go.Proofs.Ytagnecclhmbofaa
