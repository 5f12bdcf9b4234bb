/-
  DERIVED. GIVEN WITH THE SEED: THE CARDS: each row of YtpimkhjcphimaaaDoorRows.lean that lists a variable, with what it lists TIED to the program's text (the seventh form; the later family's looks); each row that meets fmt, with fmt's text TOLD by the authors' own Lean function (tested against real Go, not proved from fmt's source: count such statements apart). THE CARD IS WHAT COUNTS. Prove the row's statement (the work); the ties are given (YtpimkhjcphimaaaDoorTie.lean); close each card by the builder's one call (the guide's Derived/Test/ToyasCard.lean, 'card_holds'). Laid BY PROGRAM, IN A SANDBOX (cutbox-door.mjs). By AI agents, Wed Nov 11 2026. No macro, syntax, notation, axiom, sorry.
-/
import Derived.Test.YtpimkhjcphimaaaDoorRows
import GoSem.ClaimSeven
namespace Go.Proofs.YtpimkhjcphimaaaDoor
namespace Rows

/-- THE TIED CARD OF 'laws.FnExactTermIn'. -/
def fnExactTermInCard : Claim7 := { stood := { row := fnExactTermInRow, standIns := [], harness := (true, "73abff7634d16ade24b9aaf17e593d84768463ae0b41c7e5097d38127e19f062"), looks := true }, kinds := [], alts := [], laidByText := true, laidKinds := [.handle], laidTests := true, laidLooks := .later }
def FnExactTermInCardSaid : Prop := Claim7.holds Tryd.pinned (.plain (OpenSpec.ofChange fnExactTermInSpec)) fnExactTermInCard

/-- THE TIED CARD OF 'laws.FnExactTermGrid'. -/
def fnExactTermGridCard : Claim7 := { stood := { row := fnExactTermGridRow, standIns := [], harness := (true, "73abff7634d16ade24b9aaf17e593d84768463ae0b41c7e5097d38127e19f062"), looks := true }, kinds := [], alts := [], laidByText := true, laidKinds := [.handle], laidTests := true, laidLooks := .later }
def FnExactTermGridCardSaid : Prop := Claim7.holds Tryd.pinned (.plain (OpenSpec.ofChange fnExactTermGridSpec)) fnExactTermGridCard

/-- THE TIED CARD OF 'laws.FnExactTermSize'. -/
def fnExactTermSizeCard : Claim7 := { stood := { row := fnExactTermSizeRow, standIns := [], harness := (true, "73abff7634d16ade24b9aaf17e593d84768463ae0b41c7e5097d38127e19f062"), looks := true }, kinds := [], alts := [], laidByText := true, laidKinds := [.handle], laidTests := true, laidLooks := .later }
def FnExactTermSizeCardSaid : Prop := Claim7.holds Tryd.pinned (.plain (OpenSpec.ofChange fnExactTermSizeSpec)) fnExactTermSizeCard

/-- THE TIED CARD OF 'laws.FnExactTermTidy'. -/
def fnExactTermTidyCard : Claim7 := { stood := { row := fnExactTermTidyRow, standIns := [], harness := (true, "73abff7634d16ade24b9aaf17e593d84768463ae0b41c7e5097d38127e19f062"), looks := true }, kinds := [], alts := [], laidByText := true, laidKinds := [.handle], laidTests := true, laidLooks := .later }
def FnExactTermTidyCardSaid : Prop := Claim7.holds Tryd.pinned (.plain (OpenSpec.ofChange fnExactTermTidySpec)) fnExactTermTidyCard

/-- THE TIED CARD OF 'laws.FnExactTermSame'. -/
def fnExactTermSameCard : Claim7 := { stood := { row := fnExactTermSameRow, standIns := [], harness := (true, "73abff7634d16ade24b9aaf17e593d84768463ae0b41c7e5097d38127e19f062"), looks := true }, kinds := [], alts := [], laidByText := true, laidKinds := [.handle], laidTests := true, laidLooks := .later }
def FnExactTermSameCardSaid : Prop := Claim7.holds Tryd.pinned (.plain (OpenSpec.ofChange fnExactTermSameSpec)) fnExactTermSameCard

/-- THE SECOND FORM's CARD OF 'laws.FnExactTermIn'. -/
def fnExactTermInUptoCard : Claim7 := { stood := { row := fnExactTermInUptoRow, standIns := [], harness := (true, "73abff7634d16ade24b9aaf17e593d84768463ae0b41c7e5097d38127e19f062"), looks := true }, kinds := [], alts := [], laidByText := true, laidKinds := [.handle], laidTests := true, laidLooks := .later }
def FnExactTermInUptoCardSaid : Prop := Claim7.holds Tryd.pinned (.plain (OpenSpec.upto fnExactTermInSpec)) fnExactTermInUptoCard

/-- THE SECOND FORM's CARD OF 'laws.FnExactTermGrid'. -/
def fnExactTermGridUptoCard : Claim7 := { stood := { row := fnExactTermGridUptoRow, standIns := [], harness := (true, "73abff7634d16ade24b9aaf17e593d84768463ae0b41c7e5097d38127e19f062"), looks := true }, kinds := [], alts := [], laidByText := true, laidKinds := [.handle], laidTests := true, laidLooks := .later }
def FnExactTermGridUptoCardSaid : Prop := Claim7.holds Tryd.pinned (.plain (OpenSpec.upto fnExactTermGridSpec)) fnExactTermGridUptoCard

/-- THE SECOND FORM's CARD OF 'laws.FnExactTermSize'. -/
def fnExactTermSizeUptoCard : Claim7 := { stood := { row := fnExactTermSizeUptoRow, standIns := [], harness := (true, "73abff7634d16ade24b9aaf17e593d84768463ae0b41c7e5097d38127e19f062"), looks := true }, kinds := [], alts := [], laidByText := true, laidKinds := [.handle], laidTests := true, laidLooks := .later }
def FnExactTermSizeUptoCardSaid : Prop := Claim7.holds Tryd.pinned (.plain (OpenSpec.upto fnExactTermSizeSpec)) fnExactTermSizeUptoCard

/-- THE SECOND FORM's CARD OF 'laws.FnExactTermTidy'. -/
def fnExactTermTidyUptoCard : Claim7 := { stood := { row := fnExactTermTidyUptoRow, standIns := [], harness := (true, "73abff7634d16ade24b9aaf17e593d84768463ae0b41c7e5097d38127e19f062"), looks := true }, kinds := [], alts := [], laidByText := true, laidKinds := [.handle], laidTests := true, laidLooks := .later }
def FnExactTermTidyUptoCardSaid : Prop := Claim7.holds Tryd.pinned (.plain (OpenSpec.upto fnExactTermTidySpec)) fnExactTermTidyUptoCard

/-- THE SECOND FORM's CARD OF 'laws.FnExactTermSame'. -/
def fnExactTermSameUptoCard : Claim7 := { stood := { row := fnExactTermSameUptoRow, standIns := [], harness := (true, "73abff7634d16ade24b9aaf17e593d84768463ae0b41c7e5097d38127e19f062"), looks := true }, kinds := [], alts := [], laidByText := true, laidKinds := [.handle], laidTests := true, laidLooks := .later }
def FnExactTermSameUptoCardSaid : Prop := Claim7.holds Tryd.pinned (.plain (OpenSpec.upto fnExactTermSameSpec)) fnExactTermSameUptoCard
end Rows
end Go.Proofs.YtpimkhjcphimaaaDoor
