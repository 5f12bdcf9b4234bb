/-
  DERIVED. GIVEN WITH THE SEED: THE CARDS: each row of YtongjijkdjagdaaDoorRows.lean that lists a variable, with what it lists TIED to the program's text (the seventh form; the later family's looks); each row that meets fmt, with fmt's text TOLD by the authors' own Lean function (tested against real Go, not proved from fmt's source: count such statements apart). THE CARD IS WHAT COUNTS. Prove the row's statement (the work); the ties are given (YtongjijkdjagdaaDoorTie.lean); close each card by the builder's one call (the guide's Derived/Test/ToyasCard.lean, 'card_holds'). Laid BY PROGRAM, IN A SANDBOX (cutbox-door.mjs). By AI agents, Wed Nov 11 2026. No macro, syntax, notation, axiom, sorry.
-/
import Derived.Test.YtongjijkdjagdaaDoorRows
import GoSem.ClaimSeven
namespace Go.Proofs.YtongjijkdjagdaaDoor
namespace Rows

/-- THE TIED CARD OF 'laws.FnExactTermSame'. -/
def fnExactTermSameCard : Claim7 := { stood := { row := fnExactTermSameRow, standIns := [], harness := (true, "9b9cebc00bfe00e3784fc222c372b2a641294725e490d14fba4af7981cb0974f"), looks := true }, kinds := [], alts := [], laidByText := true, laidKinds := [.handle], laidTests := true, laidLooks := .later }
def FnExactTermSameCardSaid : Prop := Claim7.holds Tryd.pinned (.plain (OpenSpec.ofChange fnExactTermSameSpec)) fnExactTermSameCard

/-- THE TIED CARD OF 'laws.FnExactProofRound'. -/
def fnExactProofRoundCard : Claim7 := { stood := { row := fnExactProofRoundRow, standIns := [], harness := (true, "9b9cebc00bfe00e3784fc222c372b2a641294725e490d14fba4af7981cb0974f"), looks := true }, kinds := [], alts := [], laidByText := true, laidKinds := [.data, .data, .data], laidTests := true, laidLooks := .later }
def FnExactProofRoundCardSaid : Prop := Claim7.holds Tryd.pinned (.plain (OpenSpec.ofChange fnExactProofRoundSpec)) fnExactProofRoundCard

/-- THE TIED CARD OF 'laws.FnExactProofRoundIs'. -/
def fnExactProofRoundIsCard : Claim7 := { stood := { row := fnExactProofRoundIsRow, standIns := [], harness := (true, "9b9cebc00bfe00e3784fc222c372b2a641294725e490d14fba4af7981cb0974f"), looks := true }, kinds := [], alts := [], laidByText := true, laidKinds := [.data, .data, .data, .sentinel, .sentinel], laidTests := true, laidLooks := .later }
def FnExactProofRoundIsCardSaid : Prop := Claim7.holds Tryd.pinned (.plain (OpenSpec.ofChange fnExactProofRoundIsSpec)) fnExactProofRoundIsCard

/-- THE TIED CARD OF 'laws.FnExactProofNone'. -/
def fnExactProofNoneCard : Claim7 := { stood := { row := fnExactProofNoneRow, standIns := [], harness := (true, "9b9cebc00bfe00e3784fc222c372b2a641294725e490d14fba4af7981cb0974f"), looks := true }, kinds := [], alts := [], laidByText := true, laidKinds := [.data, .data, .data], laidTests := true, laidLooks := .later }
def FnExactProofNoneCardSaid : Prop := Claim7.holds Tryd.pinned (.plain (OpenSpec.ofChange fnExactProofNoneSpec)) fnExactProofNoneCard

/-- THE TIED CARD OF 'laws.FnExactProofNoneIs'. -/
def fnExactProofNoneIsCard : Claim7 := { stood := { row := fnExactProofNoneIsRow, standIns := [], harness := (true, "9b9cebc00bfe00e3784fc222c372b2a641294725e490d14fba4af7981cb0974f"), looks := true }, kinds := [], alts := [], laidByText := true, laidKinds := [.data, .data, .data], laidTests := true, laidLooks := .later }
def FnExactProofNoneIsCardSaid : Prop := Claim7.holds Tryd.pinned (.plain (OpenSpec.ofChange fnExactProofNoneIsSpec)) fnExactProofNoneIsCard

/-- THE SECOND FORM's CARD OF 'laws.FnExactTermSame'. -/
def fnExactTermSameUptoCard : Claim7 := { stood := { row := fnExactTermSameUptoRow, standIns := [], harness := (true, "9b9cebc00bfe00e3784fc222c372b2a641294725e490d14fba4af7981cb0974f"), looks := true }, kinds := [], alts := [], laidByText := true, laidKinds := [.handle], laidTests := true, laidLooks := .later }
def FnExactTermSameUptoCardSaid : Prop := Claim7.holds Tryd.pinned (.plain (OpenSpec.upto fnExactTermSameSpec)) fnExactTermSameUptoCard

/-- THE SECOND FORM's CARD OF 'laws.FnExactProofRound'. -/
def fnExactProofRoundUptoCard : Claim7 := { stood := { row := fnExactProofRoundUptoRow, standIns := [], harness := (true, "9b9cebc00bfe00e3784fc222c372b2a641294725e490d14fba4af7981cb0974f"), looks := true }, kinds := [], alts := [], laidByText := true, laidKinds := [.data, .data, .data], laidTests := true, laidLooks := .later }
def FnExactProofRoundUptoCardSaid : Prop := Claim7.holds Tryd.pinned (.plain (OpenSpec.upto fnExactProofRoundSpec)) fnExactProofRoundUptoCard

/-- THE SECOND FORM's CARD OF 'laws.FnExactProofRoundIs'. -/
def fnExactProofRoundIsUptoCard : Claim7 := { stood := { row := fnExactProofRoundIsUptoRow, standIns := [], harness := (true, "9b9cebc00bfe00e3784fc222c372b2a641294725e490d14fba4af7981cb0974f"), looks := true }, kinds := [], alts := [], laidByText := true, laidKinds := [.data, .data, .data, .sentinel, .sentinel], laidTests := true, laidLooks := .later }
def FnExactProofRoundIsUptoCardSaid : Prop := Claim7.holds Tryd.pinned (.plain (OpenSpec.upto fnExactProofRoundIsSpec)) fnExactProofRoundIsUptoCard

/-- THE SECOND FORM's CARD OF 'laws.FnExactProofNone'. -/
def fnExactProofNoneUptoCard : Claim7 := { stood := { row := fnExactProofNoneUptoRow, standIns := [], harness := (true, "9b9cebc00bfe00e3784fc222c372b2a641294725e490d14fba4af7981cb0974f"), looks := true }, kinds := [], alts := [], laidByText := true, laidKinds := [.data, .data, .data], laidTests := true, laidLooks := .later }
def FnExactProofNoneUptoCardSaid : Prop := Claim7.holds Tryd.pinned (.plain (OpenSpec.upto fnExactProofNoneSpec)) fnExactProofNoneUptoCard

/-- THE SECOND FORM's CARD OF 'laws.FnExactProofNoneIs'. -/
def fnExactProofNoneIsUptoCard : Claim7 := { stood := { row := fnExactProofNoneIsUptoRow, standIns := [], harness := (true, "9b9cebc00bfe00e3784fc222c372b2a641294725e490d14fba4af7981cb0974f"), looks := true }, kinds := [], alts := [], laidByText := true, laidKinds := [.data, .data, .data], laidTests := true, laidLooks := .later }
def FnExactProofNoneIsUptoCardSaid : Prop := Claim7.holds Tryd.pinned (.plain (OpenSpec.upto fnExactProofNoneIsSpec)) fnExactProofNoneIsUptoCard
end Rows
end Go.Proofs.YtongjijkdjagdaaDoor
