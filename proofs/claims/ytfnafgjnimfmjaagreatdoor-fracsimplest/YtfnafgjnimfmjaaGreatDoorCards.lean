/-
  DERIVED. GIVEN WITH THE SEED: THE CARDS: each row of YtfnafgjnimfmjaaGreatDoorRows.lean that lists a variable, with what it lists TIED to the program's text (the seventh form; the later family's looks); each row that meets fmt, with fmt's text TOLD by the authors' own Lean function (tested against real Go, not proved from fmt's source: count such statements apart). THE CARD IS WHAT COUNTS. Prove the row's statement (the work); the ties are given (YtfnafgjnimfmjaaGreatDoorTie.lean); close each card by the builder's one call (the guide's Derived/Test/ToyasCard.lean, 'card_holds'). Laid BY PROGRAM, IN A SANDBOX (cutbox-door.mjs). By AI agents, Wed Nov 11 2026. No macro, syntax, notation, axiom, sorry.
-/
import Derived.Test.YtfnafgjnimfmjaaGreatDoorRows
import GoSem.ClaimSeven
namespace Go.Proofs.YtfnafgjnimfmjaaGreatDoor
namespace Rows

/-- THE TIED CARD OF 'credencelaw03.FracTerms'. -/
def fracTermsCard : Claim7 := { stood := { row := fracTermsRow, standIns := [], harness := (true, "a3b34625f3224a00eb06d57dce3ebe104f91853ea374629df9ca9177f0dad6e7"), looks := false }, kinds := [], alts := [], laidByText := true, laidKinds := [.data, .pinned], laidTests := true, laidLooks := .later }
def FracTermsCardSaid : Prop := Claim7.holds Tryz.pinned (.plain (OpenSpec.ofChange fracTermsSpec)) fracTermsCard

/-- THE TIED CARD OF 'credencelaw03.FracSimplest'. -/
def fracSimplestCard : Claim7 := { stood := { row := fracSimplestRow, standIns := [], harness := (true, "a3b34625f3224a00eb06d57dce3ebe104f91853ea374629df9ca9177f0dad6e7"), looks := false }, kinds := [], alts := [], laidByText := true, laidKinds := [.data, .pinned], laidTests := true, laidLooks := .later }
def FracSimplestCardSaid : Prop := Claim7.holds Tryz.pinned (.plain (OpenSpec.ofChange fracSimplestSpec)) fracSimplestCard

/-- THE SECOND FORM's CARD OF 'credencelaw03.FracTerms'. -/
def fracTermsUptoCard : Claim7 := { stood := { row := fracTermsUptoRow, standIns := [], harness := (true, "a3b34625f3224a00eb06d57dce3ebe104f91853ea374629df9ca9177f0dad6e7"), looks := false }, kinds := [], alts := [], laidByText := true, laidKinds := [.data, .pinned], laidTests := true, laidLooks := .later }
def FracTermsUptoCardSaid : Prop := Claim7.holds Tryz.pinned (.plain (OpenSpec.upto fracTermsSpec)) fracTermsUptoCard

/-- THE SECOND FORM's CARD OF 'credencelaw03.FracSimplest'. -/
def fracSimplestUptoCard : Claim7 := { stood := { row := fracSimplestUptoRow, standIns := [], harness := (true, "a3b34625f3224a00eb06d57dce3ebe104f91853ea374629df9ca9177f0dad6e7"), looks := false }, kinds := [], alts := [], laidByText := true, laidKinds := [.data, .pinned], laidTests := true, laidLooks := .later }
def FracSimplestUptoCardSaid : Prop := Claim7.holds Tryz.pinned (.plain (OpenSpec.upto fracSimplestSpec)) fracSimplestUptoCard
end Rows
end Go.Proofs.YtfnafgjnimfmjaaGreatDoor
