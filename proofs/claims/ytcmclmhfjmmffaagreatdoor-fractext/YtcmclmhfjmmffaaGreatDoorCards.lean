/-
  DERIVED. GIVEN WITH THE SEED: THE CARDS: each row of YtcmclmhfjmmffaaGreatDoorRows.lean that lists a variable, with what it lists TIED to the program's text (the seventh form; the later family's looks); each row that meets fmt, with fmt's text TOLD by the authors' own Lean function (tested against real Go, not proved from fmt's source: count such statements apart). THE CARD IS WHAT COUNTS. Prove the row's statement (the work); the ties are given (YtcmclmhfjmmffaaGreatDoorTie.lean); close each card by the builder's one call (the guide's Derived/Test/ToyasCard.lean, 'card_holds'). Laid BY PROGRAM, IN A SANDBOX (cutbox-door.mjs). By AI agents, Wed Nov 11 2026. No macro, syntax, notation, axiom, sorry.
-/
import Derived.Test.YtcmclmhfjmmffaaGreatDoorRows
import GoSem.ClaimSeven
namespace Go.Proofs.YtcmclmhfjmmffaaGreatDoor
namespace Rows

/-- THE TIED CARD OF 'credencelaw03.FracArith'. -/
def fracArithCard : Claim7 := { stood := { row := fracArithRow, standIns := [], harness := (true, "be465beaacd92f4030f1b0b506040fe6f359a84c75fd6a423cf6e60ea82c8c98"), looks := false }, kinds := [], alts := [], laidByText := true, laidKinds := [.data, .pinned], laidTests := true, laidLooks := .later }
def FracArithCardSaid : Prop := Claim7.holds Tryz.pinned (.plain (OpenSpec.ofChange fracArithSpec)) fracArithCard

/-- THE TIED CARD OF 'credencelaw03.FracMake'. -/
def fracMakeCard : Claim7 := { stood := { row := fracMakeRow, standIns := [], harness := (true, "be465beaacd92f4030f1b0b506040fe6f359a84c75fd6a423cf6e60ea82c8c98"), looks := false }, kinds := [], alts := [], laidByText := true, laidKinds := [.data, .pinned], laidTests := true, laidLooks := .later }
def FracMakeCardSaid : Prop := Claim7.holds Tryz.pinned (.plain (OpenSpec.ofChange fracMakeSpec)) fracMakeCard

/-- THE TIED CARD OF 'credencelaw03.FracSum'. -/
def fracSumCard : Claim7 := { stood := { row := fracSumRow, standIns := [], harness := (true, "be465beaacd92f4030f1b0b506040fe6f359a84c75fd6a423cf6e60ea82c8c98"), looks := false }, kinds := [], alts := [], laidByText := true, laidKinds := [.data, .pinned], laidTests := true, laidLooks := .later }
def FracSumCardSaid : Prop := Claim7.holds Tryz.pinned (.plain (OpenSpec.ofChange fracSumSpec)) fracSumCard

/-- THE TIED CARD OF 'credencelaw03.FracText'. -/
def fracTextCard : Claim7 := { stood := { row := fracTextRow, standIns := [], harness := (true, "be465beaacd92f4030f1b0b506040fe6f359a84c75fd6a423cf6e60ea82c8c98"), looks := false }, kinds := [], alts := [], laidByText := true, laidKinds := [.data, .pinned], laidTests := true, laidLooks := .later }
def FracTextCardSaid : Prop := Claim7.holds Tryz.pinned (.plain (OpenSpec.ofChange fracTextSpec)) fracTextCard

/-- THE SECOND FORM's CARD OF 'credencelaw03.FracArith'. -/
def fracArithUptoCard : Claim7 := { stood := { row := fracArithUptoRow, standIns := [], harness := (true, "be465beaacd92f4030f1b0b506040fe6f359a84c75fd6a423cf6e60ea82c8c98"), looks := false }, kinds := [], alts := [], laidByText := true, laidKinds := [.data, .pinned], laidTests := true, laidLooks := .later }
def FracArithUptoCardSaid : Prop := Claim7.holds Tryz.pinned (.plain (OpenSpec.upto fracArithSpec)) fracArithUptoCard

/-- THE SECOND FORM's CARD OF 'credencelaw03.FracMake'. -/
def fracMakeUptoCard : Claim7 := { stood := { row := fracMakeUptoRow, standIns := [], harness := (true, "be465beaacd92f4030f1b0b506040fe6f359a84c75fd6a423cf6e60ea82c8c98"), looks := false }, kinds := [], alts := [], laidByText := true, laidKinds := [.data, .pinned], laidTests := true, laidLooks := .later }
def FracMakeUptoCardSaid : Prop := Claim7.holds Tryz.pinned (.plain (OpenSpec.upto fracMakeSpec)) fracMakeUptoCard

/-- THE SECOND FORM's CARD OF 'credencelaw03.FracSum'. -/
def fracSumUptoCard : Claim7 := { stood := { row := fracSumUptoRow, standIns := [], harness := (true, "be465beaacd92f4030f1b0b506040fe6f359a84c75fd6a423cf6e60ea82c8c98"), looks := false }, kinds := [], alts := [], laidByText := true, laidKinds := [.data, .pinned], laidTests := true, laidLooks := .later }
def FracSumUptoCardSaid : Prop := Claim7.holds Tryz.pinned (.plain (OpenSpec.upto fracSumSpec)) fracSumUptoCard

/-- THE SECOND FORM's CARD OF 'credencelaw03.FracText'. -/
def fracTextUptoCard : Claim7 := { stood := { row := fracTextUptoRow, standIns := [], harness := (true, "be465beaacd92f4030f1b0b506040fe6f359a84c75fd6a423cf6e60ea82c8c98"), looks := false }, kinds := [], alts := [], laidByText := true, laidKinds := [.data, .pinned], laidTests := true, laidLooks := .later }
def FracTextUptoCardSaid : Prop := Claim7.holds Tryz.pinned (.plain (OpenSpec.upto fracTextSpec)) fracTextUptoCard
end Rows
end Go.Proofs.YtcmclmhfjmmffaaGreatDoor
