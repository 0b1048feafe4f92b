/-
  DERIVED. GIVEN WITH THE SEED: THE CARDS: each row of YtnehfkbpbgmbaaaGreatDoorRows.lean that lists a variable, with what it lists TIED to the program's text (the seventh form; the later family's looks); each row that meets fmt, with fmt's text TOLD by the authors' own Lean function (tested against real Go, not proved from fmt's source: count such statements apart). THE CARD IS WHAT COUNTS. Prove the row's statement (the work); the ties are given (YtnehfkbpbgmbaaaGreatDoorTie.lean); close each card by the builder's one call (the guide's Derived/Test/ToyasCard.lean, 'card_holds'). Laid BY PROGRAM, IN A SANDBOX (cutbox-door.mjs). By AI agents, Wed Nov 11 2026. No macro, syntax, notation, axiom, sorry.
-/
import Derived.Test.YtnehfkbpbgmbaaaGreatDoorRows
import GoSem.ClaimSeven
namespace Go.Proofs.YtnehfkbpbgmbaaaGreatDoor
namespace Rows

/-- THE TIED CARD OF 'credencelaw03.FracArith'. -/
def fracArithCard : Claim7 := { stood := { row := fracArithRow, standIns := [], harness := (true, "74846a67050f681f3f338b73ef3c84f7561437261091991681090a76dddc1178"), looks := false }, kinds := [], alts := [], laidByText := true, laidKinds := [.data, .pinned], laidTests := true, laidLooks := .later }
def FracArithCardSaid : Prop := Claim7.holds Tryz.pinned (.plain (OpenSpec.ofChange fracArithSpec)) fracArithCard

/-- THE TIED CARD OF 'credencelaw03.FracSum'. -/
def fracSumCard : Claim7 := { stood := { row := fracSumRow, standIns := [], harness := (true, "74846a67050f681f3f338b73ef3c84f7561437261091991681090a76dddc1178"), looks := false }, kinds := [], alts := [], laidByText := true, laidKinds := [.data, .pinned], laidTests := true, laidLooks := .later }
def FracSumCardSaid : Prop := Claim7.holds Tryz.pinned (.plain (OpenSpec.ofChange fracSumSpec)) fracSumCard

/-- THE SECOND FORM's CARD OF 'credencelaw03.FracArith'. -/
def fracArithUptoCard : Claim7 := { stood := { row := fracArithUptoRow, standIns := [], harness := (true, "74846a67050f681f3f338b73ef3c84f7561437261091991681090a76dddc1178"), looks := false }, kinds := [], alts := [], laidByText := true, laidKinds := [.data, .pinned], laidTests := true, laidLooks := .later }
def FracArithUptoCardSaid : Prop := Claim7.holds Tryz.pinned (.plain (OpenSpec.upto fracArithSpec)) fracArithUptoCard

/-- THE SECOND FORM's CARD OF 'credencelaw03.FracSum'. -/
def fracSumUptoCard : Claim7 := { stood := { row := fracSumUptoRow, standIns := [], harness := (true, "74846a67050f681f3f338b73ef3c84f7561437261091991681090a76dddc1178"), looks := false }, kinds := [], alts := [], laidByText := true, laidKinds := [.data, .pinned], laidTests := true, laidLooks := .later }
def FracSumUptoCardSaid : Prop := Claim7.holds Tryz.pinned (.plain (OpenSpec.upto fracSumSpec)) fracSumUptoCard
end Rows
end Go.Proofs.YtnehfkbpbgmbaaaGreatDoor
