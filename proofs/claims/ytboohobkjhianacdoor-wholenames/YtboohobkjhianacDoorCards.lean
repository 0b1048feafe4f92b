/-
  DERIVED. GIVEN WITH THE SEED: THE CARDS: each row of YtboohobkjhianacDoorRows.lean that lists a variable, with what it lists TIED to the program's text (the seventh form; the later family's looks); each row that meets fmt, with fmt's text TOLD by the authors' own Lean function (tested against real Go, not proved from fmt's source: count such statements apart). THE CARD IS WHAT COUNTS. Prove the row's statement (the work); the ties are given (YtboohobkjhianacDoorTie.lean); close each card by the builder's one call (the guide's Derived/Test/ToyasCard.lean, 'card_holds'). Laid BY PROGRAM, IN A SANDBOX (cutbox-door.mjs). By AI agents, Wed Nov 11 2026. No macro, syntax, notation, axiom, sorry.
-/
import Derived.Test.YtboohobkjhianacDoorRows
import GoSem.ClaimSeven
namespace Go.Proofs.YtboohobkjhianacDoor
namespace Rows

/-- THE TIED CARD OF 'credencelaw01.NatRoots'. -/
def natRootsCard : Claim7 := { stood := { row := natRootsRow, standIns := [], harness := (true, "17d4fadd96705c3858deb696830fa1a4b1c234e1b91083a6ffae726954c606cc"), looks := false }, kinds := [], alts := [], laidByText := true, laidKinds := [.data, .pinned], laidTests := true, laidLooks := .later }
def NatRootsCardSaid : Prop := Claim7.holds Tryd.pinned (.plain (OpenSpec.ofChange natRootsSpec)) natRootsCard

/-- THE TIED CARD OF 'credencelaw01.NatThere'. -/
def natThereCard : Claim7 := { stood := { row := natThereRow, standIns := [], harness := (true, "17d4fadd96705c3858deb696830fa1a4b1c234e1b91083a6ffae726954c606cc"), looks := false }, kinds := [], alts := [], laidByText := true, laidKinds := [.data, .pinned], laidTests := true, laidLooks := .later }
def NatThereCardSaid : Prop := Claim7.holds Tryd.pinned (.plain (OpenSpec.ofChange natThereSpec)) natThereCard

/-- THE TIED CARD OF 'credencelaw02.WholeNames'. -/
def wholeNamesCard : Claim7 := { stood := { row := wholeNamesRow, standIns := [], harness := (true, "17d4fadd96705c3858deb696830fa1a4b1c234e1b91083a6ffae726954c606cc"), looks := false }, kinds := [], alts := [], laidByText := true, laidKinds := [.data, .pinned], laidTests := true, laidLooks := .later }
def WholeNamesCardSaid : Prop := Claim7.holds Tryd.pinned (.plain (OpenSpec.ofChange wholeNamesSpec)) wholeNamesCard

/-- THE TIED CARD OF 'credencelaw02.WholeTells'. -/
def wholeTellsCard : Claim7 := { stood := { row := wholeTellsRow, standIns := [], harness := (true, "17d4fadd96705c3858deb696830fa1a4b1c234e1b91083a6ffae726954c606cc"), looks := false }, kinds := [], alts := [], laidByText := true, laidKinds := [.data, .pinned], laidTests := true, laidLooks := .later }
def WholeTellsCardSaid : Prop := Claim7.holds Tryd.pinned (.plain (OpenSpec.ofChange wholeTellsSpec)) wholeTellsCard

/-- THE SECOND FORM's CARD OF 'credencelaw01.NatRoots'. -/
def natRootsUptoCard : Claim7 := { stood := { row := natRootsUptoRow, standIns := [], harness := (true, "17d4fadd96705c3858deb696830fa1a4b1c234e1b91083a6ffae726954c606cc"), looks := false }, kinds := [], alts := [], laidByText := true, laidKinds := [.data, .pinned], laidTests := true, laidLooks := .later }
def NatRootsUptoCardSaid : Prop := Claim7.holds Tryd.pinned (.plain (OpenSpec.upto natRootsSpec)) natRootsUptoCard

/-- THE SECOND FORM's CARD OF 'credencelaw01.NatThere'. -/
def natThereUptoCard : Claim7 := { stood := { row := natThereUptoRow, standIns := [], harness := (true, "17d4fadd96705c3858deb696830fa1a4b1c234e1b91083a6ffae726954c606cc"), looks := false }, kinds := [], alts := [], laidByText := true, laidKinds := [.data, .pinned], laidTests := true, laidLooks := .later }
def NatThereUptoCardSaid : Prop := Claim7.holds Tryd.pinned (.plain (OpenSpec.upto natThereSpec)) natThereUptoCard

/-- THE SECOND FORM's CARD OF 'credencelaw02.WholeNames'. -/
def wholeNamesUptoCard : Claim7 := { stood := { row := wholeNamesUptoRow, standIns := [], harness := (true, "17d4fadd96705c3858deb696830fa1a4b1c234e1b91083a6ffae726954c606cc"), looks := false }, kinds := [], alts := [], laidByText := true, laidKinds := [.data, .pinned], laidTests := true, laidLooks := .later }
def WholeNamesUptoCardSaid : Prop := Claim7.holds Tryd.pinned (.plain (OpenSpec.upto wholeNamesSpec)) wholeNamesUptoCard

/-- THE SECOND FORM's CARD OF 'credencelaw02.WholeTells'. -/
def wholeTellsUptoCard : Claim7 := { stood := { row := wholeTellsUptoRow, standIns := [], harness := (true, "17d4fadd96705c3858deb696830fa1a4b1c234e1b91083a6ffae726954c606cc"), looks := false }, kinds := [], alts := [], laidByText := true, laidKinds := [.data, .pinned], laidTests := true, laidLooks := .later }
def WholeTellsUptoCardSaid : Prop := Claim7.holds Tryd.pinned (.plain (OpenSpec.upto wholeTellsSpec)) wholeTellsUptoCard
end Rows
end Go.Proofs.YtboohobkjhianacDoor
