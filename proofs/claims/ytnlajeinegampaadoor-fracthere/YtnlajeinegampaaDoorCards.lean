/-
  DERIVED. GIVEN WITH THE SEED: THE CARDS: each row of YtnlajeinegampaaDoorRows.lean that lists a variable, with what it lists TIED to the program's text (the seventh form; the later family's looks); each row that meets fmt, with fmt's text TOLD by the authors' own Lean function (tested against real Go, not proved from fmt's source: count such statements apart). THE CARD IS WHAT COUNTS. Prove the row's statement (the work); the ties are given (YtnlajeinegampaaDoorTie.lean); close each card by the builder's one call (the guide's Derived/Test/ToyasCard.lean, 'card_holds'). Laid BY PROGRAM, IN A SANDBOX (cutbox-door.mjs). By AI agents, Wed Nov 11 2026. No macro, syntax, notation, axiom, sorry.
-/
import Derived.Test.YtnlajeinegampaaDoorRows
import GoSem.ClaimSeven
namespace Go.Proofs.YtnlajeinegampaaDoor
namespace Rows

/-- THE TIED CARD OF 'credencelaw03.FracMade'. -/
def fracMadeCard : Claim7 := { stood := { row := fracMadeRow, standIns := [], harness := (true, "a2551ab196cf4c45fda0385b1a36dfa710a74e1fe11aa5cfa8a7a56db3cab642"), looks := false }, kinds := [], alts := [], laidByText := true, laidKinds := [.data, .pinned], laidTests := true, laidLooks := .later }
def FracMadeCardSaid : Prop := Claim7.holds Tryd.pinned (.plain (OpenSpec.ofChange fracMadeSpec)) fracMadeCard

/-- THE TIED CARD OF 'credencelaw03.FracThere'. -/
def fracThereCard : Claim7 := { stood := { row := fracThereRow, standIns := [], harness := (true, "a2551ab196cf4c45fda0385b1a36dfa710a74e1fe11aa5cfa8a7a56db3cab642"), looks := false }, kinds := [], alts := [], laidByText := true, laidKinds := [.data, .pinned], laidTests := true, laidLooks := .later }
def FracThereCardSaid : Prop := Claim7.holds Tryd.pinned (.plain (OpenSpec.ofChange fracThereSpec)) fracThereCard

/-- THE SECOND FORM's CARD OF 'credencelaw03.FracMade'. -/
def fracMadeUptoCard : Claim7 := { stood := { row := fracMadeUptoRow, standIns := [], harness := (true, "a2551ab196cf4c45fda0385b1a36dfa710a74e1fe11aa5cfa8a7a56db3cab642"), looks := false }, kinds := [], alts := [], laidByText := true, laidKinds := [.data, .pinned], laidTests := true, laidLooks := .later }
def FracMadeUptoCardSaid : Prop := Claim7.holds Tryd.pinned (.plain (OpenSpec.upto fracMadeSpec)) fracMadeUptoCard

/-- THE SECOND FORM's CARD OF 'credencelaw03.FracThere'. -/
def fracThereUptoCard : Claim7 := { stood := { row := fracThereUptoRow, standIns := [], harness := (true, "a2551ab196cf4c45fda0385b1a36dfa710a74e1fe11aa5cfa8a7a56db3cab642"), looks := false }, kinds := [], alts := [], laidByText := true, laidKinds := [.data, .pinned], laidTests := true, laidLooks := .later }
def FracThereUptoCardSaid : Prop := Claim7.holds Tryd.pinned (.plain (OpenSpec.upto fracThereSpec)) fracThereUptoCard
end Rows
end Go.Proofs.YtnlajeinegampaaDoor
