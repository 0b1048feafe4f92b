/-
  DERIVED. GIVEN WITH THE SEED: THE CARDS: each row of YtaekaikkldnikaaDoorRows.lean that lists a variable, with what it lists TIED to the program's text (the seventh form; the later family's looks); each row that meets fmt, with fmt's text TOLD by the authors' own Lean function (tested against real Go, not proved from fmt's source: count such statements apart). THE CARD IS WHAT COUNTS. Prove the row's statement (the work); the ties are given (YtaekaikkldnikaaDoorTie.lean); close each card by the builder's one call (the guide's Derived/Test/ToyasCard.lean, 'card_holds'). Laid BY PROGRAM, IN A SANDBOX (cutbox-door.mjs). By AI agents, Wed Nov 11 2026. No macro, syntax, notation, axiom, sorry.
-/
import Derived.Test.YtaekaikkldnikaaDoorRows
import GoSem.ClaimSeven
namespace Go.Proofs.YtaekaikkldnikaaDoor
namespace Rows

/-- THE TIED CARD OF 'credencelaw05.NearBack'. -/
def nearBackCard : Claim7 := { stood := { row := nearBackRow, standIns := [], harness := (true, "bc5048138682091d6978d9c167ec71bb720d78587560dbf2b3f1f36f6a4911c7"), looks := false }, kinds := [], alts := [], laidByText := true, laidKinds := [.data, .pinned], laidTests := true, laidLooks := .later }
def NearBackCardSaid : Prop := Claim7.holds Tryd.pinned (.plain (OpenSpec.ofChange nearBackSpec)) nearBackCard

/-- THE TIED CARD OF 'credencelaw05.NearRises'. -/
def nearRisesCard : Claim7 := { stood := { row := nearRisesRow, standIns := [], harness := (true, "bc5048138682091d6978d9c167ec71bb720d78587560dbf2b3f1f36f6a4911c7"), looks := false }, kinds := [], alts := [], laidByText := true, laidKinds := [.data, .pinned], laidTests := true, laidLooks := .later }
def NearRisesCardSaid : Prop := Claim7.holds Tryd.pinned (.plain (OpenSpec.ofChange nearRisesSpec)) nearRisesCard

/-- THE TIED CARD OF 'credencelaw05.NearOrdered'. -/
def nearOrderedCard : Claim7 := { stood := { row := nearOrderedRow, standIns := [], harness := (true, "bc5048138682091d6978d9c167ec71bb720d78587560dbf2b3f1f36f6a4911c7"), looks := false }, kinds := [], alts := [], laidByText := true, laidKinds := [.data, .pinned], laidTests := true, laidLooks := .later }
def NearOrderedCardSaid : Prop := Claim7.holds Tryd.pinned (.plain (OpenSpec.ofChange nearOrderedSpec)) nearOrderedCard

/-- THE SECOND FORM's CARD OF 'credencelaw05.NearBack'. -/
def nearBackUptoCard : Claim7 := { stood := { row := nearBackUptoRow, standIns := [], harness := (true, "bc5048138682091d6978d9c167ec71bb720d78587560dbf2b3f1f36f6a4911c7"), looks := false }, kinds := [], alts := [], laidByText := true, laidKinds := [.data, .pinned], laidTests := true, laidLooks := .later }
def NearBackUptoCardSaid : Prop := Claim7.holds Tryd.pinned (.plain (OpenSpec.upto nearBackSpec)) nearBackUptoCard

/-- THE SECOND FORM's CARD OF 'credencelaw05.NearRises'. -/
def nearRisesUptoCard : Claim7 := { stood := { row := nearRisesUptoRow, standIns := [], harness := (true, "bc5048138682091d6978d9c167ec71bb720d78587560dbf2b3f1f36f6a4911c7"), looks := false }, kinds := [], alts := [], laidByText := true, laidKinds := [.data, .pinned], laidTests := true, laidLooks := .later }
def NearRisesUptoCardSaid : Prop := Claim7.holds Tryd.pinned (.plain (OpenSpec.upto nearRisesSpec)) nearRisesUptoCard

/-- THE SECOND FORM's CARD OF 'credencelaw05.NearOrdered'. -/
def nearOrderedUptoCard : Claim7 := { stood := { row := nearOrderedUptoRow, standIns := [], harness := (true, "bc5048138682091d6978d9c167ec71bb720d78587560dbf2b3f1f36f6a4911c7"), looks := false }, kinds := [], alts := [], laidByText := true, laidKinds := [.data, .pinned], laidTests := true, laidLooks := .later }
def NearOrderedUptoCardSaid : Prop := Claim7.holds Tryd.pinned (.plain (OpenSpec.upto nearOrderedSpec)) nearOrderedUptoCard
end Rows
end Go.Proofs.YtaekaikkldnikaaDoor
