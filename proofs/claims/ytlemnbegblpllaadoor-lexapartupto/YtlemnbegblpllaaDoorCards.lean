/-
  DERIVED. GIVEN WITH THE SEED: THE CARDS: each row of YtlemnbegblpllaaDoorRows.lean that lists a variable, with what it lists TIED to the program's text (the seventh form; the later family's looks); each row that meets fmt, with fmt's text TOLD by the authors' own Lean function (tested against real Go, not proved from fmt's source: count such statements apart). THE CARD IS WHAT COUNTS. Prove the row's statement (the work); the ties are given (YtlemnbegblpllaaDoorTie.lean); close each card by the builder's one call (the guide's Derived/Test/ToyasCard.lean, 'card_holds'). Laid BY PROGRAM, IN A SANDBOX (cutbox-door.mjs). By AI agents, Wed Nov 11 2026. No macro, syntax, notation, axiom, sorry.
-/
import Derived.Test.YtlemnbegblpllaaDoorRows
import GoSem.ClaimSeven
namespace Go.Proofs.YtlemnbegblpllaaDoor
namespace Rows

/-- THE TIED CARD OF 'credencelaw06.LexScan'. -/
def lexScanCard : Claim7 := { stood := { row := lexScanRow, standIns := [], harness := (true, "593dc634d07418bf87551d45e12050aca782d20453e8a956bffc795e141917da"), looks := true }, kinds := [], alts := [], laidByText := true, laidKinds := [.handle], laidTests := true, laidLooks := .later }
def LexScanCardSaid : Prop := Claim7.holds Tryd.pinned (.plain (OpenSpec.ofChange lexScanSpec)) lexScanCard

/-- THE TIED CARD OF 'credencelaw06.LexEach'. -/
def lexEachCard : Claim7 := { stood := { row := lexEachRow, standIns := [], harness := (true, "593dc634d07418bf87551d45e12050aca782d20453e8a956bffc795e141917da"), looks := true }, kinds := [], alts := [], laidByText := true, laidKinds := [.handle], laidTests := true, laidLooks := .later }
def LexEachCardSaid : Prop := Claim7.holds Tryd.pinned (.plain (OpenSpec.ofChange lexEachSpec)) lexEachCard

/-- THE TIED CARD OF 'credencelaw06.LexName'. -/
def lexNameCard : Claim7 := { stood := { row := lexNameRow, standIns := [], harness := (true, "593dc634d07418bf87551d45e12050aca782d20453e8a956bffc795e141917da"), looks := true }, kinds := [], alts := [], laidByText := true, laidKinds := [.handle], laidTests := true, laidLooks := .later }
def LexNameCardSaid : Prop := Claim7.holds Tryd.pinned (.plain (OpenSpec.ofChange lexNameSpec)) lexNameCard

/-- THE TIED CARD OF 'credencelaw06.LexApart'. -/
def lexApartCard : Claim7 := { stood := { row := lexApartRow, standIns := [], harness := (true, "593dc634d07418bf87551d45e12050aca782d20453e8a956bffc795e141917da"), looks := true }, kinds := [], alts := [], laidByText := true, laidKinds := [.handle], laidTests := true, laidLooks := .later }
def LexApartCardSaid : Prop := Claim7.holds Tryd.pinned (.plain (OpenSpec.ofChange lexApartSpec)) lexApartCard

/-- THE TIED CARD OF 'credencelaw06.LexQuoted'. -/
def lexQuotedCard : Claim7 := { stood := { row := lexQuotedRow, standIns := [], harness := (true, "593dc634d07418bf87551d45e12050aca782d20453e8a956bffc795e141917da"), looks := true }, kinds := [], alts := [], laidByText := true, laidKinds := [.handle], laidTests := true, laidLooks := .later }
def LexQuotedCardSaid : Prop := Claim7.holds Tryd.pinned (.plain (OpenSpec.ofChange lexQuotedSpec)) lexQuotedCard

/-- THE TIED CARD OF 'credencelaw06.LexNamed'. -/
def lexNamedCard : Claim7 := { stood := { row := lexNamedRow, standIns := [], harness := (true, "593dc634d07418bf87551d45e12050aca782d20453e8a956bffc795e141917da"), looks := true }, kinds := [], alts := [], laidByText := true, laidKinds := [.handle], laidTests := true, laidLooks := .later }
def LexNamedCardSaid : Prop := Claim7.holds Tryd.pinned (.plain (OpenSpec.ofChange lexNamedSpec)) lexNamedCard

/-- THE SECOND FORM's CARD OF 'credencelaw06.LexScan'. -/
def lexScanUptoCard : Claim7 := { stood := { row := lexScanUptoRow, standIns := [], harness := (true, "593dc634d07418bf87551d45e12050aca782d20453e8a956bffc795e141917da"), looks := true }, kinds := [], alts := [], laidByText := true, laidKinds := [.handle], laidTests := true, laidLooks := .later }
def LexScanUptoCardSaid : Prop := Claim7.holds Tryd.pinned (.plain (OpenSpec.upto lexScanSpec)) lexScanUptoCard

/-- THE SECOND FORM's CARD OF 'credencelaw06.LexEach'. -/
def lexEachUptoCard : Claim7 := { stood := { row := lexEachUptoRow, standIns := [], harness := (true, "593dc634d07418bf87551d45e12050aca782d20453e8a956bffc795e141917da"), looks := true }, kinds := [], alts := [], laidByText := true, laidKinds := [.handle], laidTests := true, laidLooks := .later }
def LexEachUptoCardSaid : Prop := Claim7.holds Tryd.pinned (.plain (OpenSpec.upto lexEachSpec)) lexEachUptoCard

/-- THE SECOND FORM's CARD OF 'credencelaw06.LexName'. -/
def lexNameUptoCard : Claim7 := { stood := { row := lexNameUptoRow, standIns := [], harness := (true, "593dc634d07418bf87551d45e12050aca782d20453e8a956bffc795e141917da"), looks := true }, kinds := [], alts := [], laidByText := true, laidKinds := [.handle], laidTests := true, laidLooks := .later }
def LexNameUptoCardSaid : Prop := Claim7.holds Tryd.pinned (.plain (OpenSpec.upto lexNameSpec)) lexNameUptoCard

/-- THE SECOND FORM's CARD OF 'credencelaw06.LexApart'. -/
def lexApartUptoCard : Claim7 := { stood := { row := lexApartUptoRow, standIns := [], harness := (true, "593dc634d07418bf87551d45e12050aca782d20453e8a956bffc795e141917da"), looks := true }, kinds := [], alts := [], laidByText := true, laidKinds := [.handle], laidTests := true, laidLooks := .later }
def LexApartUptoCardSaid : Prop := Claim7.holds Tryd.pinned (.plain (OpenSpec.upto lexApartSpec)) lexApartUptoCard

/-- THE SECOND FORM's CARD OF 'credencelaw06.LexQuoted'. -/
def lexQuotedUptoCard : Claim7 := { stood := { row := lexQuotedUptoRow, standIns := [], harness := (true, "593dc634d07418bf87551d45e12050aca782d20453e8a956bffc795e141917da"), looks := true }, kinds := [], alts := [], laidByText := true, laidKinds := [.handle], laidTests := true, laidLooks := .later }
def LexQuotedUptoCardSaid : Prop := Claim7.holds Tryd.pinned (.plain (OpenSpec.upto lexQuotedSpec)) lexQuotedUptoCard

/-- THE SECOND FORM's CARD OF 'credencelaw06.LexNamed'. -/
def lexNamedUptoCard : Claim7 := { stood := { row := lexNamedUptoRow, standIns := [], harness := (true, "593dc634d07418bf87551d45e12050aca782d20453e8a956bffc795e141917da"), looks := true }, kinds := [], alts := [], laidByText := true, laidKinds := [.handle], laidTests := true, laidLooks := .later }
def LexNamedUptoCardSaid : Prop := Claim7.holds Tryd.pinned (.plain (OpenSpec.upto lexNamedSpec)) lexNamedUptoCard
end Rows
end Go.Proofs.YtlemnbegblpllaaDoor
