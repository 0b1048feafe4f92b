/-
  DERIVED. GIVEN WITH THE SEED: THE CARDS: each row of YtdfmmaehmngkhaaDoorRows.lean that lists a variable, with what it lists TIED to the program's text (the seventh form; the later family's looks); each row that meets fmt, with fmt's text TOLD by the authors' own Lean function (tested against real Go, not proved from fmt's source: count such statements apart). THE CARD IS WHAT COUNTS. Prove the row's statement (the work); the ties are given (YtdfmmaehmngkhaaDoorTie.lean); close each card by the builder's one call (the guide's Derived/Test/ToyasCard.lean, 'card_holds'). Laid BY PROGRAM, IN A SANDBOX (cutbox-door.mjs). By AI agents, Wed Nov 11 2026. No macro, syntax, notation, axiom, sorry.
-/
import Derived.Test.YtdfmmaehmngkhaaDoorRows
import GoSem.ClaimSeven
namespace Go.Proofs.YtdfmmaehmngkhaaDoor
namespace Rows

/-- THE TIED CARD OF 'credencelaw03.FracMade'. -/
def fracMadeCard : Claim7 := { stood := { row := fracMadeRow, standIns := [], harness := (true, "56dffd0bbf4b76b987095742a356d10b2a08b0da7be10b057c8af844525cc7b8"), looks := false }, kinds := [], alts := [], laidByText := true, laidKinds := [.data, .pinned], laidTests := true, laidLooks := .later }
def FracMadeCardSaid : Prop := Claim7.holds Tryd.pinned (.plain (OpenSpec.ofChange fracMadeSpec)) fracMadeCard

/-- THE TIED CARD OF 'credencelaw03.FracLeast'. -/
def fracLeastCard : Claim7 := { stood := { row := fracLeastRow, standIns := [], harness := (true, "56dffd0bbf4b76b987095742a356d10b2a08b0da7be10b057c8af844525cc7b8"), looks := false }, kinds := [], alts := [], laidByText := true, laidKinds := [.data, .pinned], laidTests := true, laidLooks := .later }
def FracLeastCardSaid : Prop := Claim7.holds Tryd.pinned (.plain (OpenSpec.ofChange fracLeastSpec)) fracLeastCard

/-- THE SECOND FORM's CARD OF 'credencelaw03.FracMade'. -/
def fracMadeUptoCard : Claim7 := { stood := { row := fracMadeUptoRow, standIns := [], harness := (true, "56dffd0bbf4b76b987095742a356d10b2a08b0da7be10b057c8af844525cc7b8"), looks := false }, kinds := [], alts := [], laidByText := true, laidKinds := [.data, .pinned], laidTests := true, laidLooks := .later }
def FracMadeUptoCardSaid : Prop := Claim7.holds Tryd.pinned (.plain (OpenSpec.upto fracMadeSpec)) fracMadeUptoCard

/-- THE SECOND FORM's CARD OF 'credencelaw03.FracLeast'. -/
def fracLeastUptoCard : Claim7 := { stood := { row := fracLeastUptoRow, standIns := [], harness := (true, "56dffd0bbf4b76b987095742a356d10b2a08b0da7be10b057c8af844525cc7b8"), looks := false }, kinds := [], alts := [], laidByText := true, laidKinds := [.data, .pinned], laidTests := true, laidLooks := .later }
def FracLeastUptoCardSaid : Prop := Claim7.holds Tryd.pinned (.plain (OpenSpec.upto fracLeastSpec)) fracLeastUptoCard
end Rows
end Go.Proofs.YtdfmmaehmngkhaaDoor
