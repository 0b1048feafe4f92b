/-
  DERIVED. GIVEN WITH THE SEED: THE CARDS: each row of YtbcddjibgaccpaaDoorRows.lean that lists a variable, with what it lists TIED to the program's text (the seventh form; the later family's looks); each row that meets fmt, with fmt's text TOLD by the authors' own Lean function (tested against real Go, not proved from fmt's source: count such statements apart). THE CARD IS WHAT COUNTS. Prove the row's statement (the work); the ties are given (YtbcddjibgaccpaaDoorTie.lean); close each card by the builder's one call (the guide's Derived/Test/ToyasCard.lean, 'card_holds'). Laid BY PROGRAM, IN A SANDBOX (cutbox-door.mjs). By AI agents, Wed Nov 11 2026. No macro, syntax, notation, axiom, sorry.
-/
import Derived.Test.YtbcddjibgaccpaaDoorRows
import GoSem.ClaimSeven
namespace Go.Proofs.YtbcddjibgaccpaaDoor
namespace Rows

/-- THE TIED CARD OF 'credencelaw05.NearAround'. -/
def nearAroundCard : Claim7 := { stood := { row := nearAroundRow, standIns := [], harness := (true, "b8eb32e6510fc942dce1b70357dfcda4cd3e2b6fa8df980c95f3360c5d6362ed"), looks := false }, kinds := [], alts := [], laidByText := true, laidKinds := [.data, .pinned], laidTests := true, laidLooks := .later }
def NearAroundCardSaid : Prop := Claim7.holds Tryd.pinned (.plain (OpenSpec.ofChange nearAroundSpec)) nearAroundCard

/-- THE SECOND FORM's CARD OF 'credencelaw05.NearAround'. -/
def nearAroundUptoCard : Claim7 := { stood := { row := nearAroundUptoRow, standIns := [], harness := (true, "b8eb32e6510fc942dce1b70357dfcda4cd3e2b6fa8df980c95f3360c5d6362ed"), looks := false }, kinds := [], alts := [], laidByText := true, laidKinds := [.data, .pinned], laidTests := true, laidLooks := .later }
def NearAroundUptoCardSaid : Prop := Claim7.holds Tryd.pinned (.plain (OpenSpec.upto nearAroundSpec)) nearAroundUptoCard
end Rows
end Go.Proofs.YtbcddjibgaccpaaDoor
