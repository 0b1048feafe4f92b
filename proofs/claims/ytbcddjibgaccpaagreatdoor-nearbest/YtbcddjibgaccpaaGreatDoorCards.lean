/-
  DERIVED. GIVEN WITH THE SEED: THE CARDS: each row of YtbcddjibgaccpaaGreatDoorRows.lean that lists a variable, with what it lists TIED to the program's text (the seventh form; the later family's looks); each row that meets fmt, with fmt's text TOLD by the authors' own Lean function (tested against real Go, not proved from fmt's source: count such statements apart). THE CARD IS WHAT COUNTS. Prove the row's statement (the work); the ties are given (YtbcddjibgaccpaaGreatDoorTie.lean); close each card by the builder's one call (the guide's Derived/Test/ToyasCard.lean, 'card_holds'). Laid BY PROGRAM, IN A SANDBOX (cutbox-door.mjs). By AI agents, Wed Nov 11 2026. No macro, syntax, notation, axiom, sorry.
-/
import Derived.Test.YtbcddjibgaccpaaGreatDoorRows
import GoSem.ClaimSeven
namespace Go.Proofs.YtbcddjibgaccpaaGreatDoor
namespace Rows

/-- THE TIED CARD OF 'credencelaw05.NearBest'. -/
def nearBestCard : Claim7 := { stood := { row := nearBestRow, standIns := [], harness := (true, "1b84cd924689664741fca318c871a46193f60e3ae76631eb1b00da00634cdd45"), looks := false }, kinds := [], alts := [], laidByText := true, laidKinds := [.data, .pinned], laidTests := true, laidLooks := .later }
def NearBestCardSaid : Prop := Claim7.holds Tryz.pinned (.plain (OpenSpec.ofChange nearBestSpec)) nearBestCard

/-- THE SECOND FORM's CARD OF 'credencelaw05.NearBest'. -/
def nearBestUptoCard : Claim7 := { stood := { row := nearBestUptoRow, standIns := [], harness := (true, "1b84cd924689664741fca318c871a46193f60e3ae76631eb1b00da00634cdd45"), looks := false }, kinds := [], alts := [], laidByText := true, laidKinds := [.data, .pinned], laidTests := true, laidLooks := .later }
def NearBestUptoCardSaid : Prop := Claim7.holds Tryz.pinned (.plain (OpenSpec.upto nearBestSpec)) nearBestUptoCard
end Rows
end Go.Proofs.YtbcddjibgaccpaaGreatDoor
