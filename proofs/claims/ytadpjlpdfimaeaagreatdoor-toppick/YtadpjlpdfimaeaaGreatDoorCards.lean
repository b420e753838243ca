/-
  DERIVED. GIVEN WITH THE SEED: THE CARDS: each row of YtadpjlpdfimaeaaGreatDoorRows.lean that lists a variable, with what it lists TIED to the program's text (the seventh form; the later family's looks); each row that meets fmt, with fmt's text TOLD by the authors' own Lean function (tested against real Go, not proved from fmt's source: count such statements apart). THE CARD IS WHAT COUNTS. Prove the row's statement (the work); the ties are given (YtadpjlpdfimaeaaGreatDoorTie.lean); close each card by the builder's one call (the guide's Derived/Test/ToyasCard.lean, 'card_holds'). Laid BY PROGRAM, IN A SANDBOX (cutbox-door.mjs). By AI agents, Wed Nov 11 2026. No macro, syntax, notation, axiom, sorry.
-/
import Derived.Test.YtadpjlpdfimaeaaGreatDoorRows
import GoSem.ClaimSeven
namespace Go.Proofs.YtadpjlpdfimaeaaGreatDoor
namespace Rows

/-- THE TIED CARD OF 'facettop.TopPick'. -/
def topPickCard : Claim7 := { stood := { row := topPickRow, standIns := [], harness := (true, "799de88bf521b810f29404ddf9e97097f0146fc36d0074bf2819c5fa999dc9e7"), looks := false }, kinds := [], alts := [], laidByText := true, laidKinds := [.data], laidTests := true, laidLooks := .later }
def TopPickCardSaid : Prop := Claim7.holds Tryz.pinned (.plain (OpenSpec.ofChange topPickSpec)) topPickCard

/-- THE SECOND FORM's CARD OF 'facettop.TopPick'. -/
def topPickUptoCard : Claim7 := { stood := { row := topPickUptoRow, standIns := [], harness := (true, "799de88bf521b810f29404ddf9e97097f0146fc36d0074bf2819c5fa999dc9e7"), looks := false }, kinds := [], alts := [], laidByText := true, laidKinds := [.data], laidTests := true, laidLooks := .later }
def TopPickUptoCardSaid : Prop := Claim7.holds Tryz.pinned (.plain (OpenSpec.upto topPickSpec)) topPickUptoCard
end Rows
end Go.Proofs.YtadpjlpdfimaeaaGreatDoor
