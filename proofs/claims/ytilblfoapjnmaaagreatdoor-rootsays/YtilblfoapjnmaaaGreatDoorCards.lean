/-
  DERIVED. GIVEN WITH THE SEED: THE CARDS: each row of YtilblfoapjnmaaaGreatDoorRows.lean that lists a variable, with what it lists TIED to the program's text (the seventh form; the later family's looks); each row that meets fmt, with fmt's text TOLD by the authors' own Lean function (tested against real Go, not proved from fmt's source: count such statements apart). THE CARD IS WHAT COUNTS. Prove the row's statement (the work); the ties are given (YtilblfoapjnmaaaGreatDoorTie.lean); close each card by the builder's one call (the guide's Derived/Test/ToyasCard.lean, 'card_holds'). Laid BY PROGRAM, IN A SANDBOX (cutbox-door.mjs). By AI agents, Wed Nov 11 2026. No macro, syntax, notation, axiom, sorry.
-/
import Derived.Test.YtilblfoapjnmaaaGreatDoorRows
import GoSem.ClaimSeven
namespace Go.Proofs.YtilblfoapjnmaaaGreatDoor
namespace Rows

/-- THE TIED CARD OF 'facetlaw.RootSays'. -/
def rootSaysCard : Claim7 := { stood := { row := rootSaysRow, standIns := [], harness := (true, "6756ae2313abf30267c212253841fd3d3c7807b62fb7828908bc1982c95521bb"), looks := false }, kinds := [], alts := [], laidByText := true, laidKinds := [.data, .data, .data], laidTests := true, laidLooks := .later }
def RootSaysCardSaid : Prop := Claim7.holds Tryz.pinned (.plain (OpenSpec.ofChange rootSaysSpec)) rootSaysCard

/-- THE TIED CARD OF 'facetlaw.RootMade'. -/
def rootMadeCard : Claim7 := { stood := { row := rootMadeRow, standIns := [], harness := (true, "6756ae2313abf30267c212253841fd3d3c7807b62fb7828908bc1982c95521bb"), looks := false }, kinds := [], alts := [], laidByText := true, laidKinds := [.data, .data, .data], laidTests := true, laidLooks := .later }
def RootMadeCardSaid : Prop := Claim7.holds Tryz.pinned (.plain (OpenSpec.ofChange rootMadeSpec)) rootMadeCard

/-- THE SECOND FORM's CARD OF 'facetlaw.RootSays'. -/
def rootSaysUptoCard : Claim7 := { stood := { row := rootSaysUptoRow, standIns := [], harness := (true, "6756ae2313abf30267c212253841fd3d3c7807b62fb7828908bc1982c95521bb"), looks := false }, kinds := [], alts := [], laidByText := true, laidKinds := [.data, .data, .data], laidTests := true, laidLooks := .later }
def RootSaysUptoCardSaid : Prop := Claim7.holds Tryz.pinned (.plain (OpenSpec.upto rootSaysSpec)) rootSaysUptoCard

/-- THE SECOND FORM's CARD OF 'facetlaw.RootMade'. -/
def rootMadeUptoCard : Claim7 := { stood := { row := rootMadeUptoRow, standIns := [], harness := (true, "6756ae2313abf30267c212253841fd3d3c7807b62fb7828908bc1982c95521bb"), looks := false }, kinds := [], alts := [], laidByText := true, laidKinds := [.data, .data, .data], laidTests := true, laidLooks := .later }
def RootMadeUptoCardSaid : Prop := Claim7.holds Tryz.pinned (.plain (OpenSpec.upto rootMadeSpec)) rootMadeUptoCard
end Rows
end Go.Proofs.YtilblfoapjnmaaaGreatDoor
