/-
  DERIVED. GIVEN WITH THE SEED: THE CARDS: each row of YtkfdpcgmpbopnaaGreatDoorRows.lean that lists a variable, with what it lists TIED to the program's text (the seventh form; the later family's looks); each row that meets fmt, with fmt's text TOLD by the authors' own Lean function (tested against real Go, not proved from fmt's source: count such statements apart). THE CARD IS WHAT COUNTS. Prove the row's statement (the work); the ties are given (YtkfdpcgmpbopnaaGreatDoorTie.lean); close each card by the builder's one call (the guide's Derived/Test/ToyasCard.lean, 'card_holds'). Laid BY PROGRAM, IN A SANDBOX (cutbox-door.mjs). By AI agents, Wed Nov 11 2026. No macro, syntax, notation, axiom, sorry.
-/
import Derived.Test.YtkfdpcgmpbopnaaGreatDoorRows
import GoSem.ClaimSeven
namespace Go.Proofs.YtkfdpcgmpbopnaaGreatDoor
namespace Rows

/-- THE TIED CARD OF 'facetlaw.FaceMade'. -/
def faceMadeCard : Claim7 := { stood := { row := faceMadeRow, standIns := [], harness := (true, "6c6b781add69fe1609b23bc25900449f7b26fc57fc0da5f47ca8b43894c2ed7f"), looks := false }, kinds := [], alts := [], laidByText := true, laidKinds := [.data], laidTests := true, laidLooks := .later }
def FaceMadeCardSaid : Prop := Claim7.holds Tryz.pinned (.plain (OpenSpec.ofChange faceMadeSpec)) faceMadeCard

/-- THE SECOND FORM's CARD OF 'facetlaw.FaceMade'. -/
def faceMadeUptoCard : Claim7 := { stood := { row := faceMadeUptoRow, standIns := [], harness := (true, "6c6b781add69fe1609b23bc25900449f7b26fc57fc0da5f47ca8b43894c2ed7f"), looks := false }, kinds := [], alts := [], laidByText := true, laidKinds := [.data], laidTests := true, laidLooks := .later }
def FaceMadeUptoCardSaid : Prop := Claim7.holds Tryz.pinned (.plain (OpenSpec.upto faceMadeSpec)) faceMadeUptoCard
end Rows
end Go.Proofs.YtkfdpcgmpbopnaaGreatDoor
