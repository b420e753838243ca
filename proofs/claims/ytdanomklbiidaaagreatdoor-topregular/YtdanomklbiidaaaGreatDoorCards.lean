/-
  DERIVED. GIVEN WITH THE SEED: THE CARDS: each row of YtdanomklbiidaaaGreatDoorRows.lean that lists a variable, with what it lists TIED to the program's text (the seventh form; the later family's looks); each row that meets fmt, with fmt's text TOLD by the authors' own Lean function (tested against real Go, not proved from fmt's source: count such statements apart). THE CARD IS WHAT COUNTS. Prove the row's statement (the work); the ties are given (YtdanomklbiidaaaGreatDoorTie.lean); close each card by the builder's one call (the guide's Derived/Test/ToyasCard.lean, 'card_holds'). Laid BY PROGRAM, IN A SANDBOX (cutbox-door.mjs). By AI agents, Wed Nov 11 2026. No macro, syntax, notation, axiom, sorry.
-/
import Derived.Test.YtdanomklbiidaaaGreatDoorRows
import GoSem.ClaimSeven
namespace Go.Proofs.YtdanomklbiidaaaGreatDoor
namespace Rows

/-- THE TIED CARD OF 'facettop.TopRegular'. -/
def topRegularCard : Claim7 := { stood := { row := topRegularRow, standIns := [], harness := (true, "2a91fc20f35c9f59d2ca6c6cef38f8a1c22c49fc9cf2400890b7497fd25977fb"), looks := false }, kinds := [], alts := [], laidByText := true, laidKinds := [.data], laidTests := true, laidLooks := .later }
def TopRegularCardSaid : Prop := Claim7.holds Tryz.pinned (.plain (OpenSpec.ofChange topRegularSpec)) topRegularCard

/-- THE SECOND FORM's CARD OF 'facettop.TopRegular'. -/
def topRegularUptoCard : Claim7 := { stood := { row := topRegularUptoRow, standIns := [], harness := (true, "2a91fc20f35c9f59d2ca6c6cef38f8a1c22c49fc9cf2400890b7497fd25977fb"), looks := false }, kinds := [], alts := [], laidByText := true, laidKinds := [.data], laidTests := true, laidLooks := .later }
def TopRegularUptoCardSaid : Prop := Claim7.holds Tryz.pinned (.plain (OpenSpec.upto topRegularSpec)) topRegularUptoCard
end Rows
end Go.Proofs.YtdanomklbiidaaaGreatDoor
