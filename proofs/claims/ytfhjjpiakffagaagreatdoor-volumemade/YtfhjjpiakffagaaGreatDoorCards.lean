/-
  DERIVED. GIVEN WITH THE SEED: THE CARDS: each row of YtfhjjpiakffagaaGreatDoorRows.lean that lists a variable, with what it lists TIED to the program's text (the seventh form; the later family's looks); each row that meets fmt, with fmt's text TOLD by the authors' own Lean function (tested against real Go, not proved from fmt's source: count such statements apart). THE CARD IS WHAT COUNTS. Prove the row's statement (the work); the ties are given (YtfhjjpiakffagaaGreatDoorTie.lean); close each card by the builder's one call (the guide's Derived/Test/ToyasCard.lean, 'card_holds'). Laid BY PROGRAM, IN A SANDBOX (cutbox-door.mjs). By AI agents, Wed Nov 11 2026. No macro, syntax, notation, axiom, sorry.
-/
import Derived.Test.YtfhjjpiakffagaaGreatDoorRows
import GoSem.ClaimSeven
namespace Go.Proofs.YtfhjjpiakffagaaGreatDoor
namespace Rows

/-- THE TIED CARD OF 'facetlaw.VolumeMade'. -/
def volumeMadeCard : Claim7 := { stood := { row := volumeMadeRow, standIns := [], harness := (true, "58b66144989b3f5edf761c1ceca540c5a1a56b9d8844ef4484956b8356bf562b"), looks := false }, kinds := [], alts := [], laidByText := true, laidKinds := [.data], laidTests := true, laidLooks := .later }
def VolumeMadeCardSaid : Prop := Claim7.holds Tryz.pinned (.plain (OpenSpec.ofChange volumeMadeSpec)) volumeMadeCard

/-- THE SECOND FORM's CARD OF 'facetlaw.VolumeMade'. -/
def volumeMadeUptoCard : Claim7 := { stood := { row := volumeMadeUptoRow, standIns := [], harness := (true, "58b66144989b3f5edf761c1ceca540c5a1a56b9d8844ef4484956b8356bf562b"), looks := false }, kinds := [], alts := [], laidByText := true, laidKinds := [.data], laidTests := true, laidLooks := .later }
def VolumeMadeUptoCardSaid : Prop := Claim7.holds Tryz.pinned (.plain (OpenSpec.upto volumeMadeSpec)) volumeMadeUptoCard
end Rows
end Go.Proofs.YtfhjjpiakffagaaGreatDoor
