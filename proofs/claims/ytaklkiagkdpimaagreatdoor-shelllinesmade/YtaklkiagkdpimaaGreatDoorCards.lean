/-
  DERIVED. GIVEN WITH THE SEED: THE CARDS: each row of YtaklkiagkdpimaaGreatDoorRows.lean that lists a variable, with what it lists TIED to the program's text (the seventh form; the later family's looks); each row that meets fmt, with fmt's text TOLD by the authors' own Lean function (tested against real Go, not proved from fmt's source: count such statements apart). THE CARD IS WHAT COUNTS. Prove the row's statement (the work); the ties are given (YtaklkiagkdpimaaGreatDoorTie.lean); close each card by the builder's one call (the guide's Derived/Test/ToyasCard.lean, 'card_holds'). Laid BY PROGRAM, IN A SANDBOX (cutbox-door.mjs). By AI agents, Wed Nov 11 2026. No macro, syntax, notation, axiom, sorry.
-/
import Derived.Test.YtaklkiagkdpimaaGreatDoorRows
import GoSem.ClaimSeven
namespace Go.Proofs.YtaklkiagkdpimaaGreatDoor
namespace Rows

/-- THE TIED CARD OF 'facetlaw.ShellLinesMade'. -/
def shellLinesMadeCard : Claim7 := { stood := { row := shellLinesMadeRow, standIns := [], harness := (true, "238c9687340fc55edbe0026663ca60c85cc50ac87388dc8d922cab10e2e6db65"), looks := false }, kinds := [], alts := [], laidByText := true, laidKinds := [.data], laidTests := true, laidLooks := .later }
def ShellLinesMadeCardSaid : Prop := Claim7.holds Tryz.pinned (.plain (OpenSpec.ofChange shellLinesMadeSpec)) shellLinesMadeCard

/-- THE SECOND FORM's CARD OF 'facetlaw.ShellLinesMade'. -/
def shellLinesMadeUptoCard : Claim7 := { stood := { row := shellLinesMadeUptoRow, standIns := [], harness := (true, "238c9687340fc55edbe0026663ca60c85cc50ac87388dc8d922cab10e2e6db65"), looks := false }, kinds := [], alts := [], laidByText := true, laidKinds := [.data], laidTests := true, laidLooks := .later }
def ShellLinesMadeUptoCardSaid : Prop := Claim7.holds Tryz.pinned (.plain (OpenSpec.upto shellLinesMadeSpec)) shellLinesMadeUptoCard
end Rows
end Go.Proofs.YtaklkiagkdpimaaGreatDoor
