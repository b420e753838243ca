/-
  DERIVED. GIVEN WITH THE SEED: THE CARDS: each row of YtkblplggdcpnbaaDoorRows.lean that lists a variable, with what it lists TIED to the program's text (the seventh form; the later family's looks); each row that meets fmt, with fmt's text TOLD by the authors' own Lean function (tested against real Go, not proved from fmt's source: count such statements apart). THE CARD IS WHAT COUNTS. Prove the row's statement (the work); the ties are given (YtkblplggdcpnbaaDoorTie.lean); close each card by the builder's one call (the guide's Derived/Test/ToyasCard.lean, 'card_holds'). Laid BY PROGRAM, IN A SANDBOX (cutbox-door.mjs). By AI agents, Wed Nov 11 2026. No macro, syntax, notation, axiom, sorry.
-/
import Derived.Test.YtkblplggdcpnbaaDoorRows
import GoSem.ClaimSeven
namespace Go.Proofs.YtkblplggdcpnbaaDoor
namespace Rows

/-- THE TIED CARD OF 'facetlaw.ShellSays'. -/
def shellSaysCard : Claim7 := { stood := { row := shellSaysRow, standIns := [], harness := (true, "976db91d96f01a11ff8633544b029e232255add3c3378ba895b79e5689904a08"), looks := false }, kinds := [], alts := [], laidByText := true, laidKinds := [.data], laidTests := true, laidLooks := .later }
def ShellSaysCardSaid : Prop := Claim7.holds Tryd.pinned (.plain (OpenSpec.ofChange shellSaysSpec)) shellSaysCard

/-- THE SECOND FORM's CARD OF 'facetlaw.ShellSays'. -/
def shellSaysUptoCard : Claim7 := { stood := { row := shellSaysUptoRow, standIns := [], harness := (true, "976db91d96f01a11ff8633544b029e232255add3c3378ba895b79e5689904a08"), looks := false }, kinds := [], alts := [], laidByText := true, laidKinds := [.data], laidTests := true, laidLooks := .later }
def ShellSaysUptoCardSaid : Prop := Claim7.holds Tryd.pinned (.plain (OpenSpec.upto shellSaysSpec)) shellSaysUptoCard
end Rows
end Go.Proofs.YtkblplggdcpnbaaDoor
