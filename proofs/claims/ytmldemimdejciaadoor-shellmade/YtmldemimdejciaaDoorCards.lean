/-
  DERIVED. GIVEN WITH THE SEED: THE CARDS: each row of YtmldemimdejciaaDoorRows.lean that lists a variable, with what it lists TIED to the program's text (the seventh form; the later family's looks); each row that meets fmt, with fmt's text TOLD by the authors' own Lean function (tested against real Go, not proved from fmt's source: count such statements apart). THE CARD IS WHAT COUNTS. Prove the row's statement (the work); the ties are given (YtmldemimdejciaaDoorTie.lean); close each card by the builder's one call (the guide's Derived/Test/ToyasCard.lean, 'card_holds'). Laid BY PROGRAM, IN A SANDBOX (cutbox-door.mjs). By AI agents, Wed Nov 11 2026. No macro, syntax, notation, axiom, sorry.
-/
import Derived.Test.YtmldemimdejciaaDoorRows
import GoSem.ClaimSeven
namespace Go.Proofs.YtmldemimdejciaaDoor
namespace Rows

/-- THE TIED CARD OF 'facetlaw.ShellSays'. -/
def shellSaysCard : Claim7 := { stood := { row := shellSaysRow, standIns := [], harness := (true, "62a2f84b1e5f97de255645e25942d6ecab1e75e0f5bf35f4eb106da3829dab29"), looks := false }, kinds := [], alts := [], laidByText := true, laidKinds := [.data], laidTests := true, laidLooks := .later }
def ShellSaysCardSaid : Prop := Claim7.holds Tryd.pinned (.plain (OpenSpec.ofChange shellSaysSpec)) shellSaysCard

/-- THE TIED CARD OF 'facetlaw.ShellMade'. -/
def shellMadeCard : Claim7 := { stood := { row := shellMadeRow, standIns := [], harness := (true, "62a2f84b1e5f97de255645e25942d6ecab1e75e0f5bf35f4eb106da3829dab29"), looks := false }, kinds := [], alts := [], laidByText := true, laidKinds := [.data], laidTests := true, laidLooks := .later }
def ShellMadeCardSaid : Prop := Claim7.holds Tryd.pinned (.plain (OpenSpec.ofChange shellMadeSpec)) shellMadeCard

/-- THE SECOND FORM's CARD OF 'facetlaw.ShellSays'. -/
def shellSaysUptoCard : Claim7 := { stood := { row := shellSaysUptoRow, standIns := [], harness := (true, "62a2f84b1e5f97de255645e25942d6ecab1e75e0f5bf35f4eb106da3829dab29"), looks := false }, kinds := [], alts := [], laidByText := true, laidKinds := [.data], laidTests := true, laidLooks := .later }
def ShellSaysUptoCardSaid : Prop := Claim7.holds Tryd.pinned (.plain (OpenSpec.upto shellSaysSpec)) shellSaysUptoCard

/-- THE SECOND FORM's CARD OF 'facetlaw.ShellMade'. -/
def shellMadeUptoCard : Claim7 := { stood := { row := shellMadeUptoRow, standIns := [], harness := (true, "62a2f84b1e5f97de255645e25942d6ecab1e75e0f5bf35f4eb106da3829dab29"), looks := false }, kinds := [], alts := [], laidByText := true, laidKinds := [.data], laidTests := true, laidLooks := .later }
def ShellMadeUptoCardSaid : Prop := Claim7.holds Tryd.pinned (.plain (OpenSpec.upto shellMadeSpec)) shellMadeUptoCard
end Rows
end Go.Proofs.YtmldemimdejciaaDoor
