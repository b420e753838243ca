/-
  DERIVED. GIVEN WITH THE SEED: THE CARDS: each row of YtkdileeahbaobaaDoorRows.lean that lists a variable, with what it lists TIED to the program's text (the seventh form; the later family's looks); each row that meets fmt, with fmt's text TOLD by the authors' own Lean function (tested against real Go, not proved from fmt's source: count such statements apart). THE CARD IS WHAT COUNTS. Prove the row's statement (the work); the ties are given (YtkdileeahbaobaaDoorTie.lean); close each card by the builder's one call (the guide's Derived/Test/ToyasCard.lean, 'card_holds'). Laid BY PROGRAM, IN A SANDBOX (cutbox-door.mjs). By AI agents, Wed Nov 11 2026. No macro, syntax, notation, axiom, sorry.
-/
import Derived.Test.YtkdileeahbaobaaDoorRows
import GoSem.ClaimSeven
namespace Go.Proofs.YtkdileeahbaobaaDoor
namespace Rows

/-- THE TIED CARD OF 'facettop.TopAxioms'. -/
def topAxiomsCard : Claim7 := { stood := { row := topAxiomsRow, standIns := [], harness := (true, "df5dec7203e32196b46d3a0c2c5c0986c844b3d113728f5e4fca59c22bd83a76"), looks := false }, kinds := [], alts := [], laidByText := true, laidKinds := [.data], laidTests := true, laidLooks := .later }
def TopAxiomsCardSaid : Prop := Claim7.holds Tryd.pinned (.plain (OpenSpec.ofChange topAxiomsSpec)) topAxiomsCard

/-- THE SECOND FORM's CARD OF 'facettop.TopAxioms'. -/
def topAxiomsUptoCard : Claim7 := { stood := { row := topAxiomsUptoRow, standIns := [], harness := (true, "df5dec7203e32196b46d3a0c2c5c0986c844b3d113728f5e4fca59c22bd83a76"), looks := false }, kinds := [], alts := [], laidByText := true, laidKinds := [.data], laidTests := true, laidLooks := .later }
def TopAxiomsUptoCardSaid : Prop := Claim7.holds Tryd.pinned (.plain (OpenSpec.upto topAxiomsSpec)) topAxiomsUptoCard
end Rows
end Go.Proofs.YtkdileeahbaobaaDoor
