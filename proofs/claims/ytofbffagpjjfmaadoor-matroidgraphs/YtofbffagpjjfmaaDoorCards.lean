/-
  DERIVED. GIVEN WITH THE SEED: THE CARDS: each row of YtofbffagpjjfmaaDoorRows.lean that lists a variable, with what it lists TIED to the program's text (the seventh form; the later family's looks); each row that meets fmt, with fmt's text TOLD by the authors' own Lean function (tested against real Go, not proved from fmt's source: count such statements apart). THE CARD IS WHAT COUNTS. Prove the row's statement (the work); the ties are given (YtofbffagpjjfmaaDoorTie.lean); close each card by the builder's one call (the guide's Derived/Test/ToyasCard.lean, 'card_holds'). Laid BY PROGRAM, IN A SANDBOX (cutbox-door.mjs). By AI agents, Wed Nov 11 2026. No macro, syntax, notation, axiom, sorry.
-/
import Derived.Test.YtofbffagpjjfmaaDoorRows
import GoSem.ClaimSeven
namespace Go.Proofs.YtofbffagpjjfmaaDoor
namespace Rows

/-- THE TIED CARD OF 'facetlaw.MatroidGraphs'. -/
def matroidGraphsCard : Claim7 := { stood := { row := matroidGraphsRow, standIns := [], harness := (true, "ea9a410480e00443ff31464d54d56a4a85e1214c9f74e50ce8e9756dec65c3de"), looks := false }, kinds := [], alts := [], laidByText := true, laidKinds := [.data], laidTests := true, laidLooks := .later }
def MatroidGraphsCardSaid : Prop := Claim7.holds Tryd.pinned (.plain (OpenSpec.ofChange matroidGraphsSpec)) matroidGraphsCard

/-- THE SECOND FORM's CARD OF 'facetlaw.MatroidGraphs'. -/
def matroidGraphsUptoCard : Claim7 := { stood := { row := matroidGraphsUptoRow, standIns := [], harness := (true, "ea9a410480e00443ff31464d54d56a4a85e1214c9f74e50ce8e9756dec65c3de"), looks := false }, kinds := [], alts := [], laidByText := true, laidKinds := [.data], laidTests := true, laidLooks := .later }
def MatroidGraphsUptoCardSaid : Prop := Claim7.holds Tryd.pinned (.plain (OpenSpec.upto matroidGraphsSpec)) matroidGraphsUptoCard
end Rows
end Go.Proofs.YtofbffagpjjfmaaDoor
