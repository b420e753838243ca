/-
  DERIVED. GIVEN WITH THE SEED: THE CARDS: each row of YtomhhonigffilaaDoorRows.lean that lists a variable, with what it lists TIED to the program's text (the seventh form; the later family's looks); each row that meets fmt, with fmt's text TOLD by the authors' own Lean function (tested against real Go, not proved from fmt's source: count such statements apart). THE CARD IS WHAT COUNTS. Prove the row's statement (the work); the ties are given (YtomhhonigffilaaDoorTie.lean); close each card by the builder's one call (the guide's Derived/Test/ToyasCard.lean, 'card_holds'). Laid BY PROGRAM, IN A SANDBOX (cutbox-door.mjs). By AI agents, Wed Nov 11 2026. No macro, syntax, notation, axiom, sorry.
-/
import Derived.Test.YtomhhonigffilaaDoorRows
import GoSem.ClaimSeven
namespace Go.Proofs.YtomhhonigffilaaDoor
namespace Rows

/-- THE TIED CARD OF 'facetlaw.MatroidVectors'. -/
def matroidVectorsCard : Claim7 := { stood := { row := matroidVectorsRow, standIns := [], harness := (true, "2da674808002bc353bce19ac9d5b32a55ef039ba785dd1aa616db8adbee4aee6"), looks := false }, kinds := [], alts := [], laidByText := true, laidKinds := [.data], laidTests := true, laidLooks := .later }
def MatroidVectorsCardSaid : Prop := Claim7.holds Tryd.pinned (.plain (OpenSpec.ofChange matroidVectorsSpec)) matroidVectorsCard

/-- THE SECOND FORM's CARD OF 'facetlaw.MatroidVectors'. -/
def matroidVectorsUptoCard : Claim7 := { stood := { row := matroidVectorsUptoRow, standIns := [], harness := (true, "2da674808002bc353bce19ac9d5b32a55ef039ba785dd1aa616db8adbee4aee6"), looks := false }, kinds := [], alts := [], laidByText := true, laidKinds := [.data], laidTests := true, laidLooks := .later }
def MatroidVectorsUptoCardSaid : Prop := Claim7.holds Tryd.pinned (.plain (OpenSpec.upto matroidVectorsSpec)) matroidVectorsUptoCard
end Rows
end Go.Proofs.YtomhhonigffilaaDoor
