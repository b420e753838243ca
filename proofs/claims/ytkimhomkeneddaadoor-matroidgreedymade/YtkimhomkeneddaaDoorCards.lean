/-
  DERIVED. GIVEN WITH THE SEED: THE CARDS: each row of YtkimhomkeneddaaDoorRows.lean that lists a variable, with what it lists TIED to the program's text (the seventh form; the later family's looks); each row that meets fmt, with fmt's text TOLD by the authors' own Lean function (tested against real Go, not proved from fmt's source: count such statements apart). THE CARD IS WHAT COUNTS. Prove the row's statement (the work); the ties are given (YtkimhomkeneddaaDoorTie.lean); close each card by the builder's one call (the guide's Derived/Test/ToyasCard.lean, 'card_holds'). Laid BY PROGRAM, IN A SANDBOX (cutbox-door.mjs). By AI agents, Wed Nov 11 2026. No macro, syntax, notation, axiom, sorry.
-/
import Derived.Test.YtkimhomkeneddaaDoorRows
import GoSem.ClaimSeven
namespace Go.Proofs.YtkimhomkeneddaaDoor
namespace Rows

/-- THE TIED CARD OF 'facetlaw.MatroidGreedy'. -/
def matroidGreedyCard : Claim7 := { stood := { row := matroidGreedyRow, standIns := [], harness := (true, "ec4d741ad79c71a191a09e1e12ef8ddcbba79e0745e3aedec2efa20889599bb0"), looks := false }, kinds := [], alts := [], laidByText := true, laidKinds := [.data], laidTests := true, laidLooks := .later }
def MatroidGreedyCardSaid : Prop := Claim7.holds Tryd.pinned (.plain (OpenSpec.ofChange matroidGreedySpec)) matroidGreedyCard

/-- THE TIED CARD OF 'facetlaw.MatroidGreedyMade'. -/
def matroidGreedyMadeCard : Claim7 := { stood := { row := matroidGreedyMadeRow, standIns := [], harness := (true, "ec4d741ad79c71a191a09e1e12ef8ddcbba79e0745e3aedec2efa20889599bb0"), looks := false }, kinds := [], alts := [], laidByText := true, laidKinds := [.data], laidTests := true, laidLooks := .later }
def MatroidGreedyMadeCardSaid : Prop := Claim7.holds Tryd.pinned (.plain (OpenSpec.ofChange matroidGreedyMadeSpec)) matroidGreedyMadeCard

/-- THE SECOND FORM's CARD OF 'facetlaw.MatroidGreedy'. -/
def matroidGreedyUptoCard : Claim7 := { stood := { row := matroidGreedyUptoRow, standIns := [], harness := (true, "ec4d741ad79c71a191a09e1e12ef8ddcbba79e0745e3aedec2efa20889599bb0"), looks := false }, kinds := [], alts := [], laidByText := true, laidKinds := [.data], laidTests := true, laidLooks := .later }
def MatroidGreedyUptoCardSaid : Prop := Claim7.holds Tryd.pinned (.plain (OpenSpec.upto matroidGreedySpec)) matroidGreedyUptoCard

/-- THE SECOND FORM's CARD OF 'facetlaw.MatroidGreedyMade'. -/
def matroidGreedyMadeUptoCard : Claim7 := { stood := { row := matroidGreedyMadeUptoRow, standIns := [], harness := (true, "ec4d741ad79c71a191a09e1e12ef8ddcbba79e0745e3aedec2efa20889599bb0"), looks := false }, kinds := [], alts := [], laidByText := true, laidKinds := [.data], laidTests := true, laidLooks := .later }
def MatroidGreedyMadeUptoCardSaid : Prop := Claim7.holds Tryd.pinned (.plain (OpenSpec.upto matroidGreedyMadeSpec)) matroidGreedyMadeUptoCard
end Rows
end Go.Proofs.YtkimhomkeneddaaDoor
