/-
  DERIVED. GIVEN WITH THE SEED: THE CARDS: each row of YteflgnggopcdcaaDoorRows.lean that lists a variable, with what it lists TIED to the program's text (the seventh form; the later family's looks); each row that meets fmt, with fmt's text TOLD by the authors' own Lean function (tested against real Go, not proved from fmt's source: count such statements apart). THE CARD IS WHAT COUNTS. Prove the row's statement (the work); the ties are given (YteflgnggopcdcaaDoorTie.lean); close each card by the builder's one call (the guide's Derived/Test/ToyasCard.lean, 'card_holds'). Laid BY PROGRAM, IN A SANDBOX (cutbox-door.mjs). By AI agents, Wed Nov 11 2026. No macro, syntax, notation, axiom, sorry.
-/
import Derived.Test.YteflgnggopcdcaaDoorRows
import GoSem.ClaimSeven
namespace Go.Proofs.YteflgnggopcdcaaDoor
namespace Rows

/-- THE TIED CARD OF 'facettop.TopMinors'. -/
def topMinorsCard : Claim7 := { stood := { row := topMinorsRow, standIns := [], harness := (true, "c99b48de17bfa500307a5785105f18b69c1d6d89ca9678325373983066204f01"), looks := false }, kinds := [], alts := [], laidByText := true, laidKinds := [.data], laidTests := true, laidLooks := .later }
def TopMinorsCardSaid : Prop := Claim7.holds Tryd.pinned (.plain (OpenSpec.ofChange topMinorsSpec)) topMinorsCard

/-- THE SECOND FORM's CARD OF 'facettop.TopMinors'. -/
def topMinorsUptoCard : Claim7 := { stood := { row := topMinorsUptoRow, standIns := [], harness := (true, "c99b48de17bfa500307a5785105f18b69c1d6d89ca9678325373983066204f01"), looks := false }, kinds := [], alts := [], laidByText := true, laidKinds := [.data], laidTests := true, laidLooks := .later }
def TopMinorsUptoCardSaid : Prop := Claim7.holds Tryd.pinned (.plain (OpenSpec.upto topMinorsSpec)) topMinorsUptoCard
end Rows
end Go.Proofs.YteflgnggopcdcaaDoor
