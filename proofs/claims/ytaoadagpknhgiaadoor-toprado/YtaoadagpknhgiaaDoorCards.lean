/-
  DERIVED. GIVEN WITH THE SEED: THE CARDS: each row of YtaoadagpknhgiaaDoorRows.lean that lists a variable, with what it lists TIED to the program's text (the seventh form; the later family's looks); each row that meets fmt, with fmt's text TOLD by the authors' own Lean function (tested against real Go, not proved from fmt's source: count such statements apart). THE CARD IS WHAT COUNTS. Prove the row's statement (the work); the ties are given (YtaoadagpknhgiaaDoorTie.lean); close each card by the builder's one call (the guide's Derived/Test/ToyasCard.lean, 'card_holds'). Laid BY PROGRAM, IN A SANDBOX (cutbox-door.mjs). By AI agents, Wed Nov 11 2026. No macro, syntax, notation, axiom, sorry.
-/
import Derived.Test.YtaoadagpknhgiaaDoorRows
import GoSem.ClaimSeven
namespace Go.Proofs.YtaoadagpknhgiaaDoor
namespace Rows

/-- THE TIED CARD OF 'facettop.TopRado'. -/
def topRadoCard : Claim7 := { stood := { row := topRadoRow, standIns := [], harness := (true, "1c479e6f525b7566e9ec291d60c25ba0946b94b5911df545927ae31d2f39c73f"), looks := false }, kinds := [], alts := [], laidByText := true, laidKinds := [.data], laidTests := true, laidLooks := .later }
def TopRadoCardSaid : Prop := Claim7.holds Tryd.pinned (.plain (OpenSpec.ofChange topRadoSpec)) topRadoCard

/-- THE SECOND FORM's CARD OF 'facettop.TopRado'. -/
def topRadoUptoCard : Claim7 := { stood := { row := topRadoUptoRow, standIns := [], harness := (true, "1c479e6f525b7566e9ec291d60c25ba0946b94b5911df545927ae31d2f39c73f"), looks := false }, kinds := [], alts := [], laidByText := true, laidKinds := [.data], laidTests := true, laidLooks := .later }
def TopRadoUptoCardSaid : Prop := Claim7.holds Tryd.pinned (.plain (OpenSpec.upto topRadoSpec)) topRadoUptoCard
end Rows
end Go.Proofs.YtaoadagpknhgiaaDoor
