/-
  DERIVED. GIVEN WITH THE SEED: THE CARDS: each row of YtcmemhdlendlkaaDoorRows.lean that lists a variable, with what it lists TIED to the program's text (the seventh form; the later family's looks); each row that meets fmt, with fmt's text TOLD by the authors' own Lean function (tested against real Go, not proved from fmt's source: count such statements apart). THE CARD IS WHAT COUNTS. Prove the row's statement (the work); the ties are given (YtcmemhdlendlkaaDoorTie.lean); close each card by the builder's one call (the guide's Derived/Test/ToyasCard.lean, 'card_holds'). Laid BY PROGRAM, IN A SANDBOX (cutbox-door.mjs). By AI agents, Wed Nov 11 2026. No macro, syntax, notation, axiom, sorry.
-/
import Derived.Test.YtcmemhdlendlkaaDoorRows
import GoSem.ClaimSeven
namespace Go.Proofs.YtcmemhdlendlkaaDoor
namespace Rows

/-- THE TIED CARD OF 'facetlaw.PosetSays'. -/
def posetSaysCard : Claim7 := { stood := { row := posetSaysRow, standIns := [], harness := (true, "94583fe51aead727a8eb0ee08fe5c78cab3a9e3fed8e9f93193e1ba42dea7ee8"), looks := false }, kinds := [], alts := [], laidByText := true, laidKinds := [.data], laidTests := true, laidLooks := .later }
def PosetSaysCardSaid : Prop := Claim7.holds Tryd.pinned (.plain (OpenSpec.ofChange posetSaysSpec)) posetSaysCard

/-- THE SECOND FORM's CARD OF 'facetlaw.PosetSays'. -/
def posetSaysUptoCard : Claim7 := { stood := { row := posetSaysUptoRow, standIns := [], harness := (true, "94583fe51aead727a8eb0ee08fe5c78cab3a9e3fed8e9f93193e1ba42dea7ee8"), looks := false }, kinds := [], alts := [], laidByText := true, laidKinds := [.data], laidTests := true, laidLooks := .later }
def PosetSaysUptoCardSaid : Prop := Claim7.holds Tryd.pinned (.plain (OpenSpec.upto posetSaysSpec)) posetSaysUptoCard
end Rows
end Go.Proofs.YtcmemhdlendlkaaDoor
