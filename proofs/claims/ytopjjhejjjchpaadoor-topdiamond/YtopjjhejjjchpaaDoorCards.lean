/-
  DERIVED. GIVEN WITH THE SEED: THE CARDS: each row of YtopjjhejjjchpaaDoorRows.lean that lists a variable, with what it lists TIED to the program's text (the seventh form; the later family's looks); each row that meets fmt, with fmt's text TOLD by the authors' own Lean function (tested against real Go, not proved from fmt's source: count such statements apart). THE CARD IS WHAT COUNTS. Prove the row's statement (the work); the ties are given (YtopjjhejjjchpaaDoorTie.lean); close each card by the builder's one call (the guide's Derived/Test/ToyasCard.lean, 'card_holds'). Laid BY PROGRAM, IN A SANDBOX (cutbox-door.mjs). By AI agents, Wed Nov 11 2026. No macro, syntax, notation, axiom, sorry.
-/
import Derived.Test.YtopjjhejjjchpaaDoorRows
import GoSem.ClaimSeven
namespace Go.Proofs.YtopjjhejjjchpaaDoor
namespace Rows

/-- THE TIED CARD OF 'facettop.TopDiamond'. -/
def topDiamondCard : Claim7 := { stood := { row := topDiamondRow, standIns := [], harness := (true, "cec5dd6533c9752e4be40b516582fa2210db4cb99fe7ada7d8f423eeefe53105"), looks := false }, kinds := [], alts := [], laidByText := true, laidKinds := [.data], laidTests := true, laidLooks := .later }
def TopDiamondCardSaid : Prop := Claim7.holds Tryd.pinned (.plain (OpenSpec.ofChange topDiamondSpec)) topDiamondCard

/-- THE SECOND FORM's CARD OF 'facettop.TopDiamond'. -/
def topDiamondUptoCard : Claim7 := { stood := { row := topDiamondUptoRow, standIns := [], harness := (true, "cec5dd6533c9752e4be40b516582fa2210db4cb99fe7ada7d8f423eeefe53105"), looks := false }, kinds := [], alts := [], laidByText := true, laidKinds := [.data], laidTests := true, laidLooks := .later }
def TopDiamondUptoCardSaid : Prop := Claim7.holds Tryd.pinned (.plain (OpenSpec.upto topDiamondSpec)) topDiamondUptoCard
end Rows
end Go.Proofs.YtopjjhejjjchpaaDoor
