/-
  DERIVED. GIVEN WITH THE SEED: THE CARDS: each row of YtehklbekaflokaaDoorRows.lean that lists a variable, with what it lists TIED to the program's text (the seventh form; the later family's looks); each row that meets fmt, with fmt's text TOLD by the authors' own Lean function (tested against real Go, not proved from fmt's source: count such statements apart). THE CARD IS WHAT COUNTS. Prove the row's statement (the work); the ties are given (YtehklbekaflokaaDoorTie.lean); close each card by the builder's one call (the guide's Derived/Test/ToyasCard.lean, 'card_holds'). Laid BY PROGRAM, IN A SANDBOX (cutbox-door.mjs). By AI agents, Wed Nov 11 2026. No macro, syntax, notation, axiom, sorry.
-/
import Derived.Test.YtehklbekaflokaaDoorRows
import GoSem.ClaimSeven
namespace Go.Proofs.YtehklbekaflokaaDoor
namespace Rows

/-- THE TIED CARD OF 'facetlaw.MatroidSays'. -/
def matroidSaysCard : Claim7 := { stood := { row := matroidSaysRow, standIns := [], harness := (true, "ffe6b7f233033fd23aa8210cd645d8333bef570226f68dda085be32e5deb5a6c"), looks := false }, kinds := [], alts := [], laidByText := true, laidKinds := [.data], laidTests := true, laidLooks := .later }
def MatroidSaysCardSaid : Prop := Claim7.holds Tryd.pinned (.plain (OpenSpec.ofChange matroidSaysSpec)) matroidSaysCard

/-- THE TIED CARD OF 'facetlaw.MatroidMade'. -/
def matroidMadeCard : Claim7 := { stood := { row := matroidMadeRow, standIns := [], harness := (true, "ffe6b7f233033fd23aa8210cd645d8333bef570226f68dda085be32e5deb5a6c"), looks := false }, kinds := [], alts := [], laidByText := true, laidKinds := [.data], laidTests := true, laidLooks := .later }
def MatroidMadeCardSaid : Prop := Claim7.holds Tryd.pinned (.plain (OpenSpec.ofChange matroidMadeSpec)) matroidMadeCard

/-- THE SECOND FORM's CARD OF 'facetlaw.MatroidSays'. -/
def matroidSaysUptoCard : Claim7 := { stood := { row := matroidSaysUptoRow, standIns := [], harness := (true, "ffe6b7f233033fd23aa8210cd645d8333bef570226f68dda085be32e5deb5a6c"), looks := false }, kinds := [], alts := [], laidByText := true, laidKinds := [.data], laidTests := true, laidLooks := .later }
def MatroidSaysUptoCardSaid : Prop := Claim7.holds Tryd.pinned (.plain (OpenSpec.upto matroidSaysSpec)) matroidSaysUptoCard

/-- THE SECOND FORM's CARD OF 'facetlaw.MatroidMade'. -/
def matroidMadeUptoCard : Claim7 := { stood := { row := matroidMadeUptoRow, standIns := [], harness := (true, "ffe6b7f233033fd23aa8210cd645d8333bef570226f68dda085be32e5deb5a6c"), looks := false }, kinds := [], alts := [], laidByText := true, laidKinds := [.data], laidTests := true, laidLooks := .later }
def MatroidMadeUptoCardSaid : Prop := Claim7.holds Tryd.pinned (.plain (OpenSpec.upto matroidMadeSpec)) matroidMadeUptoCard
end Rows
end Go.Proofs.YtehklbekaflokaaDoor
