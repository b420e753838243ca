/-
  DERIVED. GIVEN WITH THE SEED: THE CARDS: each row of YtofpcpcldheagaaDoorRows.lean that lists a variable, with what it lists TIED to the program's text (the seventh form; the later family's looks); each row that meets fmt, with fmt's text TOLD by the authors' own Lean function (tested against real Go, not proved from fmt's source: count such statements apart). THE CARD IS WHAT COUNTS. Prove the row's statement (the work); the ties are given (YtofpcpcldheagaaDoorTie.lean); close each card by the builder's one call (the guide's Derived/Test/ToyasCard.lean, 'card_holds'). Laid BY PROGRAM, IN A SANDBOX (cutbox-door.mjs). By AI agents, Wed Nov 11 2026. No macro, syntax, notation, axiom, sorry.
-/
import Derived.Test.YtofpcpcldheagaaDoorRows
import GoSem.ClaimSeven
namespace Go.Proofs.YtofpcpcldheagaaDoor
namespace Rows

/-- THE TIED CARD OF 'facetlaw.PosetSays'. -/
def posetSaysCard : Claim7 := { stood := { row := posetSaysRow, standIns := [], harness := (true, "5659bb827089fe45f54e22e8bde02fe5e8dc55896616a40a1845bcf18424a5d0"), looks := false }, kinds := [], alts := [], laidByText := true, laidKinds := [.data], laidTests := true, laidLooks := .later }
def PosetSaysCardSaid : Prop := Claim7.holds Tryd.pinned (.plain (OpenSpec.ofChange posetSaysSpec)) posetSaysCard

/-- THE TIED CARD OF 'facetlaw.PosetMade'. -/
def posetMadeCard : Claim7 := { stood := { row := posetMadeRow, standIns := [], harness := (true, "5659bb827089fe45f54e22e8bde02fe5e8dc55896616a40a1845bcf18424a5d0"), looks := false }, kinds := [], alts := [], laidByText := true, laidKinds := [.data], laidTests := true, laidLooks := .later }
def PosetMadeCardSaid : Prop := Claim7.holds Tryd.pinned (.plain (OpenSpec.ofChange posetMadeSpec)) posetMadeCard

/-- THE SECOND FORM's CARD OF 'facetlaw.PosetSays'. -/
def posetSaysUptoCard : Claim7 := { stood := { row := posetSaysUptoRow, standIns := [], harness := (true, "5659bb827089fe45f54e22e8bde02fe5e8dc55896616a40a1845bcf18424a5d0"), looks := false }, kinds := [], alts := [], laidByText := true, laidKinds := [.data], laidTests := true, laidLooks := .later }
def PosetSaysUptoCardSaid : Prop := Claim7.holds Tryd.pinned (.plain (OpenSpec.upto posetSaysSpec)) posetSaysUptoCard

/-- THE SECOND FORM's CARD OF 'facetlaw.PosetMade'. -/
def posetMadeUptoCard : Claim7 := { stood := { row := posetMadeUptoRow, standIns := [], harness := (true, "5659bb827089fe45f54e22e8bde02fe5e8dc55896616a40a1845bcf18424a5d0"), looks := false }, kinds := [], alts := [], laidByText := true, laidKinds := [.data], laidTests := true, laidLooks := .later }
def PosetMadeUptoCardSaid : Prop := Claim7.holds Tryd.pinned (.plain (OpenSpec.upto posetMadeSpec)) posetMadeUptoCard
end Rows
end Go.Proofs.YtofpcpcldheagaaDoor
