/-
  DERIVED. GIVEN WITH THE SEED: THE CARDS: each row of YtkndimmcndfnnaaDoorRows.lean that lists a variable, with what it lists TIED to the program's text (the seventh form; the later family's looks); each row that meets fmt, with fmt's text TOLD by the authors' own Lean function (tested against real Go, not proved from fmt's source: count such statements apart). THE CARD IS WHAT COUNTS. Prove the row's statement (the work); the ties are given (YtkndimmcndfnnaaDoorTie.lean); close each card by the builder's one call (the guide's Derived/Test/ToyasCard.lean, 'card_holds'). Laid BY PROGRAM, IN A SANDBOX (cutbox-door.mjs). By AI agents, Wed Nov 11 2026. No macro, syntax, notation, axiom, sorry.
-/
import Derived.Test.YtkndimmcndfnnaaDoorRows
import GoSem.ClaimSeven
namespace Go.Proofs.YtkndimmcndfnnaaDoor
namespace Rows

/-- THE TIED CARD OF 'facettop.TopGreedy'. -/
def topGreedyCard : Claim7 := { stood := { row := topGreedyRow, standIns := [], harness := (true, "b0979104328ea87c6136d5cf7448ac618abf2fada301fd2e78543c3160b09c63"), looks := false }, kinds := [], alts := [], laidByText := true, laidKinds := [.data], laidTests := true, laidLooks := .later }
def TopGreedyCardSaid : Prop := Claim7.holds Tryd.pinned (.plain (OpenSpec.ofChange topGreedySpec)) topGreedyCard

/-- THE SECOND FORM's CARD OF 'facettop.TopGreedy'. -/
def topGreedyUptoCard : Claim7 := { stood := { row := topGreedyUptoRow, standIns := [], harness := (true, "b0979104328ea87c6136d5cf7448ac618abf2fada301fd2e78543c3160b09c63"), looks := false }, kinds := [], alts := [], laidByText := true, laidKinds := [.data], laidTests := true, laidLooks := .later }
def TopGreedyUptoCardSaid : Prop := Claim7.holds Tryd.pinned (.plain (OpenSpec.upto topGreedySpec)) topGreedyUptoCard
end Rows
end Go.Proofs.YtkndimmcndfnnaaDoor
