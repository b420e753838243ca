/- The document's answer: some columns alone; all choices; determinants by all orders. -/
import Derived.Test.YtfolfhodicjcaaaRefs
import Derived.Test.YtfolfhodicjcaaaStepsAll
import Derived.Deep.DrawnRows
namespace Go.Proofs.Ytfolfhodicjcaaa
open Go.RowKit
attribute [local go_sem ↓] Go.wp_at_zero Go.wp_at_succ

def colsL (m : List (List Int)) (c : List Int) : List (List Int) := m.map fun r => c.map fun q => r.getD q.toNat 0

theorem colsL_snoc (m : List (List Int)) (c : List Int) (k : Nat) (h : k < m.length) : (colsL m c).take (k + 1) = (colsL m c).take k ++ [c.map fun q => (m.getD k []).getD q.toNat 0] := by
  unfold colsL
  rw [List.take_succ_eq_append_getElem (by simpa using h)]; simp [h]

theorem colsL_length (m : List (List Int)) (c : List Int) : (colsL m c).length = m.length := by simp [colsL]

theorem push3 {M j : Nat} {wa wr w3 : World} {v v' : Value} {o : Obj} {t l : List Int} {z : Int} (hB : Below M wa wr) (hsz : M ≤ wr.heap.size) (hl : t.length = j) (h : wr.ownsRow M 3 1 v j (ints t))
    (ho : w3.ownsRow M 3 1 v' (j + 1) (ints t ++ [.int .i64 z])) (hg : (wr.drew.alloc o).grownBy w3 v.ownBlock) (hz : l = t ++ [z]) : w3.ownsRow M 3 1 v' (j + 1) (ints l) ∧ Below M wa w3 := by
  subst hl hz
  exact owns_push (w := wr.drew) hsz (l := t) h hB.drew ho hg rfl

theorem keep3 {M : Nat} {wa w3 : World} (hB : Below M wa w3) {a1 a2 a3 : Addr} {v1 v2 v3 : Value} (h : ((a1.block < M ∧ wa.cell? a1 = some v1) ∧ (a2.block < M ∧ wa.cell? a2 = some v2)) ∧ (a3.block < M ∧ wa.cell? a3 = some v3)) :
    Hid (w3.cell? a1 = some v1 ∧ w3.cell? a2 = some v2 ∧ w3.cell? a3 = some v3) :=
  ⟨(hB.cell h.1.1.1).trans h.1.1.2, (hB.cell h.1.2.1).trans h.1.2.2, (hB.cell h.2.1).trans h.2.2⟩

end Go.Proofs.Ytfolfhodicjcaaa
