/- cone.wayBy, walked. -/
import Derived.Test.YtkfdpcgmpbopnaaGreatDoorAcr
import Derived.Test.YtkfdpcgmpbopnaaGreatDoorPkd
namespace Go.Proofs.YtkfdpcgmpbopnaaGreatDoor
open Go.RowKit
attribute [local go_sem ↓] Go.wp_at_zero Go.wp_at_succ

def isC (w : World) (b : Nat) : Prop := ∃ cur t, w.heap[b]? = some (.cells cur t (0, 0))

theorem isC.lt {w : World} {b : Nat} (h : isC w b) : b < w.heap.size := by
  obtain ⟨c, t, h⟩ := h
  exact (Array.getElem?_eq_some_iff.1 h).1

theorem isC.keep {w w' : World} {b : Nat} (h : isC w b) (hk : w'.heap[b]? = w.heap[b]?) : isC w' b := by
  obtain ⟨c, t, h⟩ := h
  exact ⟨c, t, hk.trans h⟩

/-- What a way is told as. -/
def WayV (N : Nat) (w : World) (tv u : Value) (c g : List Int) (rs : List (List Int)) : Prop :=
  (wayB g rs = true ∧ ∃ mo mc, tv = .agg #[u, .slice mo c.length mc, .int .i64 ((wayN g rs).getD c.length 0)] ∧ Sl 0 3 w (.slice mo c.length mc) (ints ((wayN g rs).take c.length)) ∧ ∀ a, mo = some a → N ≤ a.block ∧ isC w a.block) ∨
  (wayB g rs = false ∧ tv = .agg #[.slice none 0 0, .slice none 0 0, .int .i64 0])

theorem set3_block {w : World} {R k : Nat} (a b c : Value) (h : k ≠ R) : (((w.setCell ⟨R, 0, none⟩ a).setCell ⟨R, 1, none⟩ b).setCell ⟨R, 2, none⟩ c).drew.heap[k]? = w.heap[k]? := by
  show (((w.setCell ⟨R, 0, none⟩ a).setCell ⟨R, 1, none⟩ b).setCell ⟨R, 2, none⟩ c).heap[k]? = w.heap[k]?
  rw [Below.heap_setCell _ _ _ _ h, Below.heap_setCell _ _ _ _ h, Below.heap_setCell _ _ _ _ h]

end Go.Proofs.YtkfdpcgmpbopnaaGreatDoor
