import Derived.Test.YtflgabcacljbjaaRowB
import Derived.Test.YtflgabcacljbjaaRunB
import Derived.Deep.Onto
import Derived.Test.YtflgabcacljbjaaDatA
import Derived.Maps.AppendAt
import Derived.Deep.OwnRows
/- What is done with each choice: its row, if there is one, is kept. -/
namespace Go.Proofs.Ytflgabcacljbjaa
open Go.RowKit
attribute [local go_sem ↓] Go.wp_at_zero Go.wp_at_succ

theorem set_one {w : World} {b : Nat} {x u : Value} {t : TypeId} (h : w.heap[b]? = some (.cells #[x] t (0, 0))) : (w.setCell ⟨b, 0, none⟩ u).heap[b]? = some (.cells #[u] t (0, 0)) := by
  simp [World.setCell, Array.getElem?_modify, h]

theorem owns_set {B R n j : Nat} {e : TypeId} {w : World} {v u : Value} {xs : List Value} (h : w.ownsRow B e 1 v n xs) (hR : R < B) : (w.setCell ⟨R, j, none⟩ u).ownsRow B e 1 v n xs := by
  refine ⟨h.1, ?_⟩
  rcases h.2 with h2 | ⟨k, cap, cur, rfl, hb, hh, r⟩
  · exact Or.inl h2
  · exact Or.inr ⟨k, cap, cur, rfl, hb, (Below.heap_setCell w _ u k (by show k ≠ R; omega)).trans hh, r⟩

/-- Behind a store into a block of another element type. -/
theorem Fr.set {B b j : Nat} {t : TypeId} {w : World} {v u : Value} {m : List (List Int)} {cur : Array Value} (h : Fr B 22 3 w v m) (hb : b < B) (hR : w.heap[b]? = some (.cells cur t (0, 0))) (ht : t ≠ 3) : Fr B 22 3 (w.setCell ⟨b, j, none⟩ u) v m := by
  obtain ⟨vs, h1, h2, h3⟩ := h
  refine ⟨vs, h1, owns_set h2 hb, fun i hi => (h3 i hi).setCell u ⟨Nat.zero_le _, fun cur' e => ?_⟩⟩
  have e' : w.heap[b]? = some (.cells cur' 3 (0, 0)) := e
  rw [hR] at e'
  simp at e'
  exact ht e'.2

end Go.Proofs.Ytflgabcacljbjaa

/- Rows in blocks of their own, as slices. -/
namespace Go.Proofs.Ytflgabcacljbjaa
open Go.RowKit

/-- A row in a block of its own, as a slice. -/
theorem row_slT {B : Nat} {w : World} {g cap n : Nat} {F : Nat → Value} {l : List Int} (r : w.rowIs g 3 cap F) (hF : ∀ i, i < n → F i = .int .i64 (l.getD i 0)) (hl : l.length = n) (hn : n ≤ cap) (hc : cap ≤ 9223372036854775807) : Sl B 3 w (.slice (some ⟨g, 0, none⟩) n cap) (ints l) := by
  refine ⟨some ⟨g, 0, none⟩, cap, by simp [hl], by simpa [hl] using hn, by unfold maxLen; omega, fun i hi => ?_, fun h => by cases h⟩
  have hi' : i < l.length := by simpa using hi
  refine ⟨g, 0, rfl, ?_, ?_⟩
  · rw [Nat.zero_add, r.cell (by omega), hF i (by omega), ints_get _ _ hi']
  · obtain ⟨c, hb, _, _⟩ := r
    exact Or.inr ⟨c, hb⟩

end Go.Proofs.Ytflgabcacljbjaa
