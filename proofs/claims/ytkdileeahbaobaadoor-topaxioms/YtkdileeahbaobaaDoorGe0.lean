/- facetref.MatroidFrom, ahead of it. -/
import Derived.Test.YtkdileeahbaobaaDoorGmA
import Derived.Test.YtkdileeahbaobaaDoorGvC
import Derived.Test.YtkdileeahbaobaaDoorGp6
import Derived.Test.YtkdileeahbaobaaDoorPik
import Derived.Test.YtkdileeahbaobaaDoorMade1
namespace Go.Proofs.YtkdileeahbaobaaDoor
open Go.RowKit
attribute [local go_sem ↓] Go.wp_at_zero Go.wp_at_succ

/-- What is stored into the result's box at the end. -/
theorem box_fin {w w3 : World} {N : Int} {yo : Option Addr} {yc : Nat} {ys : List Int} (hres : w3.heap[w.heap.size]? = some (.cells #[.int .i64 0, .slice none 0 0] 25 (0, 0))) (hs : Sl 0 3 w3 (.slice yo ys.length yc) (ints ys)) (hb : Below w.heap.size w w3) :
    Below w.heap.size w ((w3.setCell ⟨w.heap.size, 0, none⟩ (.int .i64 N)).setCell ⟨w.heap.size, 1, none⟩ (.slice yo ys.length yc)) ∧ Sl 0 3 ((w3.setCell ⟨w.heap.size, 0, none⟩ (.int .i64 N)).setCell ⟨w.heap.size, 1, none⟩ (.slice yo ys.length yc)) (.slice yo ys.length yc) (ints ys) := by
  refine ⟨(hb.setCell (by simp) _).setCell (by simp) _, hs.move fun b hb ht => ?_⟩
  rcases ht with ht | ⟨cur, ht⟩
  · omega
  · have hne : b ≠ w.heap.size := fun e => by
      rw [e, hres] at ht
      simp at ht
    exact ⟨(Below.heap_setCell _ _ _ _ (by show b ≠ w.heap.size; exact hne)).trans (Below.heap_setCell _ _ _ _ (by show b ≠ w.heap.size; exact hne)), .inr ⟨cur, ht⟩⟩

/-- The box of a matroid, and the row of its bases. -/
structure GuI (w wa : World) (N : Int) (k : Nat) (xs : List Int) (wr : World) : Prop where
  res : wr.heap[w.heap.size]? = some (.cells #[.int .i64 0, .slice none 0 0] 25 (0, 0))
  box : ∃ sv, wr.heap[wa.heap.size]? = some (.cells #[.int .i64 N, sv] 25 (0, 0)) ∧ wr.ownsRow (wa.heap.size + 1) 3 1 sv xs.length (ints xs) ∧ xs.length ≤ k
  bel : Below w.heap.size w wr
  sz : wa.heap.size + 1 ≤ wr.heap.size

theorem GuI.push {w wa w3 w5 : World} {N : Int} {k : Nat} {x : Int} {sv v' : Value} {xs : List Int} (h : GuI w wa N k xs w3) (hbox3 : w3.heap[wa.heap.size]? = some (.cells #[.int .i64 N, sv] 25 (0, 0))) (hown3 : w3.ownsRow (wa.heap.size + 1) 3 1 sv xs.length (ints xs)) (hxl : xs.length ≤ k) (hwz : w.heap.size < wa.heap.size)
    (ho : w5.ownsRow (wa.heap.size + 1) 3 1 v' (xs.length + 1) (ints xs ++ [.int .i64 x])) (hg : (w3.alloc (.cells #[.int .i64 x] 3)).grownBy w5 sv.ownBlock) :
    w5.cell? ⟨wa.heap.size, 1, none⟩ = some sv ∧ w5.frozen? ⟨wa.heap.size, 1, none⟩ = false ∧ GuI w wa N (k + 1) (xs ++ [x]) (w5.setCell ⟨wa.heap.size, 1, none⟩ v') := by
  have hs3 := h.sz
  have hne : ∀ b, b < wa.heap.size + 1 → w5.heap[b]? = w3.heap[b]? := fun b hb => by
    refine (hg.block b (by simp; omega) (fun e => ?_)).trans (Below.heap_alloc w3 _ b (by omega))
    have := (hown3.lt b e.symm).1
    omega
  have hbx := (hne wa.heap.size (by omega)).trans hbox3
  refine ⟨by simp [World.cell?, hbx], by simp [World.frozen?, hbx], ?_, ⟨v', ?_, ?_, ?_⟩, ?_, ?_⟩
  · exact (Below.heap_setCell _ _ _ _ (by show w.heap.size ≠ wa.heap.size; omega)).trans ((hne _ (by omega)).trans h.res)
  · simp [World.setCell, Array.getElem?_modify, hbx]
  · have e1 : ints (xs ++ [x]) = ints xs ++ [.int .i64 x] := by simp [ints]
    rw [e1, List.length_append, List.length_singleton]
    refine ⟨ho.1, ?_⟩
    rcases ho.2 with h1 | ⟨g, cap, cur, f1, f2, f3, f4⟩
    · exact .inl h1
    · exact .inr ⟨g, cap, cur, f1, f2, (Below.heap_setCell _ _ _ _ (by show g ≠ wa.heap.size; omega)).trans f3, f4⟩
  · rw [List.length_append, List.length_singleton]; omega
  · have hb5 : Below w.heap.size w w5 := ⟨hg.os.trans h.bel.os, hg.tape.trans h.bel.tape, hg.output.trans h.bel.output, Nat.le_trans h.bel.size (Nat.le_trans (by simp) hg.size), fun b hb => (hne b (by omega)).trans (h.bel.block b hb)⟩
    exact ⟨hb5.os, hb5.tape, hb5.output, by simp only [World.setCell, Array.size_modify]; exact hb5.size, fun b hb => (Below.heap_setCell _ _ _ _ (by show b ≠ wa.heap.size; omega)).trans (hb5.block b hb)⟩
  · simp only [World.setCell, Array.size_modify]
    exact Nat.le_trans hs3 (Nat.le_trans (by simp) hg.size)

end Go.Proofs.YtkdileeahbaobaaDoor
