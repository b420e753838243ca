/- The sort by insertion, of things by falling weights. -/
import Derived.Test.YtomhhonigffilaaDoorMt10
namespace Go.Proofs.YtomhhonigffilaaDoor
open Go.RowKit
attribute [local go_sem ↓] Go.wp_at_zero Go.wp_at_succ

theorem ints_setM (l : List Int) (j : Nat) (z : Int) : ints (l.set j z) = (ints l).set j (.int .i64 z) := by simp [ints, List.map_set]

/-- A row that is being sorted. -/
structure IS (B g c n m : Nat) (w : World) (zs : List Int) (wr : World) : Prop where
  own : wr.ownsRow B 3 1 (.slice (some ⟨g, 0, none⟩) n c) n (ints zs)
  len : zs.length = n
  pl : Pl m zs
  oth : ∀ b, b ≠ g → wr.heap[b]? = w.heap[b]?
  sz : wr.heap.size = w.heap.size
  os : wr.os = w.os
  tape : wr.tape = w.tape
  out : wr.output = w.output

theorem IS.sw {B g c n m : Nat} {w wr : World} {zs : List Int} (h : IS B g c n m w zs wr) {j : Nat} (hj : j + 1 < n) :
    IS B g c n m w (swL zs j) ((wr.setCell ⟨g, j + 1, none⟩ (.int .i64 (zs.getD j 0))).setCell ⟨g, j, none⟩ (.int .i64 (zs.getD (j + 1) 0))) := by
  refine ⟨?_, by rw [swL_len]; exact h.len, h.pl.sw (by rw [h.len]; exact hj), fun b hb => (Below.heap_setCell _ _ _ b hb).trans ((Below.heap_setCell _ _ _ b hb).trans (h.oth b hb)), by rw [← h.sz]; simp [World.setCell], h.os, h.tape, h.out⟩
  unfold swL
  rw [ints_setM, ints_setM]
  exact ((h.own.stored (j + 1) _).1.stored j _).1

theorem IS.drewN {B g c n m : Nat} {w wr : World} {zs : List Int} (h : IS B g c n m w zs wr) (d : Nat) : IS B g c n m w zs (wr.drewN d) :=
  ⟨⟨h.own.1, h.own.2⟩, h.len, h.pl, h.oth, h.sz, h.os, h.tape, h.out⟩

theorem IS.cell {B g c n m : Nat} {w wr : World} {zs : List Int} (h : IS B g c n m w zs wr) {k : Nat} (hk : k < n) : wr.cell? ⟨g, k, none⟩ = some (.int .i64 (zs.getD k 0)) ∧ wr.frozen? ⟨g, k, none⟩ = false := by
  have h1 := h.own.cellAt k (by simp; exact hk)
  rw [ints_get _ _ (by rw [h.len]; exact hk)] at h1
  refine ⟨h1, ?_⟩
  rcases h.own.2 with ⟨e, _⟩ | ⟨g', cap, cur, e, _, hh, _⟩
  · simp at e
  · simp only [Value.slice.injEq, Option.some.injEq, Addr.mk.injEq, and_true, true_and] at e
    obtain ⟨rfl, rfl⟩ := e
    simp [World.frozen?, hh]

end Go.Proofs.YtomhhonigffilaaDoor
