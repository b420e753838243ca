import Derived.Test.YtkdileeahbaobaaDoorMt8
import Derived.Test.YtkdileeahbaobaaDoorOrd1
/- Things by falling weights: the comparison, and the sort by insertion. -/
namespace Go.Proofs.YtkdileeahbaobaaDoor
open Go.RowKit
attribute [local go_sem ↓] Go.wp_at_zero Go.wp_at_succ

/-- Two neighbours changed about. -/
def swL (zs : List Int) (j : Nat) : List Int := (zs.set (j + 1) (zs.getD j 0)).set j (zs.getD (j + 1) 0)

/-- Whether the thing in place j + 1 is heavier than the one ahead of it. -/
def upB (ws zs : List Int) (j : Nat) : Bool := decide (cmpI (ws.getD (zs.getD j 0).toNat 0) (ws.getD (zs.getD (j + 1) 0).toNat 0) < 0)

/-- The thing in place j goes ahead of all lighter ones. -/
def insJ (ws : List Int) : Nat → List Int → List Int
  | 0, zs => zs
  | j + 1, zs => if upB ws zs j = true then insJ ws j (swL zs j) else zs

/-- From place i on. -/
def insO (ws : List Int) : Nat → Nat → List Int → List Int
  | 0, _, zs => zs
  | m + 1, i, zs => insO ws m (i + 1) (insJ ws i zs)

theorem swL_len (zs : List Int) (j : Nat) : (swL zs j).length = zs.length := by simp [swL]

/-- All are places of the weights. -/
def Pl (n : Nat) (zs : List Int) : Prop := ∀ k, k < zs.length → 0 ≤ zs.getD k 0 ∧ zs.getD k 0 < n

theorem Pl.sw {n : Nat} {zs : List Int} {j : Nat} (h : Pl n zs) (hj : j + 1 < zs.length) : Pl n (swL zs j) := by
  intro k hk
  rw [swL_len] at hk
  have h1 := h j (by omega)
  have h2 := h (j + 1) hj
  have h3 := h k hk
  unfold swL
  by_cases e : j = k
  · subst e
    rw [List.getD_eq_getElem?_getD, List.getElem?_set_self (by simp; omega), Option.getD_some]
    exact h2
  · rw [List.getD_eq_getElem?_getD, List.getElem?_set_ne e]
    by_cases e2 : j + 1 = k
    · subst e2
      rw [List.getElem?_set_self (by omega), Option.getD_some]
      exact h1
    · rw [List.getElem?_set_ne e2, ← List.getD_eq_getElem?_getD]
      exact h3

end Go.Proofs.YtkdileeahbaobaaDoor

/- The sort by insertion, of things by falling weights. -/
namespace Go.Proofs.YtkdileeahbaobaaDoor
open Go.RowKit
attribute [local go_sem ↓] Go.wp_at_zero Go.wp_at_succ

theorem ints_setM (l : List Int) (j : Nat) (z : Int) : ints (l.set j z) = (ints l).set j (.int .i64 z) := by simp [ints, List.map_set]

/-- A row that is being sorted. -/
structure IS (B g c n m : Nat) (w : World) (zs : List Int) (wr : World) : Prop where
  own : wr.ownsRow B 3 1 (.slice (some ⟨g, 0, none⟩) n c) n (ints zs)
  len : zs.length = n
  pl : Pl m zs
  oth : ∀ b, b ≠ g → wr.heap[b]? = w.heap[b]?
  sz : wr.heap.size = w.heap.size
  os : wr.os = w.os
  tape : wr.tape = w.tape
  out : wr.output = w.output

theorem IS.sw {B g c n m : Nat} {w wr : World} {zs : List Int} (h : IS B g c n m w zs wr) {j : Nat} (hj : j + 1 < n) :
    IS B g c n m w (swL zs j) ((wr.setCell ⟨g, j + 1, none⟩ (.int .i64 (zs.getD j 0))).setCell ⟨g, j, none⟩ (.int .i64 (zs.getD (j + 1) 0))) := by
  refine ⟨?_, by rw [swL_len]; exact h.len, h.pl.sw (by rw [h.len]; exact hj), fun b hb => (Below.heap_setCell _ _ _ b hb).trans ((Below.heap_setCell _ _ _ b hb).trans (h.oth b hb)), by rw [← h.sz]; simp [World.setCell], h.os, h.tape, h.out⟩
  unfold swL
  rw [ints_setM, ints_setM]
  exact ((h.own.stored (j + 1) _).1.stored j _).1

theorem IS.drewN {B g c n m : Nat} {w wr : World} {zs : List Int} (h : IS B g c n m w zs wr) (d : Nat) : IS B g c n m w zs (wr.drewN d) :=
  ⟨⟨h.own.1, h.own.2⟩, h.len, h.pl, h.oth, h.sz, h.os, h.tape, h.out⟩

theorem IS.cell {B g c n m : Nat} {w wr : World} {zs : List Int} (h : IS B g c n m w zs wr) {k : Nat} (hk : k < n) : wr.cell? ⟨g, k, none⟩ = some (.int .i64 (zs.getD k 0)) ∧ wr.frozen? ⟨g, k, none⟩ = false := by
  have h1 := h.own.cellAt k (by simp; exact hk)
  rw [ints_get _ _ (by rw [h.len]; exact hk)] at h1
  refine ⟨h1, ?_⟩
  rcases h.own.2 with ⟨e, _⟩ | ⟨g', cap, cur, e, _, hh, _⟩
  · simp at e
  · simp only [Value.slice.injEq, Option.some.injEq, Addr.mk.injEq, and_true, true_and] at e
    obtain ⟨rfl, rfl⟩ := e
    simp [World.frozen?, hh]

end Go.Proofs.YtkdileeahbaobaaDoor

/- matroid.heaviestFirst. -/
namespace Go.Proofs.YtkdileeahbaobaaDoor
open Go.RowKit
attribute [local go_sem ↓] Go.wp_at_zero Go.wp_at_succ

theorem Sl.keepM {B : Nat} {w wq : World} {u : Value} {l : List Int} (h : Sl B 3 w u (ints l)) (hm : ∀ b, b < w.heap.size → wq.heap[b]? = w.heap[b]?) : Sl B 3 wq u (ints l) := by
  obtain ⟨ao, cap, rfl, h1, h2, h3, h4⟩ := h
  refine ⟨ao, cap, rfl, h1, h2, fun i hi => ?_, h4⟩
  obtain ⟨b, o, ha, hc, ht⟩ := h3 i hi
  have hlt : b < w.heap.size := lt_of_cell (hc.trans (List.getElem?_eq_getElem hi))
  have keep := hm b hlt
  refine ⟨b, o, ha, (World.cell?_of_block (w := w) (a := ⟨b, o + i, none⟩) keep).trans hc, ?_⟩
  rcases ht with ht | ⟨cur, ht⟩
  · exact Or.inl ht
  · exact Or.inr ⟨cur, keep.trans ht⟩

def rngI (n : Nat) : List Int := (List.range n).map fun i : Nat => (i : Int)

/-- Things by falling weights. -/
def hvL (ws : List Int) : List Int := insO ws (ws.length - 1) 1 (rngI ws.length)

theorem rngI_succ (n : Nat) : rngI (n + 1) = rngI n ++ [(n : Int)] := by simp [rngI, List.range_succ]
theorem rngI_len (n : Nat) : (rngI n).length = n := by simp [rngI]
theorem rngI_pl (n : Nat) : Pl n (rngI n) := fun k hk => by
  rw [rngI_len] at hk
  simp [rngI, hk]

end Go.Proofs.YtkdileeahbaobaaDoor

/- matroid.heaviestFirst: the walk. -/
namespace Go.Proofs.YtkdileeahbaobaaDoor
open Go.RowKit
attribute [local go_sem ↓] Go.wp_at_zero Go.wp_at_succ

end Go.Proofs.YtkdileeahbaobaaDoor
