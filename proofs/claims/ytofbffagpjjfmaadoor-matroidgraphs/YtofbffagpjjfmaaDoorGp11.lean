/- matroid.Graph, ahead of it: pairs that are edges. -/
import Derived.Test.YtofbffagpjjfmaaDoorGp9
import Derived.Test.YtofbffagpjjfmaaDoorGp10
namespace Go.Proofs.YtofbffagpjjfmaaDoor
open Go.RowKit
attribute [local go_sem ↓] Go.wp_at_zero Go.wp_at_succ

theorem Pri.below {N : Nat} {w w' : World} {v : Value} {zs : List (Int × Int)} (h : Pri w v zs) (hb : Below N w w') (hN : w.heap.size ≤ N) : Pri w' v zs := by
  obtain ⟨po, pc, h1, h2⟩ := h
  refine ⟨po, pc, h1, fun i hi => ?_⟩
  obtain ⟨b, o, e, c1, c2⟩ := h2 i hi
  exact ⟨b, o, e, (hb.cell (by have := lt_of_cell c1; show b < N; omega)).trans c1, (hb.cell (by have := lt_of_cell c2; show b < N; omega)).trans c2⟩

/-- Pairs of things. -/
def ntE (zs : List (Int × Int)) : List (Nat × Nat) := zs.map fun e => (e.1.toNat, e.2.toNat)

theorem Pri.eds {w : World} {v : Value} {zs : List (Int × Int)} {n : Nat} (h : Pri w v zs) (ha : zs.all (edB n) = true) : Eds w.heap.size w v (ntE zs) := by
  obtain ⟨po, pc, h1, h2⟩ := h
  have hln : (ntE zs).length = zs.length := by simp [ntE]
  refine ⟨po, pc, by rw [h1, hln], fun i hi => ?_⟩
  rw [hln] at hi
  obtain ⟨b, o, e, c1, c2⟩ := h2 i hi
  have hg : (ntE zs).getD i (0, 0) = ((zs.getD i (0, 0)).1.toNat, (zs.getD i (0, 0)).2.toNat) := by simp [ntE, hi]
  have hb := List.all_eq_true.1 ha (zs.getD i (0, 0)) (by simp [hi])
  unfold edB at hb
  have hb' := of_decide_eq_true hb
  refine ⟨b, o, e, lt_of_cell c1, ?_, ?_⟩
  · rw [c1, hg]; simp only; rw [Int.toNat_of_nonneg hb'.1]
  · rw [c2, hg]; simp only; rw [Int.toNat_of_nonneg hb'.2.1]

theorem ntE_lt {zs : List (Int × Int)} {n : Nat} (ha : zs.all (edB n) = true) : ∀ e ∈ ntE zs, e.1 < n ∧ e.2 < n := fun e he => by
  obtain ⟨z, hz, rfl⟩ := List.mem_map.1 he
  have hb' := of_decide_eq_true (List.all_eq_true.1 ha z hz)
  simp only
  omega

end Go.Proofs.YtofbffagpjjfmaaDoor
