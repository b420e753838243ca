/- root.made, kind by kind. Made by mkrp12.py. -/
import Derived.Test.YtilblfoapjnmaaaGreatDoorMgAO
import Derived.Handy
namespace Go.Proofs.YtilblfoapjnmaaaGreatDoor
open Go.RowKit
attribute [local go_sem ↓] Go.wp_at_zero Go.wp_at_succ

set_option maxRecDepth 100000 in
set_option maxHeartbeats 1600000 in
theorem made_65_1 (w : World) : Calls Tryz.prog 63 #[.agg #[.int .i32 65, .int .i64 1]] w fun e w' => e = .returned (.agg (sqA (pcL (65, 49)))) ∧ Below w.heap.size w w' := by
  have h1 : ∀ (c0 c1 c2 : Obj), (((w.alloc c0).alloc c1).alloc c2).heap[w.heap.size + 1]? = some c1 := fun c0 c1 c2 => (Below.heap_alloc _ _ _ (by simp)).trans (by
    have e : w.heap.size + 1 = (w.alloc c0).heap.size := by simp
    rw [e]; exact heap_alloc_new _ _)
  have hb : ∀ (c0 c1 c2 : Obj), Below w.heap.size w (((w.alloc c0).alloc c1).alloc c2) := fun c0 c1 c2 => by
    have s1 : w.heap.size ≤ (w.alloc c0).heap.size := by simp
    have s2 : w.heap.size ≤ ((w.alloc c0).alloc c1).heap.size := by rw [World.size_alloc]; omega
    exact (((Below.refl _ _).alloc (Nat.le_refl _) c0).alloc s1 c1).alloc s2 c2
  have hs : sqA (pcL (65, 49)) = #[.int .i64 2, .int .i64 0, .int .i64 0, .int .i64 0, .int .i64 0, .int .i64 0, .int .i64 0, .int .i64 0, .int .i64 0, .int .i64 0, .int .i64 0, .int .i64 0, .int .i64 0, .int .i64 0, .int .i64 0, .int .i64 0] := by kernel_rfl
  rw [hs]
  clear hs
  go_enter Tryz.func63, Tryz.ntmps63
  go_wp2
  go_rounds 5
  refine wp_loop_rounds 5 ?_
  repeat (any_goals (first | (rw [rounds_succ]; go_wp2) | (go_region; go_wp2)))
  refine bodyPost_ret (results_cellR (ad := ⟨w.heap.size + 1, 0, none⟩) rfl rfl (run_loadVar_row (P := Tryz.prog) _ (w.heap.size + 1) 79 79 _ (0, 0) (.array 4 77) (h1 _ _ _) (by kernel_rfl) rfl (by kernel_rfl))) rfl ⟨rfl, ?_⟩
  repeat (refine Below.drew ?_)
  exact hb _ _ _

set_option maxRecDepth 100000 in
set_option maxHeartbeats 1600000 in
theorem made_65_2 (w : World) : Calls Tryz.prog 63 #[.agg #[.int .i32 65, .int .i64 2]] w fun e w' => e = .returned (.agg (sqA (pcL (65, 50)))) ∧ Below w.heap.size w w' := by
  have h1 : ∀ (c0 c1 c2 : Obj), (((w.alloc c0).alloc c1).alloc c2).heap[w.heap.size + 1]? = some c1 := fun c0 c1 c2 => (Below.heap_alloc _ _ _ (by simp)).trans (by
    have e : w.heap.size + 1 = (w.alloc c0).heap.size := by simp
    rw [e]; exact heap_alloc_new _ _)
  have hb : ∀ (c0 c1 c2 : Obj), Below w.heap.size w (((w.alloc c0).alloc c1).alloc c2) := fun c0 c1 c2 => by
    have s1 : w.heap.size ≤ (w.alloc c0).heap.size := by simp
    have s2 : w.heap.size ≤ ((w.alloc c0).alloc c1).heap.size := by rw [World.size_alloc]; omega
    exact (((Below.refl _ _).alloc (Nat.le_refl _) c0).alloc s1 c1).alloc s2 c2
  have hs : sqA (pcL (65, 50)) = #[.int .i64 2, .int .i64 (-1), .int .i64 0, .int .i64 0, .int .i64 (-1), .int .i64 2, .int .i64 0, .int .i64 0, .int .i64 0, .int .i64 0, .int .i64 0, .int .i64 0, .int .i64 0, .int .i64 0, .int .i64 0, .int .i64 0] := by kernel_rfl
  rw [hs]
  clear hs
  go_enter Tryz.func63, Tryz.ntmps63
  go_wp2
  go_rounds 5
  refine wp_loop_rounds 5 ?_
  repeat (any_goals (first | (rw [rounds_succ]; go_wp2) | (go_region; go_wp2)))
  refine bodyPost_ret (results_cellR (ad := ⟨w.heap.size + 1, 0, none⟩) rfl rfl (run_loadVar_row (P := Tryz.prog) _ (w.heap.size + 1) 79 79 _ (0, 0) (.array 4 77) (h1 _ _ _) (by kernel_rfl) rfl (by kernel_rfl))) rfl ⟨rfl, ?_⟩
  repeat (refine Below.drew ?_)
  exact hb _ _ _

set_option maxRecDepth 100000 in
set_option maxHeartbeats 1600000 in
theorem made_65_3 (w : World) : Calls Tryz.prog 63 #[.agg #[.int .i32 65, .int .i64 3]] w fun e w' => e = .returned (.agg (sqA (pcL (65, 51)))) ∧ Below w.heap.size w w' := by
  have h1 : ∀ (c0 c1 c2 : Obj), (((w.alloc c0).alloc c1).alloc c2).heap[w.heap.size + 1]? = some c1 := fun c0 c1 c2 => (Below.heap_alloc _ _ _ (by simp)).trans (by
    have e : w.heap.size + 1 = (w.alloc c0).heap.size := by simp
    rw [e]; exact heap_alloc_new _ _)
  have hb : ∀ (c0 c1 c2 : Obj), Below w.heap.size w (((w.alloc c0).alloc c1).alloc c2) := fun c0 c1 c2 => by
    have s1 : w.heap.size ≤ (w.alloc c0).heap.size := by simp
    have s2 : w.heap.size ≤ ((w.alloc c0).alloc c1).heap.size := by rw [World.size_alloc]; omega
    exact (((Below.refl _ _).alloc (Nat.le_refl _) c0).alloc s1 c1).alloc s2 c2
  have hs : sqA (pcL (65, 51)) = #[.int .i64 2, .int .i64 (-1), .int .i64 0, .int .i64 0, .int .i64 (-1), .int .i64 2, .int .i64 (-1), .int .i64 0, .int .i64 0, .int .i64 (-1), .int .i64 2, .int .i64 0, .int .i64 0, .int .i64 0, .int .i64 0, .int .i64 0] := by kernel_rfl
  rw [hs]
  clear hs
  go_enter Tryz.func63, Tryz.ntmps63
  go_wp2
  go_rounds 5
  refine wp_loop_rounds 5 ?_
  repeat (any_goals (first | (rw [rounds_succ]; go_wp2) | (go_region; go_wp2)))
  refine bodyPost_ret (results_cellR (ad := ⟨w.heap.size + 1, 0, none⟩) rfl rfl (run_loadVar_row (P := Tryz.prog) _ (w.heap.size + 1) 79 79 _ (0, 0) (.array 4 77) (h1 _ _ _) (by kernel_rfl) rfl (by kernel_rfl))) rfl ⟨rfl, ?_⟩
  repeat (refine Below.drew ?_)
  exact hb _ _ _

set_option maxRecDepth 100000 in
set_option maxHeartbeats 1600000 in
theorem made_65_4 (w : World) : Calls Tryz.prog 63 #[.agg #[.int .i32 65, .int .i64 4]] w fun e w' => e = .returned (.agg (sqA (pcL (65, 52)))) ∧ Below w.heap.size w w' := by
  have h1 : ∀ (c0 c1 c2 : Obj), (((w.alloc c0).alloc c1).alloc c2).heap[w.heap.size + 1]? = some c1 := fun c0 c1 c2 => (Below.heap_alloc _ _ _ (by simp)).trans (by
    have e : w.heap.size + 1 = (w.alloc c0).heap.size := by simp
    rw [e]; exact heap_alloc_new _ _)
  have hb : ∀ (c0 c1 c2 : Obj), Below w.heap.size w (((w.alloc c0).alloc c1).alloc c2) := fun c0 c1 c2 => by
    have s1 : w.heap.size ≤ (w.alloc c0).heap.size := by simp
    have s2 : w.heap.size ≤ ((w.alloc c0).alloc c1).heap.size := by rw [World.size_alloc]; omega
    exact (((Below.refl _ _).alloc (Nat.le_refl _) c0).alloc s1 c1).alloc s2 c2
  have hs : sqA (pcL (65, 52)) = #[.int .i64 2, .int .i64 (-1), .int .i64 0, .int .i64 0, .int .i64 (-1), .int .i64 2, .int .i64 (-1), .int .i64 0, .int .i64 0, .int .i64 (-1), .int .i64 2, .int .i64 (-1), .int .i64 0, .int .i64 0, .int .i64 (-1), .int .i64 2] := by kernel_rfl
  rw [hs]
  clear hs
  go_enter Tryz.func63, Tryz.ntmps63
  go_wp2
  go_rounds 5
  refine wp_loop_rounds 5 ?_
  repeat (any_goals (first | (rw [rounds_succ]; go_wp2) | (go_region; go_wp2)))
  refine bodyPost_ret (results_cellR (ad := ⟨w.heap.size + 1, 0, none⟩) rfl rfl (run_loadVar_row (P := Tryz.prog) _ (w.heap.size + 1) 79 79 _ (0, 0) (.array 4 77) (h1 _ _ _) (by kernel_rfl) rfl (by kernel_rfl))) rfl ⟨rfl, ?_⟩
  repeat (refine Below.drew ?_)
  exact hb _ _ _

set_option maxRecDepth 100000 in
set_option maxHeartbeats 1600000 in
theorem made_71_2 (w : World) : Calls Tryz.prog 63 #[.agg #[.int .i32 71, .int .i64 2]] w fun e w' => e = .returned (.agg (sqA (pcL (71, 50)))) ∧ Below w.heap.size w w' := by
  have h1 : ∀ (c0 c1 c2 : Obj), (((w.alloc c0).alloc c1).alloc c2).heap[w.heap.size + 1]? = some c1 := fun c0 c1 c2 => (Below.heap_alloc _ _ _ (by simp)).trans (by
    have e : w.heap.size + 1 = (w.alloc c0).heap.size := by simp
    rw [e]; exact heap_alloc_new _ _)
  have hb : ∀ (c0 c1 c2 : Obj), Below w.heap.size w (((w.alloc c0).alloc c1).alloc c2) := fun c0 c1 c2 => by
    have s1 : w.heap.size ≤ (w.alloc c0).heap.size := by simp
    have s2 : w.heap.size ≤ ((w.alloc c0).alloc c1).heap.size := by rw [World.size_alloc]; omega
    exact (((Below.refl _ _).alloc (Nat.le_refl _) c0).alloc s1 c1).alloc s2 c2
  have hs : sqA (pcL (71, 50)) = #[.int .i64 2, .int .i64 (-1), .int .i64 0, .int .i64 0, .int .i64 (-3), .int .i64 2, .int .i64 0, .int .i64 0, .int .i64 0, .int .i64 0, .int .i64 0, .int .i64 0, .int .i64 0, .int .i64 0, .int .i64 0, .int .i64 0] := by kernel_rfl
  rw [hs]
  clear hs
  go_enter Tryz.func63, Tryz.ntmps63
  go_wp2
  go_rounds 5
  refine wp_loop_rounds 5 ?_
  repeat (any_goals (first | (rw [rounds_succ]; go_wp2) | (go_region; go_wp2)))
  refine bodyPost_ret (results_cellR (ad := ⟨w.heap.size + 1, 0, none⟩) rfl rfl (run_loadVar_row (P := Tryz.prog) _ (w.heap.size + 1) 79 79 _ (0, 0) (.array 4 77) (h1 _ _ _) (by kernel_rfl) rfl (by kernel_rfl))) rfl ⟨rfl, ?_⟩
  repeat (refine Below.drew ?_)
  exact hb _ _ _

end Go.Proofs.YtilblfoapjnmaaaGreatDoor
