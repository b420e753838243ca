import Derived.Test.YtilblfoapjnmaaaGreatDoorMgAP
import Derived.Deep.RegionWith
import Derived.Shelf.Sort.Plain
import Derived.Shelf.Strings.OnBuilder
import Derived.Shelf.Lay
/- root.kind's name, kind by kind. Made by mkrp17.py. -/
namespace Go.Proofs.YtilblfoapjnmaaaGreatDoor
open Go.RowKit
attribute [local go_sem ↓] Go.wp_at_zero Go.wp_at_succ

set_option maxRecDepth 100000 in
set_option maxHeartbeats 1600000 in
theorem small_1 (w : World) : Calls Tryz.prog 116 #[.int .i64 1] w fun e w' => e = .returned (.string ⟨#[49]⟩) ∧ w' = w := by
  go_enter Tryz.func116, Tryz.ntmps116
  go_wp2
  go_ret
  exact ⟨by kernel_rfl, rfl⟩

set_option maxRecDepth 100000 in
set_option maxHeartbeats 1600000 in
theorem fmt_1 (w : World) : Calls Tryz.prog 108 #[.int .i64 1, .int .i64 10] w fun e w' => e = .returned (.string ⟨#[49]⟩) ∧ w' = w := by
  go_enter Tryz.func108, Tryz.ntmps108
  go_wp2_with (go_at_call 116; refine (small_1 _).mono ?_; rintro e w1 ⟨rfl, rfl⟩)
  go_ret
  exact ⟨rfl, rfl⟩

set_option maxRecDepth 100000 in
set_option maxHeartbeats 1600000 in
theorem itoI_1 (w : World) : Calls Tryz.prog 91 #[.int .i64 1] w fun e w' => e = .returned (.string ⟨#[49]⟩) ∧ w' = w := by
  go_enter Tryz.func91, Tryz.ntmps91
  go_wp2_with (go_at_call 108; refine (fmt_1 _).mono ?_; rintro e w1 ⟨rfl, rfl⟩)
  go_ret
  exact ⟨rfl, rfl⟩

set_option maxRecDepth 100000 in
set_option maxHeartbeats 1600000 in
theorem ito_1 (w : World) : Calls Tryz.prog 64 #[.int .i64 1] w fun e w' => e = .returned (.string ⟨#[49]⟩) ∧ w' = w := by
  go_enter Tryz.func64, Tryz.ntmps64
  go_wp2_with (go_at_call 91; refine (itoI_1 _).mono ?_; rintro e w1 ⟨rfl, rfl⟩)
  go_ret
  exact ⟨rfl, rfl⟩

set_option maxRecDepth 100000 in
set_option maxHeartbeats 1600000 in
theorem small_2 (w : World) : Calls Tryz.prog 116 #[.int .i64 2] w fun e w' => e = .returned (.string ⟨#[50]⟩) ∧ w' = w := by
  go_enter Tryz.func116, Tryz.ntmps116
  go_wp2
  go_ret
  exact ⟨by kernel_rfl, rfl⟩

set_option maxRecDepth 100000 in
set_option maxHeartbeats 1600000 in
theorem fmt_2 (w : World) : Calls Tryz.prog 108 #[.int .i64 2, .int .i64 10] w fun e w' => e = .returned (.string ⟨#[50]⟩) ∧ w' = w := by
  go_enter Tryz.func108, Tryz.ntmps108
  go_wp2_with (go_at_call 116; refine (small_2 _).mono ?_; rintro e w1 ⟨rfl, rfl⟩)
  go_ret
  exact ⟨rfl, rfl⟩

set_option maxRecDepth 100000 in
set_option maxHeartbeats 1600000 in
theorem itoI_2 (w : World) : Calls Tryz.prog 91 #[.int .i64 2] w fun e w' => e = .returned (.string ⟨#[50]⟩) ∧ w' = w := by
  go_enter Tryz.func91, Tryz.ntmps91
  go_wp2_with (go_at_call 108; refine (fmt_2 _).mono ?_; rintro e w1 ⟨rfl, rfl⟩)
  go_ret
  exact ⟨rfl, rfl⟩

set_option maxRecDepth 100000 in
set_option maxHeartbeats 1600000 in
theorem ito_2 (w : World) : Calls Tryz.prog 64 #[.int .i64 2] w fun e w' => e = .returned (.string ⟨#[50]⟩) ∧ w' = w := by
  go_enter Tryz.func64, Tryz.ntmps64
  go_wp2_with (go_at_call 91; refine (itoI_2 _).mono ?_; rintro e w1 ⟨rfl, rfl⟩)
  go_ret
  exact ⟨rfl, rfl⟩

set_option maxRecDepth 100000 in
set_option maxHeartbeats 1600000 in
theorem small_3 (w : World) : Calls Tryz.prog 116 #[.int .i64 3] w fun e w' => e = .returned (.string ⟨#[51]⟩) ∧ w' = w := by
  go_enter Tryz.func116, Tryz.ntmps116
  go_wp2
  go_ret
  exact ⟨by kernel_rfl, rfl⟩

set_option maxRecDepth 100000 in
set_option maxHeartbeats 1600000 in
theorem fmt_3 (w : World) : Calls Tryz.prog 108 #[.int .i64 3, .int .i64 10] w fun e w' => e = .returned (.string ⟨#[51]⟩) ∧ w' = w := by
  go_enter Tryz.func108, Tryz.ntmps108
  go_wp2_with (go_at_call 116; refine (small_3 _).mono ?_; rintro e w1 ⟨rfl, rfl⟩)
  go_ret
  exact ⟨rfl, rfl⟩

set_option maxRecDepth 100000 in
set_option maxHeartbeats 1600000 in
theorem itoI_3 (w : World) : Calls Tryz.prog 91 #[.int .i64 3] w fun e w' => e = .returned (.string ⟨#[51]⟩) ∧ w' = w := by
  go_enter Tryz.func91, Tryz.ntmps91
  go_wp2_with (go_at_call 108; refine (fmt_3 _).mono ?_; rintro e w1 ⟨rfl, rfl⟩)
  go_ret
  exact ⟨rfl, rfl⟩

set_option maxRecDepth 100000 in
set_option maxHeartbeats 1600000 in
theorem ito_3 (w : World) : Calls Tryz.prog 64 #[.int .i64 3] w fun e w' => e = .returned (.string ⟨#[51]⟩) ∧ w' = w := by
  go_enter Tryz.func64, Tryz.ntmps64
  go_wp2_with (go_at_call 91; refine (itoI_3 _).mono ?_; rintro e w1 ⟨rfl, rfl⟩)
  go_ret
  exact ⟨rfl, rfl⟩

set_option maxRecDepth 100000 in
set_option maxHeartbeats 1600000 in
theorem small_4 (w : World) : Calls Tryz.prog 116 #[.int .i64 4] w fun e w' => e = .returned (.string ⟨#[52]⟩) ∧ w' = w := by
  go_enter Tryz.func116, Tryz.ntmps116
  go_wp2
  go_ret
  exact ⟨by kernel_rfl, rfl⟩

set_option maxRecDepth 100000 in
set_option maxHeartbeats 1600000 in
theorem fmt_4 (w : World) : Calls Tryz.prog 108 #[.int .i64 4, .int .i64 10] w fun e w' => e = .returned (.string ⟨#[52]⟩) ∧ w' = w := by
  go_enter Tryz.func108, Tryz.ntmps108
  go_wp2_with (go_at_call 116; refine (small_4 _).mono ?_; rintro e w1 ⟨rfl, rfl⟩)
  go_ret
  exact ⟨rfl, rfl⟩

set_option maxRecDepth 100000 in
set_option maxHeartbeats 1600000 in
theorem itoI_4 (w : World) : Calls Tryz.prog 91 #[.int .i64 4] w fun e w' => e = .returned (.string ⟨#[52]⟩) ∧ w' = w := by
  go_enter Tryz.func91, Tryz.ntmps91
  go_wp2_with (go_at_call 108; refine (fmt_4 _).mono ?_; rintro e w1 ⟨rfl, rfl⟩)
  go_ret
  exact ⟨rfl, rfl⟩

set_option maxRecDepth 100000 in
set_option maxHeartbeats 1600000 in
theorem ito_4 (w : World) : Calls Tryz.prog 64 #[.int .i64 4] w fun e w' => e = .returned (.string ⟨#[52]⟩) ∧ w' = w := by
  go_enter Tryz.func64, Tryz.ntmps64
  go_wp2_with (go_at_call 91; refine (itoI_4 _).mono ?_; rintro e w1 ⟨rfl, rfl⟩)
  go_ret
  exact ⟨rfl, rfl⟩

set_option maxRecDepth 100000 in
set_option maxHeartbeats 1600000 in
theorem nam_65_1 (w : World) : Calls Tryz.prog 32 #[.agg #[.int .i32 65, .int .i64 1]] w fun e w' => e = .returned (.string (kdB (65, 49))) ∧ Below w.heap.size w w' := by
  have hconv : ∀ X, (Go.convert 21 9 (.int .i32 65)).run Tryz.prog X = .ok (.string ⟨#[65]⟩) X := fun X => by kernel_rfl
  go_enter Tryz.func32, Tryz.ntmps32
  have hadd : (⟨#[65]⟩ : ByteArray) ++ ⟨#[49]⟩ = kdB (65, 49) := by kernel_rfl
  go_wp2
  go_region_with (go_at_call 64; refine (ito_1 _).mono ?_; rintro e w1 ⟨rfl, hw1⟩; obtain rfl := hw1.symm; clear hw1)
  all_goals
    go_wp2
    go_ret
    exact ⟨by first | rfl | kernel_rfl, by first | exact ((Below.refl _ _).alloc (Nat.le_refl _) _).drew | exact (Below.refl _ _).drew.alloc (Nat.le_refl _) _⟩

set_option maxRecDepth 100000 in
set_option maxHeartbeats 1600000 in
theorem nam_65_2 (w : World) : Calls Tryz.prog 32 #[.agg #[.int .i32 65, .int .i64 2]] w fun e w' => e = .returned (.string (kdB (65, 50))) ∧ Below w.heap.size w w' := by
  have hconv : ∀ X, (Go.convert 21 9 (.int .i32 65)).run Tryz.prog X = .ok (.string ⟨#[65]⟩) X := fun X => by kernel_rfl
  go_enter Tryz.func32, Tryz.ntmps32
  have hadd : (⟨#[65]⟩ : ByteArray) ++ ⟨#[50]⟩ = kdB (65, 50) := by kernel_rfl
  go_wp2
  go_region_with (go_at_call 64; refine (ito_2 _).mono ?_; rintro e w1 ⟨rfl, hw1⟩; obtain rfl := hw1.symm; clear hw1)
  all_goals
    go_wp2
    go_ret
    exact ⟨by first | rfl | kernel_rfl, by first | exact ((Below.refl _ _).alloc (Nat.le_refl _) _).drew | exact (Below.refl _ _).drew.alloc (Nat.le_refl _) _⟩

set_option maxRecDepth 100000 in
set_option maxHeartbeats 1600000 in
theorem nam_65_3 (w : World) : Calls Tryz.prog 32 #[.agg #[.int .i32 65, .int .i64 3]] w fun e w' => e = .returned (.string (kdB (65, 51))) ∧ Below w.heap.size w w' := by
  have hconv : ∀ X, (Go.convert 21 9 (.int .i32 65)).run Tryz.prog X = .ok (.string ⟨#[65]⟩) X := fun X => by kernel_rfl
  go_enter Tryz.func32, Tryz.ntmps32
  have hadd : (⟨#[65]⟩ : ByteArray) ++ ⟨#[51]⟩ = kdB (65, 51) := by kernel_rfl
  go_wp2
  go_region_with (go_at_call 64; refine (ito_3 _).mono ?_; rintro e w1 ⟨rfl, hw1⟩; obtain rfl := hw1.symm; clear hw1)
  all_goals
    go_wp2
    go_ret
    exact ⟨by first | rfl | kernel_rfl, by first | exact ((Below.refl _ _).alloc (Nat.le_refl _) _).drew | exact (Below.refl _ _).drew.alloc (Nat.le_refl _) _⟩

set_option maxRecDepth 100000 in
set_option maxHeartbeats 1600000 in
theorem nam_65_4 (w : World) : Calls Tryz.prog 32 #[.agg #[.int .i32 65, .int .i64 4]] w fun e w' => e = .returned (.string (kdB (65, 52))) ∧ Below w.heap.size w w' := by
  have hconv : ∀ X, (Go.convert 21 9 (.int .i32 65)).run Tryz.prog X = .ok (.string ⟨#[65]⟩) X := fun X => by kernel_rfl
  go_enter Tryz.func32, Tryz.ntmps32
  have hadd : (⟨#[65]⟩ : ByteArray) ++ ⟨#[52]⟩ = kdB (65, 52) := by kernel_rfl
  go_wp2
  go_region_with (go_at_call 64; refine (ito_4 _).mono ?_; rintro e w1 ⟨rfl, hw1⟩; obtain rfl := hw1.symm; clear hw1)
  all_goals
    go_wp2
    go_ret
    exact ⟨by first | rfl | kernel_rfl, by first | exact ((Below.refl _ _).alloc (Nat.le_refl _) _).drew | exact (Below.refl _ _).drew.alloc (Nat.le_refl _) _⟩

set_option maxRecDepth 100000 in
set_option maxHeartbeats 1600000 in
theorem nam_66_2 (w : World) : Calls Tryz.prog 32 #[.agg #[.int .i32 66, .int .i64 2]] w fun e w' => e = .returned (.string (kdB (66, 50))) ∧ Below w.heap.size w w' := by
  have hconv : ∀ X, (Go.convert 21 9 (.int .i32 66)).run Tryz.prog X = .ok (.string ⟨#[66]⟩) X := fun X => by kernel_rfl
  go_enter Tryz.func32, Tryz.ntmps32
  have hadd : (⟨#[66]⟩ : ByteArray) ++ ⟨#[50]⟩ = kdB (66, 50) := by kernel_rfl
  go_wp2
  go_region_with (go_at_call 64; refine (ito_2 _).mono ?_; rintro e w1 ⟨rfl, hw1⟩; obtain rfl := hw1.symm; clear hw1)
  all_goals
    go_wp2
    go_ret
    exact ⟨by first | rfl | kernel_rfl, by first | exact ((Below.refl _ _).alloc (Nat.le_refl _) _).drew | exact (Below.refl _ _).drew.alloc (Nat.le_refl _) _⟩

set_option maxRecDepth 100000 in
set_option maxHeartbeats 1600000 in
theorem nam_66_3 (w : World) : Calls Tryz.prog 32 #[.agg #[.int .i32 66, .int .i64 3]] w fun e w' => e = .returned (.string (kdB (66, 51))) ∧ Below w.heap.size w w' := by
  have hconv : ∀ X, (Go.convert 21 9 (.int .i32 66)).run Tryz.prog X = .ok (.string ⟨#[66]⟩) X := fun X => by kernel_rfl
  go_enter Tryz.func32, Tryz.ntmps32
  have hadd : (⟨#[66]⟩ : ByteArray) ++ ⟨#[51]⟩ = kdB (66, 51) := by kernel_rfl
  go_wp2
  go_region_with (go_at_call 64; refine (ito_3 _).mono ?_; rintro e w1 ⟨rfl, hw1⟩; obtain rfl := hw1.symm; clear hw1)
  all_goals
    go_wp2
    go_ret
    exact ⟨by first | rfl | kernel_rfl, by first | exact ((Below.refl _ _).alloc (Nat.le_refl _) _).drew | exact (Below.refl _ _).drew.alloc (Nat.le_refl _) _⟩

set_option maxRecDepth 100000 in
set_option maxHeartbeats 1600000 in
theorem nam_66_4 (w : World) : Calls Tryz.prog 32 #[.agg #[.int .i32 66, .int .i64 4]] w fun e w' => e = .returned (.string (kdB (66, 52))) ∧ Below w.heap.size w w' := by
  have hconv : ∀ X, (Go.convert 21 9 (.int .i32 66)).run Tryz.prog X = .ok (.string ⟨#[66]⟩) X := fun X => by kernel_rfl
  go_enter Tryz.func32, Tryz.ntmps32
  have hadd : (⟨#[66]⟩ : ByteArray) ++ ⟨#[52]⟩ = kdB (66, 52) := by kernel_rfl
  go_wp2
  go_region_with (go_at_call 64; refine (ito_4 _).mono ?_; rintro e w1 ⟨rfl, hw1⟩; obtain rfl := hw1.symm; clear hw1)
  all_goals
    go_wp2
    go_ret
    exact ⟨by first | rfl | kernel_rfl, by first | exact ((Below.refl _ _).alloc (Nat.le_refl _) _).drew | exact (Below.refl _ _).drew.alloc (Nat.le_refl _) _⟩

set_option maxRecDepth 100000 in
set_option maxHeartbeats 1600000 in
theorem nam_67_3 (w : World) : Calls Tryz.prog 32 #[.agg #[.int .i32 67, .int .i64 3]] w fun e w' => e = .returned (.string (kdB (67, 51))) ∧ Below w.heap.size w w' := by
  have hconv : ∀ X, (Go.convert 21 9 (.int .i32 67)).run Tryz.prog X = .ok (.string ⟨#[67]⟩) X := fun X => by kernel_rfl
  go_enter Tryz.func32, Tryz.ntmps32
  have hadd : (⟨#[67]⟩ : ByteArray) ++ ⟨#[51]⟩ = kdB (67, 51) := by kernel_rfl
  go_wp2
  go_region_with (go_at_call 64; refine (ito_3 _).mono ?_; rintro e w1 ⟨rfl, hw1⟩; obtain rfl := hw1.symm; clear hw1)
  all_goals
    go_wp2
    go_ret
    exact ⟨by first | rfl | kernel_rfl, by first | exact ((Below.refl _ _).alloc (Nat.le_refl _) _).drew | exact (Below.refl _ _).drew.alloc (Nat.le_refl _) _⟩

set_option maxRecDepth 100000 in
set_option maxHeartbeats 1600000 in
theorem nam_67_4 (w : World) : Calls Tryz.prog 32 #[.agg #[.int .i32 67, .int .i64 4]] w fun e w' => e = .returned (.string (kdB (67, 52))) ∧ Below w.heap.size w w' := by
  have hconv : ∀ X, (Go.convert 21 9 (.int .i32 67)).run Tryz.prog X = .ok (.string ⟨#[67]⟩) X := fun X => by kernel_rfl
  go_enter Tryz.func32, Tryz.ntmps32
  have hadd : (⟨#[67]⟩ : ByteArray) ++ ⟨#[52]⟩ = kdB (67, 52) := by kernel_rfl
  go_wp2
  go_region_with (go_at_call 64; refine (ito_4 _).mono ?_; rintro e w1 ⟨rfl, hw1⟩; obtain rfl := hw1.symm; clear hw1)
  all_goals
    go_wp2
    go_ret
    exact ⟨by first | rfl | kernel_rfl, by first | exact ((Below.refl _ _).alloc (Nat.le_refl _) _).drew | exact (Below.refl _ _).drew.alloc (Nat.le_refl _) _⟩

set_option maxRecDepth 100000 in
set_option maxHeartbeats 1600000 in
theorem nam_68_4 (w : World) : Calls Tryz.prog 32 #[.agg #[.int .i32 68, .int .i64 4]] w fun e w' => e = .returned (.string (kdB (68, 52))) ∧ Below w.heap.size w w' := by
  have hconv : ∀ X, (Go.convert 21 9 (.int .i32 68)).run Tryz.prog X = .ok (.string ⟨#[68]⟩) X := fun X => by kernel_rfl
  go_enter Tryz.func32, Tryz.ntmps32
  have hadd : (⟨#[68]⟩ : ByteArray) ++ ⟨#[52]⟩ = kdB (68, 52) := by kernel_rfl
  go_wp2
  go_region_with (go_at_call 64; refine (ito_4 _).mono ?_; rintro e w1 ⟨rfl, hw1⟩; obtain rfl := hw1.symm; clear hw1)
  all_goals
    go_wp2
    go_ret
    exact ⟨by first | rfl | kernel_rfl, by first | exact ((Below.refl _ _).alloc (Nat.le_refl _) _).drew | exact (Below.refl _ _).drew.alloc (Nat.le_refl _) _⟩

set_option maxRecDepth 100000 in
set_option maxHeartbeats 1600000 in
theorem nam_70_4 (w : World) : Calls Tryz.prog 32 #[.agg #[.int .i32 70, .int .i64 4]] w fun e w' => e = .returned (.string (kdB (70, 52))) ∧ Below w.heap.size w w' := by
  have hconv : ∀ X, (Go.convert 21 9 (.int .i32 70)).run Tryz.prog X = .ok (.string ⟨#[70]⟩) X := fun X => by kernel_rfl
  go_enter Tryz.func32, Tryz.ntmps32
  have hadd : (⟨#[70]⟩ : ByteArray) ++ ⟨#[52]⟩ = kdB (70, 52) := by kernel_rfl
  go_wp2
  go_region_with (go_at_call 64; refine (ito_4 _).mono ?_; rintro e w1 ⟨rfl, hw1⟩; obtain rfl := hw1.symm; clear hw1)
  all_goals
    go_wp2
    go_ret
    exact ⟨by first | rfl | kernel_rfl, by first | exact ((Below.refl _ _).alloc (Nat.le_refl _) _).drew | exact (Below.refl _ _).drew.alloc (Nat.le_refl _) _⟩

set_option maxRecDepth 100000 in
set_option maxHeartbeats 1600000 in
theorem nam_71_2 (w : World) : Calls Tryz.prog 32 #[.agg #[.int .i32 71, .int .i64 2]] w fun e w' => e = .returned (.string (kdB (71, 50))) ∧ Below w.heap.size w w' := by
  have hconv : ∀ X, (Go.convert 21 9 (.int .i32 71)).run Tryz.prog X = .ok (.string ⟨#[71]⟩) X := fun X => by kernel_rfl
  go_enter Tryz.func32, Tryz.ntmps32
  have hadd : (⟨#[71]⟩ : ByteArray) ++ ⟨#[50]⟩ = kdB (71, 50) := by kernel_rfl
  go_wp2
  go_region_with (go_at_call 64; refine (ito_2 _).mono ?_; rintro e w1 ⟨rfl, hw1⟩; obtain rfl := hw1.symm; clear hw1)
  all_goals
    go_wp2
    go_ret
    exact ⟨by first | rfl | kernel_rfl, by first | exact ((Below.refl _ _).alloc (Nat.le_refl _) _).drew | exact (Below.refl _ _).drew.alloc (Nat.le_refl _) _⟩

theorem kname_any (q : UInt8 × UInt8) (hq : q ∈ kdL) (w : World) : Calls Tryz.prog 32 #[.agg #[.int .i32 (q.1.toNat : Int), .int .i64 (rkP q : Int)]] w fun e w' => e = .returned (.string (kdB q)) ∧ Below w.heap.size w w' := by
  unfold kdL at hq
  simp only [List.mem_cons, List.not_mem_nil, or_false] at hq
  rcases hq with rfl | rfl | rfl | rfl | rfl | rfl | rfl | rfl | rfl | rfl | rfl | rfl
  · exact nam_65_1 w
  · exact nam_65_2 w
  · exact nam_65_3 w
  · exact nam_65_4 w
  · exact nam_66_2 w
  · exact nam_66_3 w
  · exact nam_66_4 w
  · exact nam_67_3 w
  · exact nam_67_4 w
  · exact nam_68_4 w
  · exact nam_70_4 w
  · exact nam_71_2 w

end Go.Proofs.YtilblfoapjnmaaaGreatDoor

/- slices.Sort over strings, strings.Join: the shelf's contracts laid at this program. -/
namespace Go.Proofs
open Go.Shelf Go.RowKit
shelf_lay Lays.n190 Nm 190 at Tryz as Tryz.lays190
shelf_lay Lays.n156 Nm 156 at Tryz as Tryz.lays156
theorem Tryz.extra156 : Builder.Extra Tryz.prog Tryz.lays156_ren where
  sizeBuilder := by kernel_rfl
  liesBuilder := by kernel_rfl
  t5 := Tryz.underlying5
  a5 := Tryz.isAgg5
  z5 := Tryz.sizeOf5
  v5 := Tryz.zeroValue5
  infoByte := by kernel_rfl
  cellsByte := by kernel_rfl
  sizeByte := by kernel_rfl
  neB5 := by decide
end Go.Proofs

/- slices.Sort over strings and strings.Join, as root.Name meets them. -/
namespace Go.Proofs.YtilblfoapjnmaaaGreatDoor
open Go.RowKit Go.Sort

/-- Texts in order. -/
def soL (l : List (List UInt8)) : List (List UInt8) := l.mergeSort fun x y => decide (x ≤ y)
def txV (l : List (List UInt8)) : List Value := l.map fun s => .string ⟨s.toArray⟩

theorem soL_len (l : List (List UInt8)) : (soL l).length = l.length := List.length_mergeSort l

theorem sortS_any (g cap : Nat) (l : List (List UInt8)) (cur : Array Value) (w : World) (hg : w.heap[g]? = some (.cells cur 9 (0, 0))) (hc : ∀ j, j < l.length → cur[j]? = some (.string ⟨(l.getD j []).toArray⟩)) (hl : l.length ≤ 1000) :
    Calls Tryz.prog 33 #[.slice (some ⟨g, 0, none⟩) l.length cap] w fun e w' => e = .returned (.tuple #[]) ∧ (∀ j, j < l.length → w'.cell? ⟨g, j, none⟩ = some (.string ⟨((soL l).getD j []).toArray⟩)) ∧ g < w'.heap.size ∧ Below g w w' := by
  have hH : Holds encStr w g 0 l.toArray := fun j hj => by
    have hj' : j < l.length := by simpa using hj
    refine ⟨?_, ?_⟩
    · have := hc j hj'
      have e : (l.toArray)[j]! = l.getD j [] := by simp [hj']
      rw [e]
      simpa [World.cell?, hg, encStr] using this
    · simp [World.frozen?, hg]
  have hgl := (Array.getElem?_eq_some_iff.1 hg).1
  refine (Any.slices_Sort_string Tryz.lays190 g 0 cap l w hH hgl (by omega)).mono ?_
  rintro e w' ⟨rfl, n, os, rfl⟩
  have hz : (putRow encStr (Sort.ahead w n) g 0 (soL l).toArray).heap.size = w.heap.size := by simp [putRow, mapBlock, Sort.ahead]
  refine ⟨rfl, fun j hj => ?_, ?_, ⟨rfl, rfl, rfl, ?_, fun b hb => ?_⟩⟩
  · have h := cell?_putRow encStr (Sort.ahead w n) g 0 l.toArray (soL l).toArray hH (by simp [soL_len]) j (by simpa [soL_len] using hj)
    rw [Nat.zero_add] at h
    have hs : j < (soL l).length := by rw [soL_len]; exact hj
    have e : ((soL l).toArray)[j]! = (soL l).getD j [] := by simp [hs]
    rw [e] at h
    have hk : (grow (putRow encStr (Sort.ahead w n) g 0 (soL l).toArray) os).heap[g]? = (putRow encStr (Sort.ahead w n) g 0 (soL l).toArray).heap[g]? := by
      simp only [grow]
      rw [Array.getElem?_append_left (by rw [hz]; exact hgl)]
    exact (World.cell?_of_block (a := ⟨g, j, none⟩) hk).trans h
  · simp only [grow, Array.size_append, soL] at hz ⊢
    omega
  · simp only [grow, Array.size_append, soL] at hz ⊢
    omega
  · show (grow (putRow encStr (Sort.ahead w n) g 0 (soL l).toArray) os).heap[b]? = _
    simp only [grow]
    rw [Array.getElem?_append_left (by rw [hz]; omega)]
    simp [putRow, mapBlock, Array.getElem?_modify, show ¬ g = b by omega, Sort.ahead]

end Go.Proofs.YtilblfoapjnmaaaGreatDoor
