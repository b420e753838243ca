import Derived.Test.YtcmemhdlendlkaaDoorLa0
import Derived.Test.YtcmemhdlendlkaaDoorEr3
/- PosetSays of an order that may be, of at most four things. -/
namespace Go.Proofs.YtcmemhdlendlkaaDoor
open Go.RowKit
attribute [local go_sem ↓] Go.wp_at_zero Go.wp_at_succ

set_option maxRecDepth 100000 in
set_option maxHeartbeats 6400000 in
theorem posetSays_small_rng (n : Nat) (k : Int) (es : List (Nat × Nat)) (pv : Value) (w : World) (hv : Prs w pv (npL es)) (hG : GdO n es) (hT : TabB w) (hk : k < 0 ∨ 6 < k) (hn4 : n ≤ 4) :
    Calls Tryd.prog 3 #[.agg #[.int .i64 (n : Int), pv], .int .i64 k] w fun e w' => e = .returned (.bool true) ∧ Ext w w' := by
  obtain ⟨w1, hW1⟩ : ∃ w1, w1 = w.alloc (.cells #[.int .i64 (n : Int), pv] 24) := ⟨_, rfl⟩
  have hb1 : Ext w w1 := by rw [hW1]; exact (Below.refl _ _).alloc (Nat.le_refl _) _
  have d0 : w1.cell? ⟨w.heap.size, 0, none⟩ = some (.int .i64 (n : Int)) := by rw [hW1]; simp
  have d1 : w1.cell? ⟨w.heap.size, 1, none⟩ = some pv := by rw [hW1]; simp
  obtain ⟨UP, FI, AP, OD, MO, PX, PY, A, B, hC⟩ : ∃ UP FI AP OD MO PX PY A B, LawC w1 n 0 pv UP FI AP OD MO PX PY A B := ⟨_, _, _, _, _, _, _, _, _, lawC_of w1 n 0 es pv (hv.below hb1 (Nat.le_refl _)) hG (hT.below hb1) (by omega)⟩
  have HMR0 : ∀ W, Ext w1 W → Calls Tryd.prog 23 #[.agg #[.int .i64 (n : Int), pv], .int .i64 k] W fun e w' => e = .returned (.tuple #[.int .i64 0, .int .i64 0, .int .i64 4]) ∧ Ext W w' := fun W h => maps_rng n es k pv W (hv.below (hb1.tr h) (Nat.le_refl _)) hG hk
  have hn1 := hG.n1
  have hn6 := hG.n6
  have hl36 := hG.len
  obtain ⟨po, pc, hpv, -⟩ := hv
  rw [npL_len] at hpv
  subst hpv
  have C : Hid (LawC w1 n 0 (.slice po es.length pc) UP FI AP OD MO PX PY A B) := hC
  have HD : Hid (∀ W, Ext w1 W → W.cell? ⟨w.heap.size, 0, none⟩ = some (.int .i64 (n : Int)) ∧ W.cell? ⟨w.heap.size, 1, none⟩ = some (.slice po es.length pc)) := fun W h => ⟨(Below.cell h (lt_of_cell d0)).trans d0, (Below.cell h (lt_of_cell d1)).trans d1⟩
  have HB1 : Hid (Ext w w1) := hb1
  have HMR : Hid (∀ W, Ext w1 W → Calls Tryd.prog 23 #[.agg #[.int .i64 (n : Int), .slice po es.length pc], .int .i64 k] W fun e w' => e = .returned (.tuple #[.int .i64 0, .int .i64 0, .int .i64 4]) ∧ Ext W w') := HMR0
  clear HMR0
  have X0 : Hid (∀ a ∈ [w1], Ext a w1) := fun a ha => by
    rw [List.mem_singleton] at ha
    subst ha
    exact Ext.refl _
  generalize es.length = el at *
  have l100 : ¬ 100 < (el : Int) := by omega
  have nI1 : 1 ≤ (n : Int) := by omega
  have nI6 : (n : Int) ≤ 6 := by omega
  clear hG hT hC hb1 d0 d1
  obtain ⟨c0, c1⟩ := HD.out w1 (Ext.refl _)
  rw [hW1] at c0 c1
  go_enter Tryd.func3, Tryd.ntmps3
  have HC := C.out.om w1 (X0.out w1 (by simp))
  go_wp2_with fail
  try rw [← hW1]
  refine HC.mono ?_
  rintro e w2 ⟨rfl, hb⟩
  have X1 : Hid (∀ a ∈ [w2, w1], Ext a w2) := extNext X0.out hb
  clear hb X0 HC c0 c1
  have HC := C.out.ao w2 (X1.out w1 (by simp))
  obtain ⟨c0, c1⟩ := HD.out w2 (X1.out w1 (by simp))
  go_wp2_with fail
  refine HC.mono ?_
  rintro e w3 ⟨u6, rfl, h6, hb⟩
  have X2 : Hid (∀ a ∈ [w3, w2, w1], Ext a w3) := extNext X1.out hb
  have H6 : Hid (Sx w3 u6 UP) := h6
  clear h6
  clear hb X1 HC c0 c1
  have HC := C.out.oo w3 u6 (X2.out w1 (by simp)) (H6.out.ext (X2.out w3 (by simp)))
  go_wp2_with fail
  refine HC.mono ?_
  rintro e w4 ⟨u7, rfl, h7, hb⟩
  have X3 : Hid (∀ a ∈ [w4, w3, w2, w1], Ext a w4) := extNext X2.out hb
  have H7 : Hid (Mt w4 u7 OD) := h7
  clear h7
  clear hb X2 HC
  have HC := C.out.fo w4 u6 (X3.out w1 (by simp)) (H6.out.ext (X3.out w3 (by simp)))
  go_wp2_with fail
  refine HC.mono ?_
  rintro e w5 ⟨u8, rfl, h8, hb⟩
  have X4 : Hid (∀ a ∈ [w5, w4, w3, w2, w1], Ext a w5) := extNext X3.out hb
  have H8 : Hid (Sx w5 u8 FI) := h8
  clear h8
  clear hb X3 HC
  have HC := C.out.po w5 u6 (X4.out w1 (by simp)) (H6.out.ext (X4.out w3 (by simp)))
  go_wp2_with fail
  refine HC.mono ?_
  rintro e w6 ⟨u9, rfl, h9, hb⟩
  have X5 : Hid (∀ a ∈ [w6, w5, w4, w3, w2, w1], Ext a w6) := extNext X4.out hb
  have H9 : Hid (Sx w6 u9 AP) := h9
  clear h9
  clear hb X4 HC
  have HC := C.out.mb w6 (X5.out w1 (by simp))
  obtain ⟨c0, c1⟩ := HD.out w6 (X5.out w1 (by simp))
  go_wp2_with fail
  refine HC.mono ?_
  rintro e w7 ⟨u10, rfl, h10, hb⟩
  have X6 : Hid (∀ a ∈ [w7, w6, w5, w4, w3, w2, w1], Ext a w7) := extNext X5.out hb
  have H10 : Hid (Mt w7 u10 MO) := h10
  clear h10
  clear hb X5 HC c0 c1
  have HC := C.out.mo w7 u6 (X6.out w1 (by simp)) (H6.out.ext (X6.out w3 (by simp)))
  go_wp2_with fail
  refine HC.mono ?_
  rintro e w8 ⟨u12, rfl, h12, hb⟩
  have X7 : Hid (∀ a ∈ [w8, w7, w6, w5, w4, w3, w2, w1], Ext a w8) := extNext X6.out hb
  have H12 : Hid (Mt w8 u12 MO) := h12
  clear h12
  clear hb X6 HC
  have HC := listsP_same MO _ _ w8 (H10.out.ext (X7.out w7 (by simp))) (H12.out.ext (X7.out w8 (by simp)))
  go_wp2_with fail
  refine HC.mono ?_
  rintro e w9 ⟨rfl, hb⟩
  have X8 : Hid (∀ a ∈ [w9, w8, w7, w6, w5, w4, w3, w2, w1], Ext a w9) := extNext X7.out hb
  clear hb X7 HC
  have HC := C.out.ab w9 (X8.out w1 (by simp))
  obtain ⟨c0, c1⟩ := HD.out w9 (X8.out w1 (by simp))
  go_wp2_with fail
  refine HC.mono ?_
  rintro e w10 ⟨u13, rfl, h13, hb⟩
  have X9 : Hid (∀ a ∈ [w10, w9, w8, w7, w6, w5, w4, w3, w2, w1], Ext a w10) := extNext X8.out hb
  have H13 : Hid (Sx w10 u13 UP) := h13
  clear h13
  clear hb X8 HC c0 c1
  have HC := C.out.od w10 (X9.out w1 (by simp))
  obtain ⟨c0, c1⟩ := HD.out w10 (X9.out w1 (by simp))
  go_wp2_with fail
  refine HC.mono ?_
  rintro e w11 ⟨u15, rfl, h15, hb⟩
  have X10 : Hid (∀ a ∈ [w11, w10, w9, w8, w7, w6, w5, w4, w3, w2, w1], Ext a w11) := extNext X9.out hb
  have H15 : Hid (Mt w11 u15 OD) := h15
  clear h15
  clear hb X9 HC c0 c1
  have HC := C.out.fi w11 (X10.out w1 (by simp))
  obtain ⟨c0, c1⟩ := HD.out w11 (X10.out w1 (by simp))
  go_wp2_with fail
  refine HC.mono ?_
  rintro e w12 ⟨u17, rfl, h17, hb⟩
  have X11 : Hid (∀ a ∈ [w12, w11, w10, w9, w8, w7, w6, w5, w4, w3, w2, w1], Ext a w12) := extNext X10.out hb
  have H17 : Hid (Sx w12 u17 FI) := h17
  clear h17
  clear hb X10 HC c0 c1
  have HC := C.out.ap w12 (X11.out w1 (by simp))
  obtain ⟨c0, c1⟩ := HD.out w12 (X11.out w1 (by simp))
  go_wp2_with fail
  refine HC.mono ?_
  rintro e w13 ⟨u19, rfl, h19, hb⟩
  have X12 : Hid (∀ a ∈ [w13, w12, w11, w10, w9, w8, w7, w6, w5, w4, w3, w2, w1], Ext a w13) := extNext X11.out hb
  have H19 : Hid (Sx w13 u19 AP) := h19
  clear h19
  clear hb X11 HC c0 c1
  have HC := C.out.ck w13 (X12.out w1 (by simp))
  obtain ⟨c0, c1⟩ := HD.out w13 (X12.out w1 (by simp))
  go_wp2_with fail
  refine HC.mono ?_
  rintro e w14 ⟨rfl, hb⟩
  have X13 : Hid (∀ a ∈ [w14, w13, w12, w11, w10, w9, w8, w7, w6, w5, w4, w3, w2, w1], Ext a w14) := extNext X12.out hb
  clear hb X12 HC c0 c1
  have HC := list_same w14.heap.size UP _ _ w14 (H13.out.ext (X13.out w10 (by simp))) (H6.out.ext (X13.out w3 (by simp)))
  go_wp2_with fail
  refine HC.mono ?_
  rintro e w15 ⟨rfl, hb⟩
  have X14 : Hid (∀ a ∈ [w15, w14, w13, w12, w11, w10, w9, w8, w7, w6, w5, w4, w3, w2, w1], Ext a w15) := extNext X13.out hb
  clear hb X13 HC
  have HC := listsP_same OD _ _ w15 (H15.out.ext (X14.out w11 (by simp))) (H7.out.ext (X14.out w4 (by simp)))
  go_wp2_with fail
  refine HC.mono ?_
  rintro e w16 ⟨rfl, hb⟩
  have X15 : Hid (∀ a ∈ [w16, w15, w14, w13, w12, w11, w10, w9, w8, w7, w6, w5, w4, w3, w2, w1], Ext a w16) := extNext X14.out hb
  clear hb X14 HC
  have HC := list_same w16.heap.size FI _ _ w16 (H17.out.ext (X15.out w12 (by simp))) (H8.out.ext (X15.out w5 (by simp)))
  go_wp2_with fail
  refine HC.mono ?_
  rintro e w17 ⟨rfl, hb⟩
  have X16 : Hid (∀ a ∈ [w17, w16, w15, w14, w13, w12, w11, w10, w9, w8, w7, w6, w5, w4, w3, w2, w1], Ext a w17) := extNext X15.out hb
  clear hb X15 HC
  have HC := list_same w17.heap.size AP _ _ w17 (H19.out.ext (X16.out w13 (by simp))) (H9.out.ext (X16.out w6 (by simp)))
  go_wp2_with fail
  refine HC.mono ?_
  rintro e w18 ⟨rfl, hb⟩
  have X17 : Hid (∀ a ∈ [w18, w17, w16, w15, w14, w13, w12, w11, w10, w9, w8, w7, w6, w5, w4, w3, w2, w1], Ext a w18) := extNext X16.out hb
  clear hb X16 HC
  have HC := C.out.ox hn4 w18 (X17.out w1 (by simp))
  obtain ⟨c0, c1⟩ := HD.out w18 (X17.out w1 (by simp))
  go_wp2_with fail
  refine HC.mono ?_
  rintro e w19 ⟨xo, xl, xc, rfl, hx, hb⟩
  have X18 : Hid (∀ a ∈ [w19, w18, w17, w16, w15, w14, w13, w12, w11, w10, w9, w8, w7, w6, w5, w4, w3, w2, w1], Ext a w19) := extNext X17.out hb
  have HPX : Hid (Mt w19 (.slice xo xl xc) PX) := hx
  clear hx
  clear hb X17 HC c0 c1
  obtain ⟨v19, hv19⟩ : ∃ v19, v19 = w19.alloc (.cells #[.int .i64 (n : Int), .slice xo xl xc] 40) := ⟨_, rfl⟩
  have hb : Ext w19 v19 := by rw [hv19]; exact (Below.refl _ _).alloc (Nat.le_refl _) _
  have HX0 : Hid (v19.cell? ⟨w19.heap.size, 0, none⟩ = some (.int .i64 (n : Int)) ∧ v19.cell? ⟨w19.heap.size, 1, none⟩ = some (.slice xo xl xc)) := by rw [hv19]; exact ⟨by simp, by simp⟩
  have X19 : Hid (∀ a ∈ [v19, w19, w18, w17, w16, w15, w14, w13, w12, w11, w10, w9, w8, w7, w6, w5, w4, w3, w2, w1], Ext a v19) := extNext X18.out hb
  clear hb X18
  have HC := C.out.oy hn4 v19 (X19.out w1 (by simp))
  obtain ⟨c0, c1⟩ := HD.out v19 (X19.out w1 (by simp))
  rw [hv19] at c0 c1 HC
  go_wp2_with fail
  refine HC.mono ?_
  rintro e w20 ⟨yo, yl, yc, rfl, hy, hb⟩
  rw [← hv19] at hb
  clear HC c0 c1
  have X20 : Hid (∀ a ∈ [w20, v19, w19, w18, w17, w16, w15, w14, w13, w12, w11, w10, w9, w8, w7, w6, w5, w4, w3, w2, w1], Ext a w20) := extNext X19.out hb
  clear hb X19
  have HPY : Hid (Mt w20 (.slice yo yl yc) PY) := hy
  clear hy
  obtain ⟨v20, hv20⟩ : ∃ v20, v20 = w20.alloc (.cells #[.int .i64 (n : Int), .slice yo yl yc] 40) := ⟨_, rfl⟩
  have hb : Ext w20 v20 := by rw [hv20]; exact (Below.refl _ _).alloc (Nat.le_refl _) _
  have HY0 : Hid (v20.cell? ⟨w20.heap.size, 0, none⟩ = some (.int .i64 (n : Int)) ∧ v20.cell? ⟨w20.heap.size, 1, none⟩ = some (.slice yo yl yc)) := by rw [hv20]; exact ⟨by simp, by simp⟩
  have X21 : Hid (∀ a ∈ [v20, w20, v19, w19, w18, w17, w16, w15, w14, w13, w12, w11, w10, w9, w8, w7, w6, w5, w4, w3, w2, w1], Ext a v20) := extNext X20.out hb
  clear hb X20
  clear hv19
  go_wp2
  rw [← hv20]
  clear hv20
  have HSS : Hid (∀ w' : World, Ext v20 w' → w'.cell? ⟨w19.heap.size, 0, none⟩ = some (.int .i64 (n : Int)) ∧ w'.cell? ⟨w19.heap.size, 1, none⟩ = some (.slice xo xl xc) ∧ w'.cell? ⟨w20.heap.size, 0, none⟩ = some (.int .i64 (n : Int)) ∧ w'.cell? ⟨w20.heap.size, 1, none⟩ = some (.slice yo yl yc) ∧ w'.cell? ⟨w.heap.size, 0, none⟩ = some (.int .i64 (n : Int))) := fun W h => ⟨(Below.cell ((X21.out v19 (by simp)).tr h) (lt_of_cell HX0.out.1)).trans HX0.out.1, (Below.cell ((X21.out v19 (by simp)).tr h) (lt_of_cell HX0.out.2)).trans HX0.out.2, (Below.cell h (lt_of_cell HY0.out.1)).trans HY0.out.1, (Below.cell h (lt_of_cell HY0.out.2)).trans HY0.out.2, (HD.out W ((X21.out w1 (by simp)).tr h)).1⟩
  have nn : ((n : Int) != (n : Int)) = false := by simp
  refine wp_region_held_drew (S := fun w' => w'.cell? ⟨w19.heap.size, 0, none⟩ = some (.int .i64 (n : Int)) ∧ w'.cell? ⟨w19.heap.size, 1, none⟩ = some (.slice xo xl xc) ∧ w'.cell? ⟨w20.heap.size, 0, none⟩ = some (.int .i64 (n : Int)) ∧ w'.cell? ⟨w20.heap.size, 1, none⟩ = some (.slice yo yl yc) ∧ w'.cell? ⟨w.heap.size, 0, none⟩ = some (.int .i64 (n : Int))) (by kernel_rfl) (HSS.out v20 (Ext.refl _)) (fun hHeld => ?_)
  refine wpAnyH_tk (i := 0) (d := 161) (v := (.pointer (some ⟨w19.heap.size, 0, none⟩))) rfl rfl (by kernel_rfl) (by kernel_rfl) (by kernel_rfl) (fun _ _ _ h => h) (.inl ⟨by rfl, by (intro wq hSw; (try dsimp only at hSw); go_simp; (try (first | rfl | omega)))⟩) hHeld ?_
  simp only [Act.put, List.setIfInBounds_toArray, List.set_cons_zero, List.set_cons_succ]
  refine wpAnyH_tk (i := 1) (d := 162) (v := (.int .i64 (n : Int))) rfl rfl (by kernel_rfl) (by kernel_rfl) (by kernel_rfl) (fun _ _ _ h => h) (.inl ⟨by rfl, by (intro wq hSw; (try dsimp only at hSw); go_simp; (try (first | rfl | omega)))⟩) hHeld ?_
  simp only [Act.put, List.setIfInBounds_toArray, List.set_cons_zero, List.set_cons_succ]
  refine wpAnyH_tk (i := 2) (d := 163) (v := (.pointer (some ⟨w.heap.size, 0, none⟩))) rfl rfl (by kernel_rfl) (by kernel_rfl) (by kernel_rfl) (fun _ _ _ h => h) (.inl ⟨by rfl, by (intro wq hSw; (try dsimp only at hSw); go_simp; (try (first | rfl | omega)))⟩) hHeld ?_
  simp only [Act.put, List.setIfInBounds_toArray, List.set_cons_zero, List.set_cons_succ]
  refine wpAnyH_tk (i := 3) (d := 164) (v := (.int .i64 (n : Int))) rfl rfl (by kernel_rfl) (by kernel_rfl) (by kernel_rfl) (fun _ _ _ h => h) (.inl ⟨by rfl, by (intro wq hSw; (try dsimp only at hSw); go_simp; (try (first | rfl | omega)))⟩) hHeld ?_
  simp only [Act.put, List.setIfInBounds_toArray, List.set_cons_zero, List.set_cons_succ]
  refine wpAnyH_tk (i := 4) (d := 165) (v := (.bool false)) rfl rfl (by kernel_rfl) (by kernel_rfl) (by kernel_rfl) (fun _ _ _ h => h) (.inl ⟨by rfl, by (intro wq hSw; (try dsimp only at hSw); go_simp; (try (first | rfl | omega)))⟩) hHeld ?_
  simp only [Act.put, List.setIfInBounds_toArray, List.set_cons_zero, List.set_cons_succ]
  refine wpAnyH_tk (i := 5) (d := 166) (v := (.bool false)) rfl rfl (by kernel_rfl) (by kernel_rfl) (by kernel_rfl) (fun _ _ _ h => h) (.inl ⟨by rfl, by (intro wq hSw; (try dsimp only at hSw); go_simp; (try (first | rfl | omega)))⟩) hHeld ?_
  simp only [Act.put, List.setIfInBounds_toArray, List.set_cons_zero, List.set_cons_succ]
  refine wpAnyH_tk (i := 6) (d := 167) (v := (.pointer (some ⟨w20.heap.size, 0, none⟩))) rfl rfl (by kernel_rfl) (by kernel_rfl) (by kernel_rfl) (fun _ _ _ h => h) (.inl ⟨by rfl, by (intro wq hSw; (try dsimp only at hSw); go_simp; (try (first | rfl | omega)))⟩) hHeld ?_
  simp only [Act.put, List.setIfInBounds_toArray, List.set_cons_zero, List.set_cons_succ]
  refine wpAnyH_tk (i := 7) (d := 168) (v := (.int .i64 (n : Int))) rfl rfl (by kernel_rfl) (by kernel_rfl) (by kernel_rfl) (fun _ _ _ h => h) (.inl ⟨by rfl, by (intro wq hSw; (try dsimp only at hSw); go_simp; (try (first | rfl | omega)))⟩) hHeld ?_
  simp only [Act.put, List.setIfInBounds_toArray, List.set_cons_zero, List.set_cons_succ]
  refine wpAnyH_tk (i := 8) (d := 169) (v := (.pointer (some ⟨w.heap.size, 0, none⟩))) rfl rfl (by kernel_rfl) (by kernel_rfl) (by kernel_rfl) (fun _ _ _ h => h) (.inl ⟨by rfl, by (intro wq hSw; (try dsimp only at hSw); go_simp; (try (first | rfl | omega)))⟩) hHeld ?_
  simp only [Act.put, List.setIfInBounds_toArray, List.set_cons_zero, List.set_cons_succ]
  refine wpAnyH_tk (i := 9) (d := 170) (v := (.int .i64 (n : Int))) rfl rfl (by kernel_rfl) (by kernel_rfl) (by kernel_rfl) (fun _ _ _ h => h) (.inl ⟨by rfl, by (intro wq hSw; (try dsimp only at hSw); go_simp; (try (first | rfl | omega)))⟩) hHeld ?_
  simp only [Act.put, List.setIfInBounds_toArray, List.set_cons_zero, List.set_cons_succ]
  refine wpAnyH_tk (i := 10) (d := 171) (v := (.bool false)) rfl rfl (by kernel_rfl) (by kernel_rfl) (by kernel_rfl) (fun _ _ _ h => h) (.inl ⟨by rfl, by (intro wq hSw; (try dsimp only at hSw); go_simp; (try (first | rfl | omega)))⟩) hHeld ?_
  simp only [Act.put, List.setIfInBounds_toArray, List.set_cons_zero, List.set_cons_succ]
  refine wpAnyH_tk (i := 11) (d := 172) (v := (.bool false)) rfl rfl (by kernel_rfl) (by kernel_rfl) (by kernel_rfl) (fun _ _ _ h => h) (.inl ⟨by rfl, by (intro wq hSw; (try dsimp only at hSw); go_simp; (try (first | rfl | omega)))⟩) hHeld ?_
  simp only [Act.put, List.setIfInBounds_toArray, List.set_cons_zero, List.set_cons_succ]
  refine wpAnyH_tk (i := 12) (d := 173) (v := (.bool false)) rfl rfl (by kernel_rfl) (by kernel_rfl) (by kernel_rfl) (fun _ _ _ h => h) (.inl ⟨by rfl, by (intro wq hSw; (try dsimp only at hSw); go_simp; (try (first | rfl | omega)))⟩) hHeld ?_
  simp only [Act.put, List.setIfInBounds_toArray, List.set_cons_zero, List.set_cons_succ]
  refine wpAnyH_tk (i := 13) (d := 174) (v := (.pointer (some ⟨w19.heap.size, 1, none⟩))) rfl rfl (by kernel_rfl) (by kernel_rfl) (by kernel_rfl) (fun _ _ _ h => h) (.inl ⟨by rfl, by (intro wq hSw; (try dsimp only at hSw); go_simp; (try (first | rfl | omega)))⟩) hHeld ?_
  simp only [Act.put, List.setIfInBounds_toArray, List.set_cons_zero, List.set_cons_succ]
  refine wpAnyH_tk (i := 14) (d := 175) (v := (.slice xo xl xc)) rfl rfl (by kernel_rfl) (by kernel_rfl) (by kernel_rfl) (fun _ _ _ h => h) (.inl ⟨by rfl, by (intro wq hSw; (try dsimp only at hSw); go_simp; (try (first | rfl | omega)))⟩) hHeld ?_
  simp only [Act.put, List.setIfInBounds_toArray, List.set_cons_zero, List.set_cons_succ]
  refine wpAnyH_tk (i := 15) (d := 176) (v := (.pointer (some ⟨w.heap.size, 0, none⟩))) rfl rfl (by kernel_rfl) (by kernel_rfl) (by kernel_rfl) (fun _ _ _ h => h) (.inl ⟨by rfl, by (intro wq hSw; (try dsimp only at hSw); go_simp; (try (first | rfl | omega)))⟩) hHeld ?_
  simp only [Act.put, List.setIfInBounds_toArray, List.set_cons_zero, List.set_cons_succ]
  refine wpAnyH_tk (i := 16) (d := 177) (v := (.int .i64 (n : Int))) rfl rfl (by kernel_rfl) (by kernel_rfl) (by kernel_rfl) (fun _ _ _ h => h) (.inl ⟨by rfl, by (intro wq hSw; (try dsimp only at hSw); go_simp; (try (first | rfl | omega)))⟩) hHeld ?_
  simp only [Act.put, List.setIfInBounds_toArray, List.set_cons_zero, List.set_cons_succ]
  refine wpAnyH_tk (i := 17) (d := 178) (v := u8) rfl rfl (by kernel_rfl) (by kernel_rfl) (by kernel_rfl) (fun _ _ _ h => h) (.inl ⟨by rfl, by (intro wq hSw; (try dsimp only at hSw); go_simp; (try (first | rfl | omega)))⟩) hHeld ?_
  simp only [Act.put, List.setIfInBounds_toArray, List.set_cons_zero, List.set_cons_succ]
  have hb : Ext v20 v20.drew := Below.drew (Below.refl _ _)
  obtain ⟨w21, hw21⟩ : ∃ w21, w21 = v20.drew := ⟨_, rfl⟩
  rw [← hw21] at hb
  have X22 : Hid (∀ a ∈ [w21, v20, w20, v19, w19, w18, w17, w16, w15, w14, w13, w12, w11, w10, w9, w8, w7, w6, w5, w4, w3, w2, w1], Ext a w21) := extNext X21.out hb
  clear hb X21
  have HC := C.out.sx hn4 w21 u8 (X22.out w1 (by simp)) (H8.out.ext (X22.out w5 (by simp)))
  rw [hw21] at HC
  refine wpAnyH_ready (rs := [18]) (by kernel_rfl) (by simp) ?_
  refine ready_tk (i := 18) rfl (by rfl) (fun K hK => ?_) AllReadyH.nil
  go_simp
  refine HC.mono ?_
  rintro e w22 ⟨x2, rfl, hx2, hb⟩
  rw [← hw21] at hb
  clear HC hw21
  have X23 : Hid (∀ a ∈ [w22, w21, v20, w20, v19, w19, w18, w17, w16, w15, w14, w13, w12, w11, w10, w9, w8, w7, w6, w5, w4, w3, w2, w1], Ext a w22) := extNext X22.out hb
  clear hb X22
  refine hK.out _ _ (HSS.out w22 (X23.out v20 (by simp))) (fun hHeld => ?_)
  clear hK K
  refine wpAnyH_tk (i := 19) (d := 180) (v := x2) rfl rfl (by kernel_rfl) (by kernel_rfl) (by kernel_rfl) (fun _ _ _ h => h) (.inl ⟨by rfl, by (intro wq hSw; (try dsimp only at hSw); go_simp; (try (first | rfl | omega)))⟩) hHeld ?_
  simp only [Act.put, List.setIfInBounds_toArray, List.set_cons_zero, List.set_cons_succ]
  have hxx : (PX == PX) = true := by simp
  have HC := sameAll_any w22.heap.size PX PX _ _ w22 (HPX.out.ext (X23.out w19 (by simp))) hx2
  rw [hxx] at HC
  refine wpAnyH_ready (rs := [20]) (by kernel_rfl) (by simp) ?_
  refine ready_tk (i := 20) rfl (by rfl) (fun K hK => ?_) AllReadyH.nil
  go_simp
  refine HC.mono ?_
  rintro e w23 ⟨rfl, m23, hm23⟩
  have hb : Ext w22 w23 := by rw [hm23]; exact ⟨rfl, rfl, rfl, Nat.le_refl _, fun _ _ => rfl⟩
  clear HC hx2 hm23
  have X24 : Hid (∀ a ∈ [w23, w22, w21, v20, w20, v19, w19, w18, w17, w16, w15, w14, w13, w12, w11, w10, w9, w8, w7, w6, w5, w4, w3, w2, w1], Ext a w23) := extNext X23.out hb
  clear hb X23
  refine hK.out _ _ (HSS.out w23 (X24.out v20 (by simp))) (fun hHeld => ?_)
  clear hK K
  refine wpAnyH_tk (i := 21) (d := 182) (v := (.bool false)) rfl rfl (by kernel_rfl) (by kernel_rfl) (by kernel_rfl) (fun _ _ _ h => h) (.inl ⟨by rfl, by (intro wq hSw; (try dsimp only at hSw); go_simp; (try (first | rfl | omega)))⟩) hHeld ?_
  simp only [Act.put, List.setIfInBounds_toArray, List.set_cons_zero, List.set_cons_succ]
  refine wpAnyH_tk (i := 22) (d := 183) (v := (.bool false)) rfl rfl (by kernel_rfl) (by kernel_rfl) (by kernel_rfl) (fun _ _ _ h => h) (.inl ⟨by rfl, by (intro wq hSw; (try dsimp only at hSw); go_simp; (try (first | rfl | omega)))⟩) hHeld ?_
  simp only [Act.put, List.setIfInBounds_toArray, List.set_cons_zero, List.set_cons_succ]
  refine wpAnyH_tk (i := 23) (d := 184) (v := (.bool false)) rfl rfl (by kernel_rfl) (by kernel_rfl) (by kernel_rfl) (fun _ _ _ h => h) (.inl ⟨by rfl, by (intro wq hSw; (try dsimp only at hSw); go_simp; (try (first | rfl | omega)))⟩) hHeld ?_
  simp only [Act.put, List.setIfInBounds_toArray, List.set_cons_zero, List.set_cons_succ]
  refine wpAnyH_tk (i := 24) (d := 185) (v := (.pointer (some ⟨w20.heap.size, 1, none⟩))) rfl rfl (by kernel_rfl) (by kernel_rfl) (by kernel_rfl) (fun _ _ _ h => h) (.inl ⟨by rfl, by (intro wq hSw; (try dsimp only at hSw); go_simp; (try (first | rfl | omega)))⟩) hHeld ?_
  simp only [Act.put, List.setIfInBounds_toArray, List.set_cons_zero, List.set_cons_succ]
  refine wpAnyH_tk (i := 25) (d := 186) (v := (.slice yo yl yc)) rfl rfl (by kernel_rfl) (by kernel_rfl) (by kernel_rfl) (fun _ _ _ h => h) (.inl ⟨by rfl, by (intro wq hSw; (try dsimp only at hSw); go_simp; (try (first | rfl | omega)))⟩) hHeld ?_
  simp only [Act.put, List.setIfInBounds_toArray, List.set_cons_zero, List.set_cons_succ]
  refine wpAnyH_tk (i := 26) (d := 187) (v := (.pointer (some ⟨w.heap.size, 0, none⟩))) rfl rfl (by kernel_rfl) (by kernel_rfl) (by kernel_rfl) (fun _ _ _ h => h) (.inl ⟨by rfl, by (intro wq hSw; (try dsimp only at hSw); go_simp; (try (first | rfl | omega)))⟩) hHeld ?_
  simp only [Act.put, List.setIfInBounds_toArray, List.set_cons_zero, List.set_cons_succ]
  refine wpAnyH_tk (i := 27) (d := 188) (v := (.int .i64 (n : Int))) rfl rfl (by kernel_rfl) (by kernel_rfl) (by kernel_rfl) (fun _ _ _ h => h) (.inl ⟨by rfl, by (intro wq hSw; (try dsimp only at hSw); go_simp; (try (first | rfl | omega)))⟩) hHeld ?_
  simp only [Act.put, List.setIfInBounds_toArray, List.set_cons_zero, List.set_cons_succ]
  refine wpAnyH_tk (i := 28) (d := 189) (v := u9) rfl rfl (by kernel_rfl) (by kernel_rfl) (by kernel_rfl) (fun _ _ _ h => h) (.inl ⟨by rfl, by (intro wq hSw; (try dsimp only at hSw); go_simp; (try (first | rfl | omega)))⟩) hHeld ?_
  simp only [Act.put, List.setIfInBounds_toArray, List.set_cons_zero, List.set_cons_succ]
  have HC := C.out.sy hn4 w23 u9 (X24.out w1 (by simp)) (H9.out.ext (X24.out w6 (by simp)))
  refine wpAnyH_ready (rs := [29]) (by kernel_rfl) (by simp) ?_
  refine ready_tk (i := 29) rfl (by rfl) (fun K hK => ?_) AllReadyH.nil
  go_simp
  refine HC.mono ?_
  rintro e w24 ⟨y2, rfl, hy2, hb⟩
  clear HC
  have X25 : Hid (∀ a ∈ [w24, w23, w22, w21, v20, w20, v19, w19, w18, w17, w16, w15, w14, w13, w12, w11, w10, w9, w8, w7, w6, w5, w4, w3, w2, w1], Ext a w24) := extNext X24.out hb
  clear hb X24
  refine hK.out _ _ (HSS.out w24 (X25.out v20 (by simp))) (fun hHeld => ?_)
  clear hK K
  refine wpAnyH_tk (i := 30) (d := 191) (v := y2) rfl rfl (by kernel_rfl) (by kernel_rfl) (by kernel_rfl) (fun _ _ _ h => h) (.inl ⟨by rfl, by (intro wq hSw; (try dsimp only at hSw); go_simp; (try (first | rfl | omega)))⟩) hHeld ?_
  simp only [Act.put, List.setIfInBounds_toArray, List.set_cons_zero, List.set_cons_succ]
  have hyy : (PY == PY) = true := by simp
  have HC := sameAll_any w24.heap.size PY PY _ _ w24 (HPY.out.ext (X25.out w20 (by simp))) hy2
  rw [hyy] at HC
  refine wpAnyH_ready (rs := [31]) (by kernel_rfl) (by simp) ?_
  refine ready_tk (i := 31) rfl (by rfl) (fun K hK => ?_) AllReadyH.nil
  go_simp
  refine HC.mono ?_
  rintro e w2x ⟨rfl, m2x, hm2x⟩
  have hb : Ext w24 w2x := by rw [hm2x]; exact ⟨rfl, rfl, rfl, Nat.le_refl _, fun _ _ => rfl⟩
  clear HC hy2 hm2x
  have X26 : Hid (∀ a ∈ [w2x, w24, w23, w22, w21, v20, w20, v19, w19, w18, w17, w16, w15, w14, w13, w12, w11, w10, w9, w8, w7, w6, w5, w4, w3, w2, w1], Ext a w2x) := extNext X25.out hb
  clear hb X25
  refine hK.out _ _ (HSS.out w2x (X26.out v20 (by simp))) (fun hHeld => ?_)
  clear hK K
  refine wpAnyH_tk (i := 32) (d := 193) (v := (.bool false)) rfl rfl (by kernel_rfl) (by kernel_rfl) (by kernel_rfl) (fun _ _ _ h => h) (.inl ⟨by rfl, by (intro wq hSw; (try dsimp only at hSw); go_simp; (try (first | rfl | omega)))⟩) hHeld ?_
  simp only [Act.put, List.setIfInBounds_toArray, List.set_cons_zero, List.set_cons_succ]
  refine wpAnyH_tk (i := 33) (d := 194) (v := (.bool false)) rfl rfl (by kernel_rfl) (by kernel_rfl) (by kernel_rfl) (fun _ _ _ h => h) (.inl ⟨by rfl, by (intro wq hSw; (try dsimp only at hSw); go_simp; (try (first | rfl | omega)))⟩) hHeld ?_
  simp only [Act.put, List.setIfInBounds_toArray, List.set_cons_zero, List.set_cons_succ]
  refine wpAnyH_done (by kernel_rfl) ?_ _
  clear hHeld HSS
  have HC := HMR.out w2x (X26.out w1 (by simp))
  obtain ⟨c0, c1⟩ := HD.out w2x (X26.out w1 (by simp))
  by_cases k0 : k < 0
  · go_wp2_with fail
    refine HC.mono ?_
    rintro e w26 ⟨rfl, hb⟩
    have HEND : Hid (Ext w w26) := HB1.out.tr ((X26.out w1 (by simp)).tr hb)
    clear HC hb c0 c1
    go_wp2
    go_ret
    exact ⟨rfl, HEND.out⟩
  · have k6 : 6 < k := by omega
    go_wp2_with fail
    refine HC.mono ?_
    rintro e w26 ⟨rfl, hb⟩
    have HEND : Hid (Ext w w26) := HB1.out.tr ((X26.out w1 (by simp)).tr hb)
    clear HC hb c0 c1
    go_wp2
    go_ret
    exact ⟨rfl, HEND.out⟩

end Go.Proofs.YtcmemhdlendlkaaDoor

/- PosetSays of an order that may be, of five or six things. -/
namespace Go.Proofs.YtcmemhdlendlkaaDoor
open Go.RowKit
attribute [local go_sem ↓] Go.wp_at_zero Go.wp_at_succ

set_option maxRecDepth 100000 in
set_option maxHeartbeats 6400000 in
theorem posetSays_big_rng (n : Nat) (k : Int) (es : List (Nat × Nat)) (pv : Value) (w : World) (hv : Prs w pv (npL es)) (hG : GdO n es) (hT : TabB w) (hk : k < 0 ∨ 6 < k) (hn4 : 4 < n) :
    Calls Tryd.prog 3 #[.agg #[.int .i64 (n : Int), pv], .int .i64 k] w fun e w' => e = .returned (.bool true) ∧ Ext w w' := by
  obtain ⟨w1, hW1⟩ : ∃ w1, w1 = w.alloc (.cells #[.int .i64 (n : Int), pv] 24) := ⟨_, rfl⟩
  have hb1 : Ext w w1 := by rw [hW1]; exact (Below.refl _ _).alloc (Nat.le_refl _) _
  have d0 : w1.cell? ⟨w.heap.size, 0, none⟩ = some (.int .i64 (n : Int)) := by rw [hW1]; simp
  have d1 : w1.cell? ⟨w.heap.size, 1, none⟩ = some pv := by rw [hW1]; simp
  obtain ⟨UP, FI, AP, OD, MO, PX, PY, A, B, hC⟩ : ∃ UP FI AP OD MO PX PY A B, LawC w1 n 0 pv UP FI AP OD MO PX PY A B := ⟨_, _, _, _, _, _, _, _, _, lawC_of w1 n 0 es pv (hv.below hb1 (Nat.le_refl _)) hG (hT.below hb1) (by omega)⟩
  have HMR0 : ∀ W, Ext w1 W → Calls Tryd.prog 23 #[.agg #[.int .i64 (n : Int), pv], .int .i64 k] W fun e w' => e = .returned (.tuple #[.int .i64 0, .int .i64 0, .int .i64 4]) ∧ Ext W w' := fun W h => maps_rng n es k pv W (hv.below (hb1.tr h) (Nat.le_refl _)) hG hk
  have hn1 := hG.n1
  have hn6 := hG.n6
  have hl36 := hG.len
  obtain ⟨po, pc, hpv, -⟩ := hv
  rw [npL_len] at hpv
  subst hpv
  have C : Hid (LawC w1 n 0 (.slice po es.length pc) UP FI AP OD MO PX PY A B) := hC
  have HD : Hid (∀ W, Ext w1 W → W.cell? ⟨w.heap.size, 0, none⟩ = some (.int .i64 (n : Int)) ∧ W.cell? ⟨w.heap.size, 1, none⟩ = some (.slice po es.length pc)) := fun W h => ⟨(Below.cell h (lt_of_cell d0)).trans d0, (Below.cell h (lt_of_cell d1)).trans d1⟩
  have HB1 : Hid (Ext w w1) := hb1
  have HMR : Hid (∀ W, Ext w1 W → Calls Tryd.prog 23 #[.agg #[.int .i64 (n : Int), .slice po es.length pc], .int .i64 k] W fun e w' => e = .returned (.tuple #[.int .i64 0, .int .i64 0, .int .i64 4]) ∧ Ext W w') := HMR0
  clear HMR0
  have X0 : Hid (∀ a ∈ [w1], Ext a w1) := fun a ha => by
    rw [List.mem_singleton] at ha
    subst ha
    exact Ext.refl _
  generalize es.length = el at *
  have l100 : ¬ 100 < (el : Int) := by omega
  have nI1 : 1 ≤ (n : Int) := by omega
  have nI6 : (n : Int) ≤ 6 := by omega
  clear hG hT hC hb1 d0 d1
  obtain ⟨c0, c1⟩ := HD.out w1 (Ext.refl _)
  rw [hW1] at c0 c1
  go_enter Tryd.func3, Tryd.ntmps3
  have HC := C.out.om w1 (X0.out w1 (by simp))
  go_wp2_with fail
  try rw [← hW1]
  refine HC.mono ?_
  rintro e w2 ⟨rfl, hb⟩
  have X1 : Hid (∀ a ∈ [w2, w1], Ext a w2) := extNext X0.out hb
  clear hb X0 HC c0 c1
  have HC := C.out.ao w2 (X1.out w1 (by simp))
  obtain ⟨c0, c1⟩ := HD.out w2 (X1.out w1 (by simp))
  go_wp2_with fail
  refine HC.mono ?_
  rintro e w3 ⟨u6, rfl, h6, hb⟩
  have X2 : Hid (∀ a ∈ [w3, w2, w1], Ext a w3) := extNext X1.out hb
  have H6 : Hid (Sx w3 u6 UP) := h6
  clear h6
  clear hb X1 HC c0 c1
  have HC := C.out.oo w3 u6 (X2.out w1 (by simp)) (H6.out.ext (X2.out w3 (by simp)))
  go_wp2_with fail
  refine HC.mono ?_
  rintro e w4 ⟨u7, rfl, h7, hb⟩
  have X3 : Hid (∀ a ∈ [w4, w3, w2, w1], Ext a w4) := extNext X2.out hb
  have H7 : Hid (Mt w4 u7 OD) := h7
  clear h7
  clear hb X2 HC
  have HC := C.out.fo w4 u6 (X3.out w1 (by simp)) (H6.out.ext (X3.out w3 (by simp)))
  go_wp2_with fail
  refine HC.mono ?_
  rintro e w5 ⟨u8, rfl, h8, hb⟩
  have X4 : Hid (∀ a ∈ [w5, w4, w3, w2, w1], Ext a w5) := extNext X3.out hb
  have H8 : Hid (Sx w5 u8 FI) := h8
  clear h8
  clear hb X3 HC
  have HC := C.out.po w5 u6 (X4.out w1 (by simp)) (H6.out.ext (X4.out w3 (by simp)))
  go_wp2_with fail
  refine HC.mono ?_
  rintro e w6 ⟨u9, rfl, h9, hb⟩
  have X5 : Hid (∀ a ∈ [w6, w5, w4, w3, w2, w1], Ext a w6) := extNext X4.out hb
  have H9 : Hid (Sx w6 u9 AP) := h9
  clear h9
  clear hb X4 HC
  have HC := C.out.mb w6 (X5.out w1 (by simp))
  obtain ⟨c0, c1⟩ := HD.out w6 (X5.out w1 (by simp))
  go_wp2_with fail
  refine HC.mono ?_
  rintro e w7 ⟨u10, rfl, h10, hb⟩
  have X6 : Hid (∀ a ∈ [w7, w6, w5, w4, w3, w2, w1], Ext a w7) := extNext X5.out hb
  have H10 : Hid (Mt w7 u10 MO) := h10
  clear h10
  clear hb X5 HC c0 c1
  have HC := C.out.mo w7 u6 (X6.out w1 (by simp)) (H6.out.ext (X6.out w3 (by simp)))
  go_wp2_with fail
  refine HC.mono ?_
  rintro e w8 ⟨u12, rfl, h12, hb⟩
  have X7 : Hid (∀ a ∈ [w8, w7, w6, w5, w4, w3, w2, w1], Ext a w8) := extNext X6.out hb
  have H12 : Hid (Mt w8 u12 MO) := h12
  clear h12
  clear hb X6 HC
  have HC := listsP_same MO _ _ w8 (H10.out.ext (X7.out w7 (by simp))) (H12.out.ext (X7.out w8 (by simp)))
  go_wp2_with fail
  refine HC.mono ?_
  rintro e w9 ⟨rfl, hb⟩
  have X8 : Hid (∀ a ∈ [w9, w8, w7, w6, w5, w4, w3, w2, w1], Ext a w9) := extNext X7.out hb
  clear hb X7 HC
  have HC := C.out.ab w9 (X8.out w1 (by simp))
  obtain ⟨c0, c1⟩ := HD.out w9 (X8.out w1 (by simp))
  go_wp2_with fail
  refine HC.mono ?_
  rintro e w10 ⟨u13, rfl, h13, hb⟩
  have X9 : Hid (∀ a ∈ [w10, w9, w8, w7, w6, w5, w4, w3, w2, w1], Ext a w10) := extNext X8.out hb
  have H13 : Hid (Sx w10 u13 UP) := h13
  clear h13
  clear hb X8 HC c0 c1
  have HC := C.out.od w10 (X9.out w1 (by simp))
  obtain ⟨c0, c1⟩ := HD.out w10 (X9.out w1 (by simp))
  go_wp2_with fail
  refine HC.mono ?_
  rintro e w11 ⟨u15, rfl, h15, hb⟩
  have X10 : Hid (∀ a ∈ [w11, w10, w9, w8, w7, w6, w5, w4, w3, w2, w1], Ext a w11) := extNext X9.out hb
  have H15 : Hid (Mt w11 u15 OD) := h15
  clear h15
  clear hb X9 HC c0 c1
  have HC := C.out.fi w11 (X10.out w1 (by simp))
  obtain ⟨c0, c1⟩ := HD.out w11 (X10.out w1 (by simp))
  go_wp2_with fail
  refine HC.mono ?_
  rintro e w12 ⟨u17, rfl, h17, hb⟩
  have X11 : Hid (∀ a ∈ [w12, w11, w10, w9, w8, w7, w6, w5, w4, w3, w2, w1], Ext a w12) := extNext X10.out hb
  have H17 : Hid (Sx w12 u17 FI) := h17
  clear h17
  clear hb X10 HC c0 c1
  have HC := C.out.ap w12 (X11.out w1 (by simp))
  obtain ⟨c0, c1⟩ := HD.out w12 (X11.out w1 (by simp))
  go_wp2_with fail
  refine HC.mono ?_
  rintro e w13 ⟨u19, rfl, h19, hb⟩
  have X12 : Hid (∀ a ∈ [w13, w12, w11, w10, w9, w8, w7, w6, w5, w4, w3, w2, w1], Ext a w13) := extNext X11.out hb
  have H19 : Hid (Sx w13 u19 AP) := h19
  clear h19
  clear hb X11 HC c0 c1
  have HC := C.out.ck w13 (X12.out w1 (by simp))
  obtain ⟨c0, c1⟩ := HD.out w13 (X12.out w1 (by simp))
  go_wp2_with fail
  refine HC.mono ?_
  rintro e w14 ⟨rfl, hb⟩
  have X13 : Hid (∀ a ∈ [w14, w13, w12, w11, w10, w9, w8, w7, w6, w5, w4, w3, w2, w1], Ext a w14) := extNext X12.out hb
  clear hb X12 HC c0 c1
  have HC := list_same w14.heap.size UP _ _ w14 (H13.out.ext (X13.out w10 (by simp))) (H6.out.ext (X13.out w3 (by simp)))
  go_wp2_with fail
  refine HC.mono ?_
  rintro e w15 ⟨rfl, hb⟩
  have X14 : Hid (∀ a ∈ [w15, w14, w13, w12, w11, w10, w9, w8, w7, w6, w5, w4, w3, w2, w1], Ext a w15) := extNext X13.out hb
  clear hb X13 HC
  have HC := listsP_same OD _ _ w15 (H15.out.ext (X14.out w11 (by simp))) (H7.out.ext (X14.out w4 (by simp)))
  go_wp2_with fail
  refine HC.mono ?_
  rintro e w16 ⟨rfl, hb⟩
  have X15 : Hid (∀ a ∈ [w16, w15, w14, w13, w12, w11, w10, w9, w8, w7, w6, w5, w4, w3, w2, w1], Ext a w16) := extNext X14.out hb
  clear hb X14 HC
  have HC := list_same w16.heap.size FI _ _ w16 (H17.out.ext (X15.out w12 (by simp))) (H8.out.ext (X15.out w5 (by simp)))
  go_wp2_with fail
  refine HC.mono ?_
  rintro e w17 ⟨rfl, hb⟩
  have X16 : Hid (∀ a ∈ [w17, w16, w15, w14, w13, w12, w11, w10, w9, w8, w7, w6, w5, w4, w3, w2, w1], Ext a w17) := extNext X15.out hb
  clear hb X15 HC
  have HC := list_same w17.heap.size AP _ _ w17 (H19.out.ext (X16.out w13 (by simp))) (H9.out.ext (X16.out w6 (by simp)))
  go_wp2_with fail
  refine HC.mono ?_
  rintro e w18 ⟨rfl, hb⟩
  have X17 : Hid (∀ a ∈ [w18, w17, w16, w15, w14, w13, w12, w11, w10, w9, w8, w7, w6, w5, w4, w3, w2, w1], Ext a w18) := extNext X16.out hb
  clear hb X16 HC
  have HC := C.out.bx hn4 w18 (X17.out w1 (by simp))
  obtain ⟨c0, c1⟩ := HD.out w18 (X17.out w1 (by simp))
  go_wp2_with fail
  refine HC.mono ?_
  rintro e w19 ⟨rfl, hb⟩
  have X18 : Hid (∀ a ∈ [w19, w18, w17, w16, w15, w14, w13, w12, w11, w10, w9, w8, w7, w6, w5, w4, w3, w2, w1], Ext a w19) := extNext X17.out hb
  clear hb X17 HC c0 c1
  obtain ⟨v19, hv19⟩ : ∃ v19, v19 = w19.alloc (.cells #[.int .i64 0, .slice none 0 0] 40) := ⟨_, rfl⟩
  have hb : Ext w19 v19 := by rw [hv19]; exact (Below.refl _ _).alloc (Nat.le_refl _) _
  have HX0 : Hid (v19.cell? ⟨w19.heap.size, 0, none⟩ = some (.int .i64 0) ∧ v19.cell? ⟨w19.heap.size, 1, none⟩ = some (.slice none 0 0)) := by rw [hv19]; exact ⟨by simp, by simp⟩
  have X19 : Hid (∀ a ∈ [v19, w19, w18, w17, w16, w15, w14, w13, w12, w11, w10, w9, w8, w7, w6, w5, w4, w3, w2, w1], Ext a v19) := extNext X18.out hb
  clear hb X18
  have HC := C.out.by' hn4 v19 (X19.out w1 (by simp))
  obtain ⟨c0, c1⟩ := HD.out v19 (X19.out w1 (by simp))
  rw [hv19] at c0 c1 HC
  go_wp2_with fail
  refine HC.mono ?_
  rintro e w20 ⟨rfl, hb⟩
  rw [← hv19] at hb
  clear HC c0 c1
  have X20 : Hid (∀ a ∈ [w20, v19, w19, w18, w17, w16, w15, w14, w13, w12, w11, w10, w9, w8, w7, w6, w5, w4, w3, w2, w1], Ext a w20) := extNext X19.out hb
  clear hb X19
  obtain ⟨v20, hv20⟩ : ∃ v20, v20 = w20.alloc (.cells #[.int .i64 0, .slice none 0 0] 40) := ⟨_, rfl⟩
  have hb : Ext w20 v20 := by rw [hv20]; exact (Below.refl _ _).alloc (Nat.le_refl _) _
  have y0 : v20.cell? ⟨w20.heap.size, 0, none⟩ = some (.int .i64 0) := by rw [hv20]; simp
  have y1 : v20.cell? ⟨w20.heap.size, 1, none⟩ = some (.slice none 0 0) := by rw [hv20]; simp
  have X21 : Hid (∀ a ∈ [v20, w20, v19, w19, w18, w17, w16, w15, w14, w13, w12, w11, w10, w9, w8, w7, w6, w5, w4, w3, w2, w1], Ext a v20) := extNext X20.out hb
  clear hb X20
  have x0 : v20.cell? ⟨w19.heap.size, 0, none⟩ = some (.int .i64 0) := (Below.cell (X21.out v19 (by simp)) (lt_of_cell HX0.out.1)).trans HX0.out.1
  have x1 : v20.cell? ⟨w19.heap.size, 1, none⟩ = some (.slice none 0 0) := (Below.cell (X21.out v19 (by simp)) (lt_of_cell HX0.out.2)).trans HX0.out.2
  have HC := HMR.out v20 (X21.out w1 (by simp))
  obtain ⟨c0, c1⟩ := HD.out v20 (X21.out w1 (by simp))
  have HE0 : Hid (Ext w v20) := HB1.out.tr (X21.out w1 (by simp))
  rw [hv20] at x0 x1 y0 y1 c0 c1 HC
  clear hv19
  by_cases k0 : k < 0
  · go_wp2_with fail
    refine HC.mono ?_
    rintro e w26 ⟨rfl, hb⟩
    rw [← hv20] at hb
    have HEND : Hid (Ext w w26) := HE0.out.tr hb
    clear HC hb c0 c1 x0 x1 y0 y1 hv20
    go_wp2
    go_ret
    exact ⟨rfl, HEND.out⟩
  · have k6 : 6 < k := by omega
    go_wp2_with fail
    refine HC.mono ?_
    rintro e w26 ⟨rfl, hb⟩
    rw [← hv20] at hb
    have HEND : Hid (Ext w w26) := HE0.out.tr hb
    clear HC hb c0 c1 x0 x1 y0 y1 hv20
    go_wp2
    go_ret
    exact ⟨rfl, HEND.out⟩

end Go.Proofs.YtcmemhdlendlkaaDoor
