/- PosetSays of an order that may not be. -/
import Derived.Test.YtcmemhdlendlkaaDoorEr2
import Derived.Test.YtcmemhdlendlkaaDoorEr3
import Derived.Test.YtcmemhdlendlkaaDoorLa0
namespace Go.Proofs.YtcmemhdlendlkaaDoor
open Go.RowKit
attribute [local go_sem ↓] Go.wp_at_zero Go.wp_at_succ

set_option maxRecDepth 100000 in
theorem listP_no (E : Int) (hE : ¬ E = 0) (w : World) :
    Calls Tryd.prog 17 #[.slice none 0 0, .int .i64 E, .slice none 0 0, .int .i64 E] w fun x w' => x = .returned (.bool true) ∧ w' = w := by
  go_enter Tryd.func17, Tryd.ntmps17
  go_wp2
  go_ret
  exact ⟨rfl, rfl⟩

set_option maxRecDepth 100000 in
theorem listsP_no (E : Int) (hE : ¬ E = 0) (w : World) :
    Calls Tryd.prog 11 #[.slice none 0 0, .int .i64 E, .slice none 0 0, .int .i64 E] w fun x w' => x = .returned (.bool true) ∧ w' = w := by
  go_enter Tryd.func11, Tryd.ntmps11
  go_wp2
  go_ret
  exact ⟨rfl, rfl⟩

set_option maxRecDepth 100000 in
set_option maxHeartbeats 3200000 in
theorem posetSays_no (N k : Int) (zs : List (Int × Int)) (pv : Value) (w : World) (hv : Prs w pv zs) (hE : ¬ rdE N zs = 0) (hl : zs.length ≤ 100) :
    Calls Tryd.prog 3 #[.agg #[.int .i64 N, pv], .int .i64 k] w fun e w' => e = .returned (.bool true) ∧ Ext w w' := by
  obtain ⟨w1, hW1⟩ : ∃ w1, w1 = w.alloc (.cells #[.int .i64 N, pv] 24) := ⟨_, rfl⟩
  have hb1 : Ext w w1 := by rw [hW1]; exact (Below.refl _ _).alloc (Nat.le_refl _) _
  have d0 : w1.cell? ⟨w.heap.size, 0, none⟩ = some (.int .i64 N) := by rw [hW1]; simp
  have d1 : w1.cell? ⟨w.heap.size, 1, none⟩ = some pv := by rw [hW1]; simp
  have HV : Hid (∀ W, Ext w1 W → Prs W pv zs) := fun W h => hv.below (hb1.tr h) (Nat.le_refl _)
  obtain ⟨po, pc, hpv, -⟩ := hv
  subst hpv
  have HD : Hid (∀ W, Ext w1 W → W.cell? ⟨w.heap.size, 0, none⟩ = some (.int .i64 N) ∧ W.cell? ⟨w.heap.size, 1, none⟩ = some (.slice po zs.length pc)) := fun W h => ⟨(Below.cell h (lt_of_cell d0)).trans d0, (Below.cell h (lt_of_cell d1)).trans d1⟩
  have HB1 : Hid (Ext w w1) := hb1
  have l100 : ¬ 100 < (zs.length : Int) := by omega
  have E0 : (rdE N zs == 0) = false := by rw [beq_eq_false_iff_ne]; exact hE
  have E1 : (rdE N zs != 0) = true := by rw [bne_iff_ne]; exact hE
  have E2 : (rdE N zs != rdE N zs) = false := by simp
  have E3 : (rdE N zs == rdE N zs) = true := by simp
  clear hb1 d0 d1
  obtain ⟨c0, c1⟩ := HD.out w1 (Ext.refl _)
  rw [hW1] at c0 c1
  go_enter Tryd.func3, Tryd.ntmps3
  have HC := orderMay_no N zs _ w1 (HV.out w1 (Ext.refl _)) hE hl
  go_wp2_with fail
  try rw [← hW1]
  refine HC.mono ?_
  rintro e w2 ⟨rfl, hb⟩
  have X2 : Hid (Ext w1 w2) := hb
  clear hb HC c0 c1
  have HC := moebiusAll_no N zs _ w2 (HV.out w2 X2.out) hE hl
  obtain ⟨c0, c1⟩ := HD.out w2 X2.out
  go_wp2_with fail
  refine HC.mono ?_
  rintro e w3 ⟨rfl, hb⟩
  have X3 : Hid (Ext w1 w3) := X2.out.tr hb
  clear hb HC X2 c0 c1
  have HC := listsP_no (rdE N zs) hE w3
  go_wp2_with fail
  refine HC.mono ?_
  rintro e w4 ⟨rfl, hw⟩
  have X4 : Hid (Ext w1 w4) := by rw [hw]; exact X3.out
  clear hw HC X3
  have HC := above_no N zs _ w4 (HV.out w4 X4.out) hE hl
  obtain ⟨c0, c1⟩ := HD.out w4 X4.out
  go_wp2_with fail
  refine HC.mono ?_
  rintro e w5 ⟨rfl, hb⟩
  have X5 : Hid (Ext w1 w5) := X4.out.tr hb
  clear hb HC X4 c0 c1
  have HC := orders_no N zs _ w5 (HV.out w5 X5.out) hE hl
  obtain ⟨c0, c1⟩ := HD.out w5 X5.out
  go_wp2_with fail
  refine HC.mono ?_
  rintro e w6 ⟨rfl, hb⟩
  have X6 : Hid (Ext w1 w6) := X5.out.tr hb
  clear hb HC X5 c0 c1
  have HC := filters_no N zs _ w6 (HV.out w6 X6.out) hE hl
  obtain ⟨c0, c1⟩ := HD.out w6 X6.out
  go_wp2_with fail
  refine HC.mono ?_
  rintro e w7 ⟨rfl, hb⟩
  have X7 : Hid (Ext w1 w7) := X6.out.tr hb
  clear hb HC X6 c0 c1
  have HC := apartP_no N zs _ w7 (HV.out w7 X7.out) hE hl
  obtain ⟨c0, c1⟩ := HD.out w7 X7.out
  go_wp2_with fail
  refine HC.mono ?_
  rintro e w8 ⟨rfl, hb⟩
  have X8 : Hid (Ext w1 w8) := X7.out.tr hb
  clear hb HC X7 c0 c1
  have HC := checkP_no N zs _ w8 (HV.out w8 X8.out) hE hl
  obtain ⟨c0, c1⟩ := HD.out w8 X8.out
  go_wp2_with fail
  refine HC.mono ?_
  rintro e w9 ⟨rfl, hb⟩
  have X9 : Hid (Ext w1 w9) := X8.out.tr hb
  clear hb HC X8 c0 c1
  have HC := listP_no (rdE N zs) hE w9
  go_wp2_with fail
  refine HC.mono ?_
  rintro e w10 ⟨rfl, hw⟩
  have X10 : Hid (Ext w1 w10) := by rw [hw]; exact X9.out
  clear hw HC X9
  have HC := listsP_no (rdE N zs) hE w10
  go_wp2_with fail
  refine HC.mono ?_
  rintro e w11 ⟨rfl, hw⟩
  have X11 : Hid (Ext w1 w11) := by rw [hw]; exact X10.out
  clear hw HC X10
  have HC := listP_no (rdE N zs) hE w11
  go_wp2_with fail
  refine HC.mono ?_
  rintro e w12 ⟨rfl, hw⟩
  have X12 : Hid (Ext w1 w12) := by rw [hw]; exact X11.out
  clear hw HC X11
  have HC := listP_no (rdE N zs) hE w12
  go_wp2_with fail
  refine HC.mono ?_
  rintro e w13 ⟨rfl, hw⟩
  have X13 : Hid (Ext w1 w13) := by rw [hw]; exact X12.out
  clear hw HC X12
  have HC := order_no N zs _ w13 (HV.out w13 X13.out) hE hl
  obtain ⟨c0, c1⟩ := HD.out w13 X13.out
  go_wp2_with fail
  refine HC.mono ?_
  rintro e w14 ⟨rfl, hb⟩
  have X14 : Hid (Ext w1 w14) := X13.out.tr hb
  clear hb HC X13 c0 c1
  obtain ⟨va, hva⟩ : ∃ va, va = w14.alloc (.cells #[.int .i64 0, .slice none 0 0] 40) := ⟨_, rfl⟩
  have hb : Ext w14 va := by rw [hva]; exact (Below.refl _ _).alloc (Nat.le_refl _) _
  have HX0 : Hid (va.cell? ⟨w14.heap.size, 0, none⟩ = some (.int .i64 0) ∧ va.cell? ⟨w14.heap.size, 1, none⟩ = some (.slice none 0 0)) := by rw [hva]; exact ⟨by simp, by simp⟩
  have X15 : Hid (Ext w1 va) := X14.out.tr hb
  clear hb X14
  have HC := chain_no N zs _ va (HV.out va X15.out) hE hl
  obtain ⟨c0, c1⟩ := HD.out va X15.out
  rw [hva] at c0 c1 HC
  go_wp2_with fail
  refine HC.mono ?_
  rintro e wb ⟨rfl, hb⟩
  rw [← hva] at hb
  have XV : Hid (Ext va wb) := hb
  have X16 : Hid (Ext w1 wb) := X15.out.tr hb
  clear hb HC c0 c1 X15
  obtain ⟨vb, hvb⟩ : ∃ vb, vb = wb.alloc (.cells #[.int .i64 0, .slice none 0 0] 40) := ⟨_, rfl⟩
  have hb : Ext wb vb := by rw [hvb]; exact (Below.refl _ _).alloc (Nat.le_refl _) _
  have y0 : vb.cell? ⟨wb.heap.size, 0, none⟩ = some (.int .i64 0) := by rw [hvb]; simp
  have y1 : vb.cell? ⟨wb.heap.size, 1, none⟩ = some (.slice none 0 0) := by rw [hvb]; simp
  have x0 : vb.cell? ⟨w14.heap.size, 0, none⟩ = some (.int .i64 0) := (Below.cell (XV.out.tr hb) (lt_of_cell HX0.out.1)).trans HX0.out.1
  have x1 : vb.cell? ⟨w14.heap.size, 1, none⟩ = some (.slice none 0 0) := (Below.cell (XV.out.tr hb) (lt_of_cell HX0.out.2)).trans HX0.out.2
  have X17 : Hid (Ext w1 vb) := X16.out.tr hb
  clear hb X16 XV HX0 hva
  have HC := maps_no N zs _ vb k (HV.out vb X17.out) hE hl
  obtain ⟨c0, c1⟩ := HD.out vb X17.out
  rw [hvb] at x0 x1 y0 y1 c0 c1 HC
  go_wp2_with fail
  refine HC.mono ?_
  rintro e wz ⟨rfl, hb⟩
  rw [← hvb] at hb
  have HEND : Hid (Ext w wz) := HB1.out.tr (X17.out.tr hb)
  clear HC c0 c1 x0 x1 y0 y1 hb hvb
  go_wp2
  go_ret
  exact ⟨rfl, HEND.out⟩

end Go.Proofs.YtcmemhdlendlkaaDoor
