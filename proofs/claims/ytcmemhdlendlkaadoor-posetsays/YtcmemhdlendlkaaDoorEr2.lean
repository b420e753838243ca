/- The functions of package poset with an order that may not be. -/
import Derived.Test.YtcmemhdlendlkaaDoorEr1
import Derived.Test.YtcmemhdlendlkaaDoorPtB
import Derived.WalkMore
namespace Go.Proofs.YtcmemhdlendlkaaDoor
open Go.RowKit
attribute [local go_sem ↓] Go.wp_at_zero Go.wp_at_succ

set_option maxRecDepth 100000 in
theorem checkP_no (N : Int) (zs : List (Int × Int)) (pv : Value) (w : World) (hv : Prs w pv zs) (hE : ¬ rdE N zs = 0) (hl : zs.length ≤ 100) :
    Calls Tryd.prog 16 #[.agg #[.int .i64 N, pv]] w fun e w' => e = .returned (.int .i64 (rdE N zs)) ∧ Below w.heap.size w w' := by
  obtain ⟨W1, hW1⟩ : ∃ W1, W1 = w.alloc (.cells #[.int .i64 N, pv] 24) := ⟨_, rfl⟩
  have HB1 : Below w.heap.size w W1 := by rw [hW1]; exact (Below.refl _ _).alloc (Nat.le_refl _) _
  have HRD : Hid (Calls Tryd.prog 27 #[.agg #[.int .i64 N, pv]] W1 fun e w' => e = .returned (.tuple #[.slice none 0 0, .int .i64 (rdE N zs)]) ∧ Below w.heap.size w w') := (read_no N zs pv W1 (hv.below HB1 (Nat.le_refl _)) hE hl).mono (by
    rintro e w' ⟨h1, h3⟩
    exact ⟨h1, HB1.trans (h3.mono HB1.size)⟩)
  clear hv HB1
  generalize rdE N zs = E at *
  go_enter Tryd.func16, Tryd.ntmps16
  go_wp2_with fail
  try rw [← hW1]
  refine HRD.out.mono ?_
  rintro e w2 ⟨rfl, hb2⟩
  have HB : Hid (Below w.heap.size w w2) := hb2
  clear HRD hb2 hW1
  go_wp2
  go_ret
  exact ⟨rfl, HB.out⟩

set_option maxRecDepth 100000 in
theorem above_no (N : Int) (zs : List (Int × Int)) (pv : Value) (w : World) (hv : Prs w pv zs) (hE : ¬ rdE N zs = 0) (hl : zs.length ≤ 100) :
    Calls Tryd.prog 12 #[.agg #[.int .i64 N, pv]] w fun e w' => e = .returned (.tuple #[.slice none 0 0, .int .i64 (rdE N zs)]) ∧ Below w.heap.size w w' := by
  obtain ⟨W1, hW1⟩ : ∃ W1, W1 = w.alloc (.cells #[.int .i64 N, pv] 24) := ⟨_, rfl⟩
  have HB1 : Below w.heap.size w W1 := by rw [hW1]; exact (Below.refl _ _).alloc (Nat.le_refl _) _
  have HRD : Hid (Calls Tryd.prog 27 #[.agg #[.int .i64 N, pv]] W1 fun e w' => e = .returned (.tuple #[.slice none 0 0, .int .i64 (rdE N zs)]) ∧ Below w.heap.size w w') := (read_no N zs pv W1 (hv.below HB1 (Nat.le_refl _)) hE hl).mono (by
    rintro e w' ⟨h1, h3⟩
    exact ⟨h1, HB1.trans (h3.mono HB1.size)⟩)
  clear hv HB1
  generalize rdE N zs = E at *
  go_enter Tryd.func12, Tryd.ntmps12
  go_wp2_with fail
  try rw [← hW1]
  refine HRD.out.mono ?_
  rintro e w2 ⟨rfl, hb2⟩
  have HB : Hid (Below w.heap.size w w2) := hb2
  clear HRD hb2 hW1
  go_wp2
  go_ret2
  exact ⟨rfl, HB.out⟩

set_option maxRecDepth 100000 in
theorem orders_no (N : Int) (zs : List (Int × Int)) (pv : Value) (w : World) (hv : Prs w pv zs) (hE : ¬ rdE N zs = 0) (hl : zs.length ≤ 100) :
    Calls Tryd.prog 13 #[.agg #[.int .i64 N, pv]] w fun e w' => e = .returned (.tuple #[.slice none 0 0, .int .i64 (rdE N zs)]) ∧ Below w.heap.size w w' := by
  obtain ⟨W1, hW1⟩ : ∃ W1, W1 = w.alloc (.cells #[.int .i64 N, pv] 24) := ⟨_, rfl⟩
  have HB1 : Below w.heap.size w W1 := by rw [hW1]; exact (Below.refl _ _).alloc (Nat.le_refl _) _
  have HRD : Hid (Calls Tryd.prog 27 #[.agg #[.int .i64 N, pv]] W1 fun e w' => e = .returned (.tuple #[.slice none 0 0, .int .i64 (rdE N zs)]) ∧ Below w.heap.size w w') := (read_no N zs pv W1 (hv.below HB1 (Nat.le_refl _)) hE hl).mono (by
    rintro e w' ⟨h1, h3⟩
    exact ⟨h1, HB1.trans (h3.mono HB1.size)⟩)
  clear hv HB1
  generalize rdE N zs = E at *
  go_enter Tryd.func13, Tryd.ntmps13
  go_wp2_with fail
  try rw [← hW1]
  refine HRD.out.mono ?_
  rintro e w2 ⟨rfl, hb2⟩
  have HB : Hid (Below w.heap.size w w2) := hb2
  clear HRD hb2 hW1
  go_wp2
  go_ret2
  exact ⟨rfl, HB.out⟩

set_option maxRecDepth 100000 in
theorem moebiusAll_no (N : Int) (zs : List (Int × Int)) (pv : Value) (w : World) (hv : Prs w pv zs) (hE : ¬ rdE N zs = 0) (hl : zs.length ≤ 100) :
    Calls Tryd.prog 9 #[.agg #[.int .i64 N, pv]] w fun e w' => e = .returned (.tuple #[.slice none 0 0, .int .i64 (rdE N zs)]) ∧ Below w.heap.size w w' := by
  obtain ⟨W1, hW1⟩ : ∃ W1, W1 = w.alloc (.cells #[.int .i64 N, pv] 24) := ⟨_, rfl⟩
  have HB1 : Below w.heap.size w W1 := by rw [hW1]; exact (Below.refl _ _).alloc (Nat.le_refl _) _
  have HRD : Hid (Calls Tryd.prog 27 #[.agg #[.int .i64 N, pv]] W1 fun e w' => e = .returned (.tuple #[.slice none 0 0, .int .i64 (rdE N zs)]) ∧ Below w.heap.size w w') := (read_no N zs pv W1 (hv.below HB1 (Nat.le_refl _)) hE hl).mono (by
    rintro e w' ⟨h1, h3⟩
    exact ⟨h1, HB1.trans (h3.mono HB1.size)⟩)
  clear hv HB1
  generalize rdE N zs = E at *
  go_enter Tryd.func9, Tryd.ntmps9
  go_wp2_with fail
  try rw [← hW1]
  refine HRD.out.mono ?_
  rintro e w2 ⟨rfl, hb2⟩
  have HB : Hid (Below w.heap.size w w2) := hb2
  clear HRD hb2 hW1
  go_wp2
  go_ret2
  exact ⟨rfl, HB.out⟩

set_option maxRecDepth 100000 in
theorem setsFil_no (N : Int) (zs : List (Int × Int)) (pv : Value) (w : World) (hv : Prs w pv zs) (hE : ¬ rdE N zs = 0) (hl : zs.length ≤ 100) :
    Calls Tryd.prog 31 #[.agg #[.int .i64 N, pv], .func (.func 32) #[] #[]] w fun e w' => e = .returned (.tuple #[.slice none 0 0, .int .i64 (rdE N zs)]) ∧ Below w.heap.size w w' := by
  obtain ⟨W1, hW1⟩ : ∃ W1, W1 = w.alloc (.cells #[.int .i64 N, pv] 24) := ⟨_, rfl⟩
  have HB1 : Below w.heap.size w W1 := by rw [hW1]; exact (Below.refl _ _).alloc (Nat.le_refl _) _
  have HRD : Hid (Calls Tryd.prog 27 #[.agg #[.int .i64 N, pv]] W1 fun e w' => e = .returned (.tuple #[.slice none 0 0, .int .i64 (rdE N zs)]) ∧ Below w.heap.size w w') := (read_no N zs pv W1 (hv.below HB1 (Nat.le_refl _)) hE hl).mono (by
    rintro e w' ⟨h1, h3⟩
    exact ⟨h1, HB1.trans (h3.mono HB1.size)⟩)
  clear hv HB1
  generalize rdE N zs = E at *
  go_enter Tryd.func31, Tryd.ntmps31
  go_wp2
  try rw [← hW1]
  go_step3
  go_wp2_with fail
  try rw [← hW1]
  refine HRD.out.mono ?_
  rintro e w2 ⟨rfl, hb2⟩
  have HB : Hid (Below w.heap.size w w2) := hb2
  clear HRD hb2 hW1
  go_wp2
  try rw [Exit.noGoto_ret]
  go_ret2
  exact ⟨rfl, HB.out⟩

set_option maxRecDepth 100000 in
theorem setsApa_no (N : Int) (zs : List (Int × Int)) (pv : Value) (w : World) (hv : Prs w pv zs) (hE : ¬ rdE N zs = 0) (hl : zs.length ≤ 100) :
    Calls Tryd.prog 31 #[.agg #[.int .i64 N, pv], .func (.func 34) #[] #[]] w fun e w' => e = .returned (.tuple #[.slice none 0 0, .int .i64 (rdE N zs)]) ∧ Below w.heap.size w w' := by
  obtain ⟨W1, hW1⟩ : ∃ W1, W1 = w.alloc (.cells #[.int .i64 N, pv] 24) := ⟨_, rfl⟩
  have HB1 : Below w.heap.size w W1 := by rw [hW1]; exact (Below.refl _ _).alloc (Nat.le_refl _) _
  have HRD : Hid (Calls Tryd.prog 27 #[.agg #[.int .i64 N, pv]] W1 fun e w' => e = .returned (.tuple #[.slice none 0 0, .int .i64 (rdE N zs)]) ∧ Below w.heap.size w w') := (read_no N zs pv W1 (hv.below HB1 (Nat.le_refl _)) hE hl).mono (by
    rintro e w' ⟨h1, h3⟩
    exact ⟨h1, HB1.trans (h3.mono HB1.size)⟩)
  clear hv HB1
  generalize rdE N zs = E at *
  go_enter Tryd.func31, Tryd.ntmps31
  go_wp2
  try rw [← hW1]
  go_step3
  go_wp2_with fail
  try rw [← hW1]
  refine HRD.out.mono ?_
  rintro e w2 ⟨rfl, hb2⟩
  have HB : Hid (Below w.heap.size w w2) := hb2
  clear HRD hb2 hW1
  go_wp2
  try rw [Exit.noGoto_ret]
  go_ret2
  exact ⟨rfl, HB.out⟩

set_option maxRecDepth 100000 in
theorem maps_no (N : Int) (zs : List (Int × Int)) (pv : Value) (w : World) (k : Int) (hv : Prs w pv zs) (hE : ¬ rdE N zs = 0) (hl : zs.length ≤ 100) :
    Calls Tryd.prog 23 #[.agg #[.int .i64 N, pv], .int .i64 k] w fun e w' => e = .returned (.tuple #[.int .i64 0, .int .i64 0, .int .i64 (rdE N zs)]) ∧ Below w.heap.size w w' := by
  obtain ⟨W1, hW1⟩ : ∃ W1, W1 = w.alloc (.cells #[.int .i64 N, pv] 24) := ⟨_, rfl⟩
  have HB1 : Below w.heap.size w W1 := by rw [hW1]; exact (Below.refl _ _).alloc (Nat.le_refl _) _
  have HRD : Hid (Calls Tryd.prog 27 #[.agg #[.int .i64 N, pv]] W1 fun e w' => e = .returned (.tuple #[.slice none 0 0, .int .i64 (rdE N zs)]) ∧ Below w.heap.size w w') := (read_no N zs pv W1 (hv.below HB1 (Nat.le_refl _)) hE hl).mono (by
    rintro e w' ⟨h1, h3⟩
    exact ⟨h1, HB1.trans (h3.mono HB1.size)⟩)
  clear hv HB1
  generalize rdE N zs = E at *
  go_enter Tryd.func23, Tryd.ntmps23
  go_wp2_with fail
  try rw [← hW1]
  refine HRD.out.mono ?_
  rintro e w2 ⟨rfl, hb2⟩
  have HB : Hid (Below w.heap.size w w2) := hb2
  clear HRD hb2 hW1
  go_wp2
  exact bodyPost_ret (v := .tuple #[.int .i64 0, .int .i64 0, .int .i64 E]) (by simp [results, Tryd.results23, go_sem]) rfl ⟨rfl, HB.out⟩

set_option maxRecDepth 100000 in
theorem filters_no (N : Int) (zs : List (Int × Int)) (pv : Value) (w : World) (hv : Prs w pv zs) (hE : ¬ rdE N zs = 0) (hl : zs.length ≤ 100) :
    Calls Tryd.prog 14 #[.agg #[.int .i64 N, pv]] w fun e w' => e = .returned (.tuple #[.slice none 0 0, .int .i64 (rdE N zs)]) ∧ Below w.heap.size w w' := by
  obtain ⟨W1, hW1⟩ : ∃ W1, W1 = w.alloc (.cells #[.int .i64 N, pv] 24) := ⟨_, rfl⟩
  have HB1 : Below w.heap.size w W1 := by rw [hW1]; exact (Below.refl _ _).alloc (Nat.le_refl _) _
  have HRD : Hid (Calls Tryd.prog 31 #[.agg #[.int .i64 N, pv], .func (.func 32) #[] #[]] W1 fun e w' => e = .returned (.tuple #[.slice none 0 0, .int .i64 (rdE N zs)]) ∧ Below w.heap.size w w') := (setsFil_no N zs pv W1 (hv.below HB1 (Nat.le_refl _)) hE hl).mono (by
    rintro e w' ⟨h1, h3⟩
    exact ⟨h1, HB1.trans (h3.mono HB1.size)⟩)
  clear hv HB1
  generalize rdE N zs = E at *
  go_enter Tryd.func14, Tryd.ntmps14
  go_wp2_with fail
  try rw [← hW1]
  refine HRD.out.mono ?_
  rintro e w2 ⟨rfl, hb2⟩
  have HB : Hid (Below w.heap.size w w2) := hb2
  clear HRD hb2 hW1
  go_wp2
  go_ret2
  exact ⟨rfl, HB.out⟩

set_option maxRecDepth 100000 in
theorem apartP_no (N : Int) (zs : List (Int × Int)) (pv : Value) (w : World) (hv : Prs w pv zs) (hE : ¬ rdE N zs = 0) (hl : zs.length ≤ 100) :
    Calls Tryd.prog 15 #[.agg #[.int .i64 N, pv]] w fun e w' => e = .returned (.tuple #[.slice none 0 0, .int .i64 (rdE N zs)]) ∧ Below w.heap.size w w' := by
  obtain ⟨W1, hW1⟩ : ∃ W1, W1 = w.alloc (.cells #[.int .i64 N, pv] 24) := ⟨_, rfl⟩
  have HB1 : Below w.heap.size w W1 := by rw [hW1]; exact (Below.refl _ _).alloc (Nat.le_refl _) _
  have HRD : Hid (Calls Tryd.prog 31 #[.agg #[.int .i64 N, pv], .func (.func 34) #[] #[]] W1 fun e w' => e = .returned (.tuple #[.slice none 0 0, .int .i64 (rdE N zs)]) ∧ Below w.heap.size w w') := (setsApa_no N zs pv W1 (hv.below HB1 (Nat.le_refl _)) hE hl).mono (by
    rintro e w' ⟨h1, h3⟩
    exact ⟨h1, HB1.trans (h3.mono HB1.size)⟩)
  clear hv HB1
  generalize rdE N zs = E at *
  go_enter Tryd.func15, Tryd.ntmps15
  go_wp2_with fail
  try rw [← hW1]
  refine HRD.out.mono ?_
  rintro e w2 ⟨rfl, hb2⟩
  have HB : Hid (Below w.heap.size w w2) := hb2
  clear HRD hb2 hW1
  go_wp2
  go_ret2
  exact ⟨rfl, HB.out⟩

set_option maxRecDepth 100000 in
set_option maxHeartbeats 1600000 in
theorem ofFil_no (N : Int) (zs : List (Int × Int)) (pv : Value) (w : World) (hv : Prs w pv zs) (hE : ¬ rdE N zs = 0) (hl : zs.length ≤ 100) :
    Calls Tryd.prog 36 #[.agg #[.int .i64 N, pv], .func (.func 14) #[] #[]] w fun e w' => e = .returned (.tuple #[.agg #[.int .i64 0, .slice none 0 0], .int .i64 (rdE N zs)]) ∧ Below w.heap.size w w' := by
  obtain ⟨W1, hW1⟩ : ∃ W1, W1 = (w.alloc (.cells #[.int .i64 N, pv] 24)).alloc (.cells #[.int .i64 0, .slice none 0 0] 40) := ⟨_, rfl⟩
  obtain ⟨b0, hb0⟩ : ∃ b0, b0 = w.heap.size := ⟨_, rfl⟩
  have HB1 : Below w.heap.size w W1 := by rw [hW1]; exact ((Below.refl _ _).alloc (Nat.le_refl _) _).alloc (by simp) _
  have hs1 : W1.heap.size = w.heap.size + 2 := by rw [hW1]; simp
  have d2 : W1.heap[b0 + 1]? = some (.cells #[.int .i64 0, .slice none 0 0] 40 (0, 0)) := by
    have e : (w.alloc (.cells #[.int .i64 N, pv] 24)).heap.size = b0 + 1 := by rw [hb0]; simp
    rw [hW1, ← e]
    exact heap_alloc_new _ _
  have HST : Hid (Calls Tryd.prog 14 #[.agg #[.int .i64 N, pv]] W1 fun e w' => e = .returned (.tuple #[.slice none 0 0, .int .i64 (rdE N zs)]) ∧ Below w.heap.size w w' ∧ w'.heap[b0 + 1]? = some (.cells #[.int .i64 0, .slice none 0 0] 40 (0, 0))) := (filters_no N zs pv W1 (hv.below HB1 (Nat.le_refl _)) hE hl).mono (by
    rintro e w' ⟨h1, h3⟩
    exact ⟨h1, HB1.trans (h3.mono HB1.size), (h3.block _ (by omega)).trans d2⟩)
  clear hv HB1 hs1 d2
  generalize rdE N zs = E at *
  go_enter Tryd.func36, Tryd.ntmps36
  go_wp2_with fail
  try rw [← hW1]
  refine HST.out.mono ?_
  rintro e w2 ⟨rfl, hb2, d2⟩
  have r0 : w2.cell? ⟨b0 + 1, 0, none⟩ = some (.int .i64 0) := by simp [World.cell?, d2]
  have r1 : w2.cell? ⟨b0 + 1, 1, none⟩ = some (.slice none 0 0) := by simp [World.cell?, d2]
  have rf0 : w2.frozen? ⟨b0 + 1, 0, none⟩ = false := by simp [World.frozen?, d2]
  have rf1 : w2.frozen? ⟨b0 + 1, 1, none⟩ = false := by simp [World.frozen?, d2]
  have HBX : Hid (Below w.heap.size w ((w2.setCell ⟨b0 + 1, 0, none⟩ (.int .i64 0)).setCell ⟨b0 + 1, 1, none⟩ (.slice none 0 0))) := below_set (below_set hb2 (by show _ ≤ b0 + 1; omega)) (by show _ ≤ b0 + 1; omega)
  try rw [← hb0]
  clear HST hb2 d2 hW1 hb0
  go_wp2
  exact bodyPost_ret (v := .tuple #[.agg #[.int .i64 0, .slice none 0 0], .int .i64 E]) (by simp [results, Tryd.results36, go_sem, *]) rfl ⟨rfl, HBX.out⟩

set_option maxRecDepth 100000 in
set_option maxHeartbeats 1600000 in
theorem ofApa_no (N : Int) (zs : List (Int × Int)) (pv : Value) (w : World) (hv : Prs w pv zs) (hE : ¬ rdE N zs = 0) (hl : zs.length ≤ 100) :
    Calls Tryd.prog 36 #[.agg #[.int .i64 N, pv], .func (.func 15) #[] #[]] w fun e w' => e = .returned (.tuple #[.agg #[.int .i64 0, .slice none 0 0], .int .i64 (rdE N zs)]) ∧ Below w.heap.size w w' := by
  obtain ⟨W1, hW1⟩ : ∃ W1, W1 = (w.alloc (.cells #[.int .i64 N, pv] 24)).alloc (.cells #[.int .i64 0, .slice none 0 0] 40) := ⟨_, rfl⟩
  obtain ⟨b0, hb0⟩ : ∃ b0, b0 = w.heap.size := ⟨_, rfl⟩
  have HB1 : Below w.heap.size w W1 := by rw [hW1]; exact ((Below.refl _ _).alloc (Nat.le_refl _) _).alloc (by simp) _
  have hs1 : W1.heap.size = w.heap.size + 2 := by rw [hW1]; simp
  have d2 : W1.heap[b0 + 1]? = some (.cells #[.int .i64 0, .slice none 0 0] 40 (0, 0)) := by
    have e : (w.alloc (.cells #[.int .i64 N, pv] 24)).heap.size = b0 + 1 := by rw [hb0]; simp
    rw [hW1, ← e]
    exact heap_alloc_new _ _
  have HST : Hid (Calls Tryd.prog 15 #[.agg #[.int .i64 N, pv]] W1 fun e w' => e = .returned (.tuple #[.slice none 0 0, .int .i64 (rdE N zs)]) ∧ Below w.heap.size w w' ∧ w'.heap[b0 + 1]? = some (.cells #[.int .i64 0, .slice none 0 0] 40 (0, 0))) := (apartP_no N zs pv W1 (hv.below HB1 (Nat.le_refl _)) hE hl).mono (by
    rintro e w' ⟨h1, h3⟩
    exact ⟨h1, HB1.trans (h3.mono HB1.size), (h3.block _ (by omega)).trans d2⟩)
  clear hv HB1 hs1 d2
  generalize rdE N zs = E at *
  go_enter Tryd.func36, Tryd.ntmps36
  go_wp2_with fail
  try rw [← hW1]
  refine HST.out.mono ?_
  rintro e w2 ⟨rfl, hb2, d2⟩
  have r0 : w2.cell? ⟨b0 + 1, 0, none⟩ = some (.int .i64 0) := by simp [World.cell?, d2]
  have r1 : w2.cell? ⟨b0 + 1, 1, none⟩ = some (.slice none 0 0) := by simp [World.cell?, d2]
  have rf0 : w2.frozen? ⟨b0 + 1, 0, none⟩ = false := by simp [World.frozen?, d2]
  have rf1 : w2.frozen? ⟨b0 + 1, 1, none⟩ = false := by simp [World.frozen?, d2]
  have HBX : Hid (Below w.heap.size w ((w2.setCell ⟨b0 + 1, 0, none⟩ (.int .i64 0)).setCell ⟨b0 + 1, 1, none⟩ (.slice none 0 0))) := below_set (below_set hb2 (by show _ ≤ b0 + 1; omega)) (by show _ ≤ b0 + 1; omega)
  try rw [← hb0]
  clear HST hb2 d2 hW1 hb0
  go_wp2
  exact bodyPost_ret (v := .tuple #[.agg #[.int .i64 0, .slice none 0 0], .int .i64 E]) (by simp [results, Tryd.results36, go_sem, *]) rfl ⟨rfl, HBX.out⟩

theorem order_no (N : Int) (zs : List (Int × Int)) (pv : Value) (w : World) (hv : Prs w pv zs) (hE : ¬ rdE N zs = 0) (hl : zs.length ≤ 100) :
    Calls Tryd.prog 18 #[.agg #[.int .i64 N, pv]] w fun e w' => e = .returned (.tuple #[.agg #[.int .i64 0, .slice none 0 0], .int .i64 (rdE N zs)]) ∧ Below w.heap.size w w' := by
  have hpv : ∃ po pl pc, pv = .slice po pl pc := by
    obtain ⟨po, pc, e, _⟩ := hv
    exact ⟨po, _, pc, e⟩
  refine (outFil_any 0 (rdE N zs) pv N w hpv (fun x _ => x = .slice none 0 0) (fun x W R hq _ => hq) (fun W2 h2 => (ofFil_no N zs pv W2 (hv.below h2 (Nat.le_refl _)) hE hl).mono ?_)).mono ?_
  · rintro e w' ⟨h1, h3⟩
    exact ⟨_, _, _, h1, rfl, h3⟩
  · rintro e w' ⟨x, h1, h2, h3⟩
    subst h2
    exact ⟨h1, h3⟩

theorem chain_no (N : Int) (zs : List (Int × Int)) (pv : Value) (w : World) (hv : Prs w pv zs) (hE : ¬ rdE N zs = 0) (hl : zs.length ≤ 100) :
    Calls Tryd.prog 19 #[.agg #[.int .i64 N, pv]] w fun e w' => e = .returned (.tuple #[.agg #[.int .i64 0, .slice none 0 0], .int .i64 (rdE N zs)]) ∧ Below w.heap.size w w' := by
  have hpv : ∃ po pl pc, pv = .slice po pl pc := by
    obtain ⟨po, pc, e, _⟩ := hv
    exact ⟨po, _, pc, e⟩
  refine (outApa_any 0 (rdE N zs) pv N w hpv (fun x _ => x = .slice none 0 0) (fun x W R hq _ => hq) (fun W2 h2 => (ofApa_no N zs pv W2 (hv.below h2 (Nat.le_refl _)) hE hl).mono ?_)).mono ?_
  · rintro e w' ⟨h1, h3⟩
    exact ⟨_, _, _, h1, rfl, h3⟩
  · rintro e w' ⟨x, h1, h2, h3⟩
    subst h2
    exact ⟨h1, h3⟩

end Go.Proofs.YtcmemhdlendlkaaDoor
