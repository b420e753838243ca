/- NamedSays. -/
import Derived.Test.YtiadekblckngiaaNm11
import Derived.Test.YtiadekblckngiaaNm12
import Derived.Test.YtiadekblckngiaaNm13
import Derived.Test.YtiadekblckngiaaNm14
import Derived.Deep.QuietTactic
import Derived.BigQuiet
namespace Go.Proofs.Ytiadekblckngiaa
open Go.RowKit
attribute [local go_sem ↓] Go.wp_at_zero Go.wp_at_succ

theorem nm_lists : ∀ d, d < 5 → 1 ≤ d → simT d d = nmL 0 d ∧ cubT d (2 ^ d) = nmL 1 d ∧ crsT d d = nmL 2 d := by decide +kernel
theorem nm_few : ∀ d, d < 4 → 1 ≤ d → odL d (ords (d + 1) (d + 1) []) = nmL 3 d ∧ ((trO d).map fun r => r.take d) = nmL 4 d := by decide +kernel

theorem namedOf_any (k : Nat) (d : Int) (w : World) (hk : k < 5) : Calls Try.prog 9 #[.int .i64 (k : Int), .int .i64 d] w fun e w' => NmR k d w e w' := by
  by_cases h : nmO k d
  · have hd := h
    unfold nmO at hd
    obtain ⟨d, rfl⟩ : ∃ n : Nat, d = (n : Int) := ⟨d.toNat, by omega⟩
    have h1 : 1 ≤ d := by omega
    have : k = 0 ∨ k = 1 ∨ k = 2 ∨ k = 3 ∨ k = 4 := by omega
    rcases this with rfl | rfl | rfl | rfl | rfl
    · refine (named0_any d w h1 (by omega)).mono ?_
      rintro e w' ⟨u, he, hm, hb⟩
      rw [(nm_lists d (by omega) h1).1] at hm
      exact nmR_ok h he hm hb
    · refine (named1_any d w h1 (by omega)).mono ?_
      rintro e w' ⟨u, he, hm, hb⟩
      rw [(nm_lists d (by omega) h1).2.1] at hm
      exact nmR_ok h he hm hb
    · refine (named2_any d w h1 (by omega)).mono ?_
      rintro e w' ⟨u, he, hm, hb⟩
      rw [(nm_lists d (by omega) h1).2.2] at hm
      exact nmR_ok h he hm hb
    · refine (named3_any d w h1 (by omega)).mono ?_
      rintro e w' ⟨u, he, hm, hb⟩
      rw [(nm_few d (by omega) h1).1] at hm
      exact nmR_ok h he hm hb
    · refine (named4_any d w h1 (by omega)).mono ?_
      rintro e w' ⟨u, he, hm, hb⟩
      rw [(nm_few d (by omega) h1).2] at hm
      exact nmR_ok h he hm hb
  · refine (named_no k d w hk h).mono ?_
    rintro e w' ⟨he, hb⟩
    exact nmR_no h he hb

/-- What the law holds of the five polytopes. -/
def Five (d : Int) (s : Nat → Value) (w : World) : Prop := ∀ k, k < 5 → Mat 0 35 3 w (s k) (nmP k d)

set_option maxRecDepth 100000 in
set_option maxHeartbeats 3200000 in
theorem namedSays_any (d : Int) (w : World) :
    Calls Try.prog 3 #[.int .i64 d] w fun e w' => e = .returned (.bool true) ∧ Below w.heap.size w w' := by
  have H0 : Hid (∀ W, Calls Try.prog 4 #[.int .i64 d] W fun e w' => NmR 0 d W e w') := fun W => kindSimplex_any d W
  have H1 : Hid (∀ W, Calls Try.prog 5 #[.int .i64 d] W fun e w' => NmR 1 d W e w') := fun W => kindCube_any d W
  have H2 : Hid (∀ W, Calls Try.prog 6 #[.int .i64 d] W fun e w' => NmR 2 d W e w') := fun W => kindCross_any d W
  have H3 : Hid (∀ W, Calls Try.prog 7 #[.int .i64 d] W fun e w' => NmR 3 d W e w') := fun W => kindOrders_any d W
  have H4 : Hid (∀ W, Calls Try.prog 8 #[.int .i64 d] W fun e w' => NmR 4 d W e w') := fun W => kindTrees_any d W
  obtain ⟨D, hD⟩ : ∃ D : Nat → Int, D = fun k => nmD k d := ⟨_, rfl⟩
  obtain ⟨E, hE⟩ : ∃ E : Nat → Int, E = fun k => nmE k d := ⟨_, rfl⟩
  have HDE : Hid (∀ k, nmD k d = D k ∧ nmE k d = E k) := fun k => by rw [hD, hE]; exact ⟨rfl, rfl⟩
  have HN : Hid (∀ k W, NmR k d W = fun e w' => ∃ uo ul uc, e = .returned (.tuple #[.agg #[.int .i64 (D k), .slice uo ul uc], .int .i64 (E k)]) ∧ Mat 0 35 3 w' (.slice uo ul uc) (nmP k d) ∧ Below W.heap.size W w') := fun k W => by
    funext e w'
    unfold NmR
    rw [(HDE.out k).1, (HDE.out k).2]
  clear hD hE
  go_enter Try.func3, Try.ntmps3
  go_wp2_with fail
  refine (H0.out _).mono ?_
  rw [HN.out]
  rintro e w0 ⟨uo0, ul0, uc0, rfl, hm0, hb0⟩
  have B0 : Hid (Below w.heap.size w w0) := hb0
  have M0 : Hid (Mat 0 35 3 w0 (.slice uo0 ul0 uc0) (nmP 0 d)) := hm0
  clear hm0 hb0
  go_wp2_with fail
  refine (H1.out _).mono ?_
  rw [HN.out]
  rintro e w1 ⟨uo1, ul1, uc1, rfl, hm1, hb1⟩
  have C1 : Hid (Below w0.heap.size w0 w1) := ((Below.refl _ _).alloc (Nat.le_refl _) _).trans (hb1.mono (by simp))
  have Z1 : Hid (w0.heap.size < w1.heap.size) := by have := hb1.size; simp at this; show _ < _; omega
  have x00 : w1.cell? ⟨w0.heap.size, 0, none⟩ = some (.int .i64 (D 0)) := (hb1.cell (p := ⟨w0.heap.size, 0, none⟩) (by simp)).trans (by simp)
  have x01 : w1.cell? ⟨w0.heap.size, 1, none⟩ = some (.slice uo0 ul0 uc0) := (hb1.cell (p := ⟨w0.heap.size, 1, none⟩) (by simp)).trans (by simp)
  have N0 : Hid (Mat 0 35 3 w1 (.slice uo0 ul0 uc0) (nmP 0 d)) := M0.out.below C1.out (Nat.le_refl _)
  clear M0
  have M0 := N0
  clear N0
  have M1 : Hid (Mat 0 35 3 w1 (.slice uo1 ul1 uc1) (nmP 1 d)) := hm1
  clear hm1 hb1
  go_wp2_with fail
  refine (H2.out _).mono ?_
  rw [HN.out]
  rintro e w2 ⟨uo2, ul2, uc2, rfl, hm2, hb2⟩
  have C2 : Hid (Below w1.heap.size w1 w2) := ((Below.refl _ _).alloc (Nat.le_refl _) _).trans (hb2.mono (by simp))
  have Z2 : Hid (w1.heap.size < w2.heap.size) := by have := hb2.size; simp at this; show _ < _; omega
  have x10 : w2.cell? ⟨w1.heap.size, 0, none⟩ = some (.int .i64 (D 1)) := (hb2.cell (p := ⟨w1.heap.size, 0, none⟩) (by simp)).trans (by simp)
  have x11 : w2.cell? ⟨w1.heap.size, 1, none⟩ = some (.slice uo1 ul1 uc1) := (hb2.cell (p := ⟨w1.heap.size, 1, none⟩) (by simp)).trans (by simp)
  have y00 := (C2.out.cell (lt_of_cell x00)).trans x00
  have y01 := (C2.out.cell (lt_of_cell x01)).trans x01
  clear x00 x01
  have x00 := y00
  have x01 := y01
  clear y00 y01
  have N0 : Hid (Mat 0 35 3 w2 (.slice uo0 ul0 uc0) (nmP 0 d)) := M0.out.below C2.out (Nat.le_refl _)
  clear M0
  have M0 := N0
  clear N0
  have N1 : Hid (Mat 0 35 3 w2 (.slice uo1 ul1 uc1) (nmP 1 d)) := M1.out.below C2.out (Nat.le_refl _)
  clear M1
  have M1 := N1
  clear N1
  have M2 : Hid (Mat 0 35 3 w2 (.slice uo2 ul2 uc2) (nmP 2 d)) := hm2
  clear hm2 hb2
  go_wp2_with fail
  refine (H3.out _).mono ?_
  rw [HN.out]
  rintro e w3 ⟨uo3, ul3, uc3, rfl, hm3, hb3⟩
  have C3 : Hid (Below w2.heap.size w2 w3) := ((Below.refl _ _).alloc (Nat.le_refl _) _).trans (hb3.mono (by simp))
  have Z3 : Hid (w2.heap.size < w3.heap.size) := by have := hb3.size; simp at this; show _ < _; omega
  have x20 : w3.cell? ⟨w2.heap.size, 0, none⟩ = some (.int .i64 (D 2)) := (hb3.cell (p := ⟨w2.heap.size, 0, none⟩) (by simp)).trans (by simp)
  have x21 : w3.cell? ⟨w2.heap.size, 1, none⟩ = some (.slice uo2 ul2 uc2) := (hb3.cell (p := ⟨w2.heap.size, 1, none⟩) (by simp)).trans (by simp)
  have y00 := (C3.out.cell (lt_of_cell x00)).trans x00
  have y01 := (C3.out.cell (lt_of_cell x01)).trans x01
  clear x00 x01
  have x00 := y00
  have x01 := y01
  clear y00 y01
  have y10 := (C3.out.cell (lt_of_cell x10)).trans x10
  have y11 := (C3.out.cell (lt_of_cell x11)).trans x11
  clear x10 x11
  have x10 := y10
  have x11 := y11
  clear y10 y11
  have N0 : Hid (Mat 0 35 3 w3 (.slice uo0 ul0 uc0) (nmP 0 d)) := M0.out.below C3.out (Nat.le_refl _)
  clear M0
  have M0 := N0
  clear N0
  have N1 : Hid (Mat 0 35 3 w3 (.slice uo1 ul1 uc1) (nmP 1 d)) := M1.out.below C3.out (Nat.le_refl _)
  clear M1
  have M1 := N1
  clear N1
  have N2 : Hid (Mat 0 35 3 w3 (.slice uo2 ul2 uc2) (nmP 2 d)) := M2.out.below C3.out (Nat.le_refl _)
  clear M2
  have M2 := N2
  clear N2
  have M3 : Hid (Mat 0 35 3 w3 (.slice uo3 ul3 uc3) (nmP 3 d)) := hm3
  clear hm3 hb3
  go_wp2_with fail
  refine (H4.out _).mono ?_
  rw [HN.out]
  rintro e w4 ⟨uo4, ul4, uc4, rfl, hm4, hb4⟩
  have C4 : Hid (Below w3.heap.size w3 w4) := ((Below.refl _ _).alloc (Nat.le_refl _) _).trans (hb4.mono (by simp))
  have Z4 : Hid (w3.heap.size < w4.heap.size) := by have := hb4.size; simp at this; show _ < _; omega
  have x30 : w4.cell? ⟨w3.heap.size, 0, none⟩ = some (.int .i64 (D 3)) := (hb4.cell (p := ⟨w3.heap.size, 0, none⟩) (by simp)).trans (by simp)
  have x31 : w4.cell? ⟨w3.heap.size, 1, none⟩ = some (.slice uo3 ul3 uc3) := (hb4.cell (p := ⟨w3.heap.size, 1, none⟩) (by simp)).trans (by simp)
  have y00 := (C4.out.cell (lt_of_cell x00)).trans x00
  have y01 := (C4.out.cell (lt_of_cell x01)).trans x01
  clear x00 x01
  have x00 := y00
  have x01 := y01
  clear y00 y01
  have y10 := (C4.out.cell (lt_of_cell x10)).trans x10
  have y11 := (C4.out.cell (lt_of_cell x11)).trans x11
  clear x10 x11
  have x10 := y10
  have x11 := y11
  clear y10 y11
  have y20 := (C4.out.cell (lt_of_cell x20)).trans x20
  have y21 := (C4.out.cell (lt_of_cell x21)).trans x21
  clear x20 x21
  have x20 := y20
  have x21 := y21
  clear y20 y21
  have N0 : Hid (Mat 0 35 3 w4 (.slice uo0 ul0 uc0) (nmP 0 d)) := M0.out.below C4.out (Nat.le_refl _)
  clear M0
  have M0 := N0
  clear N0
  have N1 : Hid (Mat 0 35 3 w4 (.slice uo1 ul1 uc1) (nmP 1 d)) := M1.out.below C4.out (Nat.le_refl _)
  clear M1
  have M1 := N1
  clear N1
  have N2 : Hid (Mat 0 35 3 w4 (.slice uo2 ul2 uc2) (nmP 2 d)) := M2.out.below C4.out (Nat.le_refl _)
  clear M2
  have M2 := N2
  clear N2
  have N3 : Hid (Mat 0 35 3 w4 (.slice uo3 ul3 uc3) (nmP 3 d)) := M3.out.below C4.out (Nat.le_refl _)
  clear M3
  have M3 := N3
  clear N3
  have M4 : Hid (Mat 0 35 3 w4 (.slice uo4 ul4 uc4) (nmP 4 d)) := hm4
  clear hm4 hb4
  obtain ⟨W4, hW4⟩ : ∃ W4, W4 = w4.alloc (.cells #[.int .i64 (D 4), .slice uo4 ul4 uc4] 24) := ⟨_, rfl⟩
  have hbW : Below w4.heap.size w4 W4 := by rw [hW4]; exact (Below.refl _ _).alloc (Nat.le_refl _) _
  have z00 : (w4.alloc (.cells #[.int .i64 (D 4), .slice uo4 ul4 uc4] 24)).cell? ⟨w0.heap.size, 0, none⟩ = some (.int .i64 (D 0)) := by rw [← hW4]; exact (hbW.cell (lt_of_cell x00)).trans x00
  have z01 : (w4.alloc (.cells #[.int .i64 (D 4), .slice uo4 ul4 uc4] 24)).cell? ⟨w0.heap.size, 1, none⟩ = some (.slice uo0 ul0 uc0) := by rw [← hW4]; exact (hbW.cell (lt_of_cell x01)).trans x01
  clear x00 x01
  have z10 : (w4.alloc (.cells #[.int .i64 (D 4), .slice uo4 ul4 uc4] 24)).cell? ⟨w1.heap.size, 0, none⟩ = some (.int .i64 (D 1)) := by rw [← hW4]; exact (hbW.cell (lt_of_cell x10)).trans x10
  have z11 : (w4.alloc (.cells #[.int .i64 (D 4), .slice uo4 ul4 uc4] 24)).cell? ⟨w1.heap.size, 1, none⟩ = some (.slice uo1 ul1 uc1) := by rw [← hW4]; exact (hbW.cell (lt_of_cell x11)).trans x11
  clear x10 x11
  have z20 : (w4.alloc (.cells #[.int .i64 (D 4), .slice uo4 ul4 uc4] 24)).cell? ⟨w2.heap.size, 0, none⟩ = some (.int .i64 (D 2)) := by rw [← hW4]; exact (hbW.cell (lt_of_cell x20)).trans x20
  have z21 : (w4.alloc (.cells #[.int .i64 (D 4), .slice uo4 ul4 uc4] 24)).cell? ⟨w2.heap.size, 1, none⟩ = some (.slice uo2 ul2 uc2) := by rw [← hW4]; exact (hbW.cell (lt_of_cell x21)).trans x21
  clear x20 x21
  have z30 : (w4.alloc (.cells #[.int .i64 (D 4), .slice uo4 ul4 uc4] 24)).cell? ⟨w3.heap.size, 0, none⟩ = some (.int .i64 (D 3)) := by rw [← hW4]; exact (hbW.cell (lt_of_cell x30)).trans x30
  have z31 : (w4.alloc (.cells #[.int .i64 (D 4), .slice uo4 ul4 uc4] 24)).cell? ⟨w3.heap.size, 1, none⟩ = some (.slice uo3 ul3 uc3) := by rw [← hW4]; exact (hbW.cell (lt_of_cell x31)).trans x31
  clear x30 x31
  have BW : Hid (Below w.heap.size w w4) := (((B0.out.trans (C1.out.mono B0.out.size)).trans (C2.out.mono (Nat.le_trans B0.out.size C1.out.size))).trans (C3.out.mono (Nat.le_trans B0.out.size (Nat.le_trans C1.out.size C2.out.size)))).trans (C4.out.mono (Nat.le_trans B0.out.size (Nat.le_trans C1.out.size (Nat.le_trans C2.out.size C3.out.size))))
  clear hbW hW4 C1 C2 C3 C4 Z1 Z2 Z3 Z4 B0 H0 H1 H2 H3 H4
  go_wp2
  obtain ⟨S, hS⟩ : ∃ S : Nat → Value, S = fun k => if k = 0 then .slice uo0 ul0 uc0 else if k = 1 then .slice uo1 ul1 uc1 else if k = 2 then .slice uo2 ul2 uc2 else if k = 3 then .slice uo3 ul3 uc3 else .slice uo4 ul4 uc4 := ⟨_, rfl⟩
  obtain ⟨WL, hWL⟩ : ∃ WL, WL = ((w4.alloc (.cells #[.int .i64 (D 4), .slice uo4 ul4 uc4] 24)).alloc (.cells #[.int .i64 (D 0), .slice uo0 ul0 uc0, .int .i64 (D 1), .slice uo1 ul1 uc1, .int .i64 (D 2), .slice uo2 ul2 uc2, .int .i64 (D 3), .slice uo3 ul3 uc3, .int .i64 (D 4), .slice uo4 ul4 uc4] 24)).alloc (.cells #[.int .i64 (E 0), .int .i64 (E 1), .int .i64 (E 2), .int .i64 (E 3), .int .i64 (E 4)] 25) := ⟨_, rfl⟩
  have hbL : Below w4.heap.size w4 WL := by rw [hWL]; exact ((((Below.refl _ _).alloc (Nat.le_refl _) _).alloc (by simp) _).alloc (by simp; omega) _)
  have hLB : WL.heap[w4.heap.size + 1]? = some (.cells #[.int .i64 (D 0), .slice uo0 ul0 uc0, .int .i64 (D 1), .slice uo1 ul1 uc1, .int .i64 (D 2), .slice uo2 ul2 uc2, .int .i64 (D 3), .slice uo3 ul3 uc3, .int .i64 (D 4), .slice uo4 ul4 uc4] 24 (0, 0)) := by
    rw [hWL]
    refine (Below.heap_alloc _ _ _ (by simp)).trans ?_
    rw [show w4.heap.size + 1 = (w4.alloc (.cells #[.int .i64 (D 4), .slice uo4 ul4 uc4] 24)).heap.size by simp]
    exact heap_alloc_new _ _
  have hEB : WL.heap[w4.heap.size + 1 + 1]? = some (.cells #[.int .i64 (E 0), .int .i64 (E 1), .int .i64 (E 2), .int .i64 (E 3), .int .i64 (E 4)] 25 (0, 0)) := by
    rw [hWL, show w4.heap.size + 1 + 1 = ((w4.alloc (.cells #[.int .i64 (D 4), .slice uo4 ul4 uc4] 24)).alloc (.cells #[.int .i64 (D 0), .slice uo0 ul0 uc0, .int .i64 (D 1), .slice uo1 ul1 uc1, .int .i64 (D 2), .slice uo2 ul2 uc2, .int .i64 (D 3), .slice uo3 ul3 uc3, .int .i64 (D 4), .slice uo4 ul4 uc4] 24)).heap.size by simp]
    exact heap_alloc_new _ _
  have hf : ∀ k, k < 5 → WL.cell? ⟨w4.heap.size + 1, k * 2, none⟩ = some (.int .i64 (D k)) ∧ WL.cell? ⟨w4.heap.size + 1, k * 2 + 1, none⟩ = some (S k) ∧ WL.cell? ⟨w4.heap.size + 1 + 1, k, none⟩ = some (.int .i64 (E k)) := fun k hk => by
    have : k = 0 ∨ k = 1 ∨ k = 2 ∨ k = 3 ∨ k = 4 := by omega
    rw [hS]
    rcases this with rfl | rfl | rfl | rfl | rfl <;> simp [World.cell?, hLB, hEB]
  have hmS : ∀ k, k < 5 → Mat 0 35 3 WL (S k) (nmP k d) ∧ ∃ so sl sc, S k = .slice so sl sc := fun k hk => by
    have : k = 0 ∨ k = 1 ∨ k = 2 ∨ k = 3 ∨ k = 4 := by omega
    rw [hS]
    rcases this with rfl | rfl | rfl | rfl | rfl
    · exact ⟨M0.out.below hbL (Nat.le_refl _), _, _, _, rfl⟩
    · exact ⟨M1.out.below hbL (Nat.le_refl _), _, _, _, rfl⟩
    · exact ⟨M2.out.below hbL (Nat.le_refl _), _, _, _, rfl⟩
    · exact ⟨M3.out.below hbL (Nat.le_refl _), _, _, _, rfl⟩
    · exact ⟨M4.out.below hbL (Nat.le_refl _), _, _, _, rfl⟩
  have HF : Hid (∀ k, k < 5 → WL.cell? ⟨w4.heap.size + 1, k * 2, none⟩ = some (.int .i64 (D k)) ∧ WL.cell? ⟨w4.heap.size + 1, k * 2 + 1, none⟩ = some (S k) ∧ WL.cell? ⟨w4.heap.size + 1 + 1, k, none⟩ = some (.int .i64 (E k))) := hf
  have HM : Hid (∀ k, k < 5 → Mat 0 35 3 WL (S k) (nmP k d) ∧ ∃ so sl sc, S k = .slice so sl sc) := hmS
  have HBL : Hid (Below w.heap.size w WL) := BW.out.trans (hbL.mono BW.out.size)
  have HDOC : Hid (∀ (k : Nat) (W : World), k < 5 → Calls Try.prog 9 #[.int .i64 (k : Int), .int .i64 d] W fun e w' => ∃ uo ul uc, e = .returned (.tuple #[.agg #[.int .i64 (D k), .slice uo ul uc], .int .i64 (E k)]) ∧ Mat 0 35 3 w' (.slice uo ul uc) (nmP k d) ∧ Below W.heap.size W w') := fun k W hk => by
    have h := namedOf_any k d W hk
    rw [HN.out] at h
    exact h
  rw [← hWL]
  clear hWL hS hf hmS hbL hLB hEB BW M0 M1 M2 M3 M4 z00 z01 z10 z11 z20 z21 z30 z31 HN HDE
  go_loopw [15] (fun iv wr => ∃ k : Nat, k ≤ 5 ∧ iv = .int .i64 (k : Int) ∧ Below WL.heap.size WL wr) (fun iv _ => 5 - (intOf iv).toNat)
  case atStart => exact ⟨0, Nat.zero_le _, rfl, Below.refl _ _⟩
  case round =>
    obtain ⟨k, hk, rfl, hb⟩ := hrel
    have HB : Hid (Below WL.heap.size WL wr) := hb
    clear hb
    by_cases hlt : k < 5
    · go_wp2_with fail
      refine (HDOC.out k wr hlt).mono ?_
      rintro e w6 ⟨uo, ul, uc, rfl, hm6, hb6⟩
      have hbx : Below WL.heap.size WL w6 := HB.out.trans (hb6.mono HB.out.size)
      obtain ⟨f1, f2, f3⟩ := HF.out k hlt
      obtain ⟨hmk, so, sl, sc, hSk⟩ := HM.out k hlt
      rw [hSk] at f2 hmk
      have g1 := (hbx.cell (lt_of_cell f1)).trans f1
      have g2 := (hbx.cell (lt_of_cell f2)).trans f2
      have g3 := (hbx.cell (lt_of_cell f3)).trans f3
      have hmk6 := hmk.below hbx (Nat.le_refl _)
      obtain ⟨w7, hw7⟩ : ∃ w7, w7 = w6.alloc (.cells #[.int .i64 (D k), .slice uo ul uc] 24) := ⟨_, rfl⟩
      have hb7 : Below w6.heap.size w6 w7 := by rw [hw7]; exact (Below.refl _ _).alloc (Nat.le_refl _) _
      have q1 := (hb7.cell (lt_of_cell g1)).trans g1
      have q2 := (hb7.cell (lt_of_cell g2)).trans g2
      have q3 := (hb7.cell (lt_of_cell g3)).trans g3
      have q4 : w7.cell? ⟨w6.heap.size, 0, none⟩ = some (.int .i64 (D k)) := by rw [hw7]; simp
      have q5 : w7.cell? ⟨w6.heap.size, 1, none⟩ = some (.slice uo ul uc) := by rw [hw7]; simp
      have HSA : Hid (∀ n, Calls Try.prog 10 #[.slice so sl sc, .slice uo ul uc] (w7.drewN n) fun e w' => e = .returned (.bool true) ∧ ∃ q, w' = (w7.drewN n).drewN q) := fun n => by
        have h := sameAll_any 0 (nmP k d) (nmP k d) (.slice so sl sc) (.slice uo ul uc) (w7.drewN n) ((hmk6.below hb7 (Nat.le_refl _)).below (N := w7.heap.size) ⟨rfl, rfl, rfl, Nat.le_refl _, fun _ _ => rfl⟩ (Nat.le_refl _)) ((hm6.below hb7 (Nat.le_refl _)).below (N := w7.heap.size) ⟨rfl, rfl, rfl, Nat.le_refl _, fun _ _ => rfl⟩ (Nat.le_refl _))
        rw [beq_self_eq_true] at h
        exact h
      have HB7 : Hid (∀ n, Below WL.heap.size WL (w7.drewN n)) := fun n => hbx.trans ((hb7.mono hbx.size).trans ⟨rfl, rfl, rfl, Nat.le_refl _, fun _ _ => rfl⟩)
      have kI : (k : Int) < 5 := by omega
      have kI0 : (0 : Int) ≤ (k : Int) := by omega
      obtain ⟨Dk, hDk⟩ : ∃ x, x = D k := ⟨_, rfl⟩
      obtain ⟨Ek, hEk⟩ : ∃ x, x = E k := ⟨_, rfl⟩
      rw [← hDk] at q1 q4 hw7 ⊢
      rw [← hEk] at q3 ⊢
      clear f1 f2 f3 g1 g2 g3 hmk hmk6 hm6 hb6 hb7 hbx hSk hDk hEk
      go_wp2
      rw [← hw7]
      clear hw7
      go_big_quiet ((go_at_call 10; exact Calls.quiet_of (HSA.out _)))
      go_wp2
      go_roundw
      case rel => exact ⟨k + 1, by omega, by go_num, HB7.out _⟩
      case measure => simp [intOf]; omega
    · go_wp2
      go_ret
      exact ⟨rfl, HBL.out.trans (HB.out.mono HBL.out.size)⟩

end Go.Proofs.Ytiadekblckngiaa
