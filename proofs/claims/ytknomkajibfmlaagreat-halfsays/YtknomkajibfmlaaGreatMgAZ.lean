import Derived.Test.YtknomkajibfmlaaGreatMgAP
import Derived.Test.YtknomkajibfmlaaGreatMgAY
import Derived.Test.YtknomkajibfmlaaGreatMgAA
import Derived.Deep.Matrix
import Derived.Carry
import Derived.Test.YtknomkajibfmlaaGreatMgAJ
/- HalfSays: cuts that may not be, and directions that are none. -/
namespace Go.Proofs.YtknomkajibfmlaaGreat
open Go.RowKit
attribute [local go_sem ↓] Go.wp_at_zero Go.wp_at_succ

set_option maxRecDepth 100000 in
set_option maxHeartbeats 1600000 in
theorem halfEmpty_err (dm : Int) (rows : List (List Int)) (v : Value) (w : World) {B0 : Nat} (hv : Mat B0 38 3 w v rows) (hE : cmE dm rows ≠ 0) :
    Calls Tryz.prog 7 #[.agg #[.int .i64 dm, v]] w fun e w' => e = .returned (.tuple #[.bool false, .int .i64 (cmE dm rows)]) ∧ Below w.heap.size w w' := by
  obtain ⟨ro, rc, hvv, hlc, hcm⟩ := mat_open hv
  subst hvv
  obtain ⟨W, hW, hbW, hsW, hcW⟩ := cut_boxI w dm (.slice ro rows.length rc)
  have HWW : Hid (W = w.alloc (.cells #[.int .i64 dm, .slice ro rows.length rc] 24)) := hW
  have HBW : Hid (∀ X, Below W.heap.size W X → Below w.heap.size w X) := fun X hX => hbW.trans (hX.mono hbW.size)
  have H1 : Hid (Calls Tryz.prog 8 #[.agg #[.int .i64 dm, .slice ro rows.length rc]] W fun e w' => e = .returned (.int .i64 (cmE dm rows)) ∧ Below W.heap.size W w') := halfCheck_all dm rows _ W (hv.below hbW (Nat.le_refl _))
  obtain ⟨c0, c1⟩ := hcW W (Below.refl _ _)
  generalize cmE dm rows = E at *
  have hEb : (E != 0) = true := by simp [hE]
  clear hv hW hbW hsW hcW
  go_enter Tryz.func7, Tryz.ntmps7
  go_wp2_with fail
  rw [← HWW.out]
  refine H1.out.mono ?_
  rintro e w1 ⟨rfl, hb1⟩
  have HB1 : Hid (Below w.heap.size w w1) := HBW.out w1 hb1
  clear hb1 c0 c1
  go_wp2
  go_ret2
  exact ⟨rfl, HB1.out⟩

set_option maxRecDepth 100000 in
set_option maxHeartbeats 1600000 in
theorem halfWithout_err (dm : Int) (k : Int) (rows : List (List Int)) (v : Value) (w : World) {B0 : Nat} (hv : Mat B0 38 3 w v rows) (hE : cmE dm rows ≠ 0) :
    Calls Tryz.prog 10 #[.agg #[.int .i64 dm, v], .int .i64 k] w fun e w' => e = .returned (.tuple #[.slice none 0 0, .int .i64 (cmE dm rows)]) ∧ Below w.heap.size w w' := by
  obtain ⟨ro, rc, hvv, hlc, hcm⟩ := mat_open hv
  subst hvv
  obtain ⟨W, hW, hbW, hsW, hcW⟩ := cut_boxI w dm (.slice ro rows.length rc)
  have HWW : Hid (W = w.alloc (.cells #[.int .i64 dm, .slice ro rows.length rc] 24)) := hW
  have HBW : Hid (∀ X, Below W.heap.size W X → Below w.heap.size w X) := fun X hX => hbW.trans (hX.mono hbW.size)
  have H1 : Hid (Calls Tryz.prog 8 #[.agg #[.int .i64 dm, .slice ro rows.length rc]] W fun e w' => e = .returned (.int .i64 (cmE dm rows)) ∧ Below W.heap.size W w') := halfCheck_all dm rows _ W (hv.below hbW (Nat.le_refl _))
  obtain ⟨c0, c1⟩ := hcW W (Below.refl _ _)
  generalize cmE dm rows = E at *
  have hEb : (E != 0) = true := by simp [hE]
  clear hv hW hbW hsW hcW
  go_enter Tryz.func10, Tryz.ntmps10
  go_wp2_with fail
  rw [← HWW.out]
  refine H1.out.mono ?_
  rintro e w1 ⟨rfl, hb1⟩
  have HB1 : Hid (Below w.heap.size w w1) := HBW.out w1 hb1
  clear hb1 c0 c1
  go_wp2
  go_ret2
  exact ⟨rfl, HB1.out⟩

set_option maxRecDepth 100000 in
set_option maxHeartbeats 1600000 in
theorem halfCorners_err (dm : Int) (rows : List (List Int)) (v : Value) (w : World) {B0 : Nat} (hv : Mat B0 38 3 w v rows) (hE : cmE dm rows ≠ 0) :
    Calls Tryz.prog 13 #[.agg #[.int .i64 dm, v]] w fun e w' => e = .returned (.tuple #[.slice none 0 0, .int .i64 (cmE dm rows)]) ∧ Below w.heap.size w w' := by
  obtain ⟨ro, rc, hvv, hlc, hcm⟩ := mat_open hv
  subst hvv
  obtain ⟨W, hW, hbW, hsW, hcW⟩ := cut_boxI w dm (.slice ro rows.length rc)
  have HWW : Hid (W = w.alloc (.cells #[.int .i64 dm, .slice ro rows.length rc] 24)) := hW
  have HBW : Hid (∀ X, Below W.heap.size W X → Below w.heap.size w X) := fun X hX => hbW.trans (hX.mono hbW.size)
  have H1 : Hid (Calls Tryz.prog 8 #[.agg #[.int .i64 dm, .slice ro rows.length rc]] W fun e w' => e = .returned (.int .i64 (cmE dm rows)) ∧ Below W.heap.size W w') := halfCheck_all dm rows _ W (hv.below hbW (Nat.le_refl _))
  obtain ⟨c0, c1⟩ := hcW W (Below.refl _ _)
  generalize cmE dm rows = E at *
  have hEb : (E != 0) = true := by simp [hE]
  clear hv hW hbW hsW hcW
  go_enter Tryz.func13, Tryz.ntmps13
  go_wp2_with fail
  rw [← HWW.out]
  refine H1.out.mono ?_
  rintro e w1 ⟨rfl, hb1⟩
  have HB1 : Hid (Below w.heap.size w w1) := HBW.out w1 hb1
  clear hb1 c0 c1
  go_wp2
  go_ret2
  exact ⟨rfl, HB1.out⟩

set_option maxRecDepth 100000 in
set_option maxHeartbeats 1600000 in
theorem halfWithout_place (d : Nat) (k : Int) (rows : List (List Int)) (v : Value) (w : World) {B0 : Nat} (hv : Mat B0 38 3 w v rows) (hc : CutF d rows) (hk : k < 0 ∨ (d : Int) ≤ k) :
    Calls Tryz.prog 10 #[.agg #[.int .i64 d, v], .int .i64 k] w fun e w' => e = .returned (.tuple #[.slice none 0 0, .int .i64 9]) ∧ Below w.heap.size w w' := by
  obtain ⟨ro, rc, hvv, hlc, hcm⟩ := mat_open hv
  subst hvv
  obtain ⟨W, hW, hbW, hsW, hcW⟩ := cut_boxI w d (.slice ro rows.length rc)
  have HWW : Hid (W = w.alloc (.cells #[.int .i64 d, .slice ro rows.length rc] 24)) := hW
  have HBW : Hid (∀ X, Below W.heap.size W X → Below w.heap.size w X) := fun X hX => hbW.trans (hX.mono hbW.size)
  have HCC : Hid (∀ X, Below W.heap.size W X → X.cell? ⟨w.heap.size, 0, none⟩ = some (.int .i64 d) ∧ X.cell? ⟨w.heap.size, 1, none⟩ = some (.slice ro rows.length rc)) := hcW
  have H1 : Hid (Calls Tryz.prog 8 #[.agg #[.int .i64 d, .slice ro rows.length rc]] W fun e w' => e = .returned (.int .i64 0) ∧ Below W.heap.size W w') := by
    have h := halfCheck_all d rows _ W (hv.below hbW (Nat.le_refl _))
    rw [hc.cm] at h
    exact h
  obtain ⟨c0, c1⟩ := hcW W (Below.refl _ _)
  clear hv hc hW hbW hsW hcW
  by_cases h0 : k < 0
  · have hb0 : decide (k < 0) = true := decide_eq_true h0
    go_enter Tryz.func10, Tryz.ntmps10
    go_wp2_with fail
    rw [← HWW.out]
    refine H1.out.mono ?_
    rintro e w1 ⟨rfl, hb1⟩
    have HB1 : Hid (Below w.heap.size w w1) := HBW.out w1 hb1
    clear c0 c1
    obtain ⟨c0, c1⟩ := HCC.out w1 hb1
    clear hb1
    go_wp2
    go_ret2
    exact ⟨rfl, HB1.out⟩
  · have hb0 : decide (k < 0) = false := decide_eq_false h0
    have h1 : (d : Int) ≤ k := by omega
    have hb2 : decide ((d : Int) ≤ k) = true := decide_eq_true h1
    go_enter Tryz.func10, Tryz.ntmps10
    go_wp2_with fail
    rw [← HWW.out]
    refine H1.out.mono ?_
    rintro e w1 ⟨rfl, hb1⟩
    have HB1 : Hid (Below w.heap.size w w1) := HBW.out w1 hb1
    clear c0 c1
    obtain ⟨c0, c1⟩ := HCC.out w1 hb1
    clear hb1
    go_wp2
    go_ret2
    exact ⟨rfl, HB1.out⟩

set_option maxRecDepth 100000 in
set_option maxHeartbeats 4000000 in
theorem halfSays_place (d : Nat) (k : Int) (rows : List (List Int)) (v : Value) (w : World) {B0 : Nat} (hv : Mat B0 38 3 w v rows) (hc : CutF d rows) (hk : k < 0 ∨ (d : Int) ≤ k) :
    Calls Tryz.prog 3 #[.agg #[.int .i64 d, v], .int .i64 k] w fun e w' => e = .returned (.bool true) ∧ Below w.heap.size w w' := by
  obtain ⟨ro, rc, hvv, hlc, hcm⟩ := mat_open hv
  subst hvv
  obtain ⟨W, hW, hbW, hsW, hcW⟩ := cut_box w d (.slice ro rows.length rc)
  have HWW : Hid (W = w.alloc (.cells #[.int .i64 d, .slice ro rows.length rc] 24)) := hW
  have HBW : Hid (∀ X, Below W.heap.size W X → Below w.heap.size w X) := fun X hX => hbW.trans (hX.mono hbW.size)
  have HCC : Hid (∀ X, Below W.heap.size W X → X.cell? ⟨w.heap.size, 0, none⟩ = some (.int .i64 d) ∧ X.cell? ⟨w.heap.size, 1, none⟩ = some (.slice ro rows.length rc)) := hcW
  have HVW : ∀ X, Below W.heap.size W X → Mat B0 38 3 X (.slice ro rows.length rc) rows := fun X hX => hv.below (HBW.out X hX) (Nat.le_refl _)
  have HHV : Hid (Calls Tryz.prog 4 #[.slice ro rows.length rc] W fun e w' => ∃ b, e = .returned (.bool b) ∧ w' = W) := by
    refine (heavy_any _ rows _ W (hv.below hbW (Nat.le_refl _))).mono ?_
    rintro e w' ⟨b, rfl, _, rfl⟩
    exact ⟨b, rfl, rfl⟩
  have HCM : Hid (∀ X, Below W.heap.size W X → Calls Tryz.prog 5 #[.agg #[.int .i64 d, .slice ro rows.length rc]] X fun e w' => e = .returned (.int .i64 0) ∧ Below X.heap.size X w') := fun X hX => cutMay_ok d rows _ X (HVW X hX) hc
  have HEM : Hid (∀ X, Below W.heap.size W X → Calls Tryz.prog 6 #[.slice ro rows.length rc, .int .i64 d] X fun e w' => e = .returned (.bool (empB d rows)) ∧ Below X.heap.size X w') := fun X hX => by
    have h := empty_any d rows _ X (HVW X hX) hc.d1 hc.d4 (by have := hc.n12; omega) hc.rw
    rw [doc_emp hc.len] at h
    exact h
  have HHE : Hid (∀ X, Below W.heap.size W X → Calls Tryz.prog 7 #[.agg #[.int .i64 d, .slice ro rows.length rc]] X fun e w' => e = .returned (.tuple #[.bool (empB d rows), .int .i64 0]) ∧ Below X.heap.size X w') := fun X hX => emptyF_ok d rows _ X ((HVW X hX).any (Nat.le_refl _)) hc
  have HCK : Hid (∀ X, Below W.heap.size W X → Calls Tryz.prog 8 #[.agg #[.int .i64 d, .slice ro rows.length rc]] X fun e w' => e = .returned (.int .i64 0) ∧ Below X.heap.size X w') := fun X hX => halfCheckF_ok d rows _ X ((HVW X hX).any (Nat.le_refl _)) hc
  have HWH : Hid (∀ X, Below W.heap.size W X → Calls Tryz.prog 10 #[.agg #[.int .i64 d, .slice ro rows.length rc], .int .i64 k] X fun e w' => e = .returned (.tuple #[.slice none 0 0, .int .i64 9]) ∧ Below X.heap.size X w') := fun X hX => halfWithout_place d k rows _ X (HVW X hX) hc hk
  have HKC : Hid (∀ X, Below W.heap.size W X → Calls Tryz.prog 12 #[.slice ro rows.length rc, .int .i64 d] X fun e w' => ∃ uo ul uc E, e = .returned (.tuple #[.slice uo ul uc, .int .i64 E]) ∧ Below X.heap.size X w' ∧
      ∀ Y, Below w'.heap.size w' Y → Calls Tryz.prog 13 #[.agg #[.int .i64 d, .slice ro rows.length rc]] Y fun e w2 => ∃ xo xl xc, e = .returned (.tuple #[.slice xo xl xc, .int .i64 E]) ∧ Below Y.heap.size Y w2 ∧ Calls Tryz.prog 11 #[.slice xo xl xc, .int .i64 E, .slice uo ul uc, .int .i64 E] w2 fun e w3 => e = .returned (.bool true) ∧ Below w2.heap.size w2 w3) := fun X hX => by
    refine (cutCorners_any d rows _ X (HVW X hX) hc).mono ?_
    rintro e w' ⟨uo, ul, uc, E, rfl, hq, hb⟩
    refine ⟨uo, ul, uc, E, rfl, hb, fun Y hY => ?_⟩
    have hbY : Below W.heap.size W Y := hX.trans ((hb.trans (hY.mono hb.size)).mono hX.size)
    refine (halfCornersG_ok d rows _ Y (HVW Y hbY) hc).mono ?_
    rintro e w2 ⟨xo, xl, xc, F, rfl, hf, hb2⟩
    rcases hq with ⟨a1, a2, rfl⟩ | ⟨a1, a2, a3, rfl⟩ | ⟨a1, a2, rfl, s, a3, a4, a5⟩
    · rcases hf with ⟨_, f2, rfl⟩ | ⟨f1, _⟩ | ⟨f1, _⟩
      · refine ⟨xo, xl, xc, rfl, hb2, ?_⟩
        rw [a2, f2]
        refine (listsG_no 6 (by decide) w2).mono ?_
        rintro e w3 ⟨rfl, rfl⟩
        exact ⟨rfl, Below.refl _ _⟩
      · rw [a1] at f1; cases f1
      · rw [a1] at f1; cases f1
    · rcases hf with ⟨f1, _⟩ | ⟨_, _, f2, rfl⟩ | ⟨_, f1, _⟩
      · rw [a1] at f1; cases f1
      · refine ⟨xo, xl, xc, rfl, hb2, ?_⟩
        rw [a3, f2]
        refine (listsG_no 7 (by decide) w2).mono ?_
        rintro e w3 ⟨rfl, rfl⟩
        exact ⟨rfl, Below.refl _ _⟩
      · rw [a2] at f1; cases f1
    · rcases hf with ⟨f1, _⟩ | ⟨_, f1, _⟩ | ⟨_, _, rfl, m, f2, f3⟩
      · rw [a1] at f1; cases f1
      · rw [a2] at f1; cases f1
      · refine ⟨xo, xl, xc, rfl, hb2, ?_⟩
        have e1 : m = s := sasc_ext m s f3.asc a4 fun r => by rw [f3.mem, a5, corners_same hc.len]
        subst e1
        exact listsG_same 0 m _ _ w2 f2 ((a3.below hY (Nat.le_refl _)).below hb2 (Nat.le_refl _))
  have HLS : Hid (∀ X, Calls Tryz.prog 11 #[.slice none 0 0, .int .i64 9, .slice none 0 0, .int .i64 9] X fun e w' => e = .returned (.bool true) ∧ w' = X) := fun X => listsG_no 9 (by decide) X
  obtain ⟨c0, c1⟩ := hcW W (Below.refl _ _)
  clear hv hc hW hbW hsW hcW HVW
  go_enter Tryz.func3, Tryz.ntmps3
  go_upto_region 1 with fail
  rw [← HWW.out]
  go_wp2_with fail
  refine HHV.out.mono ?_
  rintro e w' ⟨b, rfl, hww⟩
  rw [hww]
  clear hww w'
  cases b
  case true =>
    go_wp2
    go_ret
    exact ⟨rfl, HBW.out _ (Below.refl _ _)⟩
  case false =>
    go_wp2_with fail
    refine (HCM.out W (Below.refl _ _)).mono ?_
    rintro e w1 ⟨rfl, hb1⟩
    have HB1 : Hid (Below W.heap.size W w1) := hb1
    clear hb1 c0 c1 HCM HHV
    obtain ⟨c0, c1⟩ := HCC.out w1 HB1.out
    go_wp2_with fail
    refine (HEM.out w1 HB1.out).mono ?_
    rintro e w2 ⟨rfl, hb2⟩
    have HB2 : Hid (Below W.heap.size W w2) := HB1.out.trans (hb2.mono HB1.out.size)
    clear hb2 c0 c1 HEM
    obtain ⟨c0, c1⟩ := HCC.out w2 HB2.out
    generalize empB d rows = E at *
    go_wp2_with fail
    refine (HHE.out w2 HB2.out).mono ?_
    rintro e w3 ⟨rfl, hb3⟩
    have HB3 : Hid (Below W.heap.size W w3) := HB2.out.trans (hb3.mono HB2.out.size)
    clear hb3 c0 c1 HHE
    obtain ⟨c0, c1⟩ := HCC.out w3 HB3.out
    go_wp2_with fail
    refine (HCK.out w3 HB3.out).mono ?_
    rintro e w4 ⟨rfl, hb4⟩
    have HB4 : Hid (Below W.heap.size W w4) := HB3.out.trans (hb4.mono HB3.out.size)
    clear hb4 c0 c1 HCK
    obtain ⟨c0, c1⟩ := HCC.out w4 HB4.out
    have hEE : (E != E) = false := by simp
    by_cases h0 : k < 0
    · have hb0 : decide (k < 0) = true := decide_eq_true h0
      go_wp2_with fail
      refine (HWH.out w4 HB4.out).mono ?_
      rintro e w7 ⟨rfl, hb6⟩
      have HB7 : Hid (Below W.heap.size W w7) := HB4.out.trans (hb6.mono HB4.out.size)
      clear hb6 c0 c1 HWH
      go_wp2_with fail
      refine (HLS.out w7).mono ?_
      rintro e w' ⟨rfl, hw'⟩
      rw [hw']
      clear hw' HLS
      obtain ⟨c0, c1⟩ := HCC.out w7 HB7.out
      go_wp2_with fail
      refine (HKC.out w7 HB7.out).mono ?_
      rintro e w8 ⟨uo, ul, uc, F, rfl, hb8, hco⟩
      have HB8 : Hid (Below W.heap.size W w8) := HB7.out.trans (hb8.mono HB7.out.size)
      have HCO : Hid (Calls Tryz.prog 13 #[.agg #[.int .i64 d, .slice ro rows.length rc]] w8 fun e w2 => ∃ xo xl xc, e = .returned (.tuple #[.slice xo xl xc, .int .i64 F]) ∧ Below w8.heap.size w8 w2 ∧ Calls Tryz.prog 11 #[.slice xo xl xc, .int .i64 F, .slice uo ul uc, .int .i64 F] w2 fun e w3 => e = .returned (.bool true) ∧ Below w2.heap.size w2 w3) := hco w8 (Below.refl _ _)
      clear hb8 hco c0 c1 HKC
      obtain ⟨c0, c1⟩ := HCC.out w8 HB8.out
      go_wp2_with fail
      refine HCO.out.mono ?_
      rintro e w9 ⟨zo, zl, zc, rfl, hb9, hls⟩
      have HB9 : Hid (Below W.heap.size W w9) := HB8.out.trans (hb9.mono HB8.out.size)
      have HLZ : Hid (Calls Tryz.prog 11 #[.slice zo zl zc, .int .i64 F, .slice uo ul uc, .int .i64 F] w9 fun e w3 => e = .returned (.bool true) ∧ Below w9.heap.size w9 w3) := hls
      clear hb9 hls c0 c1 HCO
      go_wp2_with fail
      refine HLZ.out.mono ?_
      rintro e wz ⟨rfl, hbz⟩
      have HBZ : Hid (Below W.heap.size W wz) := HB9.out.trans (hbz.mono HB9.out.size)
      clear hbz HLZ
      go_wp2
      go_ret
      exact ⟨rfl, HBW.out _ HBZ.out⟩
    · have hb0 : decide (k < 0) = false := decide_eq_false h0
      have h1 : (d : Int) ≤ k := by omega
      have hb2 : decide ((d : Int) ≤ k) = true := decide_eq_true h1
      go_wp2_with fail
      refine (HWH.out w4 HB4.out).mono ?_
      rintro e w7 ⟨rfl, hb6⟩
      have HB7 : Hid (Below W.heap.size W w7) := HB4.out.trans (hb6.mono HB4.out.size)
      clear hb6 c0 c1 HWH
      go_wp2_with fail
      refine (HLS.out w7).mono ?_
      rintro e w' ⟨rfl, hw'⟩
      rw [hw']
      clear hw' HLS
      obtain ⟨c0, c1⟩ := HCC.out w7 HB7.out
      go_wp2_with fail
      refine (HKC.out w7 HB7.out).mono ?_
      rintro e w8 ⟨uo, ul, uc, F, rfl, hb8, hco⟩
      have HB8 : Hid (Below W.heap.size W w8) := HB7.out.trans (hb8.mono HB7.out.size)
      have HCO : Hid (Calls Tryz.prog 13 #[.agg #[.int .i64 d, .slice ro rows.length rc]] w8 fun e w2 => ∃ xo xl xc, e = .returned (.tuple #[.slice xo xl xc, .int .i64 F]) ∧ Below w8.heap.size w8 w2 ∧ Calls Tryz.prog 11 #[.slice xo xl xc, .int .i64 F, .slice uo ul uc, .int .i64 F] w2 fun e w3 => e = .returned (.bool true) ∧ Below w2.heap.size w2 w3) := hco w8 (Below.refl _ _)
      clear hb8 hco c0 c1 HKC
      obtain ⟨c0, c1⟩ := HCC.out w8 HB8.out
      go_wp2_with fail
      refine HCO.out.mono ?_
      rintro e w9 ⟨zo, zl, zc, rfl, hb9, hls⟩
      have HB9 : Hid (Below W.heap.size W w9) := HB8.out.trans (hb9.mono HB8.out.size)
      have HLZ : Hid (Calls Tryz.prog 11 #[.slice zo zl zc, .int .i64 F, .slice uo ul uc, .int .i64 F] w9 fun e w3 => e = .returned (.bool true) ∧ Below w9.heap.size w9 w3) := hls
      clear hb9 hls c0 c1 HCO
      go_wp2_with fail
      refine HLZ.out.mono ?_
      rintro e wz ⟨rfl, hbz⟩
      have HBZ : Hid (Below W.heap.size W wz) := HB9.out.trans (hbz.mono HB9.out.size)
      clear hbz HLZ
      go_wp2
      go_ret
      exact ⟨rfl, HBW.out _ HBZ.out⟩

set_option maxRecDepth 100000 in
set_option maxHeartbeats 4000000 in
theorem halfSays_cut (d k : Int) (rows : List (List Int)) (v : Value) (w : World) {B0 : Nat} (hv : Mat B0 38 3 w v rows) (hE : cmE d rows ≠ 0) :
    Calls Tryz.prog 3 #[.agg #[.int .i64 d, v], .int .i64 k] w fun e w' => e = .returned (.bool true) ∧ Below w.heap.size w w' := by
  obtain ⟨ro, rc, hvv, hlc, hcm⟩ := mat_open hv
  subst hvv
  obtain ⟨W, hW, hbW, hsW, hcW⟩ := cut_boxI w d (.slice ro rows.length rc)
  have HWW : Hid (W = w.alloc (.cells #[.int .i64 d, .slice ro rows.length rc] 24)) := hW
  have HBW : Hid (∀ X, Below W.heap.size W X → Below w.heap.size w X) := fun X hX => hbW.trans (hX.mono hbW.size)
  have HCC : Hid (∀ X, Below W.heap.size W X → X.cell? ⟨w.heap.size, 0, none⟩ = some (.int .i64 d) ∧ X.cell? ⟨w.heap.size, 1, none⟩ = some (.slice ro rows.length rc)) := hcW
  have HVW : ∀ X, Below W.heap.size W X → Mat B0 38 3 X (.slice ro rows.length rc) rows := fun X hX => hv.below (HBW.out X hX) (Nat.le_refl _)
  have HHV : Hid (Calls Tryz.prog 4 #[.slice ro rows.length rc] W fun e w' => ∃ b, e = .returned (.bool b) ∧ w' = W) := by
    refine (heavy_any _ rows _ W (hv.below hbW (Nat.le_refl _))).mono ?_
    rintro e w' ⟨b, rfl, _, rfl⟩
    exact ⟨b, rfl, rfl⟩
  have HCM : Hid (∀ X, Below W.heap.size W X → Calls Tryz.prog 5 #[.agg #[.int .i64 d, .slice ro rows.length rc]] X fun e w' => e = .returned (.int .i64 (cmE d rows)) ∧ Below X.heap.size X w') := fun X hX => cutMay_all d rows _ X (HVW X hX)
  have HHE : Hid (∀ X, Below W.heap.size W X → Calls Tryz.prog 7 #[.agg #[.int .i64 d, .slice ro rows.length rc]] X fun e w' => e = .returned (.tuple #[.bool false, .int .i64 (cmE d rows)]) ∧ Below X.heap.size X w') := fun X hX => halfEmpty_err d rows _ X (HVW X hX) hE
  have HCK : Hid (∀ X, Below W.heap.size W X → Calls Tryz.prog 8 #[.agg #[.int .i64 d, .slice ro rows.length rc]] X fun e w' => e = .returned (.int .i64 (cmE d rows)) ∧ Below X.heap.size X w') := fun X hX => halfCheck_all d rows _ X (HVW X hX)
  have HWH : Hid (∀ X, Below W.heap.size W X → Calls Tryz.prog 10 #[.agg #[.int .i64 d, .slice ro rows.length rc], .int .i64 k] X fun e w' => e = .returned (.tuple #[.slice none 0 0, .int .i64 (cmE d rows)]) ∧ Below X.heap.size X w') := fun X hX => halfWithout_err d k rows _ X (HVW X hX) hE
  have HCO : Hid (∀ X, Below W.heap.size W X → Calls Tryz.prog 13 #[.agg #[.int .i64 d, .slice ro rows.length rc]] X fun e w' => e = .returned (.tuple #[.slice none 0 0, .int .i64 (cmE d rows)]) ∧ Below X.heap.size X w') := fun X hX => halfCorners_err d rows _ X (HVW X hX) hE
  have HLS : Hid (∀ X, Calls Tryz.prog 11 #[.slice none 0 0, .int .i64 (cmE d rows), .slice none 0 0, .int .i64 (cmE d rows)] X fun e w' => e = .returned (.bool true) ∧ w' = X) := fun X => listsG_no _ (by simpa using hE) X
  obtain ⟨c0, c1⟩ := hcW W (Below.refl _ _)
  generalize cmE d rows = E at *
  have hEb : (E == 0) = false := by simpa using hE
  have hEb2 : (E != 0) = true := by simpa using hE
  have hEE : (E != E) = false := by simp
  clear hv hE hW hbW hsW hcW HVW
  go_enter Tryz.func3, Tryz.ntmps3
  go_upto_region 1 with fail
  rw [← HWW.out]
  go_wp2_with fail
  refine HHV.out.mono ?_
  rintro e w' ⟨b, rfl, hww⟩
  rw [hww]
  clear hww w'
  cases b
  case true =>
    go_wp2
    go_ret
    exact ⟨rfl, HBW.out _ (Below.refl _ _)⟩
  case false =>
    go_wp2_with fail
    refine (HCM.out W (Below.refl _ _)).mono ?_
    rintro e w1 ⟨rfl, hb⟩
    have HBw1 : Hid (Below W.heap.size W w1) := (Below.refl _ _ : Below W.heap.size W W).trans (hb.mono ((Below.refl _ _ : Below W.heap.size W W)).size)
    clear hb c0 c1 HCM
    obtain ⟨c0, c1⟩ := HCC.out w1 HBw1.out
    go_wp2_with fail
    refine (HHE.out w1 HBw1.out).mono ?_
    rintro e w3 ⟨rfl, hb⟩
    have HBw3 : Hid (Below W.heap.size W w3) := HBw1.out.trans (hb.mono (HBw1.out).size)
    clear hb c0 c1 HHE
    obtain ⟨c0, c1⟩ := HCC.out w3 HBw3.out
    go_wp2_with fail
    refine (HCK.out w3 HBw3.out).mono ?_
    rintro e w4 ⟨rfl, hb⟩
    have HBw4 : Hid (Below W.heap.size W w4) := HBw3.out.trans (hb.mono (HBw3.out).size)
    clear hb c0 c1 HCK
    obtain ⟨c0, c1⟩ := HCC.out w4 HBw4.out
    go_wp2_with fail
    refine (HWH.out w4 HBw4.out).mono ?_
    rintro e w6 ⟨rfl, hb⟩
    have HBw6 : Hid (Below W.heap.size W w6) := HBw4.out.trans (hb.mono (HBw4.out).size)
    clear hb c0 c1 HWH
    obtain ⟨c0, c1⟩ := HCC.out w6 HBw6.out
    go_wp2_with fail
    refine (HLS.out w6).mono ?_
    rintro e w' ⟨rfl, hw'⟩
    rw [hw']
    clear hw'
    go_wp2_with fail
    refine (HCO.out w6 HBw6.out).mono ?_
    rintro e w9 ⟨rfl, hb⟩
    have HBw9 : Hid (Below W.heap.size W w9) := HBw6.out.trans (hb.mono (HBw6.out).size)
    clear hb c0 c1 HCO
    obtain ⟨c0, c1⟩ := HCC.out w9 HBw9.out
    go_wp2_with fail
    refine (HLS.out w9).mono ?_
    rintro e w' ⟨rfl, hw'⟩
    rw [hw']
    clear hw'
    go_wp2
    go_ret
    exact ⟨rfl, HBW.out _ HBw9.out⟩

theorem halfSays_any (d : Int) (rows : List (List Int)) (k : Int) (v : Value) (w : World) (hv : Mat w.heap.size 38 3 w v rows) :
    Calls Tryz.prog 3 #[.agg #[.int .i64 d, v], .int .i64 k] w fun e w' => e = .returned (.bool true) ∧ Below w.heap.size w w' := by
  by_cases hc : cmE d rows = 0
  · obtain ⟨n, rfl, hcf⟩ := cmE_ok hc
    by_cases hk : k < 0 ∨ (n : Int) ≤ k
    · exact halfSays_place n k rows v w hv hcf hk
    · obtain ⟨j, rfl⟩ : ∃ j : Nat, k = j := ⟨k.toNat, by omega⟩
      exact halfSays_ok n j rows v w hv hcf (by omega)
  · exact halfSays_cut d k rows v w hv hc

end Go.Proofs.YtknomkajibfmlaaGreat

/- Arguments that are lists, and lists of lists, of integers, as the call finds them. -/

namespace Go.Proofs.YtknomkajibfmlaaGreat
open Go.ChangeShapes Go.WideShapes Go.RowKit Go.Deep

theorem Tryz.cells3 : Tryz.prog.cellsOf 3 = 1 := by kernel_rfl
theorem Tryz.cells38 : Tryz.prog.cellsOf 38 = 1 := by kernel_rfl
theorem Tryz.laidOut : laidOutB Tryz.prog = true := by kernel_rfl

theorem addr_none {w : World} {a : Addr} {u : Value} (h : w.cell? a = some u) : a = ⟨a.block, a.off, none⟩ := by
  obtain ⟨b, o, s⟩ := a
  cases s with
  | none => rfl
  | some s =>
    exfalso
    unfold World.cell? at h
    split at h <;> simp at h

theorem sl_of_cells {w : World} {a : Addr} {len cap : Nat} {e : TypeId} {xs : List Value} (hl : xs.length = len) (h1 : len ≤ cap) (h2 : cap ≤ maxLen) (hc : ∀ i, i < len → w.cell? (a.add i) = xs[i]?) : Sl w.heap.size e w (.slice (some a) len cap) xs := by
  refine ⟨some a, cap, by rw [hl], by omega, h2, fun i hi => ?_, fun h => by cases h⟩
  have hi' : i < len := by omega
  have hx : xs[i]? = some xs[i] := List.getElem?_eq_getElem hi
  have hz : xs[0]? = some xs[0] := List.getElem?_eq_getElem (by omega)
  have h0 := hc i hi'
  have ha : a = ⟨a.block, a.off, none⟩ := addr_none (u := xs[0]) (by have := hc 0 (by omega); rw [hz] at this; simpa [Addr.add] using this)
  obtain ⟨b, o, s⟩ := a
  simp only [Addr.mk.injEq, true_and] at ha
  subst ha
  have e : (⟨b, o, none⟩ : Addr).add i = ⟨b, o + i, none⟩ := by
    unfold Addr.add
    by_cases h : i = 0
    · subst h; simp
    · simp [h]
  rw [e] at h0
  exact ⟨b, o, rfl, h0, Or.inl (World.block_lt_of_cell? w ⟨b, o + i, none⟩ (h0.trans hx))⟩

/-- A list of lists of integers. -/
theorem open_mat {H : Type} {enc : TypeId × Value → H} {w : World} {ao : Option Addr} {l0 c0 : Nat} {d : DataW H} {p : List MemPlace} (h : DataW.Trod enc Tryz.prog w 0 (fun _ => true) true 22 (.slice ao l0 c0) d p) : ∃ m, Mat w.heap.size 38 3 w (.slice ao l0 c0) m := by
  obtain ⟨fuel, hf⟩ := h
  rcases open_int_rows Tryz.underlying22 Tryz.underlying38 Tryz.underlying3 Tryz.cells38 Tryz.cells3 hf with ⟨hcs, _⟩ | ⟨a, len, cap, A, L, C, Z, hcs, _, hl, hm, _, hrows⟩
  · simp [Value.cells] at hcs
    obtain ⟨rfl, rfl, rfl⟩ := hcs
    exact ⟨[], [], rfl, Sl.nil _ _ _, fun i hi => absurd hi (by simp)⟩
  · simp [Value.cells] at hcs
    obtain ⟨rfl, rfl, rfl⟩ := hcs
    refine ⟨(List.range l0).map fun r => (Z r).take (L r), (List.range l0).map fun r => .slice (A r) (L r) (C r), by simp, ?_, fun i hi => ?_⟩
    · refine sl_of_cells (by simp) hl hm fun i hi => ?_
      rw [(hrows i (by omega)).1]; simp [hi]
    · have hi' : i < l0 := by simpa using hi
      obtain ⟨h1, h2, h3, h4, _, h6, h7⟩ := hrows i (by omega)
      have e1 : ((List.range l0).map fun r => Value.slice (A r) (L r) (C r)).getD i (.slice none 0 0) = .slice (A i) (L i) (C i) := by simp [hi']
      have e2 : ((List.range l0).map fun r => (Z r).take (L r)).getD i [] = (Z i).take (L i) := by simp [hi']
      rw [e1, e2]
      cases hA : A i with
      | none =>
        have hC := h6 hA
        have hL : L i = 0 := by omega
        rw [hC, hL]; exact Sl.nil _ _ _
      | some a' =>
        refine sl_of_cells (by simp; omega) h2 h3 fun j hj => ?_
        rw [(h7 a' hA).2 j (by omega), ints_get _ _ (by simp; omega)]
        simp [hj]

end Go.Proofs.YtknomkajibfmlaaGreat

/- Integers as the call finds them lie within 64 bits. -/
namespace Go.Proofs.YtknomkajibfmlaaGreat
open Go.ChangeShapes Go.WideShapes Go.RowKit Go.Deep

end Go.Proofs.YtknomkajibfmlaaGreat
