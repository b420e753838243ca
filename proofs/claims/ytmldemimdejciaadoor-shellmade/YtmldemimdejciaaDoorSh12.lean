/- The law of shells. -/
import Derived.Test.YtmldemimdejciaaDoorSh11
namespace Go.Proofs.YtmldemimdejciaaDoor
open Go.RowKit
attribute [local go_sem ↓] Go.wp_at_zero Go.wp_at_succ

set_option maxRecDepth 100000 in
set_option maxHeartbeats 800000 in
theorem heavyS_any (B : Nat) (m : List (List Int)) (v : Value) (w : World) (hv : Mat B 26 3 w v m) :
    Calls Tryd.prog 5 #[v] w fun e w' => ∃ b, e = .returned (.bool b) ∧ (b = false → m.length ≤ 300) ∧ w' = w := by
  obtain ⟨ao, cap, hvv, hlc, hcm⟩ := mat_open hv
  subst hvv
  have HV : Hid (Mat B 26 3 w (.slice ao m.length cap) m) := hv
  clear hv
  by_cases h1 : 300 < m.length
  · have b1 : decide ((300 : Int) < (m.length : Int)) = true := decide_eq_true (by omega)
    go_enter Tryd.func5, Tryd.ntmps5
    go_wp2
    go_ret
    exact ⟨true, rfl, (fun h => absurd h (by decide)), rfl⟩
  · have b1 : decide ((300 : Int) < (m.length : Int)) = false := decide_eq_false (by omega)
    have HL : Hid (m.length ≤ 300) := by show _ ≤ _; omega
    go_enter Tryd.func5, Tryd.ntmps5
    go_wp2
    go_loopw [3, 4] (fun n i wr => ∃ t s : Nat, t ≤ m.length ∧ s ≤ 300 * t ∧ n = .int .i64 s ∧ i = .int .i64 t ∧ wr = w) (fun _ i _ => m.length - (intOf i).toNat)
    case atStart => exact ⟨0, 0, Nat.zero_le _, Nat.le_refl _, rfl, rfl, rfl⟩
    case round =>
      obtain ⟨t, s, ht, hs, rfl, rfl, rfl⟩ := hrel
      by_cases htn : t < m.length
      · obtain ⟨b, o, cp, u, hs, _, hcc, hu⟩ := mat_cell HV.out htn
        simp only [Value.slice.injEq, true_and] at hs
        obtain ⟨rfl, rfl⟩ := hs
        obtain ⟨uo, uc, hue, hul, hum⟩ := sl_open hu
        subst hue
        generalize (m.getD t []).length = l at *
        clear hu
        by_cases hl : 300 < l
        · have b2 : decide ((300 : Int) < (l : Int)) = true := decide_eq_true (by omega)
          go_wp2
          go_ret
          exact ⟨true, rfl, (fun h => absurd h (by decide)), rfl⟩
        · have b2 : decide ((300 : Int) < (l : Int)) = false := decide_eq_false (by omega)
          go_wp2
          go_roundw
          case rel => exact ⟨t + 1, s + l, by omega, by omega, by go_num, by go_num, trivial⟩
          case measure => simp [intOf]; omega
      · go_wp2
        go_ret
        exact ⟨_, rfl, fun _ => HL.out, rfl⟩

set_option maxRecDepth 100000 in
set_option maxHeartbeats 2000000 in
theorem shellSays_good (B : Nat) (m : List (List Int)) (v : Value) (w : World) (hv : Mat B 26 3 w v m) (hx : facetsE m = 0) (hT : TabB w) :
    Calls Tryd.prog 3 #[v] w fun e w' => e = .returned (.bool true) ∧ Below w.heap.size w w' := by
  have HV : Hid (Mat B 26 3 w v m) := hv
  have HX : Hid (facetsE m = 0) := hx
  have HT : Hid (TabB w) := hT
  clear hv hx hT
  go_enter Tryd.func3, Tryd.ntmps3
  go_wp2_with fail
  refine (heavyS_any B m v w HV.out).mono ?_
  rintro e w0 ⟨hvy, rfl, _, hw0⟩
  subst hw0
  cases hvy
  · go_wp2_with fail
    refine (facetsMay_any B m v w0 HV.out).mono ?_
    rintro e w1 ⟨rfl, hq1⟩
    rw [HX.out]
    have HB1 : Hid (Below w0.heap.size w0 w1) := hq1.below
    clear hq1
    go_wp2_with fail
    refine (shellsOf_any B m v w1 (HV.out.below HB1.out (Nat.le_refl _)) (facets_ok HX.out)).mono ?_
    rintro e w2 ⟨u, rfl, hu, hb2⟩
    have HB2 : Hid (Below w0.heap.size w0 w2) := HB1.out.trans (hb2.mono HB1.out.size)
    have HU : Hid (Sl w2.heap.size 3 w2 u (ints (shellA m))) := hu
    clear hb2 hu
    obtain ⟨uo, uc, hue, hul, hum⟩ := sl_open HU.out
    subst hue
    go_wp2_with fail
    refine (shells_good B m v w2 (HV.out.below HB2.out (Nat.le_refl _)) HX.out (HT.out.below HB2.out)).mono ?_
    rintro e w3 ⟨u3, rfl, hu3, hb3⟩
    have HB3 : Hid (Below w0.heap.size w0 w3) := HB2.out.trans (hb3.mono HB2.out.size)
    have HU2 : Hid (Sl w2.heap.size 3 w3 (.slice uo (shellA m).length uc) (ints (shellA m))) := HU.out.below hb3 (Nat.le_refl _)
    have HU3 : Hid (Sl w3.heap.size 3 w3 u3 (ints (shellA m))) := hu3
    clear hb3 hu3 HU
    obtain ⟨vo, vc, hve, hvl, hvm⟩ := sl_open HU3.out
    subst hve
    go_wp2_with fail
    refine (checkS_any B m v w3 (HV.out.below HB3.out (Nat.le_refl _))).mono ?_
    rintro e w4 ⟨rfl, hb4⟩
    rw [HX.out]
    have HB4 : Hid (Below w0.heap.size w0 w4) := HB3.out.trans (hb4.mono HB3.out.size)
    have HU4 : Hid (Sl w4.heap.size 3 w4 (.slice uo (shellA m).length uc) (ints (shellA m))) := (HU2.out.below hb4 (Nat.le_refl _)).any (Nat.le_refl _)
    have HU5 : Hid (Sl w4.heap.size 3 w4 (.slice vo (shellA m).length vc) (ints (shellA m))) := (HU3.out.below hb4 (Nat.le_refl _)).any (Nat.le_refl _)
    clear hb4 HU2 HU3
    have HSM : Hid (Calls Tryd.prog 10 #[.slice vo (shellA m).length vc, .slice uo (shellA m).length uc] w4 fun e w' => e = .returned (.bool true) ∧ ∃ n, w' = w4.drewN n) := (same_any w4.heap.size (shellA m) (shellA m) _ _ w4 HU5.out HU4.out).mono (fun e w' h => by
      obtain ⟨h1, h2⟩ := h
      refine ⟨?_, h2⟩
      rw [h1]
      exact ret_bool (by simp))
    generalize (shellA m).length = L at *
    cases hA : allOk m m.length
    all_goals
      go_wp2_with fail
      refine HSM.out.mono ?_
      rintro e w5 ⟨rfl, n5, rfl⟩
      go_wp2
      go_ret
      exact ⟨rfl, bel_drewN HB4.out _⟩
  · go_wp2
    go_ret
    exact ⟨rfl, Below.refl _ _⟩

set_option maxRecDepth 100000 in
set_option maxHeartbeats 2000000 in
theorem shellSays_bad (B : Nat) (m : List (List Int)) (v : Value) (w : World) (hv : Mat B 26 3 w v m) (hx : facetsE m ≠ 0) :
    Calls Tryd.prog 3 #[v] w fun e w' => e = .returned (.bool true) ∧ Below w.heap.size w w' := by
  have HV : Hid (Mat B 26 3 w v m) := hv
  have HX : Hid (facetsE m ≠ 0) := hx
  clear hv hx
  go_enter Tryd.func3, Tryd.ntmps3
  go_wp2_with fail
  refine (heavyS_any B m v w HV.out).mono ?_
  rintro e w0 ⟨hvy, rfl, _, hw0⟩
  subst hw0
  cases hvy
  · go_wp2_with fail
    refine (facetsMay_any B m v w0 HV.out).mono ?_
    rintro e w1 ⟨rfl, hq1⟩
    have HB1 : Hid (Below w0.heap.size w0 w1) := hq1.below
    have HSB : Hid (Calls Tryd.prog 8 #[v] w1 fun e w' => e = .returned (.tuple #[.bool false, .slice none 0 0, .int .i64 (facetsE m)]) ∧ Below w1.heap.size w1 w') := shells_bad B m v w1 (HV.out.below HB1.out (Nat.le_refl _)) HX.out
    have HCK : Hid (∀ w3, Below w0.heap.size w0 w3 → Calls Tryd.prog 9 #[v] w3 fun e w' => e = .returned (.int .i64 (facetsE m)) ∧ Below w3.heap.size w3 w') := fun w3 h => checkS_any B m v w3 (HV.out.below h (Nat.le_refl _))
    have hE : (facetsE m == 0) = false := by rw [beq_eq_false_iff_ne]; exact HX.out
    have hEE : (facetsE m == facetsE m) = true := by simp
    clear hq1
    generalize facetsE m = E at *
    go_wp2_with fail
    refine HSB.out.mono ?_
    rintro e w3 ⟨rfl, hb3⟩
    have HB3 : Hid (Below w0.heap.size w0 w3) := HB1.out.trans (hb3.mono HB1.out.size)
    clear hb3
    go_wp2_with fail
    refine (HCK.out w3 HB3.out).mono ?_
    rintro e w4 ⟨rfl, hb4⟩
    have HB4 : Hid (Below w0.heap.size w0 w4) := HB3.out.trans (hb4.mono HB3.out.size)
    clear hb4
    go_wp2_with fail
    refine (same_any 0 [] [] _ _ w4 (Sl.nil _ _ _) (Sl.nil _ _ _)).mono ?_
    rintro e w5 ⟨rfl, n5, rfl⟩
    go_wp2
    go_ret
    exact ⟨rfl, bel_drewN HB4.out _⟩
  · go_wp2
    go_ret
    exact ⟨rfl, Below.refl _ _⟩

theorem shellSays_any (B : Nat) (m : List (List Int)) (v : Value) (w : World) (hv : Mat B 26 3 w v m) (hT : TabB w) :
    Calls Tryd.prog 3 #[v] w fun e w' => e = .returned (.bool true) ∧ Below w.heap.size w w' := by
  by_cases h : facetsE m = 0
  · exact shellSays_good B m v w hv h hT
  · exact shellSays_bad B m v w hv h
end Go.Proofs.YtmldemimdejciaaDoor
