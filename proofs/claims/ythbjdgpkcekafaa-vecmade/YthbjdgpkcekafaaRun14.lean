/- What may be: the program's check, and the document's. -/
import Derived.Test.YthbjdgpkcekafaaRun13
namespace Go.Proofs.Ythbjdgpkcekafaa
open Go.RowKit
attribute [local go_sem ↓] Go.wp_at_zero Go.wp_at_succ

theorem vecE_hit {m : List (List Int)} {k : Nat} (h1 : 1 ≤ m.length) (h2 : m.length ≤ 24) (hk : k < m.length) (h0 : ∀ i, i < k → rowE (m.getD 0 []).length (m.getD i []) = 0) (h : rowE (m.getD 0 []).length (m.getD k []) ≠ 0) : vecE m = rowE (m.getD 0 []).length (m.getD k []) := by
  unfold vecE; rw [if_neg (by omega)]; exact rowsE_hit hk h0 h

theorem vecE_all {m : List (List Int)} (h1 : 1 ≤ m.length) (h2 : m.length ≤ 24) (h0 : ∀ i, i < m.length → rowE (m.getD 0 []).length (m.getD i []) = 0) : vecE m = 0 := by
  unfold vecE; rw [if_neg (by omega)]; exact rowsE_all h0

set_option maxRecDepth 100000 in
set_option maxHeartbeats 800000 in
theorem check_any (B : Nat) (m : List (List Int)) (v : Value) (w : World) (hv : Mat B 28 3 w v m) :
    Calls Try.prog 11 #[v] w fun e w' => e = .returned (.int .i64 (vecE m)) ∧ Below w.heap.size w w' := by
  obtain ⟨ao, cap, hvv, hlc, hcm⟩ := mat_open hv
  subst hvv
  have HV : Hid (Mat B 28 3 w (.slice ao m.length cap) m) := hv
  clear hv
  by_cases h1 : m.length < 1
  · have b1 : decide ((m.length : Int) < 1) = true := decide_eq_true (by omega)
    have HE : Hid (vecE m = 2) := if_pos (by omega)
    go_enter Try.func11, Try.ntmps11
    go_wp2
    go_ret
    exact ⟨by rw [HE.out]; rfl, Below.refl _ _⟩
  · have b1 : decide ((m.length : Int) < 1) = false := decide_eq_false (by omega)
    by_cases h2 : 24 < m.length
    · have b2 : decide ((24 : Int) < (m.length : Int)) = true := decide_eq_true (by omega)
      have HE : Hid (vecE m = 2) := if_pos (by omega)
      go_enter Try.func11, Try.ntmps11
      go_wp2
      go_ret
      exact ⟨by rw [HE.out]; rfl, Below.refl _ _⟩
    · have b2 : decide ((24 : Int) < (m.length : Int)) = false := decide_eq_false (by omega)
      go_enter Try.func11, Try.ntmps11
      go_wp2
      go_loopw [16, 4, 5] (fun i _ _ wr => ∃ t : Nat, t ≤ m.length ∧ i = .int .i64 t ∧ (∀ j, j < t → rowE (m.getD 0 []).length (m.getD j []) = 0) ∧ Below w.heap.size w wr) (fun i _ _ _ => m.length - (intOf i).toNat)
      case atStart => exact ⟨0, Nat.zero_le _, rfl, fun j hj => absurd hj (by omega), Below.refl _ _⟩
      case round =>
        obtain ⟨t, ht, rfl, hall, hbel⟩ := hrel
        have HALL : Hid (∀ j, j < t → rowE (m.getD 0 []).length (m.getD j []) = 0) := hall
        have HB : Hid (Below w.heap.size w wr) := hbel
        by_cases htn : t < m.length
        · obtain ⟨b, o, cp, u, hs, _, hcc, hu⟩ := mat_cell (HV.out.below hbel (Nat.le_refl _)) htn
          simp only [Value.slice.injEq, true_and] at hs
          obtain ⟨rfl, rfl⟩ := hs
          obtain ⟨b0, o0, cp0, u0, hs0, _, hcc0, hu0⟩ := mat_cell (HV.out.below hbel (Nat.le_refl _)) (k := 0) (by omega)
          simp only [Value.slice.injEq, true_and, Option.some.injEq, Addr.mk.injEq, and_true] at hs0
          obtain ⟨⟨rfl, rfl⟩, rfl⟩ := hs0
          obtain ⟨uo, uc, hue, _, _⟩ := sl_open hu
          obtain ⟨uo0, uc0, hue0, hul0, hum0⟩ := sl_open hu0
          subst hue hue0
          have HU : Hid (Sl B 3 wr (.slice uo (m.getD t []).length uc) (ints (m.getD t []))) := hu
          have hm0I : (0 : Int) < (m.length : Int) := by omega
          obtain ⟨c, hc⟩ : ∃ c, c = (m.getD 0 []).length := ⟨_, rfl⟩
          have HC : Hid (c = (m.getD 0 []).length) := hc
          rw [← hc] at hcc0 hul0
          obtain ⟨l, hl⟩ : ∃ l, l = (m.getD t []).length := ⟨_, rfl⟩
          rw [← hl] at HU hcc
          simp only [Nat.add_zero] at hcc0
          clear hu hu0 hbel hall hc hl
          go_wp2_with fail
          refine (checkRow_any B c (m.getD t []) _ wr HU.out (by omega)).mono ?_
          rintro e w2 ⟨rfl, hb2⟩
          have HB2 : Hid (Below w.heap.size w w2) := HB.out.trans (hb2.mono HB.out.size)
          obtain ⟨x, hx⟩ : ∃ x, x = rowE c (m.getD t []) := ⟨_, rfl⟩
          have HX : Hid (x = rowE (m.getD 0 []).length (m.getD t [])) := by rw [← HC.out]; exact hx
          rw [← hx]
          clear hx hb2 HU hcc hcc0
          by_cases hx0 : x = 0
          · have hxb : (x != 0) = false := by simp [hx0]
            have HX0 : Hid (x = 0) := hx0
            clear hx0
            go_wp2
            go_roundw
            case rel =>
              refine ⟨t + 1, by omega, by go_num, fun j hj => ?_, HB2.out⟩
              by_cases e : j = t
              · subst e; rw [← HX.out]; exact HX0.out
              · exact HALL.out j (by omega)
            case measure => simp [intOf]; omega
          · have hxb : (x != 0) = true := by simp [hx0]
            have HX0 : Hid (x ≠ 0) := hx0
            clear hx0
            go_wp2
            go_ret
            refine ⟨?_, HB2.out⟩
            rw [vecE_hit (by omega) (by omega) htn HALL.out (by rw [← HX.out]; exact HX0.out), ← HX.out]
            rfl
        · clear hbel hall
          go_wp2
          go_ret
          refine ⟨?_, HB.out⟩
          rw [vecE_all (by omega) (by omega) (fun i hi => HALL.out i (by omega))]
          rfl

end Go.Proofs.Ythbjdgpkcekafaa
