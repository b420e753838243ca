/- What may be, by the document; what the laws don't look at. -/
import Derived.Test.YthbjdgpkcekafaaRun14
namespace Go.Proofs.Ythbjdgpkcekafaa
open Go.RowKit
attribute [local go_sem ↓] Go.wp_at_zero Go.wp_at_succ

set_option maxRecDepth 100000 in
set_option maxHeartbeats 2000000 in
theorem vecMay_any (B : Nat) (m : List (List Int)) (v : Value) (w : World) (hv : Mat B 28 3 w v m) :
    Calls Try.prog 6 #[v] w fun e w' => e = .returned (.int .i64 (vecE m)) ∧ Below w.heap.size w w' := by
  obtain ⟨ao, cap, hvv, hlc, hcm⟩ := mat_open hv
  subst hvv
  have HV : Hid (Mat B 28 3 w (.slice ao m.length cap) m) := hv
  clear hv
  by_cases h1 : m.length < 1
  · have b1 : decide ((m.length : Int) < 1) = true := decide_eq_true (by omega)
    have HE : Hid (vecE m = 2) := if_pos (by omega)
    go_enter Try.func6, Try.ntmps6
    go_wp2
    go_ret
    exact ⟨by rw [HE.out]; rfl, Below.refl _ _⟩
  · have b1 : decide ((m.length : Int) < 1) = false := decide_eq_false (by omega)
    by_cases h2 : 24 < m.length
    · have b2 : decide ((24 : Int) < (m.length : Int)) = true := decide_eq_true (by omega)
      have HE : Hid (vecE m = 2) := if_pos (by omega)
      go_enter Try.func6, Try.ntmps6
      go_wp2
      go_ret
      exact ⟨by rw [HE.out]; rfl, Below.refl _ _⟩
    · have b2 : decide ((24 : Int) < (m.length : Int)) = false := decide_eq_false (by omega)
      go_enter Try.func6, Try.ntmps6
      go_wp2
      go_loopw [3] (fun i wr => ∃ t : Nat, t ≤ m.length ∧ i = .int .i64 t ∧ (∀ j, j < t → rowE (m.getD 0 []).length (m.getD j []) = 0) ∧ Below w.heap.size w wr) (fun i _ => m.length - (intOf i).toNat)
      case atStart => exact ⟨0, Nat.zero_le _, rfl, fun j hj => absurd hj (by omega), Below.refl _ _⟩
      case round =>
        obtain ⟨t, ht, rfl, hall, hbel⟩ := hrel
        have HALL : Hid (∀ j, j < t → rowE (m.getD 0 []).length (m.getD j []) = 0) := hall
        have HB : Hid (Below w.heap.size w wr) := hbel
        by_cases htn : t < m.length
        · obtain ⟨b, o, cp, u, hs, _, hcc, hu⟩ := mat_cell (HV.out.below hbel (Nat.le_refl _)) htn
          simp only [Value.slice.injEq, true_and] at hs
          obtain ⟨rfl, rfl⟩ := hs
          obtain ⟨b0, o0, cp0, u0, hs0, _, hcc0, hu0⟩ := mat_cell (HV.out.below hbel (Nat.le_refl _)) (k := 0) (by omega)
          simp only [Value.slice.injEq, true_and, Option.some.injEq, Addr.mk.injEq, and_true] at hs0
          obtain ⟨⟨rfl, rfl⟩, rfl⟩ := hs0
          obtain ⟨uo, uc, hue, hul, hum⟩ := sl_open hu
          obtain ⟨uo0, uc0, hue0, hul0, hum0⟩ := sl_open hu0
          subst hue hue0
          have HU : Hid (Sl B 3 wr (.slice uo (m.getD t []).length uc) (ints (m.getD t []))) := hu
          have hm0I : (0 : Int) < (m.length : Int) := by omega
          obtain ⟨c, hc⟩ : ∃ c, c = (m.getD 0 []).length := ⟨_, rfl⟩
          have HC : Hid (c = (m.getD 0 []).length) := hc
          rw [← hc] at hcc0 hul0
          obtain ⟨l, hl⟩ : ∃ l, l = (m.getD t []).length := ⟨_, rfl⟩
          have HL : Hid (l = (m.getD t []).length) := hl
          rw [← hl] at HU hcc hul
          simp only [Nat.add_zero] at hcc0
          have hit : rowE c (m.getD t []) ≠ 0 → vecE m = rowE c (m.getD t []) := fun h => by
            rw [HC.out] at h ⊢; exact vecE_hit (by omega) (by omega) htn HALL.out h
          have HIT : Hid (rowE c (m.getD t []) ≠ 0 → vecE m = rowE c (m.getD t [])) := hit
          have HTI0 : (0 : Int) ≤ (t : Int) := by omega
          have HTI : (t : Int) < (m.length : Int) := by omega
          clear hu hu0 hbel hall hc hl hit
          by_cases h0 : l = c
          · subst h0
            have c0 : ((l : Int) != (l : Int)) = false := by simp
            by_cases h3 : l < 1
            · have c1 : decide ((l : Int) < 1) = true := decide_eq_true (by omega)
              have HE : Hid (vecE m = 3) := by
                have e : rowE l (m.getD t []) = 3 := if_pos (by omega)
                have := HIT.out (by rw [e]; decide)
                rw [e] at this; exact this
              go_wp2
              go_region
              go_wp2
              go_ret
              exact ⟨by rw [HE.out]; rfl, HB.out.drew⟩
            · have c1 : decide ((l : Int) < 1) = false := decide_eq_false (by omega)
              by_cases h4 : 5 < l
              · have c2 : decide ((5 : Int) < (l : Int)) = true := decide_eq_true (by omega)
                have HE : Hid (vecE m = 3) := by
                  have e : rowE l (m.getD t []) = 3 := if_pos (by omega)
                  have := HIT.out (by rw [e]; decide)
                  rw [e] at this; exact this
                go_wp2
                go_region
                go_wp2
                go_ret
                exact ⟨by rw [HE.out]; rfl, HB.out.drew⟩
              · have c2 : decide ((5 : Int) < (l : Int)) = false := decide_eq_false (by omega)
                have HE : Hid (rowE l (m.getD t []) = if (m.getD t []).any (farB · 60) then 4 else 0) := if_neg (by have := HL.out; omega)
                go_wp2
                go_region
                go_wp2_with fail
                refine (farAny_any B (m.getD t []) _ 60 _ HU.out.drew (by decide) (by decide)).mono ?_
                rintro e w2 ⟨rfl, rfl⟩
                cases han : (m.getD t []).any (farB · 60)
                · rw [han] at HE
                  go_wp2
                  go_roundw
                  case rel =>
                    refine ⟨t + 1, by omega, by go_num, fun j hj => ?_, HB.out.drew⟩
                    by_cases e : j = t
                    · subst e; rw [← HC.out, HE.out]; rfl
                    · exact HALL.out j (by omega)
                  case measure => simp [intOf]; omega
                · rw [han] at HE
                  have HE4 : Hid (vecE m = 4) := by
                    have := HIT.out (by rw [HE.out]; decide)
                    rw [HE.out] at this; exact this
                  go_wp2
                  go_ret
                  exact ⟨by rw [HE4.out]; rfl, HB.out.drew⟩
          · have c0 : ((l : Int) != (c : Int)) = true := by rw [bne_iff_ne]; omega
            have HE : Hid (vecE m = 3) := by
              have e : rowE c (m.getD t []) = 3 := if_pos (by have := HL.out; omega)
              have := HIT.out (by rw [e]; decide)
              rw [e] at this; exact this
            clear h0
            go_wp2
            go_region
            go_wp2
            go_ret
            exact ⟨by rw [HE.out]; rfl, HB.out.drew⟩
        · clear hbel hall
          go_wp2
          go_ret
          refine ⟨?_, HB.out⟩
          rw [vecE_all (by omega) (by omega) (fun i hi => HALL.out i (by omega))]
          rfl

end Go.Proofs.Ythbjdgpkcekafaa
