/- What the laws don't look at, and how they hold two numbers against each other. -/
import Derived.Test.YtdmkmljhljoojaaMgAA
import Derived.Test.YtdmkmljhljoojaaRefs2
namespace Go.Proofs.Ytdmkmljhljoojaa
open Go.RowKit
attribute [local go_sem ↓] Go.wp_at_zero Go.wp_at_succ

set_option maxRecDepth 100000 in
set_option maxHeartbeats 800000 in
theorem heavy_any (B : Nat) (m : List (List Int)) (v : Value) (w : World) (hv : Mat B 25 3 w v m) :
    Calls Try.prog 4 #[v] w fun e w' => ∃ b, e = .returned (.bool b) ∧ (b = false → m.length ≤ 300) ∧ w' = w := by
  obtain ⟨ao, cap, hvv, hlc, hcm⟩ := mat_open hv
  subst hvv
  have HV : Hid (Mat B 25 3 w (.slice ao m.length cap) m) := hv
  clear hv
  by_cases h1 : 300 < m.length
  · have b1 : decide ((300 : Int) < (m.length : Int)) = true := decide_eq_true (by omega)
    go_enter Try.func4, Try.ntmps4
    go_wp2
    go_ret
    exact ⟨true, rfl, (fun h => absurd h (by decide)), rfl⟩
  · have b1 : decide ((300 : Int) < (m.length : Int)) = false := decide_eq_false (by omega)
    have HL : Hid (m.length ≤ 300) := by show _ ≤ _; omega
    go_enter Try.func4, Try.ntmps4
    go_wp2
    go_loopw [3, 4] (fun n i wr => ∃ t s : Nat, t ≤ m.length ∧ s ≤ 300 * t ∧ n = .int .i64 s ∧ i = .int .i64 t ∧ wr = w) (fun _ i _ => m.length - (intOf i).toNat)
    case atStart => exact ⟨0, 0, Nat.zero_le _, Nat.le_refl _, rfl, rfl, rfl⟩
    case round =>
      obtain ⟨t, s, ht, hs, rfl, rfl, rfl⟩ := hrel
      by_cases htn : t < m.length
      · obtain ⟨b, o, cp, u, hs, _, hcc, hu⟩ := mat_cell HV.out htn
        simp only [Value.slice.injEq, true_and] at hs
        obtain ⟨rfl, rfl⟩ := hs
        obtain ⟨uo, uc, hue, hul, hum⟩ := sl_open hu
        subst hue
        generalize (m.getD t []).length = l at *
        clear hu
        by_cases hl : 300 < l
        · have b2 : decide ((300 : Int) < (l : Int)) = true := decide_eq_true (by omega)
          go_wp2
          go_ret
          exact ⟨true, rfl, (fun h => absurd h (by decide)), rfl⟩
        · have b2 : decide ((300 : Int) < (l : Int)) = false := decide_eq_false (by omega)
          go_wp2
          go_roundw
          case rel => exact ⟨t + 1, s + l, by omega, by omega, by go_num, by go_num, trivial⟩
          case measure => simp [intOf]; omega
      · go_wp2
        go_ret
        exact ⟨_, rfl, fun _ => HL.out, rfl⟩

end Go.Proofs.Ytdmkmljhljoojaa
