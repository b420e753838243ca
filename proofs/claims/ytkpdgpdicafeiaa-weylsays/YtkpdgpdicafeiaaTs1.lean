/- tropic: what may be, terms, the least of a list, where it is. -/
import Derived.Test.YtkpdgpdicafeiaaDatA
import Derived.Test.YtkpdgpdicafeiaaCycAll
import Derived.Test.YtkpdgpdicafeiaaRefs
import Derived.Deep.RegionHeld3
import Derived.Deep.RegionLaw
import Derived.Deep.DrawnRows
import Derived.Test.YtkpdgpdicafeiaaRsA
import Derived.Deep.OwnRows
namespace Go.Proofs.Ytkpdgpdicafeiaa
open Go.RowKit
attribute [local go_sem ↓] Go.wp_at_zero Go.wp_at_succ

/-- The least of the first k + 1. -/
def minTo (zs : List Int) : Nat → Int
  | 0 => zs.getD 0 0
  | k + 1 => if zs.getD (k + 1) 0 < minTo zs k then zs.getD (k + 1) 0 else minTo zs k

def minL (zs : List Int) : Int := minTo zs (zs.length - 1)

theorem minTo_le (zs : List Int) : ∀ k j, j ≤ k → minTo zs k ≤ zs.getD j 0
  | 0, j, h => by rw [show j = 0 by omega]; exact Int.le_refl _
  | k + 1, j, h => by
    simp only [minTo]
    by_cases e : j = k + 1
    · subst e; split <;> omega
    · have := minTo_le zs k j (by omega)
      split <;> omega

theorem minTo_mem (zs : List Int) : ∀ k, ∃ j, j ≤ k ∧ zs.getD j 0 = minTo zs k
  | 0 => ⟨0, Nat.le_refl _, rfl⟩
  | k + 1 => by
    simp only [minTo]
    split
    · exact ⟨k + 1, Nat.le_refl _, rfl⟩
    · obtain ⟨j, h1, h2⟩ := minTo_mem zs k
      exact ⟨j, by omega, h2⟩

theorem minL_le {zs : List Int} {j : Nat} (h : j < zs.length) : minL zs ≤ zs.getD j 0 := minTo_le zs _ j (by omega)
theorem minL_mem {zs : List Int} (h : 0 < zs.length) : ∃ j, j < zs.length ∧ zs.getD j 0 = minL zs := by
  obtain ⟨j, h1, h2⟩ := minTo_mem zs (zs.length - 1)
  exact ⟨j, by omega, h2⟩

set_option maxRecDepth 100000 in
set_option maxHeartbeats 400000 in
theorem minT_any (B : Nat) (zs : List Int) (v : Value) (w : World) (hv : Sl B 3 w v (ints zs)) (hp : 0 < zs.length) :
    Calls Try.prog 38 #[v] w fun e w' => e = .returned (.int .i64 (minL zs)) ∧ w' = w := by
  obtain ⟨ao, cap, hvv, hlc, hcm⟩ := sl_open hv
  subst hvv
  have HV : Hid (Sl B 3 w (.slice ao zs.length cap) (ints zs)) := hv
  obtain ⟨b0, o0, c0, hs0, _, hcc0⟩ := sl_cell hv hp
  simp only [Value.slice.injEq] at hs0
  obtain ⟨rfl, _, rfl⟩ := hs0
  have HM0 : Hid (zs.getD 0 0 = minTo zs 0) := rfl
  rw [HM0.out, Nat.add_zero] at hcc0
  have hp0 : (0 : Int) < (zs.length : Int) := by omega
  have b1 : decide ((zs.length : Int) < 1) = false := decide_eq_false (by omega)
  clear hv
  go_enter Try.func38, Try.ntmps38
  go_wp2
  go_loopw [3, 4] (fun m i wr => ∃ k : Nat, k + 1 ≤ zs.length ∧ i = .int .i64 ((k : Int) + 1) ∧ m = .int .i64 (minTo zs k) ∧ wr = w) (fun _ i _ => zs.length - (intOf i).toNat)
  case atStart => exact ⟨0, hp, rfl, rfl, rfl⟩
  case round =>
    obtain ⟨k, hk, rfl, rfl, rfl⟩ := hrel
    by_cases hlt : k + 1 < zs.length
    · obtain ⟨b1, o1, c1, hs1, _, hcc1⟩ := sl_cell HV.out (k := k + 1) hlt
      simp only [Value.slice.injEq, Option.some.injEq, Addr.mk.injEq] at hs1
      obtain ⟨⟨rfl, rfl, _⟩, _, rfl⟩ := hs1
      have HS : Hid (minTo zs (k + 1) = if zs.getD (k + 1) 0 < minTo zs k then zs.getD (k + 1) 0 else minTo zs k) := rfl
      generalize zs.getD (k + 1) 0 = x at *
      generalize minTo zs k = m at *
      go_wp2
      go_roundw
      case rel => exact ⟨k + 1, by omega, by go_num, by rw [HS.out], trivial⟩
      case measure => simp [intOf]; omega
    · have HE : Hid (minTo zs k = minL zs) := by
        show _ = _
        unfold minL
        rw [show zs.length - 1 = k by omega]
      rw [HE.out]
      have hkf : decide ((k : Int) + 1 < (zs.length : Int)) = false := by simp; omega
      go_wp2
      go_ret
      exact ⟨rfl, rfl⟩

end Go.Proofs.Ytkpdgpdicafeiaa
