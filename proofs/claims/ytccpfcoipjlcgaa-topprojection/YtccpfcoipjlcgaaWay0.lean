/- Is a number of a list not above 0? -/
import Derived.Test.YtccpfcoipjlcgaaRun1
namespace Go.Proofs.Ytccpfcoipjlcgaa
open Go.RowKit

def lowB (x : Int) : Bool := decide (x ≤ 0)

set_option maxHeartbeats 400000 in
theorem low1_any (x : Int) (w : World) :
    Calls Try.prog 62 #[.int .i64 x] w fun e w' => e = .returned (.bool (lowB x)) ∧ w' = w := by
  go_enter Try.func62, Try.ntmps62
  go_wp2
  go_ret
  exact ⟨rfl, rfl⟩

set_option maxHeartbeats 400000 in
theorem indexLow_any (B : Nat) (zs : List Int) (v : Value) (w : World) (hv : Sl B 3 w v (ints zs)) :
    Calls Try.prog 41 #[v, .func (.func 62) #[] #[]] w fun e w' => e = .returned (.int .i64 (findI lowB zs)) ∧ w' = w := by
  obtain ⟨ao, cap, hvv, hlc, hcm⟩ := sl_open hv
  subst hvv
  have HV : Hid (Sl B 3 w (.slice ao zs.length cap) (ints zs)) := hv
  clear hv
  go_enter Try.func41, Try.ntmps41
  go_wp2
  go_loop [8] (fun i => ∃ k : Nat, k ≤ zs.length ∧ i = .int .i64 k ∧ (zs.take k).any lowB = false) (fun i => zs.length - (intOf i).toNat)
  case atStart => exact ⟨0, Nat.zero_le _, rfl, by simp⟩
  case round =>
    obtain ⟨k, hk, rfl, hno⟩ := hrel
    have HN : Hid ((zs.take k).any lowB = false) := hno
    clear hno
    by_cases hlt : k < zs.length
    · obtain ⟨b, o, cp, hs, hc1, hcc⟩ := sl_cell HV.out hlt
      simp only [Value.slice.injEq] at hs
      obtain ⟨rfl, _, rfl⟩ := hs
      go_wp2_with (go_at_call 62; refine (low1_any _ _).mono ?_; rintro e w' ⟨rfl, rfl⟩)
      · have hf : lowB zs[k] = true := by assumption
        go_ret
        exact ⟨ret_int (findI_hit (p := lowB) hlt HN.out hf).symm, rfl⟩
      · have hf : lowB zs[k] = false := by assumption
        go_round
        case rel => exact ⟨k + 1, by omega, by go_num, (any_snoc hlt HN.out).trans hf⟩
        case measure => simp [intOf]; omega
    · go_wp2
      go_ret
      have e : zs.take k = zs := List.take_of_length_le (by omega)
      exact ⟨ret_int (findI_none (by rw [← HN.out, e])).symm, rfl⟩

set_option maxHeartbeats 400000 in
theorem containsLow_any (B : Nat) (zs : List Int) (v : Value) (w : World) (hv : Sl B 3 w v (ints zs)) :
    Calls Try.prog 33 #[v, .func (.func 62) #[] #[]] w fun e w' => e = .returned (.bool (zs.any lowB)) ∧ w' = w := by
  go_enter Try.func33, Try.ntmps33
  go_wp2_with fail
  refine (indexLow_any B zs v w hv).mono ?_
  rintro e w' ⟨rfl, rfl⟩
  go_wp2
  go_ret
  exact ⟨ret_bool findI_ge, rfl⟩

end Go.Proofs.Ytccpfcoipjlcgaa
