/- The least of a list. -/
import Derived.Test.YtmljnfgfjcjmmaaRun1
namespace Go.Proofs.Ytmljnfgfjcjmmaa
open Go.RowKit

def lowB (x : Int) : Bool := decide (x ≤ 0)

theorem min_if (m z : Int) : (if z < m then z else m) = min m z := by split <;> omega

theorem low_snoc {zs : List Int} {k : Nat} {m : Int} (hk : k < zs.length) (h : decide (m ≤ 0) = (zs.take k).any lowB) : decide (min m (zs.getD k 0) ≤ 0) = (zs.take (k + 1)).any lowB := by
  rw [List.take_succ_eq_append_getElem hk, List.any_append, ← h]
  simp only [List.any_cons, List.any_nil, Bool.or_false, lowB]
  rw [Bool.eq_iff_iff]
  simp only [decide_eq_true_eq, Bool.or_eq_true, List.getD_eq_getElem?_getD, List.getElem?_eq_getElem hk, Option.getD_some]
  omega

set_option maxRecDepth 100000 in
set_option maxHeartbeats 400000 in
theorem minS_any (B : Nat) (zs : List Int) (v : Value) (w : World) (hv : Sl B 3 w v (ints zs)) (hz : 1 ≤ zs.length) :
    Calls Try.prog 95 #[v] w fun e w' => ∃ m : Int, e = .returned (.int .i64 m) ∧ decide (m ≤ 0) = zs.any lowB ∧ w' = w := by
  obtain ⟨ao, cap, hvv, hlc, hcm⟩ := sl_open hv
  subst hvv
  have HV : Hid (Sl B 3 w (.slice ao zs.length cap) (ints zs)) := hv
  clear hv
  obtain ⟨b, o, cp, hs, hc1, hcc⟩ := sl_cell HV.out (k := 0) (by omega)
  simp only [Value.slice.injEq] at hs
  obtain ⟨rfl, _, rfl⟩ := hs
  simp only [Nat.add_zero] at hcc
  have H0 : Hid (decide (zs.getD 0 0 ≤ 0) = (zs.take 1).any lowB) := by
    cases zs with
    | nil => simp at hz
    | cons z zs => show decide (z ≤ 0) = ([z].any lowB); simp only [List.any_cons, List.any_nil, Bool.or_false, lowB]
  have hz0 : (0 : Int) < (zs.length : Int) := by omega
  have hz1 : ¬ (zs.length : Int) < 1 := by omega
  generalize zs.getD 0 0 = z0 at *
  go_enter Try.func95, Try.ntmps95
  go_wp2
  go_loopw [4, 3] (fun i u wr => ∃ (k : Nat) (m : Int), 1 ≤ k ∧ k ≤ zs.length ∧ i = .int .i64 k ∧ u = .int .i64 m ∧ decide (m ≤ 0) = (zs.take k).any lowB ∧ wr = w) (fun i _ _ => zs.length - (intOf i).toNat)
  case atStart => exact ⟨1, z0, Nat.le_refl _, hz, rfl, rfl, H0.out, rfl⟩
  case round =>
    obtain ⟨k, m, hk1, hk, rfl, rfl, hm, rfl⟩ := hrel
    have HM : Hid (decide (m ≤ 0) = (zs.take k).any lowB) := hm
    clear hm
    by_cases hlt : k < zs.length
    · obtain ⟨b', o', cp', hs, hc1', hcc'⟩ := sl_cell HV.out hlt
      simp only [Value.slice.injEq, Option.some.injEq, Addr.mk.injEq, and_true] at hs
      obtain ⟨⟨rfl, rfl⟩, _, rfl⟩ := hs
      have HN := low_snoc hlt HM.out
      have HNN : Hid (decide (min m (zs.getD k 0) ≤ 0) = (zs.take (k + 1)).any lowB) := HN
      clear HN
      generalize zs.getD k 0 = z at *
      have kI : (k : Int) < (zs.length : Int) := by omega
      have kI0 : (0 : Int) ≤ (k : Int) := by omega
      go_wp2
      go_roundw
      case rel => exact ⟨k + 1, min m z, by omega, by omega, by go_num, by rw [min_if], HNN.out, trivial⟩
      case measure => simp [intOf]; omega
    · have hke : zs.take k = zs := List.take_of_length_le (by omega)
      have HE : Hid (decide (m ≤ 0) = zs.any lowB) := by rw [← hke]; exact HM.out
      have kI : ¬ (k : Int) < (zs.length : Int) := by omega
      go_wp2
      go_ret
      exact ⟨m, rfl, HE.out, rfl⟩

end Go.Proofs.Ytmljnfgfjcjmmaa
