/- The document's Holds. -/
import Derived.Test.YtkpdgpdicafeiaaDatA
import Derived.Test.YtkpdgpdicafeiaaTpA
namespace Go.Proofs.Ytkpdgpdicafeiaa
open Go.RowKit
attribute [local go_sem ↓] Go.wp_at_zero Go.wp_at_succ

set_option maxRecDepth 100000 in
set_option maxHeartbeats 800000 in
theorem holdsD_any (B : Nat) (x : List Int) (m : List (List Int)) (u v : Value) (w : World) (hu : Sl B 3 w u (ints x)) (hv : Mat B 23 3 w v m) :
    Calls Try.prog 21 #[v, u] w fun e w' => e = .returned (.bool (m.any (· == x))) ∧ ∃ n, w' = w.drewN n := by
  obtain ⟨ao, cap, hvv, hlc, hcm⟩ := mat_open hv
  subst hvv
  have HU : Hid (Sl B 3 w u (ints x)) := hu
  have HV : Hid (Mat B 23 3 w (.slice ao m.length cap) m) := hv
  clear hu hv
  go_enter Try.func21, Try.ntmps21
  go_wp2
  go_loopw [5] (fun i wr => ∃ k : Nat, k ≤ m.length ∧ i = .int .i64 k ∧ (m.take k).any (fun z => z == x) = false ∧ ∃ n, wr = w.drewN n) (fun i _ => m.length - (intOf i).toNat)
  case atStart => exact ⟨0, Nat.zero_le _, rfl, by simp, 0, rfl⟩
  case round =>
    obtain ⟨k, hk, rfl, hno, n, rfl⟩ := hrel
    have HN : Hid ((m.take k).any (fun z => z == x) = false) := hno
    clear hno
    by_cases hlt : k < m.length
    · obtain ⟨b, o, cp, r1, hs, hc1, hcc, hr1⟩ := mat_cell (HV.out.drewN n) hlt
      simp only [Value.slice.injEq] at hs
      obtain ⟨rfl, _, rfl⟩ := hs
      have HR1 : Hid (Sl B 3 (w.drewN n) r1 (ints (m.getD k []))) := hr1
      have HS1 : Hid ((m.take (k + 1)).any (fun z => z == x) = (m.getD k [] == x)) := anyT_snoc (p := fun z => z == x) hlt HN.out
      have HG : Hid ((m.getD k [] == x) = true → m.any (fun z => z == x) = true) := fun h => anyT_get (p := fun z => z == x) hlt h
      clear hr1
      generalize m.getD k [] = z at *
      go_wp2_with fail
      refine (same_any B z x r1 u (w.drewN n) HR1.out (HU.out.drewN n)).mono ?_
      rintro e w' ⟨rfl, n2, rfl⟩
      cases hf : (z == x)
      · have HF : Hid ((z == x) = false) := hf
        clear hf
        go_wp2
        go_roundw
        case rel => exact ⟨k + 1, by omega, by go_num, by rw [HS1.out]; exact HF.out, _, rfl⟩
        case measure => simp [intOf]; omega
      · have HF : Hid ((z == x) = true) := hf
        clear hf
        go_wp2
        go_ret
        exact ⟨ret_bool (HG.out HF.out).symm, _, rfl⟩
    · have hke : m.take k = m := List.take_of_length_le (by omega)
      have HE : Hid (m.any (fun z => z == x) = false) := by rw [← hke]; exact HN.out
      go_wp2
      go_ret
      exact ⟨ret_bool HE.out.symm, n, rfl⟩

end Go.Proofs.Ytkpdgpdicafeiaa
