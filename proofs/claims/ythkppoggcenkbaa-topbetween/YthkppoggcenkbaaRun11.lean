/- The program's column without a pivot. -/
import Derived.Test.YthkppoggcenkbaaRun10
namespace Go.Proofs.Ythkppoggcenkbaa
open Go.RowKit Lin
attribute [local go_sem ↓] Go.wp_at_zero Go.wp_at_succ

set_option maxRecDepth 100000 in
set_option maxHeartbeats 800000 in
theorem free_col (R k pc : Nat) (po : Option Addr) (a0 a2 a3 : Value) (C : Nat → Nat) (B : Nat) (w : World) (hk : k ≤ 500) (hC : ∀ b, b < k → C b < 1000) (hR : w.heap[R]? = some (.cells #[a0, .slice po k pc, a2, a3] 64 (0, 0))) (hv : Sl B 3 w (.slice po k pc) (ints ((List.range k).map fun b => (C b : Int)))) :
    Calls Try.prog 45 #[.pointer (some ⟨R, 0, none⟩)] w fun e w' => ∃ f : Nat, e = .returned (.int .i64 f) ∧ f ≤ k ∧ (∀ b, b < f → C b = b) ∧ (f < k → C f ≠ f) ∧ w' = w := by
  have h1 : w.cell? ⟨R, 1, none⟩ = some (.slice po k pc) := by simp [World.cell?, hR]
  have HV : Hid (Sl B 3 w (.slice po k pc) (ints ((List.range k).map fun b => (C b : Int)))) := hv
  have HC : Hid (∀ b, b < k → C b < 1000) := hC
  clear hv hC hR
  go_enter Try.func45, Try.ntmps45
  go_wp2
  go_loopw [3] (fun i wr => ∃ f : Nat, i = .int .i64 f ∧ wr = w ∧ f ≤ k ∧ ∀ b, b < f → C b = b) (fun i _ => k - (intOf i).toNat)
  case atStart => exact ⟨0, rfl, rfl, Nat.zero_le _, fun b hb => absurd hb (by omega)⟩
  case round =>
    obtain ⟨f, rfl, rfl, hf, hall⟩ := hrel
    have HALL : Hid (∀ b, b < f → C b = b) := hall
    clear hall
    by_cases hfk : f < k
    · obtain ⟨b, o, cp, hs, hc1, hcc⟩ := sl_cell HV.out (k := f) (by simpa using hfk)
      simp only [Value.slice.injEq, List.length_map, List.length_range] at hs
      obtain ⟨rfl, _, rfl⟩ := hs
      have hg : ((List.range k).map fun b => (C b : Int)).getD f 0 = (C f : Int) := by simp [hfk]
      rw [hg] at hcc
      have hfI : (f : Int) < (k : Int) := by omega
      have hcf := HC.out f hfk
      obtain ⟨cf, hcf2⟩ : ∃ cf, cf = C f := ⟨_, rfl⟩
      have HCF : Hid (cf = C f) := hcf2
      rw [← hcf2] at hcc hcf
      clear hcf2 hg
      by_cases he : cf = f
      · have HE : Hid (cf = f) := he
        have heb : ((cf : Int) == (f : Int)) = true := by rw [beq_iff_eq]; omega
        clear he
        go_wp2
        go_roundw
        case rel =>
          refine ⟨f + 1, by go_num, trivial, by omega, fun b hb => ?_⟩
          by_cases e : b = f
          · subst e; rw [← HCF.out]; exact HE.out
          · exact HALL.out b (by omega)
        case measure => simp [intOf]; omega
      · have HE : Hid (cf ≠ f) := he
        have heb : ((cf : Int) == (f : Int)) = false := by rw [beq_eq_false_iff_ne]; omega
        clear he
        go_wp2
        go_ret
        exact ⟨f, rfl, hf, HALL.out, fun _ => by rw [← HCF.out]; exact HE.out, rfl⟩
    · have hfI : ¬ (f : Int) < (k : Int) := by omega
      go_wp2
      go_ret
      exact ⟨f, rfl, hf, HALL.out, fun h => absurd h hfk, rfl⟩

end Go.Proofs.Ythkppoggcenkbaa
