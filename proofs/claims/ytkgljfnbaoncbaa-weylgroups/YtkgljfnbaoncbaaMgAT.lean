import Derived.Test.YtkgljfnbaoncbaaMgAS
import Derived.Test.YtkgljfnbaoncbaaRq8
import Derived.Test.YtkgljfnbaoncbaaMgAM
import Derived.Test.YtkgljfnbaoncbaaMgAG
import Derived.Test.YtkgljfnbaoncbaaMgAB
import Derived.Test.YtkgljfnbaoncbaaMgAC
import Derived.Deep.RegionHeld3
import Derived.Deep.RegionLaw
import Derived.Deep.DrawnRows
/- weyl.Reduce, Ends, Below, Same of a square or word that may not be. Made by mkrv3.py. -/
namespace Go.Proofs.Ytkgljfnbaoncbaa
open Go.RowKit
attribute [local go_sem ↓] Go.wp_at_zero Go.wp_at_succ

set_option maxRecDepth 100000 in
theorem listV_no (E : Int) (hE : ¬ E = 0) (w : World) :
    Calls Try.prog 11 #[.slice none 0 0, .int .i64 E, .slice none 0 0, .int .i64 E] w fun x w' => x = .returned (.bool true) ∧ w' = w := by
  go_enter Try.func11, Try.ntmps11
  go_wp2
  go_ret
  exact ⟨rfl, rfl⟩

end Go.Proofs.Ytkgljfnbaoncbaa

/- What the laws don't look at, and how they hold two numbers against each other. -/
namespace Go.Proofs.Ytkgljfnbaoncbaa
open Go.RowKit
attribute [local go_sem ↓] Go.wp_at_zero Go.wp_at_succ

set_option maxRecDepth 100000 in
set_option maxHeartbeats 800000 in
theorem heavy_any (B : Nat) (m : List (List Int)) (v : Value) (w : World) (hv : Mat B 26 3 w v m) :
    Calls Try.prog 5 #[v] w fun e w' => ∃ b, e = .returned (.bool b) ∧ (b = false → m.length ≤ 300) ∧ w' = w := by
  obtain ⟨ao, cap, hvv, hlc, hcm⟩ := mat_open hv
  subst hvv
  have HV : Hid (Mat B 26 3 w (.slice ao m.length cap) m) := hv
  clear hv
  by_cases h1 : 300 < m.length
  · have b1 : decide ((300 : Int) < (m.length : Int)) = true := decide_eq_true (by omega)
    go_enter Try.func5, Try.ntmps5
    go_wp2
    go_ret
    exact ⟨true, rfl, (fun h => absurd h (by decide)), rfl⟩
  · have b1 : decide ((300 : Int) < (m.length : Int)) = false := decide_eq_false (by omega)
    have HL : Hid (m.length ≤ 300) := by show _ ≤ _; omega
    go_enter Try.func5, Try.ntmps5
    go_wp2
    go_loopw [3, 4] (fun n i wr => ∃ t s : Nat, t ≤ m.length ∧ s ≤ 300 * t ∧ n = .int .i64 s ∧ i = .int .i64 t ∧ wr = w) (fun _ i _ => m.length - (intOf i).toNat)
    case atStart => exact ⟨0, 0, Nat.zero_le _, Nat.le_refl _, rfl, rfl, rfl⟩
    case round =>
      obtain ⟨t, s, ht, hs, rfl, rfl, rfl⟩ := hrel
      by_cases htn : t < m.length
      · obtain ⟨b, o, cp, u, hs, _, hcc, hu⟩ := mat_cell HV.out htn
        simp only [Value.slice.injEq, true_and] at hs
        obtain ⟨rfl, rfl⟩ := hs
        obtain ⟨uo, uc, hue, hul, hum⟩ := sl_open hu
        subst hue
        generalize (m.getD t []).length = l at *
        clear hu
        by_cases hl : 300 < l
        · have b2 : decide ((300 : Int) < (l : Int)) = true := decide_eq_true (by omega)
          go_wp2
          go_ret
          exact ⟨true, rfl, (fun h => absurd h (by decide)), rfl⟩
        · have b2 : decide ((300 : Int) < (l : Int)) = false := decide_eq_false (by omega)
          go_wp2
          go_roundw
          case rel => exact ⟨t + 1, s + l, by omega, by omega, by go_num, by go_num, trivial⟩
          case measure => simp [intOf]; omega
      · go_wp2
        go_ret
        exact ⟨_, rfl, fun _ => HL.out, rfl⟩

end Go.Proofs.Ytkgljfnbaoncbaa

/- The law's own looks: two lists that are the same. -/
namespace Go.Proofs.Ytkgljfnbaoncbaa
open Go.RowKit
attribute [local go_sem ↓] Go.wp_at_zero Go.wp_at_succ

set_option maxRecDepth 100000 in
theorem list_same (B : Nat) (x : List Int) (u v : Value) (w : World) (hu : Sl B 3 w u (ints x)) (hv : Sl B 3 w v (ints x)) :
    Calls Try.prog 11 #[u, .int .i64 0, v, .int .i64 0] w fun x w' => x = .returned (.bool true) ∧ Below w.heap.size w w' := by
  obtain ⟨uo, uc, rfl, _, _⟩ := sl_open hu
  obtain ⟨vo, vc, rfl, _, _⟩ := sl_open hv
  have HU : Hid (Sl B 3 w (.slice uo x.length uc) (ints x)) := hu
  have HV : Hid (Sl B 3 w (.slice vo x.length vc) (ints x)) := hv
  clear hu hv
  go_enter Try.func11, Try.ntmps11
  go_wp2_with fail
  refine (same_any B x x _ _ w HU.out HV.out).mono ?_
  rintro e w' ⟨rfl, n, rfl⟩
  have hxx : (x == x) = true := by simp
  rw [hxx]
  go_wp2
  go_ret
  exact ⟨rfl, ⟨rfl, rfl, rfl, Nat.le_refl _, fun _ _ => rfl⟩⟩

end Go.Proofs.Ytkgljfnbaoncbaa
