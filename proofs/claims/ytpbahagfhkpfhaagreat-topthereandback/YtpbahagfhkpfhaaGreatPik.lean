/- Which of n things a raw number speaks of. -/
import Derived.Test.YtpbahagfhkpfhaaGreatMade1
namespace Go.Proofs.YtpbahagfhkpfhaaGreat
open Go.RowKit

def pickF (c n : Int) : Int := if c < 0 then (-(c + 1)) % n else c % n

theorem pickF_bd {c n : Int} (h : 1 ≤ n) : 0 ≤ pickF c n ∧ pickF c n < n := by
  unfold pickF
  split
  · exact ⟨Int.emod_nonneg _ (by omega), Int.emod_lt_of_pos _ (by omega)⟩
  · exact ⟨Int.emod_nonneg _ (by omega), Int.emod_lt_of_pos _ (by omega)⟩

set_option maxRecDepth 100000 in
set_option maxHeartbeats 400000 in
theorem pick_val (c n : Int) (w : World) (h1 : 1 ≤ n) (h2 : n ≤ 4611686018427387904) (hc : In64 c) :
    Calls Tryz.prog 4 #[.int .i64 c, .int .i64 n] w fun e w' => e = .returned (.int .i64 (pickF c n)) ∧ w' = w := by
  have c0 : -9223372036854775808 ≤ c := hc.1
  have c1 : c ≤ 9223372036854775807 := hc.2
  clear hc
  have hn0 : ¬ n = 0 := by omega
  by_cases hcn : c < 0
  · have HE : Hid (pickF c n = (-(c + 1)) % n) := if_pos hcn
    have e0 : (-(c + 1)).tmod n = (-(c + 1)) % n := Int.tmod_eq_emod_of_nonneg (by omega)
    have e1 := Int.emod_nonneg (-(c + 1)) hn0
    have e2 := Int.emod_lt_of_pos (-(c + 1)) (show 0 < n by omega)
    go_enter Tryz.func4, Tryz.ntmps4
    go_wp2
    go_ret
    exact ⟨by rw [HE.out]; rfl, rfl⟩
  · have HE : Hid (pickF c n = c % n) := if_neg hcn
    have e0 : c.tmod n = c % n := Int.tmod_eq_emod_of_nonneg (by omega)
    have e1 := Int.emod_nonneg c hn0
    have e2 := Int.emod_lt_of_pos c (show 0 < n by omega)
    go_enter Tryz.func4, Tryz.ntmps4
    go_wp2
    go_ret
    exact ⟨by rw [HE.out]; rfl, rfl⟩

end Go.Proofs.YtpbahagfhkpfhaaGreat
