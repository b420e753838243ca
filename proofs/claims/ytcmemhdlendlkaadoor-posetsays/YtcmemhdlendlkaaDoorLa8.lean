/- PosetSays: whatever is handed in. -/
import Derived.Test.YtcmemhdlendlkaaDoorLaA
import Derived.Test.YtcmemhdlendlkaaDoorLaB
import Derived.Test.YtcmemhdlendlkaaDoorEr4
namespace Go.Proofs.YtcmemhdlendlkaaDoor
open Go.RowKit
attribute [local go_sem ↓] Go.wp_at_zero Go.wp_at_succ

set_option maxRecDepth 100000 in
theorem posetSays_any (N k : Int) (zs : List (Int × Int)) (pv : Value) (w : World) (hv : Prs w pv zs) (hT : TabB w) :
    Calls Tryd.prog 3 #[.agg #[.int .i64 N, pv], .int .i64 k] w fun e w' => e = .returned (.bool true) ∧ Below w.heap.size w w' := by
  by_cases hlen : 100 < zs.length
  · obtain ⟨po, pc, hpv, -⟩ := hv
    subst hpv
    have hl2 : (100 : Int) < (zs.length : Int) := by omega
    have HB : Hid (Below w.heap.size w (w.alloc (.cells #[.int .i64 N, .slice po zs.length pc] 24))) := (Below.refl _ _).alloc (Nat.le_refl _) _
    go_enter Tryd.func3, Tryd.ntmps3
    go_wp2
    go_ret
    exact ⟨rfl, HB.out⟩
  · by_cases hE : rdE N zs = 0
    · obtain ⟨n, rfl, hz, hG⟩ := rdE_ok hE
      have hv2 : Prs w pv (npL (toNp zs)) := by rw [hz]; exact hv
      by_cases h4 : n ≤ 4
      · by_cases hk : k < 0 ∨ 6 < k
        · exact posetSays_small_rng n k _ pv w hv2 hG hT hk h4
        · by_cases hk4 : 4 < k
          · exact posetSays_small_mid n k _ pv w hv2 hG hT ⟨hk4, by omega⟩ h4
          · obtain ⟨m, rfl⟩ : ∃ m : Nat, k = (m : Int) := ⟨k.toNat, by omega⟩
            exact posetSays_small n m _ pv w hv2 hG hT (by omega) h4
      · by_cases hk : k < 0 ∨ 6 < k
        · exact posetSays_big_rng n k _ pv w hv2 hG hT hk (by omega)
        · by_cases hk4 : 4 < k
          · exact posetSays_big_mid n k _ pv w hv2 hG hT ⟨hk4, by omega⟩ (by omega)
          · obtain ⟨m, rfl⟩ : ∃ m : Nat, k = (m : Int) := ⟨k.toNat, by omega⟩
            exact posetSays_big n m _ pv w hv2 hG hT (by omega) (by omega)
    · exact posetSays_no N k zs pv w hv hE (by omega)

end Go.Proofs.YtcmemhdlendlkaaDoor
