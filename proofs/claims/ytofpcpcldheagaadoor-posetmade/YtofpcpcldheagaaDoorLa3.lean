/- PosetMade: the law's walk. -/
import Derived.Test.YtofpcpcldheagaaDoorLaA
import Derived.Test.YtofpcpcldheagaaDoorPo8
namespace Go.Proofs.YtofpcpcldheagaaDoor
open Go.RowKit
attribute [local go_sem ↓] Go.wp_at_zero Go.wp_at_succ

theorem posetSays_ok (n k : Nat) (es : List (Nat × Nat)) (pv : Value) (w : World) (hv : Prs w pv (npL es)) (hG : GdO n es) (hT : TabB w) (hk : k ≤ 4) :
    Calls Tryd.prog 3 #[.agg #[.int .i64 (n : Int), pv], .int .i64 (k : Int)] w fun e w' => e = .returned (.bool true) ∧ Ext w w' := by
  by_cases h : n ≤ 4
  · exact posetSays_small n k es pv w hv hG hT hk h
  · exact posetSays_big n k es pv w hv hG hT hk (by omega)

theorem pick_nat (c : Int) (m : Nat) (hm : 1 ≤ m) (h2 : m ≤ 1000) (hc : In64 c) : ∃ n : Nat, n < m ∧ ∀ W, Calls Tryd.prog 26 #[.int .i64 c, .int .i64 (m : Int)] W fun e w' => e = .returned (.int .i64 (n : Int)) ∧ w' = W := by
  obtain ⟨k1, k2⟩ := pickF_bd (c := c) (n := (m : Int)) (by omega)
  refine ⟨(pickF c m).toNat, by omega, fun W => ?_⟩
  rw [Int.toNat_of_nonneg k1]
  exact pick_val c m W (by omega) (by omega) hc

set_option maxRecDepth 100000 in
set_option maxHeartbeats 1600000 in
theorem posetMade_any (raw : List Int) (n0 m0 k0 : Int) (v : Value) (w : World) (hv : Sl w.heap.size 3 w v (ints raw)) (hr : ∀ z ∈ raw, In64 z) (hn0 : In64 n0) (hm0 : In64 m0) (hk0 : In64 k0) (hT : TabB w) :
    Calls Tryd.prog 4 #[v, .int .i64 n0, .int .i64 m0, .int .i64 k0] w fun e w' => e = .returned (.bool true) ∧ Below w.heap.size w w' := by
  by_cases hlen : 256 < raw.length
  · obtain ⟨ao, cap, hvv, hlc, hcm⟩ := sl_open hv
    subst hvv
    have hl2 : (256 : Int) < (raw.length : Int) := by omega
    clear hv hr
    go_enter Tryd.func4, Tryd.ntmps4
    go_wp2
    go_ret
    exact ⟨rfl, Below.refl _ _⟩
  · obtain ⟨n, hn6, HPN⟩ := pick_nat n0 6 (by decide) (by decide) hn0
    obtain ⟨many, hm8, HPM⟩ := pick_nat m0 9 (by decide) (by decide) hm0
    obtain ⟨k, hk4, HPK⟩ := pick_nat k0 5 (by decide) (by decide) hk0
    have HPF := posetFrom_any (n + 1) many raw v w hv hr (by omega) (by omega) (by omega) (by omega)
    obtain ⟨ao, cap, hvv, hlc, hcm⟩ := sl_open hv
    subst hvv
    have hl2 : ¬ (256 : Int) < (raw.length : Int) := by omega
    have HT : Hid (TabB w) := hT
    clear hv hr hn0 hm0 hk0 hT
    obtain ⟨n1, hnn⟩ : ∃ n1, n1 = n + 1 := ⟨_, rfl⟩
    have e1 : 1 + (n : Int) = (n1 : Int) := by omega
    rw [← hnn] at HPF
    have hb1 : 1 ≤ n1 := by omega
    have hb6 : n1 ≤ 6 := by omega
    clear hnn
    go_enter Tryd.func4, Tryd.ntmps4
    go_wp2_with fail
    refine (HPN _).mono ?_
    rintro e w1 ⟨rfl, hw⟩
    have hw2 := hw.symm
    clear hw
    subst hw2
    go_wp2_with fail
    refine (HPM _).mono ?_
    rintro e w1 ⟨rfl, hw⟩
    have hw2 := hw.symm
    clear hw
    subst hw2
    go_wp2_with fail
    refine HPF.mono ?_
    rintro e w2 ⟨u, es, rfl, hel, hes, hprs, hb2⟩
    clear HPN HPM HPF
    have hG : GdO n1 es := ⟨hb1, hb6, by omega, fun e he => ⟨(hes e he).1, Nat.lt_trans (hes e he).2 (hes e he).1⟩, fun i _ => upF_down (fun e he => (hes e he).2) i⟩
    have HPS := posetSays_ok n1 k es u w2 hprs hG (HT.out.below hb2) (by omega)
    have HB2 : Hid (Below w.heap.size w w2) := hb2
    clear hG hes hprs hb2 hel
    go_wp2_with fail
    refine (HPK _).mono ?_
    rintro e w3 ⟨rfl, hw⟩
    have hw2 := hw.symm
    clear hw
    subst hw2
    go_wp2_with fail
    refine HPS.mono ?_
    rintro e w4 ⟨rfl, hb4⟩
    have HB4 : Hid (Below w.heap.size w w4) := HB2.out.trans (Below.mono hb4 HB2.out.size)
    clear HPS hb4
    go_wp2
    go_ret
    exact ⟨rfl, HB4.out⟩

end Go.Proofs.YtofpcpcldheagaaDoor
