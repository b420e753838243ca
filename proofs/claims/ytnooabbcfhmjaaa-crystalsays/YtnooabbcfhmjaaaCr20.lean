/- The laws CrystalSays, CrystalMade. -/
import Derived.Test.YtnooabbcfhmjaaaCr19
import Derived.Test.YtnooabbcfhmjaaaMade1
import Derived.Test.YtnooabbcfhmjaaaWk9c
namespace Go.Proofs.Ytnooabbcfhmjaaa
open Go.RowKit
attribute [local go_sem ↓] Go.wp_at_zero Go.wp_at_succ

set_option maxRecDepth 100000 in
theorem crystalSays_any (B : Nat) (n : Int) (m : List Int) (i : Int) (v : Value) (w : World) (hv : Sl B 3 w v (ints m)) :
    Calls Try.prog 3 #[.int .i64 n, v, .int .i64 i] w fun e w' => e = .returned (.bool true) ∧ Below w.heap.size w w' := by
  by_cases h3 : 300 < m.length
  · obtain ⟨ao, cap, hvv, hlc, hcm⟩ := sl_open hv
    subst hvv
    have h3I : (300 : Int) < (m.length : Int) := by omega
    clear hv
    go_enter Try.func3, Try.ntmps3
    go_wp2
    go_ret
    exact ⟨rfl, Below.refl _ _⟩
  · by_cases h0 : chkE n m = 0
    · have hm := chkE_may h0
      have h1 := hm.n1
      have h4 := hm.n3
      have h8 := hm.l8
      obtain ⟨k, rfl⟩ : ∃ k : Nat, n = (k : Int) := ⟨n.toNat, by omega⟩
      have hlw := hm.lw
      rw [Int.toNat_natCast] at hlw
      have he := hm.eq
      have hl : (natOf m).length ≤ 8 := by rw [natOf_len]; exact h8
      rw [← he] at hv h0
      exact says_ok B k (natOf m) i v w hv h0 (by omega) (by omega) hl hlw
    · exact says_no B n m i v w hv (by omega) h0

set_option maxRecDepth 100000 in
set_option maxHeartbeats 800000 in
theorem crystalMade_any (B : Nat) (raw : List Int) (n0 m0 i0 : Int) (v : Value) (w : World) (hv : Sl B 3 w v (ints raw)) (hr : ∀ z ∈ raw, In64 z) (hn : In64 n0) (hm : In64 m0) (hi : In64 i0) :
    Calls Try.prog 4 #[v, .int .i64 n0, .int .i64 m0, .int .i64 i0] w fun e w' => e = .returned (.bool true) ∧ Below w.heap.size w w' := by
  obtain ⟨ao, cap, hvv, hlc, hcm⟩ := sl_open hv
  subst hvv
  by_cases hlen : 256 < raw.length
  · have hl2 : (256 : Int) < (raw.length : Int) := by omega
    clear hv hr
    go_enter Try.func4, Try.ntmps4
    go_wp2
    go_ret
    exact ⟨rfl, Below.refl _ _⟩
  · have hl2 : ¬ (256 : Int) < (raw.length : Int) := by omega
    have HV : Hid (Sl B 3 w (.slice ao raw.length cap) (ints raw)) := hv
    have HRR : Hid (∀ z ∈ raw, In64 z) := hr
    have HP1 := pick_any n0 3 w (by decide) (by decide) hn
    have HPM : Hid (∀ W, Calls Try.prog 19 #[.int .i64 m0, .int .i64 7] W fun e w' => ∃ z, e = .returned (.int .i64 z) ∧ (0 ≤ z ∧ z < 7) ∧ w' = W) := fun W => pick_any m0 7 W (by decide) (by decide) hm
    have HPI : Hid (∀ (k : Int) W, 1 ≤ k → k ≤ 10 → Calls Try.prog 19 #[.int .i64 i0, .int .i64 k] W fun e w' => ∃ z, e = .returned (.int .i64 z) ∧ (0 ≤ z ∧ z < k) ∧ w' = W) := fun k W h1 h2 => pick_any i0 k W h1 (by omega) hi
    clear hv hr hn hm hi
    go_enter Try.func4, Try.ntmps4
    go_wp2_with fail
    refine HP1.mono ?_
    rintro e w1 ⟨z, rfl, ⟨hz0, hz1⟩, rfl⟩
    have HPM1 := HPM.out w1
    clear HP1 HPM
    go_wp2_with fail
    refine HPM1.mono ?_
    rintro e w2 ⟨mz, rfl, ⟨hm0, hm1⟩, rfl⟩
    obtain ⟨k, rfl⟩ : ∃ k : Nat, z = (k : Int) := ⟨z.toNat, by omega⟩
    obtain ⟨many, rfl⟩ : ∃ k : Nat, mz = (k : Int) := ⟨mz.toNat, by omega⟩
    have HWF := wordFromS_any B raw (.slice ao raw.length cap) 0 (k + 2) many w2 HV.out HRR.out (by omega) (by omega) (by omega) (by omega) (by omega)
    have ek : ((k + 2 : Nat) : Int) = 1 + (k : Int) + 1 := by omega
    have e0 : ((0 : Nat) : Int) = 0 := rfl
    rw [ek, e0] at HWF
    clear HPM1 ek e0
    go_wp2_with fail
    refine HWF.mono ?_
    rintro e w3 ⟨wv, wd, rfl, hwl, hwn, how, hb3⟩
    have HS3 : Hid (Sl 0 3 w3 wv (ints (natsI wd))) := Sl.own how
    have HB3 : Hid (Below w2.heap.size w2 w3) := hb3
    have HPI1 := HPI.out (1 + (k : Int)) w3 (by omega) (by omega)
    clear HWF hwl hwn how hb3 HPI
    go_wp2_with fail
    refine HPI1.mono ?_
    rintro e w4 ⟨iz, rfl, ⟨hi0, hi1⟩, rfl⟩
    have HC := crystalSays_any 0 (1 + (k : Int)) (natsI wd) iz wv w4 HS3.out
    clear HPI1
    go_wp2_with fail
    refine HC.mono ?_
    rintro e w5 ⟨rfl, hb5⟩
    have HB5 : Hid (Below w2.heap.size w2 w5) := HB3.out.trans (hb5.mono HB3.out.size)
    clear hb5 HC
    go_wp2
    go_ret
    exact ⟨rfl, HB5.out⟩

end Go.Proofs.Ytnooabbcfhmjaaa
