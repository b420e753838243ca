/- PolarMade. -/
import Derived.Test.YtnpapoegkbehbaaGreatPl4
import Derived.Test.YtnpapoegkbehbaaGreatPa1
import Derived.Test.YtnpapoegkbehbaaGreatHmW
namespace Go.Proofs.YtnpapoegkbehbaaGreat
open Go.RowKit
attribute [local go_sem ↓] Go.wp_at_zero Go.wp_at_succ

set_option maxRecDepth 100000 in
set_option maxHeartbeats 1600000 in
theorem polarMade_any (B : Nat) (raw : List Int) (d0 m0 a0 : Int) (v : Value) (w : World) (hv : Sl B 3 w v (ints raw)) (hr : ∀ z ∈ raw, In64 z) (hd : In64 d0) (hm : In64 m0) (ha : In64 a0) :
    Calls Tryz.prog 3 #[v, .int .i64 d0, .int .i64 m0, .int .i64 a0] w fun e w' => e = .returned (.bool true) ∧ Below w.heap.size w w' := by
  obtain ⟨ao, cap, hvv, hlc, hcm⟩ := sl_open hv
  subst hvv
  have HV : Hid (Sl B 3 w (.slice ao raw.length cap) (ints raw)) := hv
  have HRR : Hid (∀ z ∈ raw, In64 z) := hr
  have HD : Hid (In64 d0) := hd
  have HMM : Hid (In64 m0) := hm
  have HAA : Hid (In64 a0) := ha
  clear hv hr hd hm ha
  by_cases h1 : 256 < raw.length
  · have b1 : decide ((256 : Int) < (raw.length : Int)) = true := decide_eq_true (by omega)
    go_enter Tryz.func3, Tryz.ntmps3
    go_wp2
    go_ret
    exact ⟨rfl, Below.refl _ _⟩
  · have b1 : decide ((256 : Int) < (raw.length : Int)) = false := decide_eq_false (by omega)
    have HRL : Hid (raw.length ≤ 1000000) := by
      show _ ≤ _
      omega
    clear h1
    go_enter Tryz.func3, Tryz.ntmps3
    go_wp2_with fail
    refine (pick_any d0 3 w (by omega) (by omega) HD.out).mono ?_
    rintro e w1 ⟨z, rfl, hz, rfl⟩
    obtain ⟨n, hn⟩ : ∃ n : Nat, (n : Int) = 1 + z := ⟨(1 + z).toNat, by omega⟩
    have hz1' := hz.1
    have hz2' := hz.2
    have HN : Hid ((n : Int) = 1 + z) := hn
    have hn1 : 1 ≤ n := by omega
    have hn3 : n ≤ 3 := by omega
    clear hz hn
    go_wp2_with fail
    rw [← HN.out]
    refine (pick_any m0 4 w1 (by omega) (by omega) HMM.out).mono ?_
    rintro e w2 ⟨y, rfl, hy, rfl⟩
    obtain ⟨k, hk⟩ : ∃ k : Nat, (k : Int) = y := ⟨y.toNat, by omega⟩
    have hk3 : k ≤ 3 := by omega
    subst hk
    clear hy hz1' hz2' HN
    go_wp2_with fail
    refine (pick_any a0 3 w2 (by omega) (by omega) HAA.out).mono ?_
    rintro e w3 ⟨y2, rfl, hy2, rfl⟩
    obtain ⟨wd, hwd⟩ : ∃ wd : Nat, (wd : Int) = 1 + y2 := ⟨(1 + y2).toNat, by omega⟩
    have hy1' := hy2.1
    have hy2' := hy2.2
    have HWD : Hid ((wd : Int) = 1 + y2) := hwd
    have hwd3 : wd ≤ 3 := by omega
    clear hy2 hwd
    go_wp2_with fail
    rw [← HWD.out]
    refine (aroundOf_any B raw _ n k wd w3 HV.out HRR.out HRL.out hn1 (by omega) (by omega) (by omega)).mono ?_
    rintro e w4 ⟨x, m, α, rfl, hml, hbx, hα, hmat, hb4⟩
    obtain ⟨q, hq1, hq2⟩ := sasc_some (rowsD (around n m α) n)
    have hPG : PlG n (around n m α) q := ⟨around_good hn1 (by omega) hbx (by omega) (by omega) hα, around_box hbx (by omega) hα, hn3, by rw [around_len]; omega, fun r hr => around_pos hn1 (by omega) hbx (by omega) (by omega) hα hr, hq1, hq2⟩
    have HPG : Hid (PlG n (around n m α) q) := hPG
    have HMT : Hid (Mat w4.heap.size 22 3 w4 x (around n m α)) := hmat
    have HB4 : Hid (Below w3.heap.size w3 w4) := hb4
    clear hml hbx hmat hb4 hPG hy1' hy2' HWD hα hq1 hq2
    go_wp2_with fail
    refine (polarSays_ok n (around n m α) q x w4 HMT.out HPG.out).mono ?_
    rintro e w6 ⟨rfl, hb6⟩
    have HB6 : Hid (Below w3.heap.size w3 w6) := HB4.out.trans (hb6.mono HB4.out.size)
    clear hb6
    go_wp2
    go_ret
    exact ⟨rfl, HB6.out⟩

end Go.Proofs.YtnpapoegkbehbaaGreat
