/- TropicMade: squares of raw numbers. -/
import Derived.Test.YthocinibieefkaaTw11
import Derived.Test.YthocinibieefkaaMade1
namespace Go.Proofs.Ythocinibieefkaa
open Go.RowKit
attribute [local go_sem ↓] Go.wp_at_zero Go.wp_at_succ

set_option maxRecDepth 100000 in
set_option maxHeartbeats 800000 in
theorem tropicMade_any (B : Nat) (raw : List Int) (n0 w0 : Int) (v : Value) (w : World) (hv : Sl B 3 w v (ints raw)) (hr : ∀ z ∈ raw, In64 z) (hn0 : In64 n0) (hw0 : In64 w0) :
    Calls Try.prog 4 #[v, .int .i64 n0, .int .i64 w0] w fun e w' => e = .returned (.bool true) ∧ Below w.heap.size w w' := by
  obtain ⟨ao, cap, hvv, hlc, hcm⟩ := sl_open hv
  subst hvv
  have HV : Hid (Sl B 3 w (.slice ao raw.length cap) (ints raw)) := hv
  have HRR : Hid (∀ z ∈ raw, In64 z) := hr
  have HD : Hid (In64 n0) := hn0
  have HW : Hid (In64 w0) := hw0
  clear hv hr hn0 hw0
  by_cases h1 : 256 < raw.length
  · have b1 : decide ((256 : Int) < (raw.length : Int)) = true := decide_eq_true (by omega)
    clear h1
    go_enter Try.func4, Try.ntmps4
    go_wp2
    go_ret
    exact ⟨rfl, Below.refl _ _⟩
  · have b1 : decide ((256 : Int) < (raw.length : Int)) = false := decide_eq_false (by omega)
    have HRL : Hid (raw.length ≤ 1000000) := by
      show _ ≤ _
      omega
    clear h1
    go_enter Try.func4, Try.ntmps4
    go_wp2_with fail
    refine (pick_any n0 5 w (by omega) (by omega) HD.out).mono ?_
    rintro e w1 ⟨z, rfl, hz, rfl⟩
    obtain ⟨n, hn⟩ : ∃ n : Nat, (n : Int) = 1 + z := ⟨(1 + z).toNat, by omega⟩
    have hz1' := hz.1
    have hz2' := hz.2
    have HN : Hid ((n : Int) = 1 + z) := hn
    have hn5 : n ≤ 5 := by omega
    clear hz hn
    go_wp2_with fail
    rw [← HN.out]
    refine (pick_any w0 9 w1 (by omega) (by omega) HW.out).mono ?_
    rintro e w2 ⟨y, rfl, hy, rfl⟩
    obtain ⟨wd, hwd⟩ : ∃ wd : Nat, (wd : Int) = 1 + y := ⟨(1 + y).toNat, by omega⟩
    have hy1' := hy.1
    have hy2' := hy.2
    have HWD : Hid ((wd : Int) = 1 + y) := hwd
    have hwd9 : wd ≤ 9 := by omega
    clear hy hwd hz1' hz2' HN
    go_wp2_with fail
    rw [← HWD.out]
    refine (pointsOf_any B raw _ 0 n n wd w2 HV.out HRR.out HRL.out (by omega) (by omega) (by omega) (by omega)).mono ?_
    rintro e w3 ⟨x, m, rfl, _, _, hfr, hb3⟩
    have HMT : Hid (Mat w3.heap.size 26 3 w3 x m) := hfr.rws.mat hb3.size
    have HB3 : Hid (Below w2.heap.size w2 w3) := hb3
    clear hfr hb3 hy1' hy2' HWD
    go_wp2_with fail
    refine (tropicLeast_any m x w3 HMT.out).mono ?_
    rintro e w4 ⟨rfl, hb4⟩
    have HB4 : Hid (Below w2.heap.size w2 w4) := HB3.out.trans (hb4.mono HB3.out.size)
    clear hb4
    go_wp2
    go_ret
    exact ⟨rfl, HB4.out⟩

end Go.Proofs.Ythocinibieefkaa
