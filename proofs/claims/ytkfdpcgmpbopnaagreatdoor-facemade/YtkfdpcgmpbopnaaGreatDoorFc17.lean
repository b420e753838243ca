/- The law FaceMade: the walk. -/
import Derived.Test.YtkfdpcgmpbopnaaGreatDoorFc16
import Derived.Test.YtkfdpcgmpbopnaaGreatDoorBet3
import Derived.Test.YtkfdpcgmpbopnaaGreatDoorPik
namespace Go.Proofs.YtkfdpcgmpbopnaaGreatDoor
open Go.RowKit
attribute [local go_sem ↓] Go.wp_at_zero Go.wp_at_succ

theorem poly_boxF {n wd : Nat} {m : List (List Int)} (hm : Box n wd m) (hw : wd ≤ 6) : Box n 6 (polyL n m) := by
  intro r hr
  simp only [polyL, List.mem_append, List.mem_singleton, List.mem_map, List.mem_range] at hr
  rcases hr with (hr | rfl) | ⟨k, hk, rfl⟩
  · refine ⟨(hm r hr).1, fun z hz => ?_⟩
    have := (hm r hr).2 z hz
    omega
  · refine ⟨by simp [zerosL], fun z hz => ?_⟩
    simp only [zerosL, List.mem_map] at hz
    obtain ⟨_, _, rfl⟩ := hz
    omega
  · refine ⟨by simp [spk], fun z hz => ?_⟩
    simp only [spk, List.mem_map] at hz
    obtain ⟨j, _, rfl⟩ := hz
    have := Nat.mod_lt k (show 0 < 2 by decide)
    split <;> omega

set_option maxRecDepth 100000 in
set_option maxHeartbeats 1600000 in
theorem faceMade_any (B : Nat) (raw : List Int) (d0 m0 a0 : Int) (v : Value) (w : World) (hv : Sl B 3 w v (ints raw)) (hr : ∀ z ∈ raw, In64 z) (hd : In64 d0) (hm : In64 m0) (ha : In64 a0) (hT : TabB w) :
    Calls Tryz.prog 3 #[v, .int .i64 d0, .int .i64 m0, .int .i64 a0] w fun e w' => e = .returned (.bool true) ∧ Below w.heap.size w w' := by
  obtain ⟨ao, cap, hvv, hlc, hcm⟩ := sl_open hv
  subst hvv
  have HV : Hid (Sl B 3 w (.slice ao raw.length cap) (ints raw)) := hv
  have HRR : Hid (∀ z ∈ raw, In64 z) := hr
  have HD : Hid (In64 d0) := hd
  have HMM : Hid (In64 m0) := hm
  have HAA : Hid (In64 a0) := ha
  have HT : Hid (TabB w) := hT
  clear hv hr hd hm ha hT
  by_cases h1 : 256 < raw.length
  · have b1 : decide ((256 : Int) < (raw.length : Int)) = true := decide_eq_true (by omega)
    go_enter Tryz.func3, Tryz.ntmps3
    go_wp2
    go_ret
    exact ⟨rfl, Below.refl _ _⟩
  · have b1 : decide ((256 : Int) < (raw.length : Int)) = false := decide_eq_false (by omega)
    have HRL : Hid (raw.length ≤ 1000000) := by
      show _ ≤ _
      omega
    clear h1
    go_enter Tryz.func3, Tryz.ntmps3
    go_wp2_with fail
    refine (pick_any d0 4 w (by omega) (by omega) HD.out).mono ?_
    rintro e w1 ⟨z, rfl, hz, rfl⟩
    obtain ⟨n, hn⟩ : ∃ n : Nat, (n : Int) = 1 + z := ⟨(1 + z).toNat, by omega⟩
    have hz1' := hz.1
    have hz2' := hz.2
    have HN : Hid ((n : Int) = 1 + z) := hn
    have hn1 : 1 ≤ n := by omega
    have hn4 : n ≤ 4 := by omega
    clear hz hn
    go_wp2_with fail
    rw [← HN.out]
    refine (pick_any m0 6 w1 (by omega) (by omega) HMM.out).mono ?_
    rintro e w2 ⟨y, rfl, hy, rfl⟩
    obtain ⟨k, hk⟩ : ∃ k : Nat, (k : Int) = y := ⟨y.toNat, by omega⟩
    have hk5 : k ≤ 5 := by omega
    subst hk
    clear hy hz1' hz2' HN
    go_wp2_with fail
    refine (pick_any a0 4 w2 (by omega) (by omega) HAA.out).mono ?_
    rintro e w2' ⟨y2, rfl, hy2, rfl⟩
    obtain ⟨wd, hwd⟩ : ∃ wd : Nat, (wd : Int) = 1 + y2 := ⟨(1 + y2).toNat, by omega⟩
    have hy1' := hy2.1
    have hy2' := hy2.2
    have HWD : Hid ((wd : Int) = 1 + y2) := hwd
    have hwd4 : wd ≤ 4 := by omega
    clear hy2 hwd
    go_wp2_with fail
    rw [← HWD.out]
    refine (polytopeOf_any B raw _ n k wd w2' HV.out HRR.out HRL.out hn1 hn4 (by omega) (by omega)).mono ?_
    rintro e w3 ⟨x, m, rfl, hml, hbx, hmat, hb3⟩
    have hgood : Good n (polyL n m) := poly_good hn1 hn4 hbx (by omega) (by omega)
    have hlen : (polyL n m).length ≤ 10 := by rw [poly_len]; omega
    have HFS : Hid (Calls Tryz.prog 5 #[.agg #[.int .i64 n, x]] w3 fun e w' => e = .returned (.bool true) ∧ Below w3.heap.size w3 w') :=
      faceSays_any n (polyL n m) x w3 (hmat.any (Nat.le_refl _)) hgood (poly_boxF hbx (by omega)) hlen (HT.out.below hb3)
    have HB3 : Hid (Below w2'.heap.size w2' w3) := hb3
    obtain ⟨xo, xc, hxv, _, _⟩ := mat_open hmat
    subst hxv
    clear hml hbx hmat hb3 hgood hlen hy1' hy2' HWD
    go_wp2_with fail
    refine HFS.out.mono ?_
    rintro e w4 ⟨rfl, hb4⟩
    have HB4 : Hid (Below w2'.heap.size w2' w4) := HB3.out.trans (hb4.mono HB3.out.size)
    clear hb4
    go_wp2
    go_ret
    exact ⟨rfl, HB4.out⟩

end Go.Proofs.YtkfdpcgmpbopnaaGreatDoor
