/- MatroidMade: the law, of matroids of raw numbers. -/
import Derived.Test.YtehklbekaflokaaDoorMw10
import Derived.Test.YtehklbekaflokaaDoorGtA
namespace Go.Proofs.YtehklbekaflokaaDoor
open Go.RowKit
attribute [local go_sem ↓] Go.wp_at_zero Go.wp_at_succ

theorem matroidFrom_any (n : Nat) (kind : Int) (raw : List Int) (v : Value) (w : World) (hv : Sl w.heap.size 3 w v (ints raw)) (hr : ∀ z ∈ raw, In64 z) (hl : raw.length ≤ 256) (hk : In64 kind) (hn1 : 1 ≤ n) (hn : n ≤ 7) :
    Calls Tryd.prog 22 #[v, .int .i64 0, .int .i64 kind, .int .i64 n] w fun e w' => ∃ N u xs, e = .returned (.agg #[.int .i64 N, u]) ∧ Sl 0 3 w' u (ints xs) ∧ Below w.heap.size w w' := by
  have h0 : Hid (∀ W', Calls Tryd.prog 21 #[.int .i64 kind, .int .i64 3] W' fun e w' => e = .returned (.int .i64 (pickF kind 3)) ∧ w' = W') := fun W' => pick_val kind 3 W' (by omega) (by omega) hk
  obtain ⟨k1, k2⟩ := pickF_bd (c := kind) (n := 3) (by decide)
  have h3 : pickF kind 3 = 0 ∨ pickF kind 3 = 1 ∨ pickF kind 3 = 2 := by omega
  rcases h3 with h3 | h3 | h3 <;> rw [h3] at h0
  · exact from_0 n kind raw v w hv hr hl hn1 hn h0
  · exact from_1 n kind raw v w hv hr hl hn1 hn h0
  · exact from_2 n kind raw v w hv hr hl hn1 hn h0

set_option maxRecDepth 100000 in
set_option maxHeartbeats 1600000 in
theorem matMade_any (n0 kind s0 i0 : Int) (raw : List Int) (v : Value) (w : World) (hv : Sl w.heap.size 3 w v (ints raw)) (hr : ∀ z ∈ raw, In64 z) (hk : In64 kind) (hn0 : In64 n0) (hs0 : In64 s0) (hi0 : In64 i0) (hT : TabB w) :
    Calls Tryd.prog 4 #[v, .int .i64 kind, .int .i64 n0, .int .i64 s0, .int .i64 i0] w fun e w' => e = .returned (.bool true) ∧ Below w.heap.size w w' := by
  obtain ⟨lo, lc, hvv, hlc, hcm⟩ := sl_open hv
  subst hvv
  by_cases hl40 : 256 < raw.length
  · have b0 : decide ((256 : Int) < (raw.length : Int)) = true := decide_eq_true (by omega)
    clear hv hr hT
    go_enter Tryd.func4, Tryd.ntmps4
    go_wp2
    go_ret
    exact ⟨rfl, Below.refl _ _⟩
  have b0 : decide ((256 : Int) < (raw.length : Int)) = false := decide_eq_false (by omega)
  have hll : raw.length ≤ 256 := by omega
  obtain ⟨pf, hpf⟩ : ∃ pf : Nat, pickF n0 6 = (pf : Int) := ⟨(pickF n0 6).toNat, by have := (pickF_bd (c := n0) (n := 6) (by decide)).1; omega⟩
  have hpf5 : pf < 6 := by have := (pickF_bd (c := n0) (n := 6) (by decide)).2; omega
  obtain ⟨n, hn⟩ : ∃ n : Nat, n = 1 + pf := ⟨_, rfl⟩
  have hn1 : 1 ≤ n := by omega
  have hn6 : n ≤ 6 := by omega
  have HP1 : Hid (∀ W', Calls Tryd.prog 21 #[.int .i64 n0, .int .i64 6] W' fun e w' => e = .returned (.int .i64 pf) ∧ w' = W') := fun W' => by rw [← hpf]; exact pick_val n0 6 W' (by omega) (by omega) hn0
  have HV : Hid (∀ W', Below w.heap.size w W' → Sl w.heap.size 3 W' (.slice lo raw.length lc) (ints raw) ∧ TabB W') := fun W' h => ⟨hv.below h (Nat.le_refl _), hT.below h⟩
  have HMF : Hid (∀ W', Below w.heap.size w W' → Calls Tryd.prog 22 #[.slice lo raw.length lc, .int .i64 0, .int .i64 kind, .int .i64 n] W' fun e w' => ∃ N u xs, e = .returned (.agg #[.int .i64 N, u]) ∧ Sl 0 3 w' u (ints xs) ∧ Below W'.heap.size W' w') := fun W' h =>
    matroidFrom_any n kind raw _ W' ((HV.out W' h).1.more h.size) hr hll hk hn1 (by omega)
  obtain ⟨tn, htn⟩ : ∃ tn : Nat, tn = 2 ^ n := ⟨_, rfl⟩
  have hti : (2 : Int) ^ n = (tn : Int) := by rw [htn]; simp
  have htl : tn ≤ 64 := by rw [htn]; exact show 2 ^ n ≤ 2 ^ 6 from Nat.pow_le_pow_right (by omega) hn6
  have ht1 : 1 ≤ tn := by rw [htn]; exact Nat.one_le_two_pow
  have hwt : IntKind.i64.wrap (tn : Int) = (tn : Int) := wrap_small (by omega)
  have hwp : IntKind.i64.wrap ((2 : Int) ^ n) = (tn : Int) := by rw [hti]; exact hwt
  have HP2 : Hid (∀ W', Calls Tryd.prog 21 #[.int .i64 s0, .int .i64 tn] W' fun e w' => e = .returned (.int .i64 (pickF s0 tn)) ∧ w' = W') := fun W' => pick_val s0 tn W' (by omega) (by omega) hs0
  have HP3 : Hid (∀ W', Calls Tryd.prog 21 #[.int .i64 i0, .int .i64 n] W' fun e w' => e = .returned (.int .i64 (pickF i0 n)) ∧ w' = W') := fun W' => pick_val i0 n W' (by omega) (by omega) hi0
  have a1 : IntKind.i64.wrap (1 + (pf : Int)) = (n : Int) := by
    rw [show (1 + (pf : Int)) = (n : Int) by omega]; exact wrap_small (by omega)
  generalize pickF s0 tn = S at *
  generalize pickF i0 n = J at *
  clear hv hT hr hpf hl40 hn htn
  go_enter Tryd.func4, Tryd.ntmps4
  go_wp2_with fail
  refine (HP1.out w).mono ?_
  rintro e w1 ⟨rfl, hw1⟩
  subst hw1
  go_wp2
  refine wp_region_held_drew (S := fun _ => True) (by kernel_rfl) trivial (fun hHeld => ?_)
  refine wpAnyH_tk (i := 0) (d := 17) (v := (.slice lo raw.length lc)) rfl rfl (by kernel_rfl) (by kernel_rfl) (by kernel_rfl) (fun _ _ _ h => h) (.inl ⟨by rfl, by (intro wq hSw; (try dsimp only at hSw); go_simp)⟩) hHeld ?_
  simp only [Act.put, List.setIfInBounds_toArray, List.set_cons_zero, List.set_cons_succ]
  refine wpAnyH_tk (i := 1) (d := 18) (v := (.int .i64 kind)) rfl rfl (by kernel_rfl) (by kernel_rfl) (by kernel_rfl) (fun _ _ _ h => h) (.inl ⟨by rfl, by (intro wq hSw; (try dsimp only at hSw); go_simp)⟩) hHeld ?_
  simp only [Act.put, List.setIfInBounds_toArray, List.set_cons_zero, List.set_cons_succ]
  refine wpAnyH_tk (i := 2) (d := 19) (v := (.int .i64 n)) rfl rfl (by kernel_rfl) (by kernel_rfl) (by kernel_rfl) (fun _ _ _ h => h) (.inl ⟨by rfl, by (intro wq hSw; (try dsimp only at hSw); go_simp)⟩) hHeld ?_
  simp only [Act.put, List.setIfInBounds_toArray, List.set_cons_zero, List.set_cons_succ]
  refine wpAnyH_tk (i := 4) (d := 21) (v := (.int .i64 s0)) rfl rfl (by kernel_rfl) (by kernel_rfl) (by kernel_rfl) (fun _ _ _ h => h) (.inl ⟨by rfl, by (intro wq hSw; (try dsimp only at hSw); go_simp)⟩) hHeld ?_
  simp only [Act.put, List.setIfInBounds_toArray, List.set_cons_zero, List.set_cons_succ]
  refine wpAnyH_tk (i := 5) (d := 22) (v := (.int .i64 n)) rfl rfl (by kernel_rfl) (by kernel_rfl) (by kernel_rfl) (fun _ _ _ h => h) (.inl ⟨by rfl, by (intro wq hSw; (try dsimp only at hSw); go_simp)⟩) hHeld ?_
  simp only [Act.put, List.setIfInBounds_toArray, List.set_cons_zero, List.set_cons_succ]
  refine wpAnyH_tk (i := 6) (d := 23) (v := (.int .i64 tn)) rfl rfl (by kernel_rfl) (by kernel_rfl) (by kernel_rfl) (fun _ _ _ h => h) (.inl ⟨by rfl, by (intro wq hSw; (try dsimp only at hSw); go_simp)⟩) hHeld ?_
  simp only [Act.put, List.setIfInBounds_toArray, List.set_cons_zero, List.set_cons_succ]
  refine wpAnyH_tk (i := 8) (d := 25) (v := (.int .i64 i0)) rfl rfl (by kernel_rfl) (by kernel_rfl) (by kernel_rfl) (fun _ _ _ h => h) (.inl ⟨by rfl, by (intro wq hSw; (try dsimp only at hSw); go_simp)⟩) hHeld ?_
  simp only [Act.put, List.setIfInBounds_toArray, List.set_cons_zero, List.set_cons_succ]
  refine wpAnyH_tk (i := 9) (d := 26) (v := (.int .i64 n)) rfl rfl (by kernel_rfl) (by kernel_rfl) (by kernel_rfl) (fun _ _ _ h => h) (.inl ⟨by rfl, by (intro wq hSw; (try dsimp only at hSw); go_simp)⟩) hHeld ?_
  simp only [Act.put, List.setIfInBounds_toArray, List.set_cons_zero, List.set_cons_succ]
  refine wpAnyH_ready (rs := [3]) (by kernel_rfl) (by simp) ?_
  refine ready_tk (i := 3) rfl (by rfl) (fun K hK => ?_) AllReadyH.nil
  go_simp
  refine (HMF.out _ (Below.drew (Below.refl _ _))).mono ?_
  rintro e w3 ⟨N, u, xs, rfl, hs3, hb3⟩
  have HB3 : Hid (Below w1.heap.size w1 w3) := ⟨hb3.os, hb3.tape, hb3.output, hb3.size, hb3.block⟩
  have HSS : Hid (Calls Tryd.prog 3 #[.agg #[.int .i64 N, u], .int .i64 S, .int .i64 J] w3 fun e w' => e = .returned (.bool true) ∧ Below w3.heap.size w3 w') := matSays_any N S J xs u w3 (hs3.more (Nat.zero_le _)) (HV.out w3 HB3.out).2
  refine hK.out _ _ trivial (fun hHeld => ?_)
  clear hK K hs3 hb3
  refine wpAnyH_ready (rs := [7]) (by kernel_rfl) (by simp) ?_
  refine ready_tk (i := 7) rfl (by rfl) (fun K hK => ?_) AllReadyH.nil
  go_simp
  refine (HP2.out _).mono ?_
  rintro e w4 ⟨rfl, hw4⟩
  subst hw4
  refine hK.out _ _ trivial (fun hHeld => ?_)
  clear hK K
  refine wpAnyH_ready (rs := [10]) (by kernel_rfl) (by simp) ?_
  refine ready_tk (i := 10) rfl (by rfl) (fun K hK => ?_) AllReadyH.nil
  go_simp
  refine (HP3.out _).mono ?_
  rintro e w5 ⟨rfl, hw5⟩
  subst hw5
  refine hK.out _ _ trivial (fun hHeld => ?_)
  clear hK K
  refine wpAnyH_ready (rs := [11]) (by kernel_rfl) (by simp) ?_
  refine ready_tk (i := 11) rfl (by rfl) (fun K hK => ?_) AllReadyH.nil
  go_simp
  refine HSS.out.mono ?_
  rintro e w6 ⟨rfl, hb6⟩
  have HB6 : Hid (Below w1.heap.size w1 w6) := HB3.out.trans (hb6.mono HB3.out.size)
  clear hb6
  refine hK.out _ _ trivial (fun hHeld => ?_)
  clear hK K
  refine wpAnyH_tk (i := 12) (d := 10) (v := (.bool true)) rfl rfl (by kernel_rfl) (by kernel_rfl) (by kernel_rfl) (fun _ _ _ h => h) (.inl ⟨by rfl, by (intro wq hSw; (try dsimp only at hSw); go_simp)⟩) hHeld ?_
  simp only [Act.put, List.setIfInBounds_toArray, List.set_cons_zero, List.set_cons_succ]
  refine wpAnyH_done (by kernel_rfl) ?_ _
  clear hHeld
  go_wp2
  go_ret
  exact ⟨rfl, HB6.out⟩

end Go.Proofs.YtehklbekaflokaaDoor
