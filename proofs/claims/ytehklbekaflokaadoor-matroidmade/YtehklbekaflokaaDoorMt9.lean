/- facetref.MatroidMay. -/
import Derived.Test.YtehklbekaflokaaDoorMt9a
import Derived.Test.YtehklbekaflokaaDoorTk1
import Derived.Deep.OwnRows
namespace Go.Proofs.YtehklbekaflokaaDoor
open Go.RowKit
attribute [local go_sem ↓] Go.wp_at_zero Go.wp_at_succ

set_option maxRecDepth 100000 in
set_option maxHeartbeats 1600000 in
theorem mayM_any (N : Int) (bs : List Int) (v : Value) (w : World) (hv : Sl w.heap.size 3 w v (ints bs)) (hl : bs.length ≤ 1000000) :
    Calls Tryd.prog 5 #[.agg #[.int .i64 N, v]] w fun e w' => e = .returned (.int .i64 (matE N bs)) ∧ Below w.heap.size w w' := by
  obtain ⟨ao, cap, hvv, hlc, hcm⟩ := sl_open hv
  subst hvv
  have HBA : Hid (Below w.heap.size w (w.alloc (.cells #[.int .i64 N, .slice ao bs.length cap] 24))) := (Below.refl _ _).alloc (Nat.le_refl _) _
  by_cases hN0 : N < 0
  · have b0 : decide (N < 0) = true := decide_eq_true hN0
    have HE : Hid (matE N bs = 11) := by unfold matE; exact if_pos (.inl hN0)
    clear hv 
    go_enter Tryd.func5, Tryd.ntmps5
    go_wp2
    go_ret
    exact ⟨by rw [HE.out]; rfl, HBA.out⟩
  have b0 : decide (N < 0) = false := decide_eq_false hN0
  by_cases hN8 : 8 < N
  · have b1 : decide (8 < N) = true := decide_eq_true hN8
    have HE : Hid (matE N bs = 11) := by unfold matE; exact if_pos (.inr hN8)
    clear hv 
    go_enter Tryd.func5, Tryd.ntmps5
    go_wp2
    go_ret
    exact ⟨by rw [HE.out]; rfl, HBA.out⟩
  have b1 : decide (8 < N) = false := decide_eq_false hN8
  by_cases hl0 : bs.length = 0
  · have HE : Hid (matE N bs = 6) := by
      show _ = _
      unfold matE; rw [if_neg (by omega), if_pos hl0]
    have b2 : ((bs.length : Int) == 0) = true := by rw [hl0]; rfl
    clear hv hl0
    obtain ⟨q, hq⟩ : ∃ q, q = bs.length := ⟨_, rfl⟩
    rw [← hq] at b2 HBA hlc hl ⊢
    clear hq
    go_enter Tryd.func5, Tryd.ntmps5
    go_wp2
    go_ret
    exact ⟨by rw [HE.out]; rfl, HBA.out⟩
  have b2 : ((bs.length : Int) == 0) = false := by rw [beq_eq_false_iff_ne]; omega
  obtain ⟨n, rfl⟩ : ∃ n : Nat, N = (n : Int) := ⟨N.toNat, by omega⟩
  have hn8 : n ≤ 8 := by omega
  obtain ⟨W, hW⟩ : ∃ W, W = w.alloc (.cells #[.int .i64 n, .slice ao bs.length cap] 24) := ⟨_, rfl⟩
  rw [← hW] at HBA
  have c0 : W.cell? ⟨w.heap.size, 0, none⟩ = some (.int .i64 n) := by rw [hW]; simp
  have c1 : W.cell? ⟨w.heap.size, 1, none⟩ = some (.slice ao bs.length cap) := by rw [hW]; simp
  have HC : Hid (∀ W', Below W.heap.size W W' → W'.cell? ⟨w.heap.size, 0, none⟩ = some (.int .i64 n) ∧ W'.cell? ⟨w.heap.size, 1, none⟩ = some (.slice ao bs.length cap) ∧ Sl w.heap.size 3 W' (.slice ao bs.length cap) (ints bs) ∧ Below w.heap.size w W') := fun W' h =>
    ⟨(h.cell (lt_of_cell c0)).trans c0, (h.cell (lt_of_cell c1)).trans c1, (hv.below HBA.out (Nat.le_refl _)).below h (Nat.le_refl _), HBA.out.trans (h.mono HBA.out.size)⟩
  clear hv  hN0 hN8
  go_enter Tryd.func5, Tryd.ntmps5
  go_wp2
  rw [← hW]
  clear hW c0 c1
  go_loopw [3] (fun i wr => ∃ k : Nat, k ≤ bs.length ∧ i = .int .i64 k ∧ (∀ i, i < k → stepE n bs i = 0) ∧ Below W.heap.size W wr) (fun i _ => bs.length - (intOf i).toNat)
  case atStart => exact ⟨0, Nat.zero_le _, rfl, fun i hi => by omega, Below.refl _ _⟩
  case round =>
    obtain ⟨k, hk, rfl, hst, hbr⟩ := hrel
    have HST : Hid (∀ i, i < k → stepE n bs i = 0) := hst
    have HBR : Hid (Below W.heap.size W wr) := hbr
    obtain ⟨wa, rfl⟩ : ∃ wa, wa = wr := ⟨wr, rfl⟩
    obtain ⟨d0, d1, hsl, hbw⟩ := HC.out wa hbr
    have HBF : Hid (Below w.heap.size w wa) := hbw
    clear hst hbr hbw
    by_cases hlt : k < bs.length
    · obtain ⟨gb, gq, gcc, hs, _, hcc⟩ := sl_cell hsl hlt
      simp only [Value.slice.injEq] at hs
      obtain ⟨rfl, -, rfl⟩ := hs
      have kI : (k : Int) < (bs.length : Int) := by omega
      have kI0 : (0 : Int) ≤ (k : Int) := by omega
      have hwp := wrap_pow8 n hn8
      obtain ⟨b, hb⟩ : ∃ b, b = bs.getD k 0 := ⟨_, rfl⟩
      have HBB : Hid (b = bs.getD k 0) := hb
      rw [← hb] at hcc
      clear hb
      by_cases hb0 : b < 0
      · have q0 : decide (b < 0) = true := decide_eq_true hb0
        have HE : Hid (matE (n : Int) bs = 4) := by
          have h4 := step4 (N := n) (bs := bs) (k := k) (by rw [← HBB.out, decide_eq_false (by omega : ¬ 0 ≤ b)]; rfl)
          show _ = _
          rw [matE_hit hn8 hlt HST.out (by rw [h4]; decide), h4]
        clear hsl
        go_wp2
        go_ret
        exact ⟨by rw [HE.out]; rfl, HBF.out⟩
      · have q0 : decide (b < 0) = false := decide_eq_false hb0
        by_cases hb1 : 2 ^ n ≤ b
        · have q1 : decide ((2 : Int) ^ n ≤ b) = true := decide_eq_true hb1
          have HE : Hid (matE (n : Int) bs = 4) := by
            have h4 := step4 (N := n) (bs := bs) (k := k) (by rw [← HBB.out, decide_eq_false (by omega : ¬ b < 2 ^ n)]; simp)
            show _ = _
            rw [matE_hit hn8 hlt HST.out (by rw [h4]; decide), h4]
          clear hsl
          go_wp2
          go_ret
          exact ⟨by rw [HE.out]; rfl, HBF.out⟩
        · have q1 : decide ((2 : Int) ^ n ≤ b) = false := decide_eq_false hb1
          have hp8 := pow8_le n hn8
          have HFT : Hid ((decide (0 ≤ bs.getD k 0) && decide (bs.getD k 0 < 2 ^ n)) = true) := by
            rw [← HBB.out, decide_eq_true (by omega : 0 ≤ b), decide_eq_true (by omega : b < 2 ^ n)]; rfl
          obtain ⟨y, rfl⟩ : ∃ y : Nat, b = (y : Int) := ⟨b.toNat, by omega⟩
          have hy : y < 256 := by omega
          clear hb0 hb1 hp8
          have HYS : Hid (szI (bs.getD k 0) = (mem8 y).length) := by
            show _ = _
            rw [← HBB.out]; rfl
          have HSY : Hid (∀ W', Calls Tryd.prog 23 #[.int .i64 y] W' fun e w' => e = .returned (.int .i64 (mem8 y).length) ∧ Below W'.heap.size W' w') := fun W' => size8_any y W' hy
          cases k with
          | zero =>
            have hc1 : wa.cell? ⟨gb, gq, none⟩ = some (.int .i64 y) := hcc
            have HCC : Hid (∀ W', Below wa.heap.size wa W' → W'.cell? ⟨w.heap.size, 1, none⟩ = some (.slice (some ⟨gb, gq, none⟩) bs.length cap) ∧ W'.cell? ⟨gb, gq, none⟩ = some (.int .i64 y)) := fun W' h => ⟨(h.cell (lt_of_cell d1)).trans d1, (h.cell (lt_of_cell hc1)).trans hc1⟩
            have q3 : decide ((0 : Int) < ((0 : Nat) : Int)) = false := rfl
            have HN0 : Hid (∀ i, i < 0 + 1 → stepE n bs i = 0) := fun i hi => by
              have : i = 0 := by omega
              subst this
              unfold stepE
              rw [HFT.out]
              simp
            generalize (mem8 y).length = L at *
            have q4 : ((L : Int) != (L : Int)) = false := by simp
            clear hsl
            go_wp2
            refine wp_region_held_drew (S := fun w' => w'.cell? ⟨w.heap.size, 1, none⟩ = some (.slice (some ⟨gb, gq, none⟩) bs.length cap) ∧ w'.cell? ⟨gb, gq, none⟩ = some (.int .i64 y)) (by kernel_rfl) ⟨d1, hc1⟩ (fun hHeld => ?_)
            refine wpAnyH_tk (i := 0) (d := 47) (v := (.int .i64 0)) rfl rfl (by kernel_rfl) (by kernel_rfl) (by kernel_rfl) (fun _ _ _ h => h) (.inl ⟨by rfl, by (intro wq hSw; (try dsimp only at hSw); go_simp)⟩) hHeld ?_
            simp only [Act.put, List.setIfInBounds_toArray, List.set_cons_zero, List.set_cons_succ]
            refine wpAnyH_tk (i := 1) (d := 48) (v := (.bool false)) rfl rfl (by kernel_rfl) (by kernel_rfl) (by kernel_rfl) (fun _ _ _ h => h) (.inl ⟨by rfl, by (intro wq hSw; (try dsimp only at hSw); go_simp)⟩) hHeld ?_
            simp only [Act.put, List.setIfInBounds_toArray, List.set_cons_zero, List.set_cons_succ]
            refine wpAnyH_tk (i := 2) (d := 49) (v := (.bool false)) rfl rfl (by kernel_rfl) (by kernel_rfl) (by kernel_rfl) (fun _ _ _ h => h) (.inl ⟨by rfl, by (intro wq hSw; (try dsimp only at hSw); go_simp)⟩) hHeld ?_
            simp only [Act.put, List.setIfInBounds_toArray, List.set_cons_zero, List.set_cons_succ]
            refine wpAnyH_tk (i := 3) (d := 50) (v := undef) rfl rfl (by kernel_rfl) (by kernel_rfl) (by kernel_rfl) (fun _ _ _ h => h) (.inr ⟨by rfl, rfl⟩) hHeld ?_
            simp only [Act.put, List.setIfInBounds_toArray, List.set_cons_zero, List.set_cons_succ]
            refine wpAnyH_tk (i := 4) (d := 51) (v := undef) rfl rfl (by kernel_rfl) (by kernel_rfl) (by kernel_rfl) (fun _ _ _ h => h) (.inr ⟨by rfl, rfl⟩) hHeld ?_
            simp only [Act.put, List.setIfInBounds_toArray, List.set_cons_zero, List.set_cons_succ]
            refine wpAnyH_tk (i := 5) (d := 52) (v := undef) rfl rfl (by kernel_rfl) (by kernel_rfl) (by kernel_rfl) (fun _ _ _ h => h) (.inr ⟨by rfl, rfl⟩) hHeld ?_
            simp only [Act.put, List.setIfInBounds_toArray, List.set_cons_zero, List.set_cons_succ]
            refine wpAnyH_tk (i := 6) (d := 53) (v := undef) rfl rfl (by kernel_rfl) (by kernel_rfl) (by kernel_rfl) (fun _ _ _ h => h) (.inr ⟨by rfl, rfl⟩) hHeld ?_
            simp only [Act.put, List.setIfInBounds_toArray, List.set_cons_zero, List.set_cons_succ]
            refine wpAnyH_tk (i := 7) (d := 54) (v := undef) rfl rfl (by kernel_rfl) (by kernel_rfl) (by kernel_rfl) (fun _ _ _ h => h) (.inr ⟨by rfl, rfl⟩) hHeld ?_
            simp only [Act.put, List.setIfInBounds_toArray, List.set_cons_zero, List.set_cons_succ]
            refine wpAnyH_tk (i := 8) (d := 55) (v := undef) rfl rfl (by kernel_rfl) (by kernel_rfl) (by kernel_rfl) (fun _ _ _ h => h) (.inr ⟨by rfl, rfl⟩) hHeld ?_
            simp only [Act.put, List.setIfInBounds_toArray, List.set_cons_zero, List.set_cons_succ]
            refine wpAnyH_tk (i := 9) (d := 56) (v := undef) rfl rfl (by kernel_rfl) (by kernel_rfl) (by kernel_rfl) (fun _ _ _ h => h) (.inr ⟨by rfl, rfl⟩) hHeld ?_
            simp only [Act.put, List.setIfInBounds_toArray, List.set_cons_zero, List.set_cons_succ]
            refine wpAnyH_tk (i := 10) (d := 57) (v := undef) rfl rfl (by kernel_rfl) (by kernel_rfl) (by kernel_rfl) (fun _ _ _ h => h) (.inr ⟨by rfl, rfl⟩) hHeld ?_
            simp only [Act.put, List.setIfInBounds_toArray, List.set_cons_zero, List.set_cons_succ]
            refine wpAnyH_tk (i := 11) (d := 58) (v := (.bool false)) rfl rfl (by kernel_rfl) (by kernel_rfl) (by kernel_rfl) (fun _ _ _ h => h) (.inl ⟨by rfl, by (intro wq hSw; (try dsimp only at hSw); go_simp)⟩) hHeld ?_
            simp only [Act.put, List.setIfInBounds_toArray, List.set_cons_zero, List.set_cons_succ]
            refine wpAnyH_tk (i := 12) (d := 59) (v := (.bool false)) rfl rfl (by kernel_rfl) (by kernel_rfl) (by kernel_rfl) (fun _ _ _ h => h) (.inl ⟨by rfl, by (intro wq hSw; (try dsimp only at hSw); go_simp)⟩) hHeld ?_
            simp only [Act.put, List.setIfInBounds_toArray, List.set_cons_zero, List.set_cons_succ]
            refine wpAnyH_tk (i := 13) (d := 60) (v := (.int .i64 y)) rfl rfl (by kernel_rfl) (by kernel_rfl) (by kernel_rfl) (fun _ _ _ h => h) (.inl ⟨by rfl, by (intro wq hSw; (try dsimp only at hSw); go_simp)⟩) hHeld ?_
            simp only [Act.put, List.setIfInBounds_toArray, List.set_cons_zero, List.set_cons_succ]
            refine wpAnyH_tk (i := 15) (d := 62) (v := (.pointer (some ⟨w.heap.size, 1, none⟩))) rfl rfl (by kernel_rfl) (by kernel_rfl) (by kernel_rfl) (fun _ _ _ h => h) (.inl ⟨by rfl, by (intro wq hSw; (try dsimp only at hSw); go_simp)⟩) hHeld ?_
            simp only [Act.put, List.setIfInBounds_toArray, List.set_cons_zero, List.set_cons_succ]
            refine wpAnyH_tk (i := 16) (d := 63) (v := (.slice (some ⟨gb, gq, none⟩) bs.length cap)) rfl rfl (by kernel_rfl) (by kernel_rfl) (by kernel_rfl) (fun _ _ _ h => h) (.inl ⟨by rfl, by (intro wq hSw; (try dsimp only at hSw); go_simp)⟩) hHeld ?_
            simp only [Act.put, List.setIfInBounds_toArray, List.set_cons_zero, List.set_cons_succ]
            refine wpAnyH_tk (i := 17) (d := 64) (v := (.pointer (some ⟨gb, gq, none⟩))) rfl rfl (by kernel_rfl) (by kernel_rfl) (by kernel_rfl) (fun _ _ _ h => h) (.inl ⟨by rfl, by (intro wq hSw; (try dsimp only at hSw); go_simp)⟩) hHeld ?_
            simp only [Act.put, List.setIfInBounds_toArray, List.set_cons_zero, List.set_cons_succ]
            refine wpAnyH_tk (i := 18) (d := 65) (v := (.int .i64 y)) rfl rfl (by kernel_rfl) (by kernel_rfl) (by kernel_rfl) (fun _ _ _ h => h) (.inl ⟨by rfl, by (intro wq hSw; (try dsimp only at hSw); go_simp)⟩) hHeld ?_
            simp only [Act.put, List.setIfInBounds_toArray, List.set_cons_zero, List.set_cons_succ]
            refine wpAnyH_ready (rs := [14]) (by kernel_rfl) (by simp) ?_
            refine ready_tk (i := 14) rfl (by rfl) (fun K hK => ?_) AllReadyH.nil
            go_simp
            refine (HSY.out _).mono ?_
            rintro e w3 ⟨rfl, hb⟩
            have HBw3 : Hid (Below wa.heap.size wa w3) := ⟨hb.os, hb.tape, hb.output, hb.size, hb.block⟩
            clear hb
            refine hK.out _ _ (HCC.out w3 HBw3.out) (fun hHeld => ?_)
            clear hK K
            refine wpAnyH_ready (rs := [19]) (by kernel_rfl) (by simp) ?_
            refine ready_tk (i := 19) rfl (by rfl) (fun K hK => ?_) AllReadyH.nil
            go_simp
            refine (HSY.out _).mono ?_
            rintro e w4 ⟨rfl, hb⟩
            have HBw4 : Hid (Below wa.heap.size wa w4) := HBw3.out.trans (hb.mono HBw3.out.size)
            clear hb
            refine hK.out _ _ (HCC.out w4 HBw4.out) (fun hHeld => ?_)
            clear hK K
            refine wpAnyH_tk (i := 20) (d := 67) (v := (.bool false)) rfl rfl (by kernel_rfl) (by kernel_rfl) (by kernel_rfl) (fun _ _ _ h => h) (.inl ⟨by rfl, by (intro wq hSw; (try dsimp only at hSw); go_simp)⟩) hHeld ?_
            simp only [Act.put, List.setIfInBounds_toArray, List.set_cons_zero, List.set_cons_succ]
            refine wpAnyH_tk (i := 21) (d := 68) (v := (.bool false)) rfl rfl (by kernel_rfl) (by kernel_rfl) (by kernel_rfl) (fun _ _ _ h => h) (.inl ⟨by rfl, by (intro wq hSw; (try dsimp only at hSw); go_simp)⟩) hHeld ?_
            simp only [Act.put, List.setIfInBounds_toArray, List.set_cons_zero, List.set_cons_succ]
            refine wpAnyH_done (by kernel_rfl) ?_ _
            have R2 : Hid (Below W.heap.size W w4) := HBR.out.trans (HBw4.out.mono HBR.out.size)
            clear hHeld
            go_wp2
            exact ⟨⟨0 + 1, by omega, by go_num, HN0.out, R2.out⟩, by simp [intOf]; omega⟩
          | succ j =>
            have hjl : j < bs.length := by omega
            have h0l : 0 < bs.length := by omega
            obtain ⟨hb0, hq0, _, hs0, _, hc0⟩ := sl_cell hsl h0l
            simp only [Value.slice.injEq, Option.some.injEq, Addr.mk.injEq, and_true] at hs0
            obtain ⟨⟨rfl, rfl⟩, -, -⟩ := hs0
            obtain ⟨hbj, hqj, _, hsj, _, hcp⟩ := sl_cell hsl hjl
            simp only [Value.slice.injEq, Option.some.injEq, Addr.mk.injEq, and_true] at hsj
            obtain ⟨⟨rfl, rfl⟩, -, -⟩ := hsj
            have HS0 := step0.1 (HST.out 0 (by omega))
            have HSJ := step0.1 (HST.out j (by omega))
            have hp8 := pow8_le n hn8
            obtain ⟨y0, hy0⟩ : ∃ y0 : Nat, bs.getD 0 0 = (y0 : Int) := ⟨(bs.getD 0 0).toNat, by have := HS0.lo; omega⟩
            obtain ⟨yp, hyp⟩ : ∃ yp : Nat, bs.getD j 0 = (yp : Int) := ⟨(bs.getD j 0).toNat, by have := HSJ.lo; omega⟩
            have hy08 : y0 < 256 := by have := HS0.hi; omega
            have HY0S : Hid (szI (bs.getD 0 0) = (mem8 y0).length) := by
              show _ = _
              rw [hy0]; rfl
            have HSY0 : Hid (∀ W', Calls Tryd.prog 23 #[.int .i64 y0] W' fun e w' => e = .returned (.int .i64 (mem8 y0).length) ∧ Below W'.heap.size W' w') := fun W' => size8_any y0 W' hy08
            have HYP : Hid (bs.getD j 0 = (yp : Int)) := hyp
            rw [hy0] at hc0
            rw [hyp] at hcp
            rw [Nat.add_zero] at hc0
            have HCC : Hid (∀ W', Below wa.heap.size wa W' → W'.cell? ⟨w.heap.size, 1, none⟩ = some (.slice (some ⟨gb, gq, none⟩) bs.length cap) ∧ W'.cell? ⟨gb, gq, none⟩ = some (.int .i64 y0) ∧ W'.cell? ⟨gb, gq + j, none⟩ = some (.int .i64 yp)) := fun W' h => ⟨(h.cell (lt_of_cell d1)).trans d1, (h.cell (lt_of_cell hc0)).trans hc0, (h.cell (lt_of_cell hcp)).trans hcp⟩
            clear HS0 HSJ hp8 hy0 hyp hsl
            have q3 : decide ((0 : Int) < ((j + 1 : Nat) : Int)) = true := decide_eq_true (by omega)
            have q5 : IntKind.i64.wrap (j : Int) = (j : Int) := wrap_small (by omega)
            have q6 : (j : Int) < (bs.length : Int) := by omega
            have q7 : (0 : Int) ≤ (j : Int) := by omega
            by_cases hle : (y : Int) ≤ (yp : Int)
            · have q4 : decide ((y : Int) ≤ (yp : Int)) = true := decide_eq_true hle
              have HE : Hid (matE (n : Int) bs = 3) := by
                have h3 := step3 (N := n) (bs := bs) (k := j + 1) HFT.out (.inl ⟨by omega, by rw [Nat.add_sub_cancel, HYP.out, ← HBB.out]; exact hle⟩)
                show _ = _
                rw [matE_hit hn8 hlt HST.out (by rw [h3]; decide), h3]
              have q9 : y ≤ yp := by omega
              clear hle
              go_wp2
              refine wp_region_held_drew (S := fun w' => w'.cell? ⟨w.heap.size, 1, none⟩ = some (.slice (some ⟨gb, gq, none⟩) bs.length cap) ∧ w'.cell? ⟨gb, gq, none⟩ = some (.int .i64 y0) ∧ w'.cell? ⟨gb, gq + j, none⟩ = some (.int .i64 yp)) (by kernel_rfl) ⟨d1, hc0, hcp⟩ (fun hHeld => ?_)
              refine wpAnyH_tk (i := 0) (d := 47) (v := (.int .i64 (j + 1 : Nat))) rfl rfl (by kernel_rfl) (by kernel_rfl) (by kernel_rfl) (fun _ _ _ h => h) (.inl ⟨by rfl, by (intro wq hSw; (try dsimp only at hSw); go_simp)⟩) hHeld ?_
              simp only [Act.put, List.setIfInBounds_toArray, List.set_cons_zero, List.set_cons_succ]
              refine wpAnyH_tk (i := 1) (d := 48) (v := (.bool true)) rfl rfl (by kernel_rfl) (by kernel_rfl) (by kernel_rfl) (fun _ _ _ h => h) (.inl ⟨by rfl, by (intro wq hSw; (try dsimp only at hSw); go_simp)⟩) hHeld ?_
              simp only [Act.put, List.setIfInBounds_toArray, List.set_cons_zero, List.set_cons_succ]
              refine wpAnyH_tk (i := 2) (d := 49) (v := (.bool true)) rfl rfl (by kernel_rfl) (by kernel_rfl) (by kernel_rfl) (fun _ _ _ h => h) (.inl ⟨by rfl, by (intro wq hSw; (try dsimp only at hSw); go_simp)⟩) hHeld ?_
              simp only [Act.put, List.setIfInBounds_toArray, List.set_cons_zero, List.set_cons_succ]
              refine wpAnyH_tk (i := 3) (d := 50) (v := (.int .i64 y)) rfl rfl (by kernel_rfl) (by kernel_rfl) (by kernel_rfl) (fun _ _ _ h => h) (.inl ⟨by rfl, by (intro wq hSw; (try dsimp only at hSw); go_simp)⟩) hHeld ?_
              simp only [Act.put, List.setIfInBounds_toArray, List.set_cons_zero, List.set_cons_succ]
              refine wpAnyH_tk (i := 4) (d := 51) (v := (.pointer (some ⟨w.heap.size, 1, none⟩))) rfl rfl (by kernel_rfl) (by kernel_rfl) (by kernel_rfl) (fun _ _ _ h => h) (.inl ⟨by rfl, by (intro wq hSw; (try dsimp only at hSw); go_simp)⟩) hHeld ?_
              simp only [Act.put, List.setIfInBounds_toArray, List.set_cons_zero, List.set_cons_succ]
              refine wpAnyH_tk (i := 5) (d := 52) (v := (.slice (some ⟨gb, gq, none⟩) bs.length cap)) rfl rfl (by kernel_rfl) (by kernel_rfl) (by kernel_rfl) (fun _ _ _ h => h) (.inl ⟨by rfl, by (intro wq hSw; (try dsimp only at hSw); go_simp)⟩) hHeld ?_
              simp only [Act.put, List.setIfInBounds_toArray, List.set_cons_zero, List.set_cons_succ]
              refine wpAnyH_tk (i := 6) (d := 53) (v := (.int .i64 (j + 1 : Nat))) rfl rfl (by kernel_rfl) (by kernel_rfl) (by kernel_rfl) (fun _ _ _ h => h) (.inl ⟨by rfl, by (intro wq hSw; (try dsimp only at hSw); go_simp)⟩) hHeld ?_
              simp only [Act.put, List.setIfInBounds_toArray, List.set_cons_zero, List.set_cons_succ]
              refine wpAnyH_tk (i := 7) (d := 54) (v := (.int .i64 j)) rfl rfl (by kernel_rfl) (by kernel_rfl) (by kernel_rfl) (fun _ _ _ h => h) (.inl ⟨by rfl, by (intro wq hSw; (try dsimp only at hSw); go_simp)⟩) hHeld ?_
              simp only [Act.put, List.setIfInBounds_toArray, List.set_cons_zero, List.set_cons_succ]
              refine wpAnyH_tk (i := 8) (d := 55) (v := (.pointer (some ⟨gb, gq + j, none⟩))) rfl rfl (by kernel_rfl) (by kernel_rfl) (by kernel_rfl) (fun _ _ _ h => h) (.inl ⟨by rfl, by (intro wq hSw; (try dsimp only at hSw); go_simp)⟩) hHeld ?_
              simp only [Act.put, List.setIfInBounds_toArray, List.set_cons_zero, List.set_cons_succ]
              refine wpAnyH_tk (i := 9) (d := 56) (v := (.int .i64 yp)) rfl rfl (by kernel_rfl) (by kernel_rfl) (by kernel_rfl) (fun _ _ _ h => h) (.inl ⟨by rfl, by (intro wq hSw; (try dsimp only at hSw); go_simp)⟩) hHeld ?_
              simp only [Act.put, List.setIfInBounds_toArray, List.set_cons_zero, List.set_cons_succ]
              refine wpAnyH_tk (i := 10) (d := 57) (v := (.bool true)) rfl rfl (by kernel_rfl) (by kernel_rfl) (by kernel_rfl) (fun _ _ _ h => h) (.inl ⟨by rfl, by (intro wq hSw; (try dsimp only at hSw); go_simp)⟩) hHeld ?_
              simp only [Act.put, List.setIfInBounds_toArray, List.set_cons_zero, List.set_cons_succ]
              refine wpAnyH_tk (i := 11) (d := 58) (v := (.bool true)) rfl rfl (by kernel_rfl) (by kernel_rfl) (by kernel_rfl) (fun _ _ _ h => h) (.inl ⟨by rfl, by (intro wq hSw; (try dsimp only at hSw); go_simp)⟩) hHeld ?_
              simp only [Act.put, List.setIfInBounds_toArray, List.set_cons_zero, List.set_cons_succ]
              refine wpAnyH_tk (i := 12) (d := 59) (v := (.bool true)) rfl rfl (by kernel_rfl) (by kernel_rfl) (by kernel_rfl) (fun _ _ _ h => h) (.inl ⟨by rfl, by (intro wq hSw; (try dsimp only at hSw); go_simp)⟩) hHeld ?_
              simp only [Act.put, List.setIfInBounds_toArray, List.set_cons_zero, List.set_cons_succ]
              refine wpAnyH_tk (i := 13) (d := 60) (v := undef) rfl rfl (by kernel_rfl) (by kernel_rfl) (by kernel_rfl) (fun _ _ _ h => h) (.inr ⟨by rfl, rfl⟩) hHeld ?_
              simp only [Act.put, List.setIfInBounds_toArray, List.set_cons_zero, List.set_cons_succ]
              refine wpAnyH_tk (i := 14) (d := 61) (v := undef) rfl rfl (by kernel_rfl) (by kernel_rfl) (by kernel_rfl) (fun _ _ _ h => h) (.inr ⟨by rfl, rfl⟩) hHeld ?_
              simp only [Act.put, List.setIfInBounds_toArray, List.set_cons_zero, List.set_cons_succ]
              refine wpAnyH_tk (i := 15) (d := 62) (v := undef) rfl rfl (by kernel_rfl) (by kernel_rfl) (by kernel_rfl) (fun _ _ _ h => h) (.inr ⟨by rfl, rfl⟩) hHeld ?_
              simp only [Act.put, List.setIfInBounds_toArray, List.set_cons_zero, List.set_cons_succ]
              refine wpAnyH_tk (i := 16) (d := 63) (v := undef) rfl rfl (by kernel_rfl) (by kernel_rfl) (by kernel_rfl) (fun _ _ _ h => h) (.inr ⟨by rfl, rfl⟩) hHeld ?_
              simp only [Act.put, List.setIfInBounds_toArray, List.set_cons_zero, List.set_cons_succ]
              refine wpAnyH_tk (i := 17) (d := 64) (v := undef) rfl rfl (by kernel_rfl) (by kernel_rfl) (by kernel_rfl) (fun _ _ _ h => h) (.inr ⟨by rfl, rfl⟩) hHeld ?_
              simp only [Act.put, List.setIfInBounds_toArray, List.set_cons_zero, List.set_cons_succ]
              refine wpAnyH_tk (i := 18) (d := 65) (v := undef) rfl rfl (by kernel_rfl) (by kernel_rfl) (by kernel_rfl) (fun _ _ _ h => h) (.inr ⟨by rfl, rfl⟩) hHeld ?_
              simp only [Act.put, List.setIfInBounds_toArray, List.set_cons_zero, List.set_cons_succ]
              refine wpAnyH_tk (i := 19) (d := 66) (v := undef) rfl rfl (by kernel_rfl) (by kernel_rfl) (by kernel_rfl) (fun _ _ _ h => h) (.inr ⟨by rfl, rfl⟩) hHeld ?_
              simp only [Act.put, List.setIfInBounds_toArray, List.set_cons_zero, List.set_cons_succ]
              refine wpAnyH_tk (i := 20) (d := 67) (v := undef) rfl rfl (by kernel_rfl) (by kernel_rfl) (by kernel_rfl) (fun _ _ _ h => h) (.inr ⟨by rfl, rfl⟩) hHeld ?_
              simp only [Act.put, List.setIfInBounds_toArray, List.set_cons_zero, List.set_cons_succ]
              refine wpAnyH_tk (i := 21) (d := 68) (v := (.bool true)) rfl rfl (by kernel_rfl) (by kernel_rfl) (by kernel_rfl) (fun _ _ _ h => h) (.inl ⟨by rfl, by (intro wq hSw; (try dsimp only at hSw); go_simp)⟩) hHeld ?_
              simp only [Act.put, List.setIfInBounds_toArray, List.set_cons_zero, List.set_cons_succ]
              refine wpAnyH_done (by kernel_rfl) ?_ _
              clear hHeld
              go_wp2
              go_ret
              exact ⟨by rw [HE.out]; rfl, ⟨HBF.out.os, HBF.out.tape, HBF.out.output, HBF.out.size, HBF.out.block⟩⟩
            · have q4 : decide ((y : Int) ≤ (yp : Int)) = false := decide_eq_false hle
              by_cases hsz : (mem8 y).length = (mem8 y0).length
              · have HNN : Hid (∀ i, i < j + 1 + 1 → stepE n bs i = 0) := fun i hi => by
                  by_cases hij : i < j + 1
                  · exact HST.out i hij
                  · have : i = j + 1 := by omega
                    subst this
                    have hft := HFT.out
                    simp only [Bool.and_eq_true, decide_eq_true_eq] at hft
                    exact step0.2 ⟨hft.1, hft.2, fun _ => by rw [Nat.add_sub_cancel, HYP.out, ← HBB.out]; omega, by rw [HYS.out, HY0S.out, hsz]⟩
                generalize (mem8 y).length = L at *
                generalize (mem8 y0).length = L0 at *
                subst hsz
                have q8 : ((L : Int) != (L : Int)) = false := by simp
                have q9 : yp < y := by omega
                clear hle
                go_wp2
                refine wp_region_held_drew (S := fun w' => w'.cell? ⟨w.heap.size, 1, none⟩ = some (.slice (some ⟨gb, gq, none⟩) bs.length cap) ∧ w'.cell? ⟨gb, gq, none⟩ = some (.int .i64 y0) ∧ w'.cell? ⟨gb, gq + j, none⟩ = some (.int .i64 yp)) (by kernel_rfl) ⟨d1, hc0, hcp⟩ (fun hHeld => ?_)
                refine wpAnyH_tk (i := 0) (d := 47) (v := (.int .i64 (j + 1 : Nat))) rfl rfl (by kernel_rfl) (by kernel_rfl) (by kernel_rfl) (fun _ _ _ h => h) (.inl ⟨by rfl, by (intro wq hSw; (try dsimp only at hSw); go_simp)⟩) hHeld ?_
                simp only [Act.put, List.setIfInBounds_toArray, List.set_cons_zero, List.set_cons_succ]
                refine wpAnyH_tk (i := 1) (d := 48) (v := (.bool true)) rfl rfl (by kernel_rfl) (by kernel_rfl) (by kernel_rfl) (fun _ _ _ h => h) (.inl ⟨by rfl, by (intro wq hSw; (try dsimp only at hSw); go_simp)⟩) hHeld ?_
                simp only [Act.put, List.setIfInBounds_toArray, List.set_cons_zero, List.set_cons_succ]
                refine wpAnyH_tk (i := 2) (d := 49) (v := (.bool true)) rfl rfl (by kernel_rfl) (by kernel_rfl) (by kernel_rfl) (fun _ _ _ h => h) (.inl ⟨by rfl, by (intro wq hSw; (try dsimp only at hSw); go_simp)⟩) hHeld ?_
                simp only [Act.put, List.setIfInBounds_toArray, List.set_cons_zero, List.set_cons_succ]
                refine wpAnyH_tk (i := 3) (d := 50) (v := (.int .i64 y)) rfl rfl (by kernel_rfl) (by kernel_rfl) (by kernel_rfl) (fun _ _ _ h => h) (.inl ⟨by rfl, by (intro wq hSw; (try dsimp only at hSw); go_simp)⟩) hHeld ?_
                simp only [Act.put, List.setIfInBounds_toArray, List.set_cons_zero, List.set_cons_succ]
                refine wpAnyH_tk (i := 4) (d := 51) (v := (.pointer (some ⟨w.heap.size, 1, none⟩))) rfl rfl (by kernel_rfl) (by kernel_rfl) (by kernel_rfl) (fun _ _ _ h => h) (.inl ⟨by rfl, by (intro wq hSw; (try dsimp only at hSw); go_simp)⟩) hHeld ?_
                simp only [Act.put, List.setIfInBounds_toArray, List.set_cons_zero, List.set_cons_succ]
                refine wpAnyH_tk (i := 5) (d := 52) (v := (.slice (some ⟨gb, gq, none⟩) bs.length cap)) rfl rfl (by kernel_rfl) (by kernel_rfl) (by kernel_rfl) (fun _ _ _ h => h) (.inl ⟨by rfl, by (intro wq hSw; (try dsimp only at hSw); go_simp)⟩) hHeld ?_
                simp only [Act.put, List.setIfInBounds_toArray, List.set_cons_zero, List.set_cons_succ]
                refine wpAnyH_tk (i := 6) (d := 53) (v := (.int .i64 (j + 1 : Nat))) rfl rfl (by kernel_rfl) (by kernel_rfl) (by kernel_rfl) (fun _ _ _ h => h) (.inl ⟨by rfl, by (intro wq hSw; (try dsimp only at hSw); go_simp)⟩) hHeld ?_
                simp only [Act.put, List.setIfInBounds_toArray, List.set_cons_zero, List.set_cons_succ]
                refine wpAnyH_tk (i := 7) (d := 54) (v := (.int .i64 j)) rfl rfl (by kernel_rfl) (by kernel_rfl) (by kernel_rfl) (fun _ _ _ h => h) (.inl ⟨by rfl, by (intro wq hSw; (try dsimp only at hSw); go_simp)⟩) hHeld ?_
                simp only [Act.put, List.setIfInBounds_toArray, List.set_cons_zero, List.set_cons_succ]
                refine wpAnyH_tk (i := 8) (d := 55) (v := (.pointer (some ⟨gb, gq + j, none⟩))) rfl rfl (by kernel_rfl) (by kernel_rfl) (by kernel_rfl) (fun _ _ _ h => h) (.inl ⟨by rfl, by (intro wq hSw; (try dsimp only at hSw); go_simp)⟩) hHeld ?_
                simp only [Act.put, List.setIfInBounds_toArray, List.set_cons_zero, List.set_cons_succ]
                refine wpAnyH_tk (i := 9) (d := 56) (v := (.int .i64 yp)) rfl rfl (by kernel_rfl) (by kernel_rfl) (by kernel_rfl) (fun _ _ _ h => h) (.inl ⟨by rfl, by (intro wq hSw; (try dsimp only at hSw); go_simp)⟩) hHeld ?_
                simp only [Act.put, List.setIfInBounds_toArray, List.set_cons_zero, List.set_cons_succ]
                refine wpAnyH_tk (i := 10) (d := 57) (v := (.bool false)) rfl rfl (by kernel_rfl) (by kernel_rfl) (by kernel_rfl) (fun _ _ _ h => h) (.inl ⟨by rfl, by (intro wq hSw; (try dsimp only at hSw); go_simp)⟩) hHeld ?_
                simp only [Act.put, List.setIfInBounds_toArray, List.set_cons_zero, List.set_cons_succ]
                refine wpAnyH_tk (i := 11) (d := 58) (v := (.bool false)) rfl rfl (by kernel_rfl) (by kernel_rfl) (by kernel_rfl) (fun _ _ _ h => h) (.inl ⟨by rfl, by (intro wq hSw; (try dsimp only at hSw); go_simp)⟩) hHeld ?_
                simp only [Act.put, List.setIfInBounds_toArray, List.set_cons_zero, List.set_cons_succ]
                refine wpAnyH_tk (i := 12) (d := 59) (v := (.bool false)) rfl rfl (by kernel_rfl) (by kernel_rfl) (by kernel_rfl) (fun _ _ _ h => h) (.inl ⟨by rfl, by (intro wq hSw; (try dsimp only at hSw); go_simp)⟩) hHeld ?_
                simp only [Act.put, List.setIfInBounds_toArray, List.set_cons_zero, List.set_cons_succ]
                refine wpAnyH_tk (i := 13) (d := 60) (v := (.int .i64 y)) rfl rfl (by kernel_rfl) (by kernel_rfl) (by kernel_rfl) (fun _ _ _ h => h) (.inl ⟨by rfl, by (intro wq hSw; (try dsimp only at hSw); go_simp)⟩) hHeld ?_
                simp only [Act.put, List.setIfInBounds_toArray, List.set_cons_zero, List.set_cons_succ]
                refine wpAnyH_tk (i := 15) (d := 62) (v := (.pointer (some ⟨w.heap.size, 1, none⟩))) rfl rfl (by kernel_rfl) (by kernel_rfl) (by kernel_rfl) (fun _ _ _ h => h) (.inl ⟨by rfl, by (intro wq hSw; (try dsimp only at hSw); go_simp)⟩) hHeld ?_
                simp only [Act.put, List.setIfInBounds_toArray, List.set_cons_zero, List.set_cons_succ]
                refine wpAnyH_tk (i := 16) (d := 63) (v := (.slice (some ⟨gb, gq, none⟩) bs.length cap)) rfl rfl (by kernel_rfl) (by kernel_rfl) (by kernel_rfl) (fun _ _ _ h => h) (.inl ⟨by rfl, by (intro wq hSw; (try dsimp only at hSw); go_simp)⟩) hHeld ?_
                simp only [Act.put, List.setIfInBounds_toArray, List.set_cons_zero, List.set_cons_succ]
                refine wpAnyH_tk (i := 17) (d := 64) (v := (.pointer (some ⟨gb, gq, none⟩))) rfl rfl (by kernel_rfl) (by kernel_rfl) (by kernel_rfl) (fun _ _ _ h => h) (.inl ⟨by rfl, by (intro wq hSw; (try dsimp only at hSw); go_simp)⟩) hHeld ?_
                simp only [Act.put, List.setIfInBounds_toArray, List.set_cons_zero, List.set_cons_succ]
                refine wpAnyH_tk (i := 18) (d := 65) (v := (.int .i64 y0)) rfl rfl (by kernel_rfl) (by kernel_rfl) (by kernel_rfl) (fun _ _ _ h => h) (.inl ⟨by rfl, by (intro wq hSw; (try dsimp only at hSw); go_simp)⟩) hHeld ?_
                simp only [Act.put, List.setIfInBounds_toArray, List.set_cons_zero, List.set_cons_succ]
                refine wpAnyH_ready (rs := [14]) (by kernel_rfl) (by simp) ?_
                refine ready_tk (i := 14) rfl (by rfl) (fun K hK => ?_) AllReadyH.nil
                go_simp
                refine (HSY.out _).mono ?_
                rintro e w3 ⟨rfl, hb⟩
                have HBw3 : Hid (Below wa.heap.size wa w3) := ⟨hb.os, hb.tape, hb.output, hb.size, hb.block⟩
                clear hb
                refine hK.out _ _ (HCC.out w3 HBw3.out) (fun hHeld => ?_)
                clear hK K
                refine wpAnyH_ready (rs := [19]) (by kernel_rfl) (by simp) ?_
                refine ready_tk (i := 19) rfl (by rfl) (fun K hK => ?_) AllReadyH.nil
                go_simp
                refine (HSY0.out _).mono ?_
                rintro e w4 ⟨rfl, hb⟩
                have HBw4 : Hid (Below wa.heap.size wa w4) := HBw3.out.trans (hb.mono HBw3.out.size)
                clear hb
                refine hK.out _ _ (HCC.out w4 HBw4.out) (fun hHeld => ?_)
                clear hK K
                refine wpAnyH_tk (i := 20) (d := 67) (v := (.bool false)) rfl rfl (by kernel_rfl) (by kernel_rfl) (by kernel_rfl) (fun _ _ _ h => h) (.inl ⟨by rfl, by (intro wq hSw; (try dsimp only at hSw); go_simp)⟩) hHeld ?_
                simp only [Act.put, List.setIfInBounds_toArray, List.set_cons_zero, List.set_cons_succ]
                refine wpAnyH_tk (i := 21) (d := 68) (v := (.bool false)) rfl rfl (by kernel_rfl) (by kernel_rfl) (by kernel_rfl) (fun _ _ _ h => h) (.inl ⟨by rfl, by (intro wq hSw; (try dsimp only at hSw); go_simp)⟩) hHeld ?_
                simp only [Act.put, List.setIfInBounds_toArray, List.set_cons_zero, List.set_cons_succ]
                refine wpAnyH_done (by kernel_rfl) ?_ _
                have R2 : Hid (Below W.heap.size W w4) := HBR.out.trans (HBw4.out.mono HBR.out.size)
                clear hHeld
                go_wp2
                exact ⟨⟨j + 1 + 1, by omega, by go_num, HNN.out, R2.out⟩, by simp [intOf]; omega⟩
              · have HE : Hid (matE (n : Int) bs = 3) := by
                  have h3 := step3 (N := n) (bs := bs) (k := j + 1) HFT.out (.inr (by rw [HYS.out, HY0S.out]; exact hsz))
                  show _ = _
                  rw [matE_hit hn8 hlt HST.out (by rw [h3]; decide), h3]
                generalize (mem8 y).length = L at *
                generalize (mem8 y0).length = L0 at *
                have q8 : ((L : Int) != (L0 : Int)) = true := by rw [bne_iff_ne]; omega
                have q9 : yp < y := by omega
                clear hle hsz
                go_wp2
                refine wp_region_held_drew (S := fun w' => w'.cell? ⟨w.heap.size, 1, none⟩ = some (.slice (some ⟨gb, gq, none⟩) bs.length cap) ∧ w'.cell? ⟨gb, gq, none⟩ = some (.int .i64 y0) ∧ w'.cell? ⟨gb, gq + j, none⟩ = some (.int .i64 yp)) (by kernel_rfl) ⟨d1, hc0, hcp⟩ (fun hHeld => ?_)
                refine wpAnyH_tk (i := 0) (d := 47) (v := (.int .i64 (j + 1 : Nat))) rfl rfl (by kernel_rfl) (by kernel_rfl) (by kernel_rfl) (fun _ _ _ h => h) (.inl ⟨by rfl, by (intro wq hSw; (try dsimp only at hSw); go_simp)⟩) hHeld ?_
                simp only [Act.put, List.setIfInBounds_toArray, List.set_cons_zero, List.set_cons_succ]
                refine wpAnyH_tk (i := 1) (d := 48) (v := (.bool true)) rfl rfl (by kernel_rfl) (by kernel_rfl) (by kernel_rfl) (fun _ _ _ h => h) (.inl ⟨by rfl, by (intro wq hSw; (try dsimp only at hSw); go_simp)⟩) hHeld ?_
                simp only [Act.put, List.setIfInBounds_toArray, List.set_cons_zero, List.set_cons_succ]
                refine wpAnyH_tk (i := 2) (d := 49) (v := (.bool true)) rfl rfl (by kernel_rfl) (by kernel_rfl) (by kernel_rfl) (fun _ _ _ h => h) (.inl ⟨by rfl, by (intro wq hSw; (try dsimp only at hSw); go_simp)⟩) hHeld ?_
                simp only [Act.put, List.setIfInBounds_toArray, List.set_cons_zero, List.set_cons_succ]
                refine wpAnyH_tk (i := 3) (d := 50) (v := (.int .i64 y)) rfl rfl (by kernel_rfl) (by kernel_rfl) (by kernel_rfl) (fun _ _ _ h => h) (.inl ⟨by rfl, by (intro wq hSw; (try dsimp only at hSw); go_simp)⟩) hHeld ?_
                simp only [Act.put, List.setIfInBounds_toArray, List.set_cons_zero, List.set_cons_succ]
                refine wpAnyH_tk (i := 4) (d := 51) (v := (.pointer (some ⟨w.heap.size, 1, none⟩))) rfl rfl (by kernel_rfl) (by kernel_rfl) (by kernel_rfl) (fun _ _ _ h => h) (.inl ⟨by rfl, by (intro wq hSw; (try dsimp only at hSw); go_simp)⟩) hHeld ?_
                simp only [Act.put, List.setIfInBounds_toArray, List.set_cons_zero, List.set_cons_succ]
                refine wpAnyH_tk (i := 5) (d := 52) (v := (.slice (some ⟨gb, gq, none⟩) bs.length cap)) rfl rfl (by kernel_rfl) (by kernel_rfl) (by kernel_rfl) (fun _ _ _ h => h) (.inl ⟨by rfl, by (intro wq hSw; (try dsimp only at hSw); go_simp)⟩) hHeld ?_
                simp only [Act.put, List.setIfInBounds_toArray, List.set_cons_zero, List.set_cons_succ]
                refine wpAnyH_tk (i := 6) (d := 53) (v := (.int .i64 (j + 1 : Nat))) rfl rfl (by kernel_rfl) (by kernel_rfl) (by kernel_rfl) (fun _ _ _ h => h) (.inl ⟨by rfl, by (intro wq hSw; (try dsimp only at hSw); go_simp)⟩) hHeld ?_
                simp only [Act.put, List.setIfInBounds_toArray, List.set_cons_zero, List.set_cons_succ]
                refine wpAnyH_tk (i := 7) (d := 54) (v := (.int .i64 j)) rfl rfl (by kernel_rfl) (by kernel_rfl) (by kernel_rfl) (fun _ _ _ h => h) (.inl ⟨by rfl, by (intro wq hSw; (try dsimp only at hSw); go_simp)⟩) hHeld ?_
                simp only [Act.put, List.setIfInBounds_toArray, List.set_cons_zero, List.set_cons_succ]
                refine wpAnyH_tk (i := 8) (d := 55) (v := (.pointer (some ⟨gb, gq + j, none⟩))) rfl rfl (by kernel_rfl) (by kernel_rfl) (by kernel_rfl) (fun _ _ _ h => h) (.inl ⟨by rfl, by (intro wq hSw; (try dsimp only at hSw); go_simp)⟩) hHeld ?_
                simp only [Act.put, List.setIfInBounds_toArray, List.set_cons_zero, List.set_cons_succ]
                refine wpAnyH_tk (i := 9) (d := 56) (v := (.int .i64 yp)) rfl rfl (by kernel_rfl) (by kernel_rfl) (by kernel_rfl) (fun _ _ _ h => h) (.inl ⟨by rfl, by (intro wq hSw; (try dsimp only at hSw); go_simp)⟩) hHeld ?_
                simp only [Act.put, List.setIfInBounds_toArray, List.set_cons_zero, List.set_cons_succ]
                refine wpAnyH_tk (i := 10) (d := 57) (v := (.bool false)) rfl rfl (by kernel_rfl) (by kernel_rfl) (by kernel_rfl) (fun _ _ _ h => h) (.inl ⟨by rfl, by (intro wq hSw; (try dsimp only at hSw); go_simp)⟩) hHeld ?_
                simp only [Act.put, List.setIfInBounds_toArray, List.set_cons_zero, List.set_cons_succ]
                refine wpAnyH_tk (i := 11) (d := 58) (v := (.bool false)) rfl rfl (by kernel_rfl) (by kernel_rfl) (by kernel_rfl) (fun _ _ _ h => h) (.inl ⟨by rfl, by (intro wq hSw; (try dsimp only at hSw); go_simp)⟩) hHeld ?_
                simp only [Act.put, List.setIfInBounds_toArray, List.set_cons_zero, List.set_cons_succ]
                refine wpAnyH_tk (i := 12) (d := 59) (v := (.bool false)) rfl rfl (by kernel_rfl) (by kernel_rfl) (by kernel_rfl) (fun _ _ _ h => h) (.inl ⟨by rfl, by (intro wq hSw; (try dsimp only at hSw); go_simp)⟩) hHeld ?_
                simp only [Act.put, List.setIfInBounds_toArray, List.set_cons_zero, List.set_cons_succ]
                refine wpAnyH_tk (i := 13) (d := 60) (v := (.int .i64 y)) rfl rfl (by kernel_rfl) (by kernel_rfl) (by kernel_rfl) (fun _ _ _ h => h) (.inl ⟨by rfl, by (intro wq hSw; (try dsimp only at hSw); go_simp)⟩) hHeld ?_
                simp only [Act.put, List.setIfInBounds_toArray, List.set_cons_zero, List.set_cons_succ]
                refine wpAnyH_tk (i := 15) (d := 62) (v := (.pointer (some ⟨w.heap.size, 1, none⟩))) rfl rfl (by kernel_rfl) (by kernel_rfl) (by kernel_rfl) (fun _ _ _ h => h) (.inl ⟨by rfl, by (intro wq hSw; (try dsimp only at hSw); go_simp)⟩) hHeld ?_
                simp only [Act.put, List.setIfInBounds_toArray, List.set_cons_zero, List.set_cons_succ]
                refine wpAnyH_tk (i := 16) (d := 63) (v := (.slice (some ⟨gb, gq, none⟩) bs.length cap)) rfl rfl (by kernel_rfl) (by kernel_rfl) (by kernel_rfl) (fun _ _ _ h => h) (.inl ⟨by rfl, by (intro wq hSw; (try dsimp only at hSw); go_simp)⟩) hHeld ?_
                simp only [Act.put, List.setIfInBounds_toArray, List.set_cons_zero, List.set_cons_succ]
                refine wpAnyH_tk (i := 17) (d := 64) (v := (.pointer (some ⟨gb, gq, none⟩))) rfl rfl (by kernel_rfl) (by kernel_rfl) (by kernel_rfl) (fun _ _ _ h => h) (.inl ⟨by rfl, by (intro wq hSw; (try dsimp only at hSw); go_simp)⟩) hHeld ?_
                simp only [Act.put, List.setIfInBounds_toArray, List.set_cons_zero, List.set_cons_succ]
                refine wpAnyH_tk (i := 18) (d := 65) (v := (.int .i64 y0)) rfl rfl (by kernel_rfl) (by kernel_rfl) (by kernel_rfl) (fun _ _ _ h => h) (.inl ⟨by rfl, by (intro wq hSw; (try dsimp only at hSw); go_simp)⟩) hHeld ?_
                simp only [Act.put, List.setIfInBounds_toArray, List.set_cons_zero, List.set_cons_succ]
                refine wpAnyH_ready (rs := [14]) (by kernel_rfl) (by simp) ?_
                refine ready_tk (i := 14) rfl (by rfl) (fun K hK => ?_) AllReadyH.nil
                go_simp
                refine (HSY.out _).mono ?_
                rintro e w3 ⟨rfl, hb⟩
                have HBw3 : Hid (Below wa.heap.size wa w3) := ⟨hb.os, hb.tape, hb.output, hb.size, hb.block⟩
                clear hb
                refine hK.out _ _ (HCC.out w3 HBw3.out) (fun hHeld => ?_)
                clear hK K
                refine wpAnyH_ready (rs := [19]) (by kernel_rfl) (by simp) ?_
                refine ready_tk (i := 19) rfl (by rfl) (fun K hK => ?_) AllReadyH.nil
                go_simp
                refine (HSY0.out _).mono ?_
                rintro e w4 ⟨rfl, hb⟩
                have HBw4 : Hid (Below wa.heap.size wa w4) := HBw3.out.trans (hb.mono HBw3.out.size)
                clear hb
                refine hK.out _ _ (HCC.out w4 HBw4.out) (fun hHeld => ?_)
                clear hK K
                refine wpAnyH_tk (i := 20) (d := 67) (v := (.bool true)) rfl rfl (by kernel_rfl) (by kernel_rfl) (by kernel_rfl) (fun _ _ _ h => h) (.inl ⟨by rfl, by (intro wq hSw; (try dsimp only at hSw); go_simp)⟩) hHeld ?_
                simp only [Act.put, List.setIfInBounds_toArray, List.set_cons_zero, List.set_cons_succ]
                refine wpAnyH_tk (i := 21) (d := 68) (v := (.bool true)) rfl rfl (by kernel_rfl) (by kernel_rfl) (by kernel_rfl) (fun _ _ _ h => h) (.inl ⟨by rfl, by (intro wq hSw; (try dsimp only at hSw); go_simp)⟩) hHeld ?_
                simp only [Act.put, List.setIfInBounds_toArray, List.set_cons_zero, List.set_cons_succ]
                refine wpAnyH_done (by kernel_rfl) ?_ _
                have R2 : Hid (Below w.heap.size w w4) := HBF.out.trans (HBw4.out.mono HBF.out.size)
                clear hHeld
                go_wp2
                go_ret
                exact ⟨by rw [HE.out]; rfl, R2.out⟩
    · have hke : k = bs.length := by omega
      subst hke
      have hpw := pow8_le n hn8
      obtain ⟨tn, htn⟩ : ∃ tn : Nat, tn = 2 ^ n := ⟨_, rfl⟩
      have HTN : Hid (tn = 2 ^ n) := htn
      have hti : (2 : Int) ^ n = (tn : Int) := by rw [htn]; simp
      have htl : tn ≤ 256 := by rw [hti] at hpw; omega
      have HBN : Hid (∀ i, i < bs.length → ∃ y : Nat, bs.getD i 0 = (y : Int) ∧ y < tn) := fun i hi => by
        have h := step0.1 (HST.out i hi)
        have h1 := h.lo
        have h2 := h.hi
        rw [hti] at h2
        exact ⟨(bs.getD i 0).toNat, by omega, by omega⟩
      have HME : Hid (matE (n : Int) bs = if exB bs = true then 0 else 3) := matE_end hn8 (by omega) HST.out
      have hwt : wrap64 (tn : Int) = (tn : Int) := IntWalk.wrap64_in _ ⟨by omega, by omega⟩
      have hmk : ∀ w : World, (Instr.makeSlice 46 (.int .i64 (tn : Int)) (.int .i64 (tn : Int))).run Tryd.prog w = .ok (.slice (some ⟨w.heap.size, 0, none⟩) tn tn) (w.alloc (.cells (madeCells #[.bool false] tn) 4)) := run_make_row' (P := Tryd.prog) 46 4 (.bool false) 1 Tryd.underlying46 (by kernel_rfl) rfl .i64 .i64 tn (by omega) (by omega)
      have hl1 : 0 < bs.length := by omega
      obtain ⟨gb, gq, gcc, hs, _, hcc⟩ := sl_cell hsl hl1
      simp only [Value.slice.injEq] at hs
      obtain ⟨rfl, -, rfl⟩ := hs
      obtain ⟨W1, hW1⟩ : ∃ W1, W1 = wa.alloc (.cells (madeCells #[.bool false] tn) 4) := ⟨_, rfl⟩
      have HB1 : Hid (Below wa.heap.size wa W1) := by rw [hW1]; exact (Below.refl _ _).alloc (Nat.le_refl _) _
      have HR1 : Hid (W1.rowIs wa.heap.size 4 tn (fun _ => .bool false)) := by rw [hW1]; exact World.rowIs_made wa (.bool false) tn 4
      have HC1 : Hid (∀ W', Below wa.heap.size wa W' → W'.cell? ⟨w.heap.size, 1, none⟩ = some (.slice (some ⟨gb, gq, none⟩) bs.length cap) ∧ Sl w.heap.size 3 W' (.slice (some ⟨gb, gq, none⟩) bs.length cap) (ints bs) ∧ Below w.heap.size w W') := fun W' h =>
        ⟨(h.cell (lt_of_cell d1)).trans d1, hsl.below h (Nat.le_refl _), HBF.out.trans (h.mono HBF.out.size)⟩
      have HLT : Hid (gb < wa.heap.size) := lt_of_cell hcc
      clear hsl hcc htn hpw
      go_wp2
      rw [← hW1]
      clear hmk hW1
      go_loopw [6] (fun i wr => ∃ k : Nat, k ≤ bs.length ∧ i = .int .i64 k ∧ wr.rowIs wa.heap.size 4 tn (fun x => .bool ((bs.take k).contains (x : Int))) ∧ Below wa.heap.size wa wr) (fun i _ => bs.length - (intOf i).toNat)
      case atStart => exact ⟨0, Nat.zero_le _, rfl, HR1.out.congr (fun i hi => by simp), HB1.out⟩
      case round =>
        obtain ⟨k, hk, rfl, hrw, hbr⟩ := hrel
        have HRW : Hid (wr.rowIs wa.heap.size 4 tn (fun x => .bool ((bs.take k).contains (x : Int)))) := hrw
        have HBR : Hid (Below wa.heap.size wa wr) := hbr
        obtain ⟨e1, hsl, -⟩ := HC1.out wr hbr
        clear hrw hbr
        by_cases hlt : k < bs.length
        · obtain ⟨hb, hq, _, hs, _, hcc⟩ := sl_cell hsl hlt
          simp only [Value.slice.injEq, Option.some.injEq, Addr.mk.injEq, and_true] at hs
          obtain ⟨⟨rfl, rfl⟩, -, -⟩ := hs
          obtain ⟨y, hy, hyt⟩ := HBN.out k hlt
          rw [hy] at hcc
          have hst := HRW.out.cell hyt
          have hfz := HRW.out.frozen y
          have kI : (k : Int) < (bs.length : Int) := by omega
          have kI0 : (0 : Int) ≤ (k : Int) := by omega
          have yI : (y : Int) < (tn : Int) := by omega
          have yI0 : (0 : Int) ≤ (y : Int) := by omega
          have HN : Hid ((wr.setCell ⟨wa.heap.size, y, none⟩ (.bool true)).rowIs wa.heap.size 4 tn (fun x => .bool ((bs.take (k + 1)).contains (x : Int))) ∧ Below wa.heap.size wa (wr.setCell ⟨wa.heap.size, y, none⟩ (.bool true))) := by
            refine ⟨(HRW.out.set y (.bool true)).congr fun i hi => ?_, ?_⟩
            · have e : (bs.take (k + 1)).contains (i : Int) = ((bs.take k).contains (i : Int) || ((i : Int) == (y : Int))) := by
                rw [List.take_succ_eq_append_getElem hlt, List.contains_append]
                have : bs[k] = (y : Int) := by rw [← hy]; simp [hlt]
                rw [this]
                simp
                rfl
              rw [e]
              by_cases hiy : i = y
              · subst hiy; simp
              · have : ((i : Int) == (y : Int)) = false := by rw [beq_eq_false_iff_ne]; omega
                rw [this, if_neg hiy, Bool.or_false]
            · exact ⟨HBR.out.os, HBR.out.tape, HBR.out.output, by simp only [World.setCell, Array.size_modify]; exact HBR.out.size, fun b hb => (Below.heap_setCell _ _ _ _ (by show b ≠ wa.heap.size; omega)).trans (HBR.out.block b hb)⟩
          clear hsl hy
          go_wp2
          exact ⟨⟨k + 1, by omega, by go_num, HN.out.1, HN.out.2⟩, by simp [intOf]; omega⟩
        · have hke : k = bs.length := by omega
          subst hke
          have HRF : Hid (wr.rowIs wa.heap.size 4 tn (fun x => .bool (bs.contains (x : Int)))) := by
            have := HRW.out
            rw [List.take_length] at this
            exact this
          clear hsl
          go_wp2
          obtain ⟨wt, rfl⟩ : ∃ wt, wt = wr := ⟨wr, rfl⟩
          have HC2 : Hid (∀ W', Below wt.heap.size wt W' → W'.cell? ⟨w.heap.size, 1, none⟩ = some (.slice (some ⟨gb, gq, none⟩) bs.length cap) ∧ Sl w.heap.size 3 W' (.slice (some ⟨gb, gq, none⟩) bs.length cap) (ints bs) ∧ Below w.heap.size w W' ∧ W'.rowIs wa.heap.size 4 tn (fun x => .bool (bs.contains (x : Int)))) := fun W' h => by
            obtain ⟨k1, k2, k3⟩ := HC1.out W' (HBR.out.trans (h.mono HBR.out.size))
            exact ⟨k1, k2, k3, HRF.out.of_block (h.block _ HRF.out.lt)⟩
          clear HRW HC1 HR1 HB1 e1
          go_loopw [7] (fun i wr => ∃ k : Nat, k ≤ bs.length ∧ i = .int .i64 k ∧ (bs.take k).all (fun a => bs.all fun b => gvB bs a.toNat b.toNat) = true ∧ Below wt.heap.size wt wr) (fun i _ => bs.length - (intOf i).toNat)
          case atStart => exact ⟨0, Nat.zero_le _, rfl, by simp, Below.refl _ _⟩
          case round =>
            obtain ⟨i, hi, rfl, hall, hbr⟩ := hrel
            have HA : Hid ((bs.take i).all (fun a => bs.all fun b => gvB bs a.toNat b.toNat) = true) := hall
            have HBI : Hid (Below wt.heap.size wt wr) := hbr
            clear hall hbr
            by_cases hil : i < bs.length
            · obtain ⟨a, ha, hat⟩ := HBN.out i hil
              have HS1 : Hid ((bs.take (i + 1)).all (fun a => bs.all fun b => gvB bs a.toNat b.toNat) = bs.all fun b => gvB bs a b.toNat) := by
                have := all_snoc (p := fun a => bs.all fun b => gvB bs a.toNat b.toNat) hil HA.out
                rw [ha] at this
                simp only [Int.toNat_natCast] at this
                exact this
              have HF1 : Hid ((bs.all fun b => gvB bs a b.toNat) = false → exB bs = false) := fun h => all_stop (p := fun a => bs.all fun b => gvB bs a.toNat b.toNat) hil (by rw [ha]; simpa using h)
              have HAV : Hid (bs.getD i 0 = (a : Int)) := ha
              have iI : (i : Int) < (bs.length : Int) := by omega
              have iI0 : (0 : Int) ≤ (i : Int) := by omega
              obtain ⟨wi, rfl⟩ : ∃ wi, wi = wr := ⟨wr, rfl⟩
              obtain ⟨e1, -, -, -⟩ := HC2.out wi HBI.out
              clear ha
              go_wp2
              clear e1
              go_loopw [8] (fun x wr => ∃ j : Nat, j ≤ bs.length ∧ x = .int .i64 j ∧ (bs.take j).all (fun b => gvB bs a b.toNat) = true ∧ Below wt.heap.size wt wr) (fun x _ => bs.length - (intOf x).toNat)
              case atStart => exact ⟨0, Nat.zero_le _, rfl, by simp, HBI.out⟩
              case round =>
                obtain ⟨j, hj, rfl, hall, hbr⟩ := hrel
                have HA2 : Hid ((bs.take j).all (fun b => gvB bs a b.toNat) = true) := hall
                have HBJ : Hid (Below wt.heap.size wt wr) := hbr
                clear hall hbr HBI
                obtain ⟨wj, rfl⟩ : ∃ wj, wj = wr := ⟨wr, rfl⟩
                obtain ⟨e1, hsl, -, -⟩ := HC2.out wj HBJ.out
                by_cases hjl : j < bs.length
                · obtain ⟨b, hb, hbt⟩ := HBN.out j hjl
                  have HS2 : Hid ((bs.take (j + 1)).all (fun b => gvB bs a b.toNat) = gvB bs a b) := by
                    have := all_snoc (p := fun b => gvB bs a b.toNat) hjl HA2.out
                    rw [hb] at this
                    simp only [Int.toNat_natCast] at this
                    exact this
                  have HF2 : Hid (gvB bs a b = false → exB bs = false) := fun h => HF1.out (all_stop (p := fun b => gvB bs a b.toNat) hjl (by rw [hb]; simpa using h))
                  obtain ⟨hbi, hqi, _, hsi, _, hci⟩ := sl_cell hsl hil
                  simp only [Value.slice.injEq, Option.some.injEq, Addr.mk.injEq, and_true] at hsi
                  obtain ⟨⟨rfl, rfl⟩, -, -⟩ := hsi
                  obtain ⟨hbj, hqj, _, hsj, _, hcj⟩ := sl_cell hsl hjl
                  simp only [Value.slice.injEq, Option.some.injEq, Addr.mk.injEq, and_true] at hsj
                  obtain ⟨⟨rfl, rfl⟩, -, -⟩ := hsj
                  rw [HAV.out] at hci
                  rw [hb] at hcj
                  have HCJ : Hid (∀ W', Below wj.heap.size wj W' → W'.cell? ⟨w.heap.size, 1, none⟩ = some (.slice (some ⟨gb, gq, none⟩) bs.length cap) ∧ W'.cell? ⟨gb, gq + i, none⟩ = some (.int .i64 a) ∧ W'.cell? ⟨gb, gq + j, none⟩ = some (.int .i64 b)) := fun W' h => ⟨(h.cell (lt_of_cell e1)).trans e1, (h.cell (lt_of_cell hci)).trans hci, (h.cell (lt_of_cell hcj)).trans hcj⟩
                  have ha8 : a < 256 := by omega
                  have hb8 : b < 256 := by omega
                  have HM1 : Hid (∀ W', Calls Tryd.prog 24 #[.int .i64 ((outN a b : Nat) : Int)] W' fun e w' => ∃ uo uc, e = .returned (.slice uo (mem8 (outN a b)).length uc) ∧ Sl 0 3 w' (.slice uo (mem8 (outN a b)).length uc) (ints (mem8 (outN a b))) ∧ Below W'.heap.size W' w') := fun W' =>
                    (members8_any _ W' (outN_lt8 ha8)).mono (by
                      rintro e w' ⟨u, rfl, h1, h2⟩
                      obtain ⟨uo, uc, rfl⟩ := owns_form h1
                      exact ⟨uo, uc, rfl, Sl.own h1, h2⟩)
                  have HM2 : Hid (∀ W', Calls Tryd.prog 24 #[.int .i64 ((outN b a : Nat) : Int)] W' fun e w' => ∃ uo uc, e = .returned (.slice uo (mem8 (outN b a)).length uc) ∧ Sl 0 3 w' (.slice uo (mem8 (outN b a)).length uc) (ints (mem8 (outN b a))) ∧ Below W'.heap.size W' w') := fun W' =>
                    (members8_any _ W' (outN_lt8 hb8)).mono (by
                      rintro e w' ⟨u, rfl, h1, h2⟩
                      obtain ⟨uo, uc, rfl⟩ := owns_form h1
                      exact ⟨uo, uc, rfl, Sl.own h1, h2⟩)
                  obtain ⟨cb, hcb⟩ : ∃ cb : Nat, cb = 255 - b := ⟨_, rfl⟩
                  obtain ⟨ca, hca⟩ : ∃ ca : Nat, ca = 255 - a := ⟨_, rfl⟩
                  have r1 : IntKind.i64.wrap (255 - (b : Int)) = (cb : Int) := by
                    rw [show (255 - (b : Int)) = (cb : Int) by omega]; exact wrap_small (by omega)
                  have r2 : IntKind.i64.wrap (255 - (a : Int)) = (ca : Int) := by
                    rw [show (255 - (a : Int)) = (ca : Int) by omega]; exact wrap_small (by omega)
                  have r3 : bits .and .i64 (a : Int) (cb : Int) = ((outN a b : Nat) : Int) := by rw [bits_and_i64_nat _ _ (by omega) (by omega), hcb, and255 ha8 hb8]
                  have r4 : bits .and .i64 (b : Int) (ca : Int) = ((outN b a : Nat) : Int) := by rw [bits_and_i64_nat _ _ (by omega) (by omega), hca, and255 hb8 ha8]
                  have HOB : Hid (∀ x : Nat, (x : Int) ∈ mem8 (outN a b) → x < 8 ∧ a.testBit x = true ∧ b.testBit x = false) := fun x h => mem_bit h
                  have HGB : Hid (∀ x : Nat, (x : Int) ∈ mem8 (outN b a) → x < 8 ∧ b.testBit x = true ∧ a.testBit x = false) := fun x h => mem_bit h
                  have HMO : Hid (∀ y ∈ mem8 (outN a b), ∃ i : Nat, i < 8 ∧ y = (i : Int)) := fun y hy => mem8_rng hy
                  have HMG : Hid (∀ y ∈ mem8 (outN b a), ∃ i : Nat, i < 8 ∧ y = (i : Int)) := fun y hy => mem8_rng hy
                  have HGV : Hid (gvB bs a b = (mem8 (outN a b)).all (stB bs a b)) := rfl
                  have HSB : Hid (∀ x, stB bs a b x = (mem8 (outN b a)).any fun y => bs.contains (swp a x.toNat y.toNat : Int)) := fun x => rfl
                  have hol := mem8_len (outN a b)
                  have hgl := mem8_len (outN b a)
                  generalize stB bs a b = p at *
                  generalize hO : mem8 (outN a b) = O at *
                  generalize hG : mem8 (outN b a) = G at *
                  generalize outN a b = oab at *
                  generalize outN b a = oba at *
                  generalize gvB bs a b = ans at *
                  clear hO hG hb hca hcb hsl
                  have jI : (j : Int) < (bs.length : Int) := by omega
                  have jI0 : (0 : Int) ≤ (j : Int) := by omega
                  go_wp2
                  refine wp_region_held_drew (S := fun w' => w'.cell? ⟨w.heap.size, 1, none⟩ = some (.slice (some ⟨gb, gq, none⟩) bs.length cap) ∧ w'.cell? ⟨gb, gq + i, none⟩ = some (.int .i64 a) ∧ w'.cell? ⟨gb, gq + j, none⟩ = some (.int .i64 b)) (by kernel_rfl) ⟨e1, hci, hcj⟩ (fun hHeld => ?_)
                  refine wpAnyH_tk (i := 0) (d := 101) (v := (.pointer (some ⟨w.heap.size, 1, none⟩))) rfl rfl (by kernel_rfl) (by kernel_rfl) (by kernel_rfl) (fun _ _ _ h => h) (.inl ⟨by rfl, by (intro wq hSw; (try dsimp only at hSw); go_simp)⟩) hHeld ?_
                  simp only [Act.put, List.setIfInBounds_toArray, List.set_cons_zero, List.set_cons_succ]
                  refine wpAnyH_tk (i := 1) (d := 102) (v := (.slice (some ⟨gb, gq, none⟩) bs.length cap)) rfl rfl (by kernel_rfl) (by kernel_rfl) (by kernel_rfl) (fun _ _ _ h => h) (.inl ⟨by rfl, by (intro wq hSw; (try dsimp only at hSw); go_simp)⟩) hHeld ?_
                  simp only [Act.put, List.setIfInBounds_toArray, List.set_cons_zero, List.set_cons_succ]
                  refine wpAnyH_tk (i := 2) (d := 103) (v := (.int .i64 i)) rfl rfl (by kernel_rfl) (by kernel_rfl) (by kernel_rfl) (fun _ _ _ h => h) (.inl ⟨by rfl, by (intro wq hSw; (try dsimp only at hSw); go_simp)⟩) hHeld ?_
                  simp only [Act.put, List.setIfInBounds_toArray, List.set_cons_zero, List.set_cons_succ]
                  refine wpAnyH_tk (i := 3) (d := 104) (v := (.pointer (some ⟨gb, gq + i, none⟩))) rfl rfl (by kernel_rfl) (by kernel_rfl) (by kernel_rfl) (fun _ _ _ h => h) (.inl ⟨by rfl, by (intro wq hSw; (try dsimp only at hSw); go_simp)⟩) hHeld ?_
                  simp only [Act.put, List.setIfInBounds_toArray, List.set_cons_zero, List.set_cons_succ]
                  refine wpAnyH_tk (i := 4) (d := 105) (v := (.int .i64 a)) rfl rfl (by kernel_rfl) (by kernel_rfl) (by kernel_rfl) (fun _ _ _ h => h) (.inl ⟨by rfl, by (intro wq hSw; (try dsimp only at hSw); go_simp)⟩) hHeld ?_
                  simp only [Act.put, List.setIfInBounds_toArray, List.set_cons_zero, List.set_cons_succ]
                  refine wpAnyH_tk (i := 5) (d := 106) (v := (.pointer (some ⟨w.heap.size, 1, none⟩))) rfl rfl (by kernel_rfl) (by kernel_rfl) (by kernel_rfl) (fun _ _ _ h => h) (.inl ⟨by rfl, by (intro wq hSw; (try dsimp only at hSw); go_simp)⟩) hHeld ?_
                  simp only [Act.put, List.setIfInBounds_toArray, List.set_cons_zero, List.set_cons_succ]
                  refine wpAnyH_tk (i := 6) (d := 107) (v := (.slice (some ⟨gb, gq, none⟩) bs.length cap)) rfl rfl (by kernel_rfl) (by kernel_rfl) (by kernel_rfl) (fun _ _ _ h => h) (.inl ⟨by rfl, by (intro wq hSw; (try dsimp only at hSw); go_simp)⟩) hHeld ?_
                  simp only [Act.put, List.setIfInBounds_toArray, List.set_cons_zero, List.set_cons_succ]
                  refine wpAnyH_tk (i := 7) (d := 108) (v := (.int .i64 j)) rfl rfl (by kernel_rfl) (by kernel_rfl) (by kernel_rfl) (fun _ _ _ h => h) (.inl ⟨by rfl, by (intro wq hSw; (try dsimp only at hSw); go_simp)⟩) hHeld ?_
                  simp only [Act.put, List.setIfInBounds_toArray, List.set_cons_zero, List.set_cons_succ]
                  refine wpAnyH_tk (i := 8) (d := 109) (v := (.pointer (some ⟨gb, gq + j, none⟩))) rfl rfl (by kernel_rfl) (by kernel_rfl) (by kernel_rfl) (fun _ _ _ h => h) (.inl ⟨by rfl, by (intro wq hSw; (try dsimp only at hSw); go_simp)⟩) hHeld ?_
                  simp only [Act.put, List.setIfInBounds_toArray, List.set_cons_zero, List.set_cons_succ]
                  refine wpAnyH_tk (i := 9) (d := 110) (v := (.int .i64 b)) rfl rfl (by kernel_rfl) (by kernel_rfl) (by kernel_rfl) (fun _ _ _ h => h) (.inl ⟨by rfl, by (intro wq hSw; (try dsimp only at hSw); go_simp)⟩) hHeld ?_
                  simp only [Act.put, List.setIfInBounds_toArray, List.set_cons_zero, List.set_cons_succ]
                  refine wpAnyH_tk (i := 10) (d := 111) (v := (.int .i64 cb)) rfl rfl (by kernel_rfl) (by kernel_rfl) (by kernel_rfl) (fun _ _ _ h => h) (.inl ⟨by rfl, by (intro wq hSw; (try dsimp only at hSw); go_simp)⟩) hHeld ?_
                  simp only [Act.put, List.setIfInBounds_toArray, List.set_cons_zero, List.set_cons_succ]
                  refine wpAnyH_tk (i := 11) (d := 112) (v := (.int .i64 oab)) rfl rfl (by kernel_rfl) (by kernel_rfl) (by kernel_rfl) (fun _ _ _ h => h) (.inl ⟨by rfl, by (intro wq hSw; (try dsimp only at hSw); go_simp)⟩) hHeld ?_
                  simp only [Act.put, List.setIfInBounds_toArray, List.set_cons_zero, List.set_cons_succ]
                  refine wpAnyH_ready (rs := [12]) (by kernel_rfl) (by simp) ?_
                  refine ready_tk (i := 12) rfl (by rfl) (fun K hK => ?_) AllReadyH.nil
                  go_simp
                  refine (HM1.out _).mono ?_
                  rintro e w5 ⟨uow5, ucw5, rfl, hsw5, hb⟩
                  have HSw5 : Hid (Sl 0 3 w5 (.slice uow5 _ ucw5) (ints _)) := hsw5
                  have HBw5 : Hid (Below wj.heap.size wj w5) := ⟨hb.os, hb.tape, hb.output, hb.size, hb.block⟩
                  clear hb hsw5
                  refine hK.out _ _ (HCJ.out w5 HBw5.out) (fun hHeld => ?_)
                  clear hK K
                  refine wpAnyH_tk (i := 13) (d := 9) (v := (.slice uow5 O.length ucw5)) rfl rfl (by kernel_rfl) (by kernel_rfl) (by kernel_rfl) (fun _ _ _ h => h) (.inl ⟨by rfl, by (intro wq hSw; (try dsimp only at hSw); go_simp)⟩) hHeld ?_
                  simp only [Act.put, List.setIfInBounds_toArray, List.set_cons_zero, List.set_cons_succ]
                  refine wpAnyH_done (by kernel_rfl) ?_ _
                  clear hHeld
                  obtain ⟨f1, f2, f3⟩ := HCJ.out w5 HBw5.out
                  clear e1 hci hcj
                  go_wp2
                  refine wp_region_held_drew (S := fun w' => w'.cell? ⟨w.heap.size, 1, none⟩ = some (.slice (some ⟨gb, gq, none⟩) bs.length cap) ∧ w'.cell? ⟨gb, gq + i, none⟩ = some (.int .i64 a) ∧ w'.cell? ⟨gb, gq + j, none⟩ = some (.int .i64 b)) (by kernel_rfl) ⟨f1, f2, f3⟩ (fun hHeld => ?_)
                  refine wpAnyH_tk (i := 0) (d := 114) (v := (.pointer (some ⟨w.heap.size, 1, none⟩))) rfl rfl (by kernel_rfl) (by kernel_rfl) (by kernel_rfl) (fun _ _ _ h => h) (.inl ⟨by rfl, by (intro wq hSw; (try dsimp only at hSw); go_simp)⟩) hHeld ?_
                  simp only [Act.put, List.setIfInBounds_toArray, List.set_cons_zero, List.set_cons_succ]
                  refine wpAnyH_tk (i := 1) (d := 115) (v := (.slice (some ⟨gb, gq, none⟩) bs.length cap)) rfl rfl (by kernel_rfl) (by kernel_rfl) (by kernel_rfl) (fun _ _ _ h => h) (.inl ⟨by rfl, by (intro wq hSw; (try dsimp only at hSw); go_simp)⟩) hHeld ?_
                  simp only [Act.put, List.setIfInBounds_toArray, List.set_cons_zero, List.set_cons_succ]
                  refine wpAnyH_tk (i := 2) (d := 116) (v := (.int .i64 j)) rfl rfl (by kernel_rfl) (by kernel_rfl) (by kernel_rfl) (fun _ _ _ h => h) (.inl ⟨by rfl, by (intro wq hSw; (try dsimp only at hSw); go_simp)⟩) hHeld ?_
                  simp only [Act.put, List.setIfInBounds_toArray, List.set_cons_zero, List.set_cons_succ]
                  refine wpAnyH_tk (i := 3) (d := 117) (v := (.pointer (some ⟨gb, gq + j, none⟩))) rfl rfl (by kernel_rfl) (by kernel_rfl) (by kernel_rfl) (fun _ _ _ h => h) (.inl ⟨by rfl, by (intro wq hSw; (try dsimp only at hSw); go_simp)⟩) hHeld ?_
                  simp only [Act.put, List.setIfInBounds_toArray, List.set_cons_zero, List.set_cons_succ]
                  refine wpAnyH_tk (i := 4) (d := 118) (v := (.int .i64 b)) rfl rfl (by kernel_rfl) (by kernel_rfl) (by kernel_rfl) (fun _ _ _ h => h) (.inl ⟨by rfl, by (intro wq hSw; (try dsimp only at hSw); go_simp)⟩) hHeld ?_
                  simp only [Act.put, List.setIfInBounds_toArray, List.set_cons_zero, List.set_cons_succ]
                  refine wpAnyH_tk (i := 5) (d := 119) (v := (.pointer (some ⟨w.heap.size, 1, none⟩))) rfl rfl (by kernel_rfl) (by kernel_rfl) (by kernel_rfl) (fun _ _ _ h => h) (.inl ⟨by rfl, by (intro wq hSw; (try dsimp only at hSw); go_simp)⟩) hHeld ?_
                  simp only [Act.put, List.setIfInBounds_toArray, List.set_cons_zero, List.set_cons_succ]
                  refine wpAnyH_tk (i := 6) (d := 120) (v := (.slice (some ⟨gb, gq, none⟩) bs.length cap)) rfl rfl (by kernel_rfl) (by kernel_rfl) (by kernel_rfl) (fun _ _ _ h => h) (.inl ⟨by rfl, by (intro wq hSw; (try dsimp only at hSw); go_simp)⟩) hHeld ?_
                  simp only [Act.put, List.setIfInBounds_toArray, List.set_cons_zero, List.set_cons_succ]
                  refine wpAnyH_tk (i := 7) (d := 121) (v := (.int .i64 i)) rfl rfl (by kernel_rfl) (by kernel_rfl) (by kernel_rfl) (fun _ _ _ h => h) (.inl ⟨by rfl, by (intro wq hSw; (try dsimp only at hSw); go_simp)⟩) hHeld ?_
                  simp only [Act.put, List.setIfInBounds_toArray, List.set_cons_zero, List.set_cons_succ]
                  refine wpAnyH_tk (i := 8) (d := 122) (v := (.pointer (some ⟨gb, gq + i, none⟩))) rfl rfl (by kernel_rfl) (by kernel_rfl) (by kernel_rfl) (fun _ _ _ h => h) (.inl ⟨by rfl, by (intro wq hSw; (try dsimp only at hSw); go_simp)⟩) hHeld ?_
                  simp only [Act.put, List.setIfInBounds_toArray, List.set_cons_zero, List.set_cons_succ]
                  refine wpAnyH_tk (i := 9) (d := 123) (v := (.int .i64 a)) rfl rfl (by kernel_rfl) (by kernel_rfl) (by kernel_rfl) (fun _ _ _ h => h) (.inl ⟨by rfl, by (intro wq hSw; (try dsimp only at hSw); go_simp)⟩) hHeld ?_
                  simp only [Act.put, List.setIfInBounds_toArray, List.set_cons_zero, List.set_cons_succ]
                  refine wpAnyH_tk (i := 10) (d := 124) (v := (.int .i64 ca)) rfl rfl (by kernel_rfl) (by kernel_rfl) (by kernel_rfl) (fun _ _ _ h => h) (.inl ⟨by rfl, by (intro wq hSw; (try dsimp only at hSw); go_simp)⟩) hHeld ?_
                  simp only [Act.put, List.setIfInBounds_toArray, List.set_cons_zero, List.set_cons_succ]
                  refine wpAnyH_tk (i := 11) (d := 125) (v := (.int .i64 oba)) rfl rfl (by kernel_rfl) (by kernel_rfl) (by kernel_rfl) (fun _ _ _ h => h) (.inl ⟨by rfl, by (intro wq hSw; (try dsimp only at hSw); go_simp)⟩) hHeld ?_
                  simp only [Act.put, List.setIfInBounds_toArray, List.set_cons_zero, List.set_cons_succ]
                  refine wpAnyH_ready (rs := [12]) (by kernel_rfl) (by simp) ?_
                  refine ready_tk (i := 12) rfl (by rfl) (fun K hK => ?_) AllReadyH.nil
                  go_simp
                  refine (HM2.out _).mono ?_
                  rintro e w6 ⟨uow6, ucw6, rfl, hsw6, hb⟩
                  have HSw6 : Hid (Sl 0 3 w6 (.slice uow6 _ ucw6) (ints _)) := hsw6
                  have HBw6 : Hid (Below w5.heap.size w5 w6) := ⟨hb.os, hb.tape, hb.output, hb.size, hb.block⟩
                  clear hb hsw6
                  refine hK.out _ _ (HCJ.out w6 (HBw5.out.trans (HBw6.out.mono HBw5.out.size))) (fun hHeld => ?_)
                  clear hK K
                  refine wpAnyH_tk (i := 13) (d := 10) (v := (.slice uow6 G.length ucw6)) rfl rfl (by kernel_rfl) (by kernel_rfl) (by kernel_rfl) (fun _ _ _ h => h) (.inl ⟨by rfl, by (intro wq hSw; (try dsimp only at hSw); go_simp)⟩) hHeld ?_
                  simp only [Act.put, List.setIfInBounds_toArray, List.set_cons_zero, List.set_cons_succ]
                  refine wpAnyH_done (by kernel_rfl) ?_ _
                  clear hHeld f1 f2 f3
                  have HO6 : Hid (Sl 0 3 w6 (.slice uow5 O.length ucw5) (ints O)) := HSw5.out.below HBw6.out (Nat.le_refl _)
                  have HB6 : Hid (Below wj.heap.size wj w6) := HBw5.out.trans (HBw6.out.mono HBw5.out.size)
                  go_wp2
                  go_loopw [11] (fun x wr => ∃ k : Nat, k ≤ O.length ∧ x = .int .i64 k ∧ (O.take k).all p = true ∧ Below w6.heap.size w6 wr) (fun x _ => O.length - (intOf x).toNat)
                  case atStart => exact ⟨0, Nat.zero_le _, rfl, by simp, Below.refl _ _⟩
                  case round =>
                    obtain ⟨k, hk, rfl, hall, hbr⟩ := hrel
                    have HAX : Hid ((O.take k).all p = true) := hall
                    have HBX : Hid (Below w6.heap.size w6 wr) := hbr
                    clear hall hbr
                    obtain ⟨wx, rfl⟩ : ∃ wx, wx = wr := ⟨wr, rfl⟩
                    by_cases hkl : k < O.length
                    · obtain ⟨ob, oq, _, hs, _, hox⟩ := sl_cell HO6.out hkl
                      simp only [Value.slice.injEq] at hs
                      obtain ⟨rfl, -, -⟩ := hs
                      have hxm : O.getD k 0 ∈ O := by simp [hkl]
                      obtain ⟨x, hx8, hx⟩ := HMO.out (O.getD k 0) hxm
                      rw [hx] at hox hxm
                      have HXB : Hid (a.testBit x = true) := (HOB.out x hxm).2.1
                      have HS3 : Hid ((O.take (k + 1)).all p = p x) := by rw [← hx]; exact all_snoc hkl HAX.out
                      have HF3 : Hid (p x = false → exB bs = false) := fun h => HF2.out (by rw [HGV.out]; exact all_stop hkl (by rw [hx]; exact h))
                      have HPX : Hid (p x = G.any fun y => bs.contains (swp a x y.toNat : Int)) := by
                        show _ = _
                        rw [HSB.out, Int.toNat_natCast]
                      have kI : (k : Int) < (O.length : Int) := by omega
                      have kI0 : (0 : Int) ≤ (k : Int) := by omega
                      clear hxm hx
                      go_wp2
                      go_loopw [12, 13] (fun okv y wr => ∃ m : Nat, m ≤ G.length ∧ y = .int .i64 m ∧ okv = .bool ((G.take m).any fun y => bs.contains (swp a x y.toNat : Int)) ∧ Below w6.heap.size w6 wr) (fun _ y _ => G.length - (intOf y).toNat)
                      case atStart => exact ⟨0, Nat.zero_le _, rfl, by simp, HBX.out⟩
                      case round =>
                        obtain ⟨m, hm, rfl, rfl, hbr⟩ := hrel
                        have HBY : Hid (Below w6.heap.size w6 wr) := hbr
                        clear hbr
                        obtain ⟨wy, rfl⟩ : ∃ wy, wy = wr := ⟨wr, rfl⟩
                        by_cases hml : m < G.length
                        · obtain ⟨tb, tq, _, hs, _, hty⟩ := sl_cell HSw6.out hml
                          simp only [Value.slice.injEq] at hs
                          obtain ⟨rfl, -, -⟩ := hs
                          have hym : G.getD m 0 ∈ G := by simp [hml]
                          obtain ⟨y, hy8, hy⟩ := HMG.out (G.getD m 0) hym
                          rw [hy] at hty hym
                          obtain ⟨-, hyb, hya⟩ := HGB.out y hym
                          obtain ⟨sw, hsw⟩ : ∃ sw : Nat, sw = swp a x y := ⟨_, rfl⟩
                          have hnum := swp_num a ha8 x hx8 y hy8 HXB.out hya
                          have hswt : sw < tn := by
                            have h2 := HTN.out
                            rw [h2] at hat hbt
                            rw [hsw, h2]
                            exact swp_ltn hat (bit_lt hbt hyb)
                          have HNX : Hid (((G.take (m + 1)).any fun y => bs.contains (swp a x y.toNat : Int)) = (((G.take m).any fun y => bs.contains (swp a x y.toNat : Int)) || bs.contains (sw : Int))) := by
                            have e : G[m] = (y : Int) := by rw [← hy]; simp [hml]
                            show _ = _
                            rw [List.take_succ_eq_append_getElem hml, List.any_append, e, hsw]
                            simp
                          rw [← hsw] at hnum
                          obtain ⟨px, hpx⟩ : ∃ px : Nat, px = 2 ^ x := ⟨_, rfl⟩
                          obtain ⟨py, hpy⟩ : ∃ py : Nat, py = 2 ^ y := ⟨_, rfl⟩
                          have hp1 := pow8_le x (by omega)
                          have hp2 := pow8_le y (by omega)
                          rw [← hpx, ← hpy] at hnum
                          have hpxi : (2 : Int) ^ x = (px : Int) := by rw [hpx]; simp
                          have hpyi : (2 : Int) ^ y = (py : Int) := by rw [hpy]; simp
                          have hge : px ≤ a := by
                            rw [hpx]; exact Nat.ge_two_pow_of_testBit HXB.out
                          rw [hpxi] at hp1
                          rw [hpyi] at hp2
                          obtain ⟨dx, hdx⟩ : ∃ dx : Nat, dx = a - px := ⟨_, rfl⟩
                          have s1 : IntKind.i64.wrap (px : Int) = (px : Int) := wrap_small (by omega)
                          have s2 : IntKind.i64.wrap (py : Int) = (py : Int) := wrap_small (by omega)
                          have s3 : IntKind.i64.wrap ((a : Int) - (px : Int)) = (dx : Int) := by
                            rw [show ((a : Int) - (px : Int)) = (dx : Int) by omega]; exact wrap_small (by omega)
                          have s4 : IntKind.i64.wrap ((dx : Int) + (py : Int)) = (sw : Int) := by
                            rw [show ((dx : Int) + (py : Int)) = (sw : Int) by omega]; exact wrap_small (by omega)
                          obtain ⟨cz, hcz⟩ : ∃ cz, cz = bs.contains (sw : Int) := ⟨_, rfl⟩
                          have hb6 : Below wt.heap.size wt wy := (HBJ.out.trans (HB6.out.mono HBJ.out.size)).trans (HBY.out.mono (Nat.le_trans HBJ.out.size HB6.out.size))
                          obtain ⟨g1, g2, -, g4⟩ := HC2.out wy hb6
                          have hcs := g4.cell hswt
                          rw [← hcz] at hcs HNX
                          obtain ⟨hbi, hqi, _, hsi, _, hci⟩ := sl_cell g2 hil
                          simp only [Value.slice.injEq, Option.some.injEq, Addr.mk.injEq, and_true] at hsi
                          obtain ⟨⟨rfl, rfl⟩, -, -⟩ := hsi
                          rw [HAV.out] at hci
                          have hox' := (HBY.out.cell (lt_of_cell hox)).trans hox
                          have hty' := (HBY.out.cell (lt_of_cell hty)).trans hty
                          have mI : (m : Int) < (G.length : Int) := by omega
                          have mI0 : (0 : Int) ≤ (m : Int) := by omega
                          have swI : (sw : Int) < (tn : Int) := by omega
                          have swI0 : (0 : Int) ≤ (sw : Int) := by omega
                          have HBD : Hid (Below w6.heap.size w6 wy.drew) := ⟨HBY.out.os, HBY.out.tape, HBY.out.output, HBY.out.size, HBY.out.block⟩
                          have HHS : Hid (wy.cell? ⟨w.heap.size, 1, none⟩ = some (.slice (some ⟨gb, gq, none⟩) bs.length cap) ∧ wy.cell? ⟨gb, gq + i, none⟩ = some (.int .i64 a) ∧ wy.cell? ⟨ob, oq + k, none⟩ = some (.int .i64 x) ∧ wy.cell? ⟨tb, tq + m, none⟩ = some (.int .i64 y) ∧ wy.cell? ⟨wa.heap.size, sw, none⟩ = some (.bool cz)) := ⟨g1, hci, hox', hty', hcs⟩
                          clear hym hy hyb hya hsw hnum hpx hpy hp1 hp2 hge hdx hcz hb6 g1 g2 g4 hci hox' hty' hcs hswt
                          generalize hany : ((G.take m).any fun y => bs.contains (swp a x y.toNat : Int)) = okb at *
                          clear hany
                          cases okb
                          · rw [Bool.false_or] at HNX
                            go_wp2
                            refine wp_region_held_drew (S := fun w' => w'.cell? ⟨w.heap.size, 1, none⟩ = some (.slice (some ⟨gb, gq, none⟩) bs.length cap) ∧ w'.cell? ⟨gb, gq + i, none⟩ = some (.int .i64 a) ∧ w'.cell? ⟨ob, oq + k, none⟩ = some (.int .i64 x) ∧ w'.cell? ⟨tb, tq + m, none⟩ = some (.int .i64 y) ∧ w'.cell? ⟨wa.heap.size, sw, none⟩ = some (.bool cz)) (by kernel_rfl) HHS.out (fun hHeld => ?_)
                            refine wpAnyH_tk (i := 0) (d := 139) (v := (.bool false)) rfl rfl (by kernel_rfl) (by kernel_rfl) (by kernel_rfl) (fun _ _ _ h => h) (.inl ⟨by rfl, by (intro wq hSw; (try dsimp only at hSw); go_simp)⟩) hHeld ?_
                            simp only [Act.put, List.setIfInBounds_toArray, List.set_cons_zero, List.set_cons_succ]
                            refine wpAnyH_tk (i := 1) (d := 140) (v := (.bool false)) rfl rfl (by kernel_rfl) (by kernel_rfl) (by kernel_rfl) (fun _ _ _ h => h) (.inl ⟨by rfl, by (intro wq hSw; (try dsimp only at hSw); go_simp)⟩) hHeld ?_
                            simp only [Act.put, List.setIfInBounds_toArray, List.set_cons_zero, List.set_cons_succ]
                            refine wpAnyH_tk (i := 2) (d := 141) (v := (.slice (some ⟨wa.heap.size, 0, none⟩) tn tn)) rfl rfl (by kernel_rfl) (by kernel_rfl) (by kernel_rfl) (fun _ _ _ h => h) (.inl ⟨by rfl, by (intro wq hSw; (try dsimp only at hSw); go_simp)⟩) hHeld ?_
                            simp only [Act.put, List.setIfInBounds_toArray, List.set_cons_zero, List.set_cons_succ]
                            refine wpAnyH_tk (i := 3) (d := 142) (v := (.pointer (some ⟨w.heap.size, 1, none⟩))) rfl rfl (by kernel_rfl) (by kernel_rfl) (by kernel_rfl) (fun _ _ _ h => h) (.inl ⟨by rfl, by (intro wq hSw; (try dsimp only at hSw); go_simp)⟩) hHeld ?_
                            simp only [Act.put, List.setIfInBounds_toArray, List.set_cons_zero, List.set_cons_succ]
                            refine wpAnyH_tk (i := 4) (d := 143) (v := (.slice (some ⟨gb, gq, none⟩) bs.length cap)) rfl rfl (by kernel_rfl) (by kernel_rfl) (by kernel_rfl) (fun _ _ _ h => h) (.inl ⟨by rfl, by (intro wq hSw; (try dsimp only at hSw); go_simp)⟩) hHeld ?_
                            simp only [Act.put, List.setIfInBounds_toArray, List.set_cons_zero, List.set_cons_succ]
                            refine wpAnyH_tk (i := 5) (d := 144) (v := (.int .i64 i)) rfl rfl (by kernel_rfl) (by kernel_rfl) (by kernel_rfl) (fun _ _ _ h => h) (.inl ⟨by rfl, by (intro wq hSw; (try dsimp only at hSw); go_simp)⟩) hHeld ?_
                            simp only [Act.put, List.setIfInBounds_toArray, List.set_cons_zero, List.set_cons_succ]
                            refine wpAnyH_tk (i := 6) (d := 145) (v := (.pointer (some ⟨gb, gq + i, none⟩))) rfl rfl (by kernel_rfl) (by kernel_rfl) (by kernel_rfl) (fun _ _ _ h => h) (.inl ⟨by rfl, by (intro wq hSw; (try dsimp only at hSw); go_simp)⟩) hHeld ?_
                            simp only [Act.put, List.setIfInBounds_toArray, List.set_cons_zero, List.set_cons_succ]
                            refine wpAnyH_tk (i := 7) (d := 146) (v := (.int .i64 a)) rfl rfl (by kernel_rfl) (by kernel_rfl) (by kernel_rfl) (fun _ _ _ h => h) (.inl ⟨by rfl, by (intro wq hSw; (try dsimp only at hSw); go_simp)⟩) hHeld ?_
                            simp only [Act.put, List.setIfInBounds_toArray, List.set_cons_zero, List.set_cons_succ]
                            refine wpAnyH_tk (i := 8) (d := 147) (v := (.slice (some ⟨ob, oq, none⟩) O.length ucw5)) rfl rfl (by kernel_rfl) (by kernel_rfl) (by kernel_rfl) (fun _ _ _ h => h) (.inl ⟨by rfl, by (intro wq hSw; (try dsimp only at hSw); go_simp)⟩) hHeld ?_
                            simp only [Act.put, List.setIfInBounds_toArray, List.set_cons_zero, List.set_cons_succ]
                            refine wpAnyH_tk (i := 9) (d := 148) (v := (.int .i64 k)) rfl rfl (by kernel_rfl) (by kernel_rfl) (by kernel_rfl) (fun _ _ _ h => h) (.inl ⟨by rfl, by (intro wq hSw; (try dsimp only at hSw); go_simp)⟩) hHeld ?_
                            simp only [Act.put, List.setIfInBounds_toArray, List.set_cons_zero, List.set_cons_succ]
                            refine wpAnyH_tk (i := 10) (d := 149) (v := (.pointer (some ⟨ob, oq + k, none⟩))) rfl rfl (by kernel_rfl) (by kernel_rfl) (by kernel_rfl) (fun _ _ _ h => h) (.inl ⟨by rfl, by (intro wq hSw; (try dsimp only at hSw); go_simp)⟩) hHeld ?_
                            simp only [Act.put, List.setIfInBounds_toArray, List.set_cons_zero, List.set_cons_succ]
                            refine wpAnyH_tk (i := 11) (d := 150) (v := (.int .i64 x)) rfl rfl (by kernel_rfl) (by kernel_rfl) (by kernel_rfl) (fun _ _ _ h => h) (.inl ⟨by rfl, by (intro wq hSw; (try dsimp only at hSw); go_simp)⟩) hHeld ?_
                            simp only [Act.put, List.setIfInBounds_toArray, List.set_cons_zero, List.set_cons_succ]
                            refine wpAnyH_tk (i := 12) (d := 151) (v := (.int .i64 px)) rfl rfl (by kernel_rfl) (by kernel_rfl) (by kernel_rfl) (fun _ _ _ h => h) (.inl ⟨by rfl, by (intro wq hSw; (try dsimp only at hSw); go_simp)⟩) hHeld ?_
                            simp only [Act.put, List.setIfInBounds_toArray, List.set_cons_zero, List.set_cons_succ]
                            refine wpAnyH_tk (i := 13) (d := 152) (v := (.int .i64 dx)) rfl rfl (by kernel_rfl) (by kernel_rfl) (by kernel_rfl) (fun _ _ _ h => h) (.inl ⟨by rfl, by (intro wq hSw; (try dsimp only at hSw); go_simp)⟩) hHeld ?_
                            simp only [Act.put, List.setIfInBounds_toArray, List.set_cons_zero, List.set_cons_succ]
                            refine wpAnyH_tk (i := 14) (d := 153) (v := (.slice (some ⟨tb, tq, none⟩) G.length ucw6)) rfl rfl (by kernel_rfl) (by kernel_rfl) (by kernel_rfl) (fun _ _ _ h => h) (.inl ⟨by rfl, by (intro wq hSw; (try dsimp only at hSw); go_simp)⟩) hHeld ?_
                            simp only [Act.put, List.setIfInBounds_toArray, List.set_cons_zero, List.set_cons_succ]
                            refine wpAnyH_tk (i := 15) (d := 154) (v := (.int .i64 m)) rfl rfl (by kernel_rfl) (by kernel_rfl) (by kernel_rfl) (fun _ _ _ h => h) (.inl ⟨by rfl, by (intro wq hSw; (try dsimp only at hSw); go_simp)⟩) hHeld ?_
                            simp only [Act.put, List.setIfInBounds_toArray, List.set_cons_zero, List.set_cons_succ]
                            refine wpAnyH_tk (i := 16) (d := 155) (v := (.pointer (some ⟨tb, tq + m, none⟩))) rfl rfl (by kernel_rfl) (by kernel_rfl) (by kernel_rfl) (fun _ _ _ h => h) (.inl ⟨by rfl, by (intro wq hSw; (try dsimp only at hSw); go_simp)⟩) hHeld ?_
                            simp only [Act.put, List.setIfInBounds_toArray, List.set_cons_zero, List.set_cons_succ]
                            refine wpAnyH_tk (i := 17) (d := 156) (v := (.int .i64 y)) rfl rfl (by kernel_rfl) (by kernel_rfl) (by kernel_rfl) (fun _ _ _ h => h) (.inl ⟨by rfl, by (intro wq hSw; (try dsimp only at hSw); go_simp)⟩) hHeld ?_
                            simp only [Act.put, List.setIfInBounds_toArray, List.set_cons_zero, List.set_cons_succ]
                            refine wpAnyH_tk (i := 18) (d := 157) (v := (.int .i64 py)) rfl rfl (by kernel_rfl) (by kernel_rfl) (by kernel_rfl) (fun _ _ _ h => h) (.inl ⟨by rfl, by (intro wq hSw; (try dsimp only at hSw); go_simp)⟩) hHeld ?_
                            simp only [Act.put, List.setIfInBounds_toArray, List.set_cons_zero, List.set_cons_succ]
                            refine wpAnyH_tk (i := 19) (d := 158) (v := (.int .i64 sw)) rfl rfl (by kernel_rfl) (by kernel_rfl) (by kernel_rfl) (fun _ _ _ h => h) (.inl ⟨by rfl, by (intro wq hSw; (try dsimp only at hSw); go_simp)⟩) hHeld ?_
                            simp only [Act.put, List.setIfInBounds_toArray, List.set_cons_zero, List.set_cons_succ]
                            refine wpAnyH_tk (i := 20) (d := 159) (v := (.pointer (some ⟨wa.heap.size, sw, none⟩))) rfl rfl (by kernel_rfl) (by kernel_rfl) (by kernel_rfl) (fun _ _ _ h => h) (.inl ⟨by rfl, by (intro wq hSw; (try dsimp only at hSw); go_simp)⟩) hHeld ?_
                            simp only [Act.put, List.setIfInBounds_toArray, List.set_cons_zero, List.set_cons_succ]
                            refine wpAnyH_tk (i := 21) (d := 160) (v := (.bool cz)) rfl rfl (by kernel_rfl) (by kernel_rfl) (by kernel_rfl) (fun _ _ _ h => h) (.inl ⟨by rfl, by (intro wq hSw; (try dsimp only at hSw); go_simp)⟩) hHeld ?_
                            simp only [Act.put, List.setIfInBounds_toArray, List.set_cons_zero, List.set_cons_succ]
                            refine wpAnyH_tk (i := 22) (d := 161) (v := (.bool cz)) rfl rfl (by kernel_rfl) (by kernel_rfl) (by kernel_rfl) (fun _ _ _ h => h) (.inl ⟨by rfl, by (intro wq hSw; (try dsimp only at hSw); go_simp)⟩) hHeld ?_
                            simp only [Act.put, List.setIfInBounds_toArray, List.set_cons_zero, List.set_cons_succ]
                            refine wpAnyH_tk (i := 23) (d := 12) (v := (.bool cz)) rfl rfl (by kernel_rfl) (by kernel_rfl) (by kernel_rfl) (fun _ _ _ h => h) (.inl ⟨by rfl, by (intro wq hSw; (try dsimp only at hSw); go_simp)⟩) hHeld ?_
                            simp only [Act.put, List.setIfInBounds_toArray, List.set_cons_zero, List.set_cons_succ]
                            refine wpAnyH_done (by kernel_rfl) ?_ _
                            clear hHeld
                            go_wp2
                            exact ⟨⟨m + 1, by omega, by go_num, by rw [HNX.out], HBD.out⟩, by simp [intOf]; omega⟩
                          · rw [Bool.true_or] at HNX
                            go_wp2
                            refine wp_region_held_drew (S := fun _ => True) (by kernel_rfl) trivial (fun hHeld => ?_)
                            refine wpAnyH_tk (i := 0) (d := 139) (v := (.bool true)) rfl rfl (by kernel_rfl) (by kernel_rfl) (by kernel_rfl) (fun _ _ _ h => h) (.inl ⟨by rfl, by (intro wq hSw; (try dsimp only at hSw); go_simp)⟩) hHeld ?_
                            simp only [Act.put, List.setIfInBounds_toArray, List.set_cons_zero, List.set_cons_succ]
                            refine wpAnyH_tk (i := 1) (d := 140) (v := (.bool true)) rfl rfl (by kernel_rfl) (by kernel_rfl) (by kernel_rfl) (fun _ _ _ h => h) (.inl ⟨by rfl, by (intro wq hSw; (try dsimp only at hSw); go_simp)⟩) hHeld ?_
                            simp only [Act.put, List.setIfInBounds_toArray, List.set_cons_zero, List.set_cons_succ]
                            refine wpAnyH_tk (i := 2) (d := 141) (v := undef) rfl rfl (by kernel_rfl) (by kernel_rfl) (by kernel_rfl) (fun _ _ _ h => h) (.inr ⟨by rfl, rfl⟩) hHeld ?_
                            simp only [Act.put, List.setIfInBounds_toArray, List.set_cons_zero, List.set_cons_succ]
                            refine wpAnyH_tk (i := 3) (d := 142) (v := undef) rfl rfl (by kernel_rfl) (by kernel_rfl) (by kernel_rfl) (fun _ _ _ h => h) (.inr ⟨by rfl, rfl⟩) hHeld ?_
                            simp only [Act.put, List.setIfInBounds_toArray, List.set_cons_zero, List.set_cons_succ]
                            refine wpAnyH_tk (i := 4) (d := 143) (v := undef) rfl rfl (by kernel_rfl) (by kernel_rfl) (by kernel_rfl) (fun _ _ _ h => h) (.inr ⟨by rfl, rfl⟩) hHeld ?_
                            simp only [Act.put, List.setIfInBounds_toArray, List.set_cons_zero, List.set_cons_succ]
                            refine wpAnyH_tk (i := 5) (d := 144) (v := undef) rfl rfl (by kernel_rfl) (by kernel_rfl) (by kernel_rfl) (fun _ _ _ h => h) (.inr ⟨by rfl, rfl⟩) hHeld ?_
                            simp only [Act.put, List.setIfInBounds_toArray, List.set_cons_zero, List.set_cons_succ]
                            refine wpAnyH_tk (i := 6) (d := 145) (v := undef) rfl rfl (by kernel_rfl) (by kernel_rfl) (by kernel_rfl) (fun _ _ _ h => h) (.inr ⟨by rfl, rfl⟩) hHeld ?_
                            simp only [Act.put, List.setIfInBounds_toArray, List.set_cons_zero, List.set_cons_succ]
                            refine wpAnyH_tk (i := 7) (d := 146) (v := undef) rfl rfl (by kernel_rfl) (by kernel_rfl) (by kernel_rfl) (fun _ _ _ h => h) (.inr ⟨by rfl, rfl⟩) hHeld ?_
                            simp only [Act.put, List.setIfInBounds_toArray, List.set_cons_zero, List.set_cons_succ]
                            refine wpAnyH_tk (i := 8) (d := 147) (v := undef) rfl rfl (by kernel_rfl) (by kernel_rfl) (by kernel_rfl) (fun _ _ _ h => h) (.inr ⟨by rfl, rfl⟩) hHeld ?_
                            simp only [Act.put, List.setIfInBounds_toArray, List.set_cons_zero, List.set_cons_succ]
                            refine wpAnyH_tk (i := 9) (d := 148) (v := undef) rfl rfl (by kernel_rfl) (by kernel_rfl) (by kernel_rfl) (fun _ _ _ h => h) (.inr ⟨by rfl, rfl⟩) hHeld ?_
                            simp only [Act.put, List.setIfInBounds_toArray, List.set_cons_zero, List.set_cons_succ]
                            refine wpAnyH_tk (i := 10) (d := 149) (v := undef) rfl rfl (by kernel_rfl) (by kernel_rfl) (by kernel_rfl) (fun _ _ _ h => h) (.inr ⟨by rfl, rfl⟩) hHeld ?_
                            simp only [Act.put, List.setIfInBounds_toArray, List.set_cons_zero, List.set_cons_succ]
                            refine wpAnyH_tk (i := 11) (d := 150) (v := undef) rfl rfl (by kernel_rfl) (by kernel_rfl) (by kernel_rfl) (fun _ _ _ h => h) (.inr ⟨by rfl, rfl⟩) hHeld ?_
                            simp only [Act.put, List.setIfInBounds_toArray, List.set_cons_zero, List.set_cons_succ]
                            refine wpAnyH_tk (i := 12) (d := 151) (v := undef) rfl rfl (by kernel_rfl) (by kernel_rfl) (by kernel_rfl) (fun _ _ _ h => h) (.inr ⟨by rfl, rfl⟩) hHeld ?_
                            simp only [Act.put, List.setIfInBounds_toArray, List.set_cons_zero, List.set_cons_succ]
                            refine wpAnyH_tk (i := 13) (d := 152) (v := undef) rfl rfl (by kernel_rfl) (by kernel_rfl) (by kernel_rfl) (fun _ _ _ h => h) (.inr ⟨by rfl, rfl⟩) hHeld ?_
                            simp only [Act.put, List.setIfInBounds_toArray, List.set_cons_zero, List.set_cons_succ]
                            refine wpAnyH_tk (i := 14) (d := 153) (v := undef) rfl rfl (by kernel_rfl) (by kernel_rfl) (by kernel_rfl) (fun _ _ _ h => h) (.inr ⟨by rfl, rfl⟩) hHeld ?_
                            simp only [Act.put, List.setIfInBounds_toArray, List.set_cons_zero, List.set_cons_succ]
                            refine wpAnyH_tk (i := 15) (d := 154) (v := undef) rfl rfl (by kernel_rfl) (by kernel_rfl) (by kernel_rfl) (fun _ _ _ h => h) (.inr ⟨by rfl, rfl⟩) hHeld ?_
                            simp only [Act.put, List.setIfInBounds_toArray, List.set_cons_zero, List.set_cons_succ]
                            refine wpAnyH_tk (i := 16) (d := 155) (v := undef) rfl rfl (by kernel_rfl) (by kernel_rfl) (by kernel_rfl) (fun _ _ _ h => h) (.inr ⟨by rfl, rfl⟩) hHeld ?_
                            simp only [Act.put, List.setIfInBounds_toArray, List.set_cons_zero, List.set_cons_succ]
                            refine wpAnyH_tk (i := 17) (d := 156) (v := undef) rfl rfl (by kernel_rfl) (by kernel_rfl) (by kernel_rfl) (fun _ _ _ h => h) (.inr ⟨by rfl, rfl⟩) hHeld ?_
                            simp only [Act.put, List.setIfInBounds_toArray, List.set_cons_zero, List.set_cons_succ]
                            refine wpAnyH_tk (i := 18) (d := 157) (v := undef) rfl rfl (by kernel_rfl) (by kernel_rfl) (by kernel_rfl) (fun _ _ _ h => h) (.inr ⟨by rfl, rfl⟩) hHeld ?_
                            simp only [Act.put, List.setIfInBounds_toArray, List.set_cons_zero, List.set_cons_succ]
                            refine wpAnyH_tk (i := 19) (d := 158) (v := undef) rfl rfl (by kernel_rfl) (by kernel_rfl) (by kernel_rfl) (fun _ _ _ h => h) (.inr ⟨by rfl, rfl⟩) hHeld ?_
                            simp only [Act.put, List.setIfInBounds_toArray, List.set_cons_zero, List.set_cons_succ]
                            refine wpAnyH_tk (i := 20) (d := 159) (v := undef) rfl rfl (by kernel_rfl) (by kernel_rfl) (by kernel_rfl) (fun _ _ _ h => h) (.inr ⟨by rfl, rfl⟩) hHeld ?_
                            simp only [Act.put, List.setIfInBounds_toArray, List.set_cons_zero, List.set_cons_succ]
                            refine wpAnyH_tk (i := 21) (d := 160) (v := undef) rfl rfl (by kernel_rfl) (by kernel_rfl) (by kernel_rfl) (fun _ _ _ h => h) (.inr ⟨by rfl, rfl⟩) hHeld ?_
                            simp only [Act.put, List.setIfInBounds_toArray, List.set_cons_zero, List.set_cons_succ]
                            refine wpAnyH_tk (i := 22) (d := 161) (v := (.bool true)) rfl rfl (by kernel_rfl) (by kernel_rfl) (by kernel_rfl) (fun _ _ _ h => h) (.inl ⟨by rfl, by (intro wq hSw; (try dsimp only at hSw); go_simp)⟩) hHeld ?_
                            simp only [Act.put, List.setIfInBounds_toArray, List.set_cons_zero, List.set_cons_succ]
                            refine wpAnyH_tk (i := 23) (d := 12) (v := (.bool true)) rfl rfl (by kernel_rfl) (by kernel_rfl) (by kernel_rfl) (fun _ _ _ h => h) (.inl ⟨by rfl, by (intro wq hSw; (try dsimp only at hSw); go_simp)⟩) hHeld ?_
                            simp only [Act.put, List.setIfInBounds_toArray, List.set_cons_zero, List.set_cons_succ]
                            refine wpAnyH_done (by kernel_rfl) ?_ _
                            clear hHeld
                            go_wp2
                            exact ⟨⟨m + 1, by omega, by go_num, by rw [HNX.out], HBD.out⟩, by simp [intOf]; omega⟩
                        · have hme : m = G.length := by omega
                          subst hme
                          rw [List.take_length, ← HPX.out]
                          generalize p (x : Int) = px at *
                          have HBZ : Hid (Below wt.heap.size wt wy) := (HBJ.out.trans (HB6.out.mono HBJ.out.size)).trans (HBY.out.mono (Nat.le_trans HBJ.out.size HB6.out.size))
                          cases px
                          · have HE : Hid (matE (n : Int) bs = 3) := by
                              show _ = _
                              rw [HME.out, HF3.out rfl]; rfl
                            have HBW : Hid (Below w.heap.size w wy) := (HC2.out wy HBZ.out).2.2.1
                            clear HF3
                            go_wp2
                            go_ret
                            exact ⟨by rw [HE.out]; rfl, HBW.out⟩
                          · go_wp2
                            exact ⟨⟨k + 1, by omega, by go_num, HS3.out, HBY.out⟩, by simp [intOf]; omega⟩
                    · have hke : k = O.length := by omega
                      subst hke
                      have HAN : Hid (ans = true) := by
                        have := HAX.out
                        rw [List.take_length] at this
                        show _ = _
                        rw [HGV.out]; exact this
                      have HBZ : Hid (Below wt.heap.size wt wx) := (HBJ.out.trans (HB6.out.mono HBJ.out.size)).trans (HBX.out.mono (Nat.le_trans HBJ.out.size HB6.out.size))
                      go_wp2
                      exact ⟨⟨j + 1, by omega, by go_num, by rw [HS2.out]; exact HAN.out, HBZ.out⟩, by simp [intOf]; omega⟩
                · have hje : j = bs.length := by omega
                  subst hje
                  have HAB : Hid ((bs.take (i + 1)).all (fun a => bs.all fun b => gvB bs a.toNat b.toNat) = true) := by
                    have := HA2.out
                    rw [List.take_length] at this
                    show _ = _
                    rw [HS1.out]; exact this
                  clear hsl
                  go_wp2
                  exact ⟨⟨i + 1, by omega, by go_num, HAB.out, HBJ.out⟩, by simp [intOf]; omega⟩
            · have hie : i = bs.length := by omega
              subst hie
              have HE : Hid (matE (n : Int) bs = 0) := by
                have := HA.out
                rw [List.take_length] at this
                show _ = _
                rw [HME.out, if_pos (show exB bs = true from this)]
              obtain ⟨e1, -, hbw, -⟩ := HC2.out wr HBI.out
              have HBW : Hid (Below w.heap.size w wr) := hbw
              clear hbw
              go_wp2
              go_ret
              exact ⟨by rw [HE.out]; rfl, HBW.out⟩

end Go.Proofs.YtehklbekaflokaaDoor
