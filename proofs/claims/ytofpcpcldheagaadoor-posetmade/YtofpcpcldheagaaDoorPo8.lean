/- facetref.PosetFrom. -/
import Derived.Test.YtofpcpcldheagaaDoorPo7
namespace Go.Proofs.YtofpcpcldheagaaDoor
open Go.RowKit
attribute [local go_sem ↓] Go.wp_at_zero Go.wp_at_succ

theorem fE_of {n x x5 x6 x7 x8 : Nat} (h1 : (x : Int) * 5 = (x5 : Int)) (h2 : (x5 : Int) + 1 = (x6 : Int)) (h3 : (x6 : Int).tmod 7 = (x7 : Int)) (h4 : (x7 : Int).tmod (n : Int) = (x8 : Int)) : x8 = fE n x := by
  rw [Int.tmod_eq_emod_of_nonneg (by omega)] at h3 h4
  have e1 : x5 = x * 5 := by omega
  have e2 : x6 = x5 + 1 := by omega
  have e3 : x7 = x6 % 7 := by omega
  have e4 : x8 = x7 % n := by
    have : ((x7 % n : Nat) : Int) = (x8 : Int) := by rw [← h4]; rfl
    omega
  rw [e4, e3, e2, e1]
  rfl

set_option maxRecDepth 100000 in
set_option maxHeartbeats 3200000 in
theorem posetFrom_any (n many : Nat) (raw : List Int) (v : Value) (w : World) (hv : Sl w.heap.size 3 w v (ints raw)) (hr : ∀ z ∈ raw, In64 z) (hl : raw.length ≤ 256) (hn1 : 1 ≤ n) (hn : n ≤ 6) (hm : many ≤ 8) :
    Calls Tryd.prog 25 #[v, .int .i64 (n : Int), .int .i64 (many : Int)] w fun e w' => ∃ u es, e = .returned (.agg #[.int .i64 (n : Int), u]) ∧ es.length ≤ 8 ∧ (∀ e ∈ es, e.1 < n ∧ e.2 < e.1) ∧ Prs w' u (npL es) ∧ Below w.heap.size w w' := by
  obtain ⟨i2, hi2, hz20, hz21, hz22⟩ := info_parts infoPr
  obtain ⟨lo, lc, hvv, hlc, hcm⟩ := sl_open hv
  subst hvv
  have HRW : Hid (∀ W' (i : Nat), Below w.heap.size w W' → i ≤ 1000 → Calls Tryd.prog 43 #[.slice lo raw.length lc, .int .i64 i] W' fun e w' => ∃ z, e = .returned (.int .i64 z) ∧ (0 ≤ z ∧ z ≤ 4611686018427387904) ∧ Below W'.heap.size W' w') := fun W' i h hi =>
    raw_any w.heap.size raw _ i W' (hv.below h (Nat.le_refl _)) hr (by omega) (by omega)
  have HPK : Hid (∀ W' z, 0 ≤ z ∧ z ≤ 4611686018427387904 → ∃ a : Nat, a < n ∧ Calls Tryd.prog 26 #[.int .i64 z, .int .i64 (n : Int)] W' fun e w' => e = .returned (.int .i64 a) ∧ w' = W') := fun W' z hz => by
    obtain ⟨k1, k2⟩ := pickF_bd (c := z) (n := (n : Int)) (by omega)
    refine ⟨(pickF z n).toNat, by omega, ?_⟩
    rw [Int.toNat_of_nonneg k1]
    exact pick_val z n W' (by omega) (by omega) ⟨by omega, by omega⟩
  clear hv hr
  have HI0 : Hid (PfI w w.heap.size n [] ((w.alloc (.cells #[.int .i64 0, .slice none 0 0] 24)).alloc (.cells #[.int .i64 (n : Int), .slice none 0 0] 24))) := PfI.start w n
  obtain ⟨R, hR⟩ : ∃ R, R = w.heap.size := ⟨_, rfl⟩
  rw [← hR] at HI0
  go_enter Tryd.func25, Tryd.ntmps25
  go_wp2
  rw [← hR]
  clear hR
  go_loopw [8] (fun iv wr => ∃ (i : Nat) (es : List (Nat × Nat)), i ≤ many ∧ iv = .int .i64 (i : Int) ∧ (∀ e ∈ es, e.1 < n ∧ e.2 < n) ∧ (n ≤ 2 → ∀ e ∈ es, e.2 < e.1) ∧ es.length ≤ i ∧ PfI w R n es wr) (fun iv _ => many - (intOf iv).toNat)
  case atStart => exact ⟨0, [], Nat.zero_le _, rfl, fun e he => by simp at he, fun _ e he => by simp at he, Nat.le_refl _, HI0.out⟩
  case round =>
    obtain ⟨i, es, hi, rfl, he1, he2, hel, hp⟩ := hrel
    clear HI0
    have HE1 : Hid (∀ e ∈ es, e.1 < n ∧ e.2 < n) := he1
    have HE2 : Hid (n ≤ 2 → ∀ e ∈ es, e.2 < e.1) := he2
    have HP : Hid (PfI w R n es wr) := hp
    clear he1 he2 hp
    by_cases hlt : i < many ∧ 1 < n
    · obtain ⟨hlt, hn2⟩ := hlt
      have iI : (i : Int) < (many : Int) := by omega
      have nI : 1 < (n : Int) := by omega
      have a1 : IntKind.i64.wrap (2 * (i : Int)) = ((2 * i : Nat) : Int) := by
        rw [show (2 * (i : Int)) = ((2 * i : Nat) : Int) by omega, IntWalk.i64_left]; exact IntWalk.wrap64_in _ ⟨by omega, by omega⟩
      obtain ⟨k2, hk2⟩ : ∃ k2 : Nat, k2 = 2 * i := ⟨_, rfl⟩
      obtain ⟨k3, hk3⟩ : ∃ k3 : Nat, k3 = 2 * i + 1 := ⟨_, rfl⟩
      have a4 : 2 * (i : Int) = (k2 : Int) := by omega
      have a5 : (k2 : Int) + 1 = (k3 : Int) := by omega
      rw [← hk2] at a1
      have a3 : IntKind.i64.wrap ((k2 : Int) + 1) = (k3 : Int) := by
        rw [show ((k2 : Int) + 1) = (k3 : Int) by omega, IntWalk.i64_left]; exact IntWalk.wrap64_in _ ⟨by omega, by omega⟩
      have h2 : k2 ≤ 1000 := by omega
      have h3 : k3 ≤ 1000 := by omega
      clear hk2 hk3
      go_wp2_with fail
      refine (HRW.out wr k2 HP.out.bel h2).mono ?_
      rintro e w3 ⟨z, rfl, hz, hb3⟩
      have HP3 : Hid (PfI w R n es w3) := HP.out.below hb3 (Nat.le_refl _)
      obtain ⟨a, ha, hca⟩ := HPK.out w3 z hz
      have HCA : Hid (Calls Tryd.prog 26 #[.int .i64 z, .int .i64 (n : Int)] w3 fun e w' => e = .returned (.int .i64 a) ∧ w' = w3) := hca
      clear hca hb3 HP
      go_wp2_with fail
      refine HCA.out.mono ?_
      rintro e w4 ⟨rfl, hw4⟩
      subst hw4
      go_wp2_with fail
      refine (HRW.out w4 k3 HP3.out.bel h3).mono ?_
      rintro e w5 ⟨z2, rfl, hz2, hb5⟩
      have HP5 : Hid (PfI w R n es w5) := HP3.out.below hb5 (Nat.le_refl _)
      obtain ⟨b, hb, hcb⟩ := HPK.out w5 z2 hz2
      have HCB : Hid (Calls Tryd.prog 26 #[.int .i64 z2, .int .i64 (n : Int)] w5 fun e w' => e = .returned (.int .i64 b) ∧ w' = w5) := hcb
      clear hcb hb5 HP3 HCA
      go_wp2_with fail
      refine HCB.out.mono ?_
      rintro e w6 ⟨rfl, hw6⟩
      subst hw6
      have HP6 := HP5
      clear HP5 HCB a1 a3 a4 a5 hz hz2
      rcases Nat.lt_trichotomy a b with hab | hab | hab
      · have t1 : decide ((b : Int) < (a : Int)) = false := decide_eq_false (by omega)
        have t2 : decide ((a : Int) < (b : Int)) = true := decide_eq_true (by omega)
        obtain ⟨x, rfl⟩ : ∃ x, x = a := ⟨_, rfl⟩
        obtain ⟨y, rfl⟩ : ∃ y, y = b := ⟨_, rfl⟩
        have hxn : x < n := ha
        have hyn : y < n := hb
        have hxy : x < y := hab
        obtain ⟨x5, b1⟩ : ∃ k : Nat, (x : Int) * 5 = (k : Int) := ⟨x * 5, by omega⟩
        obtain ⟨x6, b2⟩ : ∃ k : Nat, (x5 : Int) + 1 = (k : Int) := ⟨x5 + 1, by omega⟩
        obtain ⟨x7, b3⟩ : ∃ k : Nat, (x6 : Int).tmod 7 = (k : Int) := ⟨x6 % 7, by rw [Int.tmod_eq_emod_of_nonneg (by omega)]; rfl⟩
        obtain ⟨x8, b4⟩ : ∃ k : Nat, (x7 : Int).tmod (n : Int) = (k : Int) := ⟨x7 % n, by rw [Int.tmod_eq_emod_of_nonneg (by omega)]; rfl⟩
        obtain ⟨y5, d1⟩ : ∃ k : Nat, (y : Int) * 5 = (k : Int) := ⟨y * 5, by omega⟩
        obtain ⟨y6, d2⟩ : ∃ k : Nat, (y5 : Int) + 1 = (k : Int) := ⟨y5 + 1, by omega⟩
        obtain ⟨y7, d3⟩ : ∃ k : Nat, (y6 : Int).tmod 7 = (k : Int) := ⟨y6 % 7, by rw [Int.tmod_eq_emod_of_nonneg (by omega)]; rfl⟩
        obtain ⟨y8, d4⟩ : ∃ k : Nat, (y7 : Int).tmod (n : Int) = (k : Int) := ⟨y7 % n, by rw [Int.tmod_eq_emod_of_nonneg (by omega)]; rfl⟩
        have hx8 : x8 = fE n x := fE_of b1 b2 b3 b4
        have hy8 : y8 = fE n y := fE_of d1 d2 d3 d4
        have HF1 : Hid (∀ e ∈ es ++ [(x8, y8)], e.1 < n ∧ e.2 < n) := fun e he => by
          rcases List.mem_append.1 he with he | he
          · exact HE1.out e he
          · rw [List.mem_singleton] at he
            subst he
            exact ⟨by rw [hx8]; exact fE_lt hn1, by rw [hy8]; exact fE_lt hn1⟩
        have HF2 : Hid (n ≤ 2 → ∀ e ∈ es ++ [(x8, y8)], e.2 < e.1) := fun h2 e he => by
          rcases List.mem_append.1 he with he | he
          · exact HE2.out h2 e he
          · rw [List.mem_singleton] at he
            subst he
            rw [hx8, hy8]
            exact fE_two n hn2 h2 x hxn y hyn hxy
        have b1w : IntKind.i64.wrap (x5 : Int) = (x5 : Int) := by rw [IntWalk.i64_left]; exact IntWalk.wrap64_in _ ⟨by omega, by omega⟩
        have b2w : IntKind.i64.wrap (x6 : Int) = (x6 : Int) := by rw [IntWalk.i64_left]; exact IntWalk.wrap64_in _ ⟨by omega, by omega⟩
        have d1w : IntKind.i64.wrap (y5 : Int) = (y5 : Int) := by rw [IntWalk.i64_left]; exact IntWalk.wrap64_in _ ⟨by omega, by omega⟩
        have d2w : IntKind.i64.wrap (y6 : Int) = (y6 : Int) := by rw [IntWalk.i64_left]; exact IntWalk.wrap64_in _ ⟨by omega, by omega⟩
        have n0 : ((n : Int) == 0) = false := by rw [beq_eq_false_iff_ne]; omega
        have n0' : ¬ (n : Int) = 0 := by omega
        clear hx8 hy8
        obtain ⟨sv, hcs, hca, ⟨so, sc, hsv⟩, hown, hszx, hfin⟩ := HP6.out.push x8 y8 (wx := w6.drew.alloc (.cells #[.int .i64 (x8 : Int), .int .i64 (y8 : Int)] 53)) (((Below.refl _ _).drew).alloc (by show w6.heap.size ≤ w6.heap.size; omega) _)
        subst hsv
        have HFIN : Hid (∀ v' w5, w5.ownsRow (R + 2) 53 2 v' (es.length + 1) (epL es ++ [.int .i64 (x8 : Int), .int .i64 (y8 : Int)]) → (w6.drew.alloc (.cells #[.int .i64 (x8 : Int), .int .i64 (y8 : Int)] 53)).grownBy w5 (Value.slice so es.length sc).ownBlock → w5.cell? ⟨R + 1, 1, none⟩ = some (.slice so es.length sc) ∧ w5.frozen? ⟨R + 1, 1, none⟩ = false ∧ PfI w R n (es ++ [(x8, y8)]) (w5.setCell ⟨R + 1, 1, none⟩ v')) := hfin
        have HOA : Hid ((w6.drew.alloc (.cells #[.int .i64 (x8 : Int), .int .i64 (y8 : Int)] 53)).ownsRow (R + 2) 53 2 (.slice so es.length sc) es.length (epL es)) := hown
        have HSZ1 : Hid (R + 2 ≤ (w6.drew.alloc (.cells #[.int .i64 (x8 : Int), .int .i64 (y8 : Int)] 53)).heap.size) := hszx
        have hcd : w6.drew.cell? ⟨R + 1, 1, none⟩ = some (.slice so es.length sc) := hcs
        have hcb : (w6.alloc (.cells #[.int .i64 (x8 : Int), .int .i64 (y8 : Int)] 53)).cell? ⟨R + 1, 1, none⟩ = some (.slice so es.length sc) := hca
        clear hown hfin hszx HP6 HE1 HE2
        go_wp2
        refine wp_region_held_drew (S := fun _ => True) (by kernel_rfl) trivial (fun hHeld => ?_)
        refine wpAnyH_tk (i := 0) (d := 52) (v := (.pointer (some ⟨R + 1, 1, none⟩))) rfl rfl (by kernel_rfl) (by kernel_rfl) (by kernel_rfl) (fun _ _ _ h => h) (.inl ⟨by rfl, by (intro wq hSw; (try dsimp only at hSw); go_simp; (try (first | rfl | omega)))⟩) hHeld ?_
        simp only [Act.put, List.setIfInBounds_toArray, List.set_cons_zero, List.set_cons_succ]
        refine wpAnyH_tk (i := 2) (d := 54) (v := (.int .i64 (x : Int))) rfl rfl (by kernel_rfl) (by kernel_rfl) (by kernel_rfl) (fun _ _ _ h => h) (.inl ⟨by rfl, by (intro wq hSw; (try dsimp only at hSw); go_simp; (try (first | rfl | omega)))⟩) hHeld ?_
        simp only [Act.put, List.setIfInBounds_toArray, List.set_cons_zero, List.set_cons_succ]
        refine wpAnyH_tk (i := 3) (d := 55) (v := (.int .i64 (x5 : Int))) rfl rfl (by kernel_rfl) (by kernel_rfl) (by kernel_rfl) (fun _ _ _ h => h) (.inl ⟨by rfl, by (intro wq hSw; (try dsimp only at hSw); go_simp; (try (first | rfl | omega)))⟩) hHeld ?_
        simp only [Act.put, List.setIfInBounds_toArray, List.set_cons_zero, List.set_cons_succ]
        refine wpAnyH_tk (i := 4) (d := 56) (v := (.int .i64 (x6 : Int))) rfl rfl (by kernel_rfl) (by kernel_rfl) (by kernel_rfl) (fun _ _ _ h => h) (.inl ⟨by rfl, by (intro wq hSw; (try dsimp only at hSw); go_simp; (try (first | rfl | omega)))⟩) hHeld ?_
        simp only [Act.put, List.setIfInBounds_toArray, List.set_cons_zero, List.set_cons_succ]
        refine wpAnyH_tk (i := 5) (d := 57) (v := (.int .i64 (x7 : Int))) rfl rfl (by kernel_rfl) (by kernel_rfl) (by kernel_rfl) (fun _ _ _ h => h) (.inl ⟨by rfl, by (intro wq hSw; (try dsimp only at hSw); go_simp; (try (first | rfl | omega)))⟩) hHeld ?_
        simp only [Act.put, List.setIfInBounds_toArray, List.set_cons_zero, List.set_cons_succ]
        refine wpAnyH_tk (i := 6) (d := 58) (v := (.int .i64 (n : Int))) rfl rfl (by kernel_rfl) (by kernel_rfl) (by kernel_rfl) (fun _ _ _ h => h) (.inl ⟨by rfl, by (intro wq hSw; (try dsimp only at hSw); go_simp; (try (first | rfl | omega)))⟩) hHeld ?_
        simp only [Act.put, List.setIfInBounds_toArray, List.set_cons_zero, List.set_cons_succ]
        refine wpAnyH_tk (i := 7) (d := 59) (v := (.int .i64 (x8 : Int))) rfl rfl (by kernel_rfl) (by kernel_rfl) (by kernel_rfl) (fun _ _ _ h => h) (.inl ⟨by rfl, by (intro wq hSw; (try dsimp only at hSw); go_simp; (try (first | rfl | omega)))⟩) hHeld ?_
        simp only [Act.put, List.setIfInBounds_toArray, List.set_cons_zero, List.set_cons_succ]
        refine wpAnyH_tk (i := 8) (d := 60) (v := (.int .i64 (y : Int))) rfl rfl (by kernel_rfl) (by kernel_rfl) (by kernel_rfl) (fun _ _ _ h => h) (.inl ⟨by rfl, by (intro wq hSw; (try dsimp only at hSw); go_simp; (try (first | rfl | omega)))⟩) hHeld ?_
        simp only [Act.put, List.setIfInBounds_toArray, List.set_cons_zero, List.set_cons_succ]
        refine wpAnyH_tk (i := 9) (d := 61) (v := (.int .i64 (y5 : Int))) rfl rfl (by kernel_rfl) (by kernel_rfl) (by kernel_rfl) (fun _ _ _ h => h) (.inl ⟨by rfl, by (intro wq hSw; (try dsimp only at hSw); go_simp; (try (first | rfl | omega)))⟩) hHeld ?_
        simp only [Act.put, List.setIfInBounds_toArray, List.set_cons_zero, List.set_cons_succ]
        refine wpAnyH_tk (i := 10) (d := 62) (v := (.int .i64 (y6 : Int))) rfl rfl (by kernel_rfl) (by kernel_rfl) (by kernel_rfl) (fun _ _ _ h => h) (.inl ⟨by rfl, by (intro wq hSw; (try dsimp only at hSw); go_simp; (try (first | rfl | omega)))⟩) hHeld ?_
        simp only [Act.put, List.setIfInBounds_toArray, List.set_cons_zero, List.set_cons_succ]
        refine wpAnyH_tk (i := 11) (d := 63) (v := (.int .i64 (y7 : Int))) rfl rfl (by kernel_rfl) (by kernel_rfl) (by kernel_rfl) (fun _ _ _ h => h) (.inl ⟨by rfl, by (intro wq hSw; (try dsimp only at hSw); go_simp; (try (first | rfl | omega)))⟩) hHeld ?_
        simp only [Act.put, List.setIfInBounds_toArray, List.set_cons_zero, List.set_cons_succ]
        refine wpAnyH_tk (i := 12) (d := 64) (v := (.int .i64 (n : Int))) rfl rfl (by kernel_rfl) (by kernel_rfl) (by kernel_rfl) (fun _ _ _ h => h) (.inl ⟨by rfl, by (intro wq hSw; (try dsimp only at hSw); go_simp; (try (first | rfl | omega)))⟩) hHeld ?_
        simp only [Act.put, List.setIfInBounds_toArray, List.set_cons_zero, List.set_cons_succ]
        refine wpAnyH_tk (i := 13) (d := 65) (v := (.int .i64 (y8 : Int))) rfl rfl (by kernel_rfl) (by kernel_rfl) (by kernel_rfl) (fun _ _ _ h => h) (.inl ⟨by rfl, by (intro wq hSw; (try dsimp only at hSw); go_simp; (try (first | rfl | omega)))⟩) hHeld ?_
        simp only [Act.put, List.setIfInBounds_toArray, List.set_cons_zero, List.set_cons_succ]
        refine wpAnyH_tk (i := 14) (d := 66) (v := (.agg #[.int .i64 (x8 : Int), .int .i64 (y8 : Int)])) rfl rfl (by kernel_rfl) (by kernel_rfl) (by kernel_rfl) (fun _ _ _ h => h) (.inl ⟨by rfl, by (intro wq hSw; (try dsimp only at hSw); go_simp; (try (first | rfl | omega)))⟩) hHeld ?_
        simp only [Act.put, List.setIfInBounds_toArray, List.set_cons_zero, List.set_cons_succ]
        refine wpAnyH_ready (rs := [1, 15]) (by kernel_rfl) (by simp) ?_
        refine ready_tk (i := 1) rfl (by rfl) (fun K hK => ?_) (ready_tk (i := 15) rfl (by rfl) (fun K hK => ?_) AllReadyH.nil)
        · go_simp
          refine hK.out _ _ trivial (fun hHeld => ?_)
          clear hK K
          refine wpAnyH_ready (rs := [15]) (by kernel_rfl) (by simp) ?_
          refine ready_tk (i := 15) rfl (by rfl) (fun K hK => ?_) AllReadyH.nil
          go_simp
          refine hK.out _ _ trivial (fun hHeld => ?_)
          clear hK K
          refine wpAnyH_ready (rs := [16]) (by kernel_rfl) (by simp) ?_
          refine ready_tk (i := 16) rfl (by rfl) (fun K hK => ?_) AllReadyH.nil
          refine op_append_ownA (.tmp 53) (.tmp 67) 22 (by rfl) (R + 2) 53 i2 (.agg #[.int .i64 0, .int .i64 0]) 2 16 Tryd.underlying22 hi2 hz20 hz21 hz22 rfl (by decide) _ _ _ (by rfl) HOA.out ⟨w6.heap.size, 0, none⟩ 1 1 [.int .i64 (x8 : Int), .int .i64 (y8 : Int)] (by rfl) rfl (two_new _ _ _ _) (two_int _ _) (by unfold maxLen; omega) (by omega) HSZ1.out ?_
          intro v' w7 ho7 hg7 _
          refine hK.out _ _ trivial (fun hHeld => ?_)
          clear hK K
          simp only [Act.put, List.setIfInBounds_toArray, List.set_cons_zero, List.set_cons_succ]
          obtain ⟨vo, vc, hvv7⟩ := owns_form2 ho7
          subst hvv7
          obtain ⟨g1, g2, g3⟩ := HFIN.out _ w7 ho7 hg7
          have G3 : Hid (PfI w R n (es ++ [(x8, y8)]) (w7.setCell ⟨R + 1, 1, none⟩ (.slice vo (es.length + 1) vc))) := g3
          clear g3 ho7 hg7
          refine wpAnyH_tk (i := 17) (d := 69) (v := (.pointer (some ⟨R + 1, 1, none⟩))) rfl rfl (by kernel_rfl) (by kernel_rfl) (by kernel_rfl) (fun _ _ _ h => h) (.inl ⟨by rfl, by (intro wq hSw; (try dsimp only at hSw); go_simp; (try (first | rfl | omega)))⟩) hHeld ?_
          simp only [Act.put, List.setIfInBounds_toArray, List.set_cons_zero, List.set_cons_succ]
          refine wpAnyH_ready (rs := [18]) (by kernel_rfl) (by simp) ?_
          refine ready_tk (i := 18) rfl (by rfl) (fun K hK => ?_) AllReadyH.nil
          go_simp
          refine hK.out _ _ trivial (fun hHeld => ?_)
          clear hK K
          refine wpAnyH_done (by kernel_rfl) ?_ _
          clear hHeld g1 g2 b1 b2 b3 b4 d1 d2 d3 d4 b1w b2w d1w d2w
          go_wp2
          exact ⟨⟨i + 1, es ++ [(x8, y8)], by omega, by go_num, HF1.out, HF2.out, by rw [List.length_append, List.length_singleton]; omega, G3.out⟩, by simp [intOf]; omega⟩
        · go_simp
          refine hK.out _ _ trivial (fun hHeld => ?_)
          clear hK K
          refine wpAnyH_ready (rs := [1]) (by kernel_rfl) (by simp) ?_
          refine ready_tk (i := 1) rfl (by rfl) (fun K hK => ?_) AllReadyH.nil
          go_simp
          refine hK.out _ _ trivial (fun hHeld => ?_)
          clear hK K
          refine wpAnyH_ready (rs := [16]) (by kernel_rfl) (by simp) ?_
          refine ready_tk (i := 16) rfl (by rfl) (fun K hK => ?_) AllReadyH.nil
          refine op_append_ownA (.tmp 53) (.tmp 67) 22 (by rfl) (R + 2) 53 i2 (.agg #[.int .i64 0, .int .i64 0]) 2 16 Tryd.underlying22 hi2 hz20 hz21 hz22 rfl (by decide) _ _ _ (by rfl) HOA.out ⟨w6.heap.size, 0, none⟩ 1 1 [.int .i64 (x8 : Int), .int .i64 (y8 : Int)] (by rfl) rfl (two_new _ _ _ _) (two_int _ _) (by unfold maxLen; omega) (by omega) HSZ1.out ?_
          intro v' w7 ho7 hg7 _
          refine hK.out _ _ trivial (fun hHeld => ?_)
          clear hK K
          simp only [Act.put, List.setIfInBounds_toArray, List.set_cons_zero, List.set_cons_succ]
          obtain ⟨vo, vc, hvv7⟩ := owns_form2 ho7
          subst hvv7
          obtain ⟨g1, g2, g3⟩ := HFIN.out _ w7 ho7 hg7
          have G3 : Hid (PfI w R n (es ++ [(x8, y8)]) (w7.setCell ⟨R + 1, 1, none⟩ (.slice vo (es.length + 1) vc))) := g3
          clear g3 ho7 hg7
          refine wpAnyH_tk (i := 17) (d := 69) (v := (.pointer (some ⟨R + 1, 1, none⟩))) rfl rfl (by kernel_rfl) (by kernel_rfl) (by kernel_rfl) (fun _ _ _ h => h) (.inl ⟨by rfl, by (intro wq hSw; (try dsimp only at hSw); go_simp; (try (first | rfl | omega)))⟩) hHeld ?_
          simp only [Act.put, List.setIfInBounds_toArray, List.set_cons_zero, List.set_cons_succ]
          refine wpAnyH_ready (rs := [18]) (by kernel_rfl) (by simp) ?_
          refine ready_tk (i := 18) rfl (by rfl) (fun K hK => ?_) AllReadyH.nil
          go_simp
          refine hK.out _ _ trivial (fun hHeld => ?_)
          clear hK K
          refine wpAnyH_done (by kernel_rfl) ?_ _
          clear hHeld g1 g2 b1 b2 b3 b4 d1 d2 d3 d4 b1w b2w d1w d2w
          go_wp2
          exact ⟨⟨i + 1, es ++ [(x8, y8)], by omega, by go_num, HF1.out, HF2.out, by rw [List.length_append, List.length_singleton]; omega, G3.out⟩, by simp [intOf]; omega⟩
      · have t1 : decide ((b : Int) < (a : Int)) = false := decide_eq_false (by omega)
        have t2 : decide ((a : Int) < (b : Int)) = false := decide_eq_false (by omega)
        have t3 : b ≤ a := by omega
        have t4 : a ≤ b := by omega
        clear hab
        go_wp2
        exact ⟨⟨i + 1, es, by omega, by go_num, HE1.out, HE2.out, by omega, HP6.out⟩, by simp [intOf]; omega⟩
      · have t1 : decide ((b : Int) < (a : Int)) = true := decide_eq_true (by omega)
        have t2 : decide ((a : Int) < (b : Int)) = false := decide_eq_false (by omega)
        obtain ⟨y, rfl⟩ : ∃ x, x = a := ⟨_, rfl⟩
        obtain ⟨x, rfl⟩ : ∃ y, y = b := ⟨_, rfl⟩
        have hxn : x < n := hb
        have hyn : y < n := ha
        have hxy : x < y := hab
        obtain ⟨x5, b1⟩ : ∃ k : Nat, (x : Int) * 5 = (k : Int) := ⟨x * 5, by omega⟩
        obtain ⟨x6, b2⟩ : ∃ k : Nat, (x5 : Int) + 1 = (k : Int) := ⟨x5 + 1, by omega⟩
        obtain ⟨x7, b3⟩ : ∃ k : Nat, (x6 : Int).tmod 7 = (k : Int) := ⟨x6 % 7, by rw [Int.tmod_eq_emod_of_nonneg (by omega)]; rfl⟩
        obtain ⟨x8, b4⟩ : ∃ k : Nat, (x7 : Int).tmod (n : Int) = (k : Int) := ⟨x7 % n, by rw [Int.tmod_eq_emod_of_nonneg (by omega)]; rfl⟩
        obtain ⟨y5, d1⟩ : ∃ k : Nat, (y : Int) * 5 = (k : Int) := ⟨y * 5, by omega⟩
        obtain ⟨y6, d2⟩ : ∃ k : Nat, (y5 : Int) + 1 = (k : Int) := ⟨y5 + 1, by omega⟩
        obtain ⟨y7, d3⟩ : ∃ k : Nat, (y6 : Int).tmod 7 = (k : Int) := ⟨y6 % 7, by rw [Int.tmod_eq_emod_of_nonneg (by omega)]; rfl⟩
        obtain ⟨y8, d4⟩ : ∃ k : Nat, (y7 : Int).tmod (n : Int) = (k : Int) := ⟨y7 % n, by rw [Int.tmod_eq_emod_of_nonneg (by omega)]; rfl⟩
        have hx8 : x8 = fE n x := fE_of b1 b2 b3 b4
        have hy8 : y8 = fE n y := fE_of d1 d2 d3 d4
        have HF1 : Hid (∀ e ∈ es ++ [(x8, y8)], e.1 < n ∧ e.2 < n) := fun e he => by
          rcases List.mem_append.1 he with he | he
          · exact HE1.out e he
          · rw [List.mem_singleton] at he
            subst he
            exact ⟨by rw [hx8]; exact fE_lt hn1, by rw [hy8]; exact fE_lt hn1⟩
        have HF2 : Hid (n ≤ 2 → ∀ e ∈ es ++ [(x8, y8)], e.2 < e.1) := fun h2 e he => by
          rcases List.mem_append.1 he with he | he
          · exact HE2.out h2 e he
          · rw [List.mem_singleton] at he
            subst he
            rw [hx8, hy8]
            exact fE_two n hn2 h2 x hxn y hyn hxy
        have b1w : IntKind.i64.wrap (x5 : Int) = (x5 : Int) := by rw [IntWalk.i64_left]; exact IntWalk.wrap64_in _ ⟨by omega, by omega⟩
        have b2w : IntKind.i64.wrap (x6 : Int) = (x6 : Int) := by rw [IntWalk.i64_left]; exact IntWalk.wrap64_in _ ⟨by omega, by omega⟩
        have d1w : IntKind.i64.wrap (y5 : Int) = (y5 : Int) := by rw [IntWalk.i64_left]; exact IntWalk.wrap64_in _ ⟨by omega, by omega⟩
        have d2w : IntKind.i64.wrap (y6 : Int) = (y6 : Int) := by rw [IntWalk.i64_left]; exact IntWalk.wrap64_in _ ⟨by omega, by omega⟩
        have n0 : ((n : Int) == 0) = false := by rw [beq_eq_false_iff_ne]; omega
        have n0' : ¬ (n : Int) = 0 := by omega
        clear hx8 hy8
        obtain ⟨sv, hcs, hca, ⟨so, sc, hsv⟩, hown, hszx, hfin⟩ := HP6.out.push x8 y8 (wx := w6.drew.alloc (.cells #[.int .i64 (x8 : Int), .int .i64 (y8 : Int)] 53)) (((Below.refl _ _).drew).alloc (by show w6.heap.size ≤ w6.heap.size; omega) _)
        subst hsv
        have HFIN : Hid (∀ v' w5, w5.ownsRow (R + 2) 53 2 v' (es.length + 1) (epL es ++ [.int .i64 (x8 : Int), .int .i64 (y8 : Int)]) → (w6.drew.alloc (.cells #[.int .i64 (x8 : Int), .int .i64 (y8 : Int)] 53)).grownBy w5 (Value.slice so es.length sc).ownBlock → w5.cell? ⟨R + 1, 1, none⟩ = some (.slice so es.length sc) ∧ w5.frozen? ⟨R + 1, 1, none⟩ = false ∧ PfI w R n (es ++ [(x8, y8)]) (w5.setCell ⟨R + 1, 1, none⟩ v')) := hfin
        have HOA : Hid ((w6.drew.alloc (.cells #[.int .i64 (x8 : Int), .int .i64 (y8 : Int)] 53)).ownsRow (R + 2) 53 2 (.slice so es.length sc) es.length (epL es)) := hown
        have HSZ1 : Hid (R + 2 ≤ (w6.drew.alloc (.cells #[.int .i64 (x8 : Int), .int .i64 (y8 : Int)] 53)).heap.size) := hszx
        have hcd : w6.drew.cell? ⟨R + 1, 1, none⟩ = some (.slice so es.length sc) := hcs
        have hcb : (w6.alloc (.cells #[.int .i64 (x8 : Int), .int .i64 (y8 : Int)] 53)).cell? ⟨R + 1, 1, none⟩ = some (.slice so es.length sc) := hca
        clear hown hfin hszx HP6 HE1 HE2
        go_wp2
        refine wp_region_held_drew (S := fun _ => True) (by kernel_rfl) trivial (fun hHeld => ?_)
        refine wpAnyH_tk (i := 0) (d := 52) (v := (.pointer (some ⟨R + 1, 1, none⟩))) rfl rfl (by kernel_rfl) (by kernel_rfl) (by kernel_rfl) (fun _ _ _ h => h) (.inl ⟨by rfl, by (intro wq hSw; (try dsimp only at hSw); go_simp; (try (first | rfl | omega)))⟩) hHeld ?_
        simp only [Act.put, List.setIfInBounds_toArray, List.set_cons_zero, List.set_cons_succ]
        refine wpAnyH_tk (i := 2) (d := 54) (v := (.int .i64 (x : Int))) rfl rfl (by kernel_rfl) (by kernel_rfl) (by kernel_rfl) (fun _ _ _ h => h) (.inl ⟨by rfl, by (intro wq hSw; (try dsimp only at hSw); go_simp; (try (first | rfl | omega)))⟩) hHeld ?_
        simp only [Act.put, List.setIfInBounds_toArray, List.set_cons_zero, List.set_cons_succ]
        refine wpAnyH_tk (i := 3) (d := 55) (v := (.int .i64 (x5 : Int))) rfl rfl (by kernel_rfl) (by kernel_rfl) (by kernel_rfl) (fun _ _ _ h => h) (.inl ⟨by rfl, by (intro wq hSw; (try dsimp only at hSw); go_simp; (try (first | rfl | omega)))⟩) hHeld ?_
        simp only [Act.put, List.setIfInBounds_toArray, List.set_cons_zero, List.set_cons_succ]
        refine wpAnyH_tk (i := 4) (d := 56) (v := (.int .i64 (x6 : Int))) rfl rfl (by kernel_rfl) (by kernel_rfl) (by kernel_rfl) (fun _ _ _ h => h) (.inl ⟨by rfl, by (intro wq hSw; (try dsimp only at hSw); go_simp; (try (first | rfl | omega)))⟩) hHeld ?_
        simp only [Act.put, List.setIfInBounds_toArray, List.set_cons_zero, List.set_cons_succ]
        refine wpAnyH_tk (i := 5) (d := 57) (v := (.int .i64 (x7 : Int))) rfl rfl (by kernel_rfl) (by kernel_rfl) (by kernel_rfl) (fun _ _ _ h => h) (.inl ⟨by rfl, by (intro wq hSw; (try dsimp only at hSw); go_simp; (try (first | rfl | omega)))⟩) hHeld ?_
        simp only [Act.put, List.setIfInBounds_toArray, List.set_cons_zero, List.set_cons_succ]
        refine wpAnyH_tk (i := 6) (d := 58) (v := (.int .i64 (n : Int))) rfl rfl (by kernel_rfl) (by kernel_rfl) (by kernel_rfl) (fun _ _ _ h => h) (.inl ⟨by rfl, by (intro wq hSw; (try dsimp only at hSw); go_simp; (try (first | rfl | omega)))⟩) hHeld ?_
        simp only [Act.put, List.setIfInBounds_toArray, List.set_cons_zero, List.set_cons_succ]
        refine wpAnyH_tk (i := 7) (d := 59) (v := (.int .i64 (x8 : Int))) rfl rfl (by kernel_rfl) (by kernel_rfl) (by kernel_rfl) (fun _ _ _ h => h) (.inl ⟨by rfl, by (intro wq hSw; (try dsimp only at hSw); go_simp; (try (first | rfl | omega)))⟩) hHeld ?_
        simp only [Act.put, List.setIfInBounds_toArray, List.set_cons_zero, List.set_cons_succ]
        refine wpAnyH_tk (i := 8) (d := 60) (v := (.int .i64 (y : Int))) rfl rfl (by kernel_rfl) (by kernel_rfl) (by kernel_rfl) (fun _ _ _ h => h) (.inl ⟨by rfl, by (intro wq hSw; (try dsimp only at hSw); go_simp; (try (first | rfl | omega)))⟩) hHeld ?_
        simp only [Act.put, List.setIfInBounds_toArray, List.set_cons_zero, List.set_cons_succ]
        refine wpAnyH_tk (i := 9) (d := 61) (v := (.int .i64 (y5 : Int))) rfl rfl (by kernel_rfl) (by kernel_rfl) (by kernel_rfl) (fun _ _ _ h => h) (.inl ⟨by rfl, by (intro wq hSw; (try dsimp only at hSw); go_simp; (try (first | rfl | omega)))⟩) hHeld ?_
        simp only [Act.put, List.setIfInBounds_toArray, List.set_cons_zero, List.set_cons_succ]
        refine wpAnyH_tk (i := 10) (d := 62) (v := (.int .i64 (y6 : Int))) rfl rfl (by kernel_rfl) (by kernel_rfl) (by kernel_rfl) (fun _ _ _ h => h) (.inl ⟨by rfl, by (intro wq hSw; (try dsimp only at hSw); go_simp; (try (first | rfl | omega)))⟩) hHeld ?_
        simp only [Act.put, List.setIfInBounds_toArray, List.set_cons_zero, List.set_cons_succ]
        refine wpAnyH_tk (i := 11) (d := 63) (v := (.int .i64 (y7 : Int))) rfl rfl (by kernel_rfl) (by kernel_rfl) (by kernel_rfl) (fun _ _ _ h => h) (.inl ⟨by rfl, by (intro wq hSw; (try dsimp only at hSw); go_simp; (try (first | rfl | omega)))⟩) hHeld ?_
        simp only [Act.put, List.setIfInBounds_toArray, List.set_cons_zero, List.set_cons_succ]
        refine wpAnyH_tk (i := 12) (d := 64) (v := (.int .i64 (n : Int))) rfl rfl (by kernel_rfl) (by kernel_rfl) (by kernel_rfl) (fun _ _ _ h => h) (.inl ⟨by rfl, by (intro wq hSw; (try dsimp only at hSw); go_simp; (try (first | rfl | omega)))⟩) hHeld ?_
        simp only [Act.put, List.setIfInBounds_toArray, List.set_cons_zero, List.set_cons_succ]
        refine wpAnyH_tk (i := 13) (d := 65) (v := (.int .i64 (y8 : Int))) rfl rfl (by kernel_rfl) (by kernel_rfl) (by kernel_rfl) (fun _ _ _ h => h) (.inl ⟨by rfl, by (intro wq hSw; (try dsimp only at hSw); go_simp; (try (first | rfl | omega)))⟩) hHeld ?_
        simp only [Act.put, List.setIfInBounds_toArray, List.set_cons_zero, List.set_cons_succ]
        refine wpAnyH_tk (i := 14) (d := 66) (v := (.agg #[.int .i64 (x8 : Int), .int .i64 (y8 : Int)])) rfl rfl (by kernel_rfl) (by kernel_rfl) (by kernel_rfl) (fun _ _ _ h => h) (.inl ⟨by rfl, by (intro wq hSw; (try dsimp only at hSw); go_simp; (try (first | rfl | omega)))⟩) hHeld ?_
        simp only [Act.put, List.setIfInBounds_toArray, List.set_cons_zero, List.set_cons_succ]
        refine wpAnyH_ready (rs := [1, 15]) (by kernel_rfl) (by simp) ?_
        refine ready_tk (i := 1) rfl (by rfl) (fun K hK => ?_) (ready_tk (i := 15) rfl (by rfl) (fun K hK => ?_) AllReadyH.nil)
        · go_simp
          refine hK.out _ _ trivial (fun hHeld => ?_)
          clear hK K
          refine wpAnyH_ready (rs := [15]) (by kernel_rfl) (by simp) ?_
          refine ready_tk (i := 15) rfl (by rfl) (fun K hK => ?_) AllReadyH.nil
          go_simp
          refine hK.out _ _ trivial (fun hHeld => ?_)
          clear hK K
          refine wpAnyH_ready (rs := [16]) (by kernel_rfl) (by simp) ?_
          refine ready_tk (i := 16) rfl (by rfl) (fun K hK => ?_) AllReadyH.nil
          refine op_append_ownA (.tmp 53) (.tmp 67) 22 (by rfl) (R + 2) 53 i2 (.agg #[.int .i64 0, .int .i64 0]) 2 16 Tryd.underlying22 hi2 hz20 hz21 hz22 rfl (by decide) _ _ _ (by rfl) HOA.out ⟨w6.heap.size, 0, none⟩ 1 1 [.int .i64 (x8 : Int), .int .i64 (y8 : Int)] (by rfl) rfl (two_new _ _ _ _) (two_int _ _) (by unfold maxLen; omega) (by omega) HSZ1.out ?_
          intro v' w7 ho7 hg7 _
          refine hK.out _ _ trivial (fun hHeld => ?_)
          clear hK K
          simp only [Act.put, List.setIfInBounds_toArray, List.set_cons_zero, List.set_cons_succ]
          obtain ⟨vo, vc, hvv7⟩ := owns_form2 ho7
          subst hvv7
          obtain ⟨g1, g2, g3⟩ := HFIN.out _ w7 ho7 hg7
          have G3 : Hid (PfI w R n (es ++ [(x8, y8)]) (w7.setCell ⟨R + 1, 1, none⟩ (.slice vo (es.length + 1) vc))) := g3
          clear g3 ho7 hg7
          refine wpAnyH_tk (i := 17) (d := 69) (v := (.pointer (some ⟨R + 1, 1, none⟩))) rfl rfl (by kernel_rfl) (by kernel_rfl) (by kernel_rfl) (fun _ _ _ h => h) (.inl ⟨by rfl, by (intro wq hSw; (try dsimp only at hSw); go_simp; (try (first | rfl | omega)))⟩) hHeld ?_
          simp only [Act.put, List.setIfInBounds_toArray, List.set_cons_zero, List.set_cons_succ]
          refine wpAnyH_ready (rs := [18]) (by kernel_rfl) (by simp) ?_
          refine ready_tk (i := 18) rfl (by rfl) (fun K hK => ?_) AllReadyH.nil
          go_simp
          refine hK.out _ _ trivial (fun hHeld => ?_)
          clear hK K
          refine wpAnyH_done (by kernel_rfl) ?_ _
          clear hHeld g1 g2 b1 b2 b3 b4 d1 d2 d3 d4 b1w b2w d1w d2w
          go_wp2
          exact ⟨⟨i + 1, es ++ [(x8, y8)], by omega, by go_num, HF1.out, HF2.out, by rw [List.length_append, List.length_singleton]; omega, G3.out⟩, by simp [intOf]; omega⟩
        · go_simp
          refine hK.out _ _ trivial (fun hHeld => ?_)
          clear hK K
          refine wpAnyH_ready (rs := [1]) (by kernel_rfl) (by simp) ?_
          refine ready_tk (i := 1) rfl (by rfl) (fun K hK => ?_) AllReadyH.nil
          go_simp
          refine hK.out _ _ trivial (fun hHeld => ?_)
          clear hK K
          refine wpAnyH_ready (rs := [16]) (by kernel_rfl) (by simp) ?_
          refine ready_tk (i := 16) rfl (by rfl) (fun K hK => ?_) AllReadyH.nil
          refine op_append_ownA (.tmp 53) (.tmp 67) 22 (by rfl) (R + 2) 53 i2 (.agg #[.int .i64 0, .int .i64 0]) 2 16 Tryd.underlying22 hi2 hz20 hz21 hz22 rfl (by decide) _ _ _ (by rfl) HOA.out ⟨w6.heap.size, 0, none⟩ 1 1 [.int .i64 (x8 : Int), .int .i64 (y8 : Int)] (by rfl) rfl (two_new _ _ _ _) (two_int _ _) (by unfold maxLen; omega) (by omega) HSZ1.out ?_
          intro v' w7 ho7 hg7 _
          refine hK.out _ _ trivial (fun hHeld => ?_)
          clear hK K
          simp only [Act.put, List.setIfInBounds_toArray, List.set_cons_zero, List.set_cons_succ]
          obtain ⟨vo, vc, hvv7⟩ := owns_form2 ho7
          subst hvv7
          obtain ⟨g1, g2, g3⟩ := HFIN.out _ w7 ho7 hg7
          have G3 : Hid (PfI w R n (es ++ [(x8, y8)]) (w7.setCell ⟨R + 1, 1, none⟩ (.slice vo (es.length + 1) vc))) := g3
          clear g3 ho7 hg7
          refine wpAnyH_tk (i := 17) (d := 69) (v := (.pointer (some ⟨R + 1, 1, none⟩))) rfl rfl (by kernel_rfl) (by kernel_rfl) (by kernel_rfl) (fun _ _ _ h => h) (.inl ⟨by rfl, by (intro wq hSw; (try dsimp only at hSw); go_simp; (try (first | rfl | omega)))⟩) hHeld ?_
          simp only [Act.put, List.setIfInBounds_toArray, List.set_cons_zero, List.set_cons_succ]
          refine wpAnyH_ready (rs := [18]) (by kernel_rfl) (by simp) ?_
          refine ready_tk (i := 18) rfl (by rfl) (fun K hK => ?_) AllReadyH.nil
          go_simp
          refine hK.out _ _ trivial (fun hHeld => ?_)
          clear hK K
          refine wpAnyH_done (by kernel_rfl) ?_ _
          clear hHeld g1 g2 b1 b2 b3 b4 d1 d2 d3 d4 b1w b2w d1w d2w
          go_wp2
          exact ⟨⟨i + 1, es ++ [(x8, y8)], by omega, by go_num, HF1.out, HF2.out, by rw [List.length_append, List.length_singleton]; omega, G3.out⟩, by simp [intOf]; omega⟩
    · have HEX : Hid (PfI w R n es wr) := HP.out
      have hex : many ≤ i ∨ n ≤ 1 := by omega
      have HEN : Hid (es.length ≤ 8) := by show _ ≤ _; omega
      clear HP hel hlt
      obtain ⟨w1, rfl⟩ : ∃ w1, w1 = wr := ⟨_, rfl⟩
      obtain ⟨H, hH⟩ : ∃ H, H = w1.heap.size := ⟨_, rfl⟩
      have hmk : ∀ w : World, (Instr.makeSlice 72 (.int .i64 (n : Int)) (.int .i64 (n : Int))).run Tryd.prog w = .ok (.slice (some ⟨w.heap.size, 0, none⟩) n n) (w.alloc (.cells (madeCells #[.bool false] n) 4)) := run_make_row' (P := Tryd.prog) 72 4 (.bool false) 1 Tryd.underlying72 (by kernel_rfl) rfl .i64 .i64 n (by omega) (by omega)
      have HS0 : Hid ((w1.alloc (.cells (madeCells #[.bool false] n) 4)).rowIs H 4 n (fun j => .bool (seF n 0 j))) := by rw [hH]; exact World.rowIs_made w1 (.bool false) n 4
      have HB0 : Hid (Below H w1 (w1.alloc (.cells (madeCells #[.bool false] n) 4))) := by rw [hH]; exact (Below.refl _ _).alloc (Nat.le_refl _) _
      have HPX : Hid (∀ W, Below H w1 W → PfI w R n es W) := fun W h => HEX.out.below h (by omega)
      have t0 : decide ((i : Int) < (many : Int)) = true → decide (1 < (n : Int)) = false := fun h => by
        have := of_decide_eq_true h
        exact decide_eq_false (by omega)
      clear HEX
      by_cases hc : i < many
      · have t1 : decide ((i : Int) < (many : Int)) = true := decide_eq_true (by omega)
        have t2 := t0 t1
        have t3 : (i : Int) < (many : Int) := by omega
        have t4 : ¬ 1 < (n : Int) := by omega
        have t5 : ¬ 1 < n := by omega
        clear t0 hex
        go_wp2
        rw [← hH]
        clear hmk hH
        clear t1
        go_loopw [13, 14] (fun ov iv wq => ∃ v : Nat, v ≤ n ∧ iv = .int .i64 (v : Int) ∧ ov = .bool (okF n v) ∧ wq.rowIs H 4 n (fun j => .bool (seF n v j)) ∧ Below H w1 wq) (fun _ iv _ => n - (intOf iv).toNat)
        case atStart => exact ⟨0, Nat.zero_le _, rfl, rfl, HS0.out, HB0.out⟩
        case round =>
          obtain ⟨v, hv, rfl, rfl, hs, hb⟩ := hrel
          rename World => wq
          clear HS0 HB0
          by_cases hlt : v < n
          · obtain ⟨x5, b1⟩ : ∃ k : Nat, (v : Int) * 5 = (k : Int) := ⟨v * 5, by omega⟩
            obtain ⟨x6, b2⟩ : ∃ k : Nat, (x5 : Int) + 1 = (k : Int) := ⟨x5 + 1, by omega⟩
            obtain ⟨x7, b3⟩ : ∃ k : Nat, (x6 : Int).tmod 7 = (k : Int) := ⟨x6 % 7, by rw [Int.tmod_eq_emod_of_nonneg (by omega)]; rfl⟩
            obtain ⟨x8, b4⟩ : ∃ k : Nat, (x7 : Int).tmod (n : Int) = (k : Int) := ⟨x7 % n, by rw [Int.tmod_eq_emod_of_nonneg (by omega)]; rfl⟩
            have hx8 : x8 = fE n v := fE_of b1 b2 b3 b4
            have hx8n : x8 < n := by rw [hx8]; exact fE_lt hn1
            have c1 := hs.cell hx8n
            have c2 := hs.frozen x8
            have HOK : Hid (okF n (v + 1) = (okF n v && !seF n v x8)) := by rw [hx8]; exact okF_succ n v
            have HSN : Hid ((wq.setCell ⟨H, x8, none⟩ (.bool true)).rowIs H 4 n (fun j => .bool (seF n (v + 1) j))) := (hs.set x8 (.bool true)).congr fun j hj => by
              rw [seF_succ, ← hx8]
              by_cases e : j = x8
              · simp [e]
              · have e2 : (x8 == j) = false := by rw [beq_eq_false_iff_ne]; exact fun h => e h.symm
                simp [e, e2]
            have HBN : Hid (Below H w1 (wq.setCell ⟨H, x8, none⟩ (.bool true))) := below_set hb (Nat.le_refl _)
            have b1w : IntKind.i64.wrap (x5 : Int) = (x5 : Int) := by rw [IntWalk.i64_left]; exact IntWalk.wrap64_in _ ⟨by omega, by omega⟩
            have b2w : IntKind.i64.wrap (x6 : Int) = (x6 : Int) := by rw [IntWalk.i64_left]; exact IntWalk.wrap64_in _ ⟨by omega, by omega⟩
            have n0 : ((n : Int) == 0) = false := by rw [beq_eq_false_iff_ne]; omega
            have n0' : ¬ (n : Int) = 0 := by omega
            have xI : (x8 : Int) < (n : Int) := by omega
            have xI0 : (0 : Int) ≤ (x8 : Int) := by omega
            clear hx8 hs hb
            generalize seF n v x8 = sb at *
            generalize okF n v = ob at *
            cases ob
            · have HK : Hid (okF n (v + 1) = false) := by
                have := HOK.out
                show _ = _
                rw [this]
                rfl
              clear HOK
              go_wp2
              go_roundw
              case rel => exact ⟨v + 1, by omega, by go_num, by rw [HK.out], HSN.out, HBN.out⟩
              case measure => simp [intOf]; omega
            · have HK : Hid (okF n (v + 1) = !sb) := by
                have := HOK.out
                show _ = _
                rw [this]
                rfl
              clear HOK
              go_wp2
              go_roundw
              case rel => exact ⟨v + 1, by omega, by go_num, by rw [HK.out], HSN.out, HBN.out⟩
              case measure => simp [intOf]; omega
          · have hve : v = n := by omega
            subst hve
            have HQ : Hid (PfI w R v es wq) := HPX.out _ hb
            have HTW := okF_two v (by omega)
            clear HPX hs hb
            generalize okF v v = ob at *
            cases ob
            · clear HTW HE1 HE2 HEN
              obtain ⟨⟨sv, z0⟩, z1, hst⟩ := HQ.out.clear
              have HST : Hid (PfI w R v [] (wq.setCell ⟨R + 1, 1, none⟩ (.slice none 0 0))) := hst
              clear hst HQ
              go_wp2
              clear z0 z1
              go_loopw [16] (fun iv wp => ∃ (j : Nat) (ep : List (Nat × Nat)), j ≤ many ∧ iv = .int .i64 (j : Int) ∧ (∀ e ∈ ep, e.1 < v ∧ e.2 < e.1) ∧ ep.length ≤ j ∧ PfI w R v ep wp) (fun iv _ => many - (intOf iv).toNat)
              case atStart => exact ⟨0, [], Nat.zero_le _, rfl, fun e he => by simp at he, Nat.le_refl _, HST.out⟩
              case round =>
                obtain ⟨j, ep, hj, rfl, he1, hel, hp⟩ := hrel
                rename World => wp
                clear HST
                have HE1 : Hid (∀ e ∈ ep, e.1 < v ∧ e.2 < e.1) := he1
                have HP : Hid (PfI w R v ep wp) := hp
                clear he1 hp
                by_cases hlt3 : j < many ∧ 1 < v
                · exact absurd hlt3.2 t5
                · have HAL : Hid (∀ e ∈ ep, e.1 < v ∧ e.2 < e.1) := HE1.out
                  have HLE : Hid (ep.length ≤ 8) := by show _ ≤ _; omega
                  have HQ : Hid (PfI w R v ep wp) := HP.out
                  clear HE1 HP hel
                  by_cases hc3 : j < many
                  · have t7 : decide ((j : Int) < (many : Int)) = true := decide_eq_true (by omega)
                    have t8 : decide (1 < (v : Int)) = false := decide_eq_false (by omega)
                    have t9 : ¬ 1 < (v : Int) := by omega
                    have t10 : ¬ 1 < v := by omega
                    clear hlt3
                    obtain ⟨so, sc, m0, m1, r0, r1, rf0, rf1, hprs, hbel⟩ := HQ.out.fin
                    have HPR : Hid (Prs ((wp.setCell ⟨R, 0, none⟩ (.int .i64 (v : Int))).setCell ⟨R, 1, none⟩ (.slice so ep.length sc)) (.slice so ep.length sc) (npL ep)) := hprs
                    have HBX : Hid (Below w.heap.size w ((wp.setCell ⟨R, 0, none⟩ (.int .i64 (v : Int))).setCell ⟨R, 1, none⟩ (.slice so ep.length sc))) := hbel
                    clear hprs hbel
                    go_wp2
                    exact bodyPost_ret (v := .agg #[.int .i64 (v : Int), .slice so ep.length sc]) (by simp [results, Tryd.results25, go_sem, *]) rfl ⟨_, rfl, ep, HLE.out, fun a b h => HAL.out (a, b) h, HPR.out, HBX.out⟩
                  · have t7 : decide ((j : Int) < (many : Int)) = false := decide_eq_false (by omega)
                    have t9 : ¬ (j : Int) < (many : Int) := by omega
                    clear hlt3
                    obtain ⟨so, sc, m0, m1, r0, r1, rf0, rf1, hprs, hbel⟩ := HQ.out.fin
                    have HPR : Hid (Prs ((wp.setCell ⟨R, 0, none⟩ (.int .i64 (v : Int))).setCell ⟨R, 1, none⟩ (.slice so ep.length sc)) (.slice so ep.length sc) (npL ep)) := hprs
                    have HBX : Hid (Below w.heap.size w ((wp.setCell ⟨R, 0, none⟩ (.int .i64 (v : Int))).setCell ⟨R, 1, none⟩ (.slice so ep.length sc))) := hbel
                    clear hprs hbel
                    go_wp2
                    exact bodyPost_ret (v := .agg #[.int .i64 (v : Int), .slice so ep.length sc]) (by simp [results, Tryd.results25, go_sem, *]) rfl ⟨_, rfl, ep, HLE.out, fun a b h => HAL.out (a, b) h, HPR.out, HBX.out⟩
            · have HAL : Hid (∀ e ∈ es, e.1 < v ∧ e.2 < e.1) := fun e he => ⟨(HE1.out e he).1, HE2.out (HTW rfl) e he⟩
              have HLE : Hid (es.length ≤ 8) := HEN.out
              clear HTW HE1 HE2 HEN
              obtain ⟨so, sc, m0, m1, r0, r1, rf0, rf1, hprs, hbel⟩ := HQ.out.fin
              have HPR : Hid (Prs ((wq.setCell ⟨R, 0, none⟩ (.int .i64 (v : Int))).setCell ⟨R, 1, none⟩ (.slice so es.length sc)) (.slice so es.length sc) (npL es)) := hprs
              have HBX : Hid (Below w.heap.size w ((wq.setCell ⟨R, 0, none⟩ (.int .i64 (v : Int))).setCell ⟨R, 1, none⟩ (.slice so es.length sc))) := hbel
              clear hprs hbel
              go_wp2
              exact bodyPost_ret (v := .agg #[.int .i64 (v : Int), .slice so es.length sc]) (by simp [results, Tryd.results25, go_sem, *]) rfl ⟨_, es, rfl, HLE.out, HAL.out, HPR.out, HBX.out⟩
      · have t1 : decide ((i : Int) < (many : Int)) = false := decide_eq_false (by omega)
        have t3 : ¬ (i : Int) < (many : Int) := by omega
        clear t0 hex
        go_wp2
        rw [← hH]
        clear hmk hH
        clear t1
        go_loopw [13, 14] (fun ov iv wq => ∃ v : Nat, v ≤ n ∧ iv = .int .i64 (v : Int) ∧ ov = .bool (okF n v) ∧ wq.rowIs H 4 n (fun j => .bool (seF n v j)) ∧ Below H w1 wq) (fun _ iv _ => n - (intOf iv).toNat)
        case atStart => exact ⟨0, Nat.zero_le _, rfl, rfl, HS0.out, HB0.out⟩
        case round =>
          obtain ⟨v, hv, rfl, rfl, hs, hb⟩ := hrel
          rename World => wq
          clear HS0 HB0
          by_cases hlt : v < n
          · obtain ⟨x5, b1⟩ : ∃ k : Nat, (v : Int) * 5 = (k : Int) := ⟨v * 5, by omega⟩
            obtain ⟨x6, b2⟩ : ∃ k : Nat, (x5 : Int) + 1 = (k : Int) := ⟨x5 + 1, by omega⟩
            obtain ⟨x7, b3⟩ : ∃ k : Nat, (x6 : Int).tmod 7 = (k : Int) := ⟨x6 % 7, by rw [Int.tmod_eq_emod_of_nonneg (by omega)]; rfl⟩
            obtain ⟨x8, b4⟩ : ∃ k : Nat, (x7 : Int).tmod (n : Int) = (k : Int) := ⟨x7 % n, by rw [Int.tmod_eq_emod_of_nonneg (by omega)]; rfl⟩
            have hx8 : x8 = fE n v := fE_of b1 b2 b3 b4
            have hx8n : x8 < n := by rw [hx8]; exact fE_lt hn1
            have c1 := hs.cell hx8n
            have c2 := hs.frozen x8
            have HOK : Hid (okF n (v + 1) = (okF n v && !seF n v x8)) := by rw [hx8]; exact okF_succ n v
            have HSN : Hid ((wq.setCell ⟨H, x8, none⟩ (.bool true)).rowIs H 4 n (fun j => .bool (seF n (v + 1) j))) := (hs.set x8 (.bool true)).congr fun j hj => by
              rw [seF_succ, ← hx8]
              by_cases e : j = x8
              · simp [e]
              · have e2 : (x8 == j) = false := by rw [beq_eq_false_iff_ne]; exact fun h => e h.symm
                simp [e, e2]
            have HBN : Hid (Below H w1 (wq.setCell ⟨H, x8, none⟩ (.bool true))) := below_set hb (Nat.le_refl _)
            have b1w : IntKind.i64.wrap (x5 : Int) = (x5 : Int) := by rw [IntWalk.i64_left]; exact IntWalk.wrap64_in _ ⟨by omega, by omega⟩
            have b2w : IntKind.i64.wrap (x6 : Int) = (x6 : Int) := by rw [IntWalk.i64_left]; exact IntWalk.wrap64_in _ ⟨by omega, by omega⟩
            have n0 : ((n : Int) == 0) = false := by rw [beq_eq_false_iff_ne]; omega
            have n0' : ¬ (n : Int) = 0 := by omega
            have xI : (x8 : Int) < (n : Int) := by omega
            have xI0 : (0 : Int) ≤ (x8 : Int) := by omega
            clear hx8 hs hb
            generalize seF n v x8 = sb at *
            generalize okF n v = ob at *
            cases ob
            · have HK : Hid (okF n (v + 1) = false) := by
                have := HOK.out
                show _ = _
                rw [this]
                rfl
              clear HOK
              go_wp2
              go_roundw
              case rel => exact ⟨v + 1, by omega, by go_num, by rw [HK.out], HSN.out, HBN.out⟩
              case measure => simp [intOf]; omega
            · have HK : Hid (okF n (v + 1) = !sb) := by
                have := HOK.out
                show _ = _
                rw [this]
                rfl
              clear HOK
              go_wp2
              go_roundw
              case rel => exact ⟨v + 1, by omega, by go_num, by rw [HK.out], HSN.out, HBN.out⟩
              case measure => simp [intOf]; omega
          · have hve : v = n := by omega
            subst hve
            have HQ : Hid (PfI w R v es wq) := HPX.out _ hb
            have HTW := okF_two v (by omega)
            clear HPX hs hb
            generalize okF v v = ob at *
            cases ob
            · clear HTW HE1 HE2 HEN
              obtain ⟨⟨sv, z0⟩, z1, hst⟩ := HQ.out.clear
              have HST : Hid (PfI w R v [] (wq.setCell ⟨R + 1, 1, none⟩ (.slice none 0 0))) := hst
              clear hst HQ
              go_wp2
              clear z0 z1
              go_loopw [16] (fun iv wp => ∃ (j : Nat) (ep : List (Nat × Nat)), j ≤ many ∧ iv = .int .i64 (j : Int) ∧ (∀ e ∈ ep, e.1 < v ∧ e.2 < e.1) ∧ ep.length ≤ j ∧ PfI w R v ep wp) (fun iv _ => many - (intOf iv).toNat)
              case atStart => exact ⟨0, [], Nat.zero_le _, rfl, fun e he => by simp at he, Nat.le_refl _, HST.out⟩
              case round =>
                obtain ⟨j, ep, hj, rfl, he1, hel, hp⟩ := hrel
                rename World => wp
                clear HST
                have HE1 : Hid (∀ e ∈ ep, e.1 < v ∧ e.2 < e.1) := he1
                have HP : Hid (PfI w R v ep wp) := hp
                clear he1 hp
                by_cases hlt3 : j < many ∧ 1 < v
                · obtain ⟨hlt3, hn2⟩ := hlt3
                  have jI : (j : Int) < (many : Int) := by omega
                  have nI : 1 < (v : Int) := by omega
                  have a1 : IntKind.i64.wrap (2 * (j : Int)) = ((2 * j : Nat) : Int) := by
                    rw [show (2 * (j : Int)) = ((2 * j : Nat) : Int) by omega, IntWalk.i64_left]; exact IntWalk.wrap64_in _ ⟨by omega, by omega⟩
                  obtain ⟨k2, hk2⟩ : ∃ k2 : Nat, k2 = 2 * j := ⟨_, rfl⟩
                  obtain ⟨k3, hk3⟩ : ∃ k3 : Nat, k3 = 2 * j + 1 := ⟨_, rfl⟩
                  have a4 : 2 * (j : Int) = (k2 : Int) := by omega
                  have a5 : (k2 : Int) + 1 = (k3 : Int) := by omega
                  rw [← hk2] at a1
                  have a3 : IntKind.i64.wrap ((k2 : Int) + 1) = (k3 : Int) := by
                    rw [show ((k2 : Int) + 1) = (k3 : Int) by omega, IntWalk.i64_left]; exact IntWalk.wrap64_in _ ⟨by omega, by omega⟩
                  have h2 : k2 ≤ 1000 := by omega
                  have h3 : k3 ≤ 1000 := by omega
                  clear hk2 hk3
                  go_wp2_with fail
                  refine (HRW.out wp k2 HP.out.bel h2).mono ?_
                  rintro e w3 ⟨z, rfl, hz, hb3⟩
                  have HP3 : Hid (PfI w R v ep w3) := HP.out.below hb3 (Nat.le_refl _)
                  obtain ⟨a, ha, hca⟩ := HPK.out w3 z hz
                  have HCA : Hid (Calls Tryd.prog 26 #[.int .i64 z, .int .i64 (v : Int)] w3 fun e w' => e = .returned (.int .i64 a) ∧ w' = w3) := hca
                  clear hca hb3 HP
                  go_wp2_with fail
                  refine HCA.out.mono ?_
                  rintro e w4 ⟨rfl, hw4⟩
                  subst hw4
                  go_wp2_with fail
                  refine (HRW.out w4 k3 HP3.out.bel h3).mono ?_
                  rintro e w5 ⟨z2, rfl, hz2, hb5⟩
                  have HP5 : Hid (PfI w R v ep w5) := HP3.out.below hb5 (Nat.le_refl _)
                  obtain ⟨b, hb, hcb⟩ := HPK.out w5 z2 hz2
                  have HCB : Hid (Calls Tryd.prog 26 #[.int .i64 z2, .int .i64 (v : Int)] w5 fun e w' => e = .returned (.int .i64 b) ∧ w' = w5) := hcb
                  clear hcb hb5 HP3 HCA
                  go_wp2_with fail
                  refine HCB.out.mono ?_
                  rintro e w6 ⟨rfl, hw6⟩
                  subst hw6
                  have HP6 := HP5
                  clear HP5 HCB a1 a3 a4 a5 hz hz2
                  by_cases hab : b < a
                  · have t1 : decide ((b : Int) < (a : Int)) = true := decide_eq_true (by omega)
                    have HF1 : Hid (∀ e ∈ ep ++ [(a, b)], e.1 < v ∧ e.2 < e.1) := fun e he => by
                      rcases List.mem_append.1 he with he | he
                      · exact HE1.out e he
                      · rw [List.mem_singleton] at he
                        subst he
                        exact ⟨ha, hab⟩
                    obtain ⟨sv, hcs, hca, ⟨so, sc, hsv⟩, hown, hszx, hfin⟩ := HP6.out.push a b (wx := w6.alloc (.cells #[.int .i64 (a : Int), .int .i64 (b : Int)] 53)) ((Below.refl _ _).alloc (Nat.le_refl _) _)
                    subst hsv
                    have HFIN : Hid (∀ v' w5, w5.ownsRow (R + 2) 53 2 v' (ep.length + 1) (epL ep ++ [.int .i64 (a : Int), .int .i64 (b : Int)]) → (w6.alloc (.cells #[.int .i64 (a : Int), .int .i64 (b : Int)] 53)).grownBy w5 (Value.slice so ep.length sc).ownBlock → w5.cell? ⟨R + 1, 1, none⟩ = some (.slice so ep.length sc) ∧ w5.frozen? ⟨R + 1, 1, none⟩ = false ∧ PfI w R v (ep ++ [(a, b)]) (w5.setCell ⟨R + 1, 1, none⟩ v')) := hfin
                    have HOA : Hid ((w6.alloc (.cells #[.int .i64 (a : Int), .int .i64 (b : Int)] 53)).ownsRow (R + 2) 53 2 (.slice so ep.length sc) ep.length (epL ep)) := hown
                    have HSZ1 : Hid (R + 2 ≤ (w6.alloc (.cells #[.int .i64 (a : Int), .int .i64 (b : Int)] 53)).heap.size) := hszx
                    have hel8 : ep.length ≤ 8 := by omega
                    clear hown hfin hszx HP6 HE1
                    go_wp2_with (first | (at_builtin; refine wpList_append_own _ rfl _ _ 22 rfl (R + 2) 53 i2 (.agg #[.int .i64 0, .int .i64 0]) 2 16 Tryd.underlying22 hi2 hz20 hz21 hz22 rfl (by decide) _ _ _ rfl HOA.out ⟨w6.heap.size, 0, none⟩ 1 1 [.int .i64 (a : Int), .int .i64 (b : Int)] rfl rfl (two_new _ _ _ _) (two_int _ _) ?c3 ?c4 ?c5 ?_))
                    case c3 => unfold maxLen; omega
                    case c4 => omega
                    case c5 => exact HSZ1.out
                    intro v' w7 ho7 hg7 _
                    obtain ⟨vo, vc, hvv7⟩ := owns_form2 ho7
                    subst hvv7
                    obtain ⟨g1, g2, g3⟩ := HFIN.out _ w7 ho7 hg7
                    have G3 : Hid (PfI w R v (ep ++ [(a, b)]) (w7.setCell ⟨R + 1, 1, none⟩ (.slice vo (ep.length + 1) vc))) := g3
                    clear g3 ho7 hg7 hcs hca
                    go_wp2
                    exact ⟨⟨j + 1, ep ++ [(a, b)], by omega, by go_num, HF1.out, by rw [List.length_append, List.length_singleton]; omega, G3.out⟩, by simp [intOf]; omega⟩
                  · have t1 : decide ((b : Int) < (a : Int)) = false := decide_eq_false (by omega)
                    have t3 : a ≤ b := by omega
                    clear hab
                    go_wp2
                    exact ⟨⟨j + 1, ep, by omega, by go_num, HE1.out, by omega, HP6.out⟩, by simp [intOf]; omega⟩
                · have HAL : Hid (∀ e ∈ ep, e.1 < v ∧ e.2 < e.1) := HE1.out
                  have HLE : Hid (ep.length ≤ 8) := by show _ ≤ _; omega
                  have HQ : Hid (PfI w R v ep wp) := HP.out
                  clear HE1 HP hel
                  by_cases hc3 : j < many
                  · have t7 : decide ((j : Int) < (many : Int)) = true := decide_eq_true (by omega)
                    have t8 : decide (1 < (v : Int)) = false := decide_eq_false (by omega)
                    have t9 : ¬ 1 < (v : Int) := by omega
                    have t10 : ¬ 1 < v := by omega
                    clear hlt3
                    obtain ⟨so, sc, m0, m1, r0, r1, rf0, rf1, hprs, hbel⟩ := HQ.out.fin
                    have HPR : Hid (Prs ((wp.setCell ⟨R, 0, none⟩ (.int .i64 (v : Int))).setCell ⟨R, 1, none⟩ (.slice so ep.length sc)) (.slice so ep.length sc) (npL ep)) := hprs
                    have HBX : Hid (Below w.heap.size w ((wp.setCell ⟨R, 0, none⟩ (.int .i64 (v : Int))).setCell ⟨R, 1, none⟩ (.slice so ep.length sc))) := hbel
                    clear hprs hbel
                    go_wp2
                    exact bodyPost_ret (v := .agg #[.int .i64 (v : Int), .slice so ep.length sc]) (by simp [results, Tryd.results25, go_sem, *]) rfl ⟨_, rfl, ep, HLE.out, fun a b h => HAL.out (a, b) h, HPR.out, HBX.out⟩
                  · have t7 : decide ((j : Int) < (many : Int)) = false := decide_eq_false (by omega)
                    have t9 : ¬ (j : Int) < (many : Int) := by omega
                    clear hlt3
                    obtain ⟨so, sc, m0, m1, r0, r1, rf0, rf1, hprs, hbel⟩ := HQ.out.fin
                    have HPR : Hid (Prs ((wp.setCell ⟨R, 0, none⟩ (.int .i64 (v : Int))).setCell ⟨R, 1, none⟩ (.slice so ep.length sc)) (.slice so ep.length sc) (npL ep)) := hprs
                    have HBX : Hid (Below w.heap.size w ((wp.setCell ⟨R, 0, none⟩ (.int .i64 (v : Int))).setCell ⟨R, 1, none⟩ (.slice so ep.length sc))) := hbel
                    clear hprs hbel
                    go_wp2
                    exact bodyPost_ret (v := .agg #[.int .i64 (v : Int), .slice so ep.length sc]) (by simp [results, Tryd.results25, go_sem, *]) rfl ⟨_, rfl, ep, HLE.out, fun a b h => HAL.out (a, b) h, HPR.out, HBX.out⟩
            · have HAL : Hid (∀ e ∈ es, e.1 < v ∧ e.2 < e.1) := fun e he => ⟨(HE1.out e he).1, HE2.out (HTW rfl) e he⟩
              have HLE : Hid (es.length ≤ 8) := HEN.out
              clear HTW HE1 HE2 HEN
              obtain ⟨so, sc, m0, m1, r0, r1, rf0, rf1, hprs, hbel⟩ := HQ.out.fin
              have HPR : Hid (Prs ((wq.setCell ⟨R, 0, none⟩ (.int .i64 (v : Int))).setCell ⟨R, 1, none⟩ (.slice so es.length sc)) (.slice so es.length sc) (npL es)) := hprs
              have HBX : Hid (Below w.heap.size w ((wq.setCell ⟨R, 0, none⟩ (.int .i64 (v : Int))).setCell ⟨R, 1, none⟩ (.slice so es.length sc))) := hbel
              clear hprs hbel
              go_wp2
              exact bodyPost_ret (v := .agg #[.int .i64 (v : Int), .slice so es.length sc]) (by simp [results, Tryd.results25, go_sem, *]) rfl ⟨_, es, rfl, HLE.out, HAL.out, HPR.out, HBX.out⟩

end Go.Proofs.YtofpcpcldheagaaDoor
