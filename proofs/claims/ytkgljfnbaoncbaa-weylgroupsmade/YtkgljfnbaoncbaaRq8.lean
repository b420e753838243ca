/- facetref.RootsMay of a square that may not be. Made by mkrq8.py. -/
import Derived.Test.YtkgljfnbaoncbaaRq7
import Derived.Test.YtkgljfnbaoncbaaDo4
namespace Go.Proofs.Ytkgljfnbaoncbaa
open Go.RowKit
attribute [local go_sem ↓] Go.wp_at_zero Go.wp_at_succ

theorem drew_below (w : World) (q : Nat) : Below w.heap.size w (w.drewN q) := (Below.refl w.heap.size w).trans ⟨rfl, rfl, rfl, Nat.le_refl _, fun _ _ => rfl⟩

set_option maxRecDepth 100000 in
set_option maxHeartbeats 3200000 in
theorem rootsMayX_any (c : List (List Int)) (cv : Value) (w : World) (hne : ¬ ckE c = 0) (hm : Mat w.heap.size 26 3 w cv c) :
    Calls Try.prog 6 #[cv] w fun e w' => e = .returned (.int .i64 (ckE c)) ∧ Below w.heap.size w w' := by
  obtain ⟨ao, cap, hvv, hlc, hcm⟩ := mat_open hm
  subst hvv
  obtain ⟨n, hn⟩ : ∃ n, n = c.length := ⟨_, rfl⟩
  by_cases h1 : n < 1
  · have e0 : n = 0 := by omega
    rw [ck_dim (.inl (by omega)), ← hn, e0]
    clear hm hne
    go_enter Try.func6, Try.ntmps6
    go_wp2
    go_ret
    exact ⟨rfl, Below.refl _ _⟩
  by_cases h4 : 4 < n
  · have h4I : (4 : Int) < (n : Int) := by omega
    have h1I : ¬ (n : Int) < 1 := by omega
    rw [ck_dim (.inr (by omega)), ← hn]
    clear hm hne
    go_enter Try.func6, Try.ntmps6
    go_wp2
    go_ret
    exact ⟨rfl, Below.refl _ _⟩
  have HCN : Hid (n = c.length) := hn
  have HNE : Hid (¬ ckE c = 0) := hne
  have HRO : Hid (Shp c.length c → 24 < (abL c).length → ∀ q, Calls Try.prog 14 #[.slice ao c.length cap] (w.drewN q) fun e w' => (∃ uo um uc, e = .returned (.slice uo um uc) ∧ 24 < um) ∧ Below w.heap.size w w') := fun hs hl q => by
    refine (rootsOfX_any c.length c _ (w.drewN q) hs hl (hm.drewN q)).mono ?_
    rintro e w' ⟨h1, h3⟩
    exact ⟨h1, (Below.refl w.heap.size w).trans ⟨h3.os, h3.tape, h3.output, h3.size, h3.block⟩⟩
  rw [← hn] at hm HRO
  have HM : Hid (Mat w.heap.size 26 3 w (.slice ao n cap) c) := hm
  rw [← hn]
  obtain ⟨E, hE⟩ : ∃ E, E = ckE c := ⟨_, rfl⟩
  have HE : Hid (E = ckE c) := hE
  rw [← hE]
  have e1 : decide ((n : Int) < 1) = false := decide_eq_false (by omega)
  have e4 : decide ((4 : Int) < (n : Int)) = false := decide_eq_false (by omega)
  clear hm hlc hne hE hn
  go_enter Try.func6, Try.ntmps6
  go_wp2
  go_loopw [3] (fun iv wr => ∃ i : Nat, i ≤ n ∧ iv = .int .i64 i ∧ ShF c i ∧ ∃ q, wr = w.drewN q) (fun iv _ => n - (intOf iv).toNat)
  case atStart => exact ⟨0, Nat.zero_le _, rfl, fun i hi => absurd hi (by omega), 0, rfl⟩
  case round =>
    obtain ⟨i, hi, rfl, hsh, q, rfl⟩ := hrel
    have HSH : Hid (ShF c i) := hsh
    have HBQ : Hid (Below w.heap.size w (w.drewN q)) := drew_below w q
    clear hsh
    by_cases hlt : i < n
    · obtain ⟨b, o, cp, r1, hs, _, hc1, hr⟩ := mat_cell (HM.out.drewN q) (k := i) (by rw [← HCN.out]; exact hlt)
      simp only [Value.slice.injEq] at hs
      obtain ⟨rfl, _, rfl⟩ := hs
      obtain ⟨ro, rc, hrv, hrl, _⟩ := sl_open hr
      subst hrv
      by_cases hl : (c.getD i []).length = n
      · obtain ⟨b3, o3, cp3, hs3, _, hc3⟩ := sl_cell hr (k := i) (by omega)
        simp only [Value.slice.injEq, true_and] at hs3
        obtain ⟨rfl, rfl⟩ := hs3
        rw [hl] at hc1
        have ee : (c.getD i []).getD i 0 = cE c i i := rfl
        rw [ee] at hc3
        by_cases h2 : cE c i i = 2
        · have HS2 : Hid (ShF c (i + 1)) := fun k hk => by
            by_cases e : k = i
            · subst e; rw [← HCN.out]; exact ⟨hl, h2⟩
            · exact HSH.out k (by omega)
          rw [h2] at hc3
          clear hr hl ee h2 hrl
          go_wp2
          go_roundw
          case rel => exact ⟨i + 1, by omega, by go_num, HS2.out, _, rfl⟩
          case measure => simp [intOf]; omega
        · have HF : Hid (E = 3) := by
            show _ = _
            rw [HE.out]
            exact ck_form (by rw [← HCN.out]; omega) (by rw [← HCN.out]; omega) (by rw [← HCN.out]; exact hlt) (fun h => h2 h.2)
          generalize cE c i i = x at *
          have b2 : (x == 2) = false := by simpa using h2
          clear hr hl ee hrl
          go_wp2
          go_ret
          exact ⟨by rw [HF.out]; rfl, HBQ.out⟩
      · have HF : Hid (E = 3) := by
          show _ = _
          rw [HE.out]
          exact ck_form (by rw [← HCN.out]; omega) (by rw [← HCN.out]; omega) (by rw [← HCN.out]; exact hlt) (fun h => hl (by rw [HCN.out]; exact h.1))
        clear hr hrl
        generalize (c.getD i []).length = m at *
        have hlI : ¬ ((m : Int) = (n : Int)) := by omega
        have b2 : ((m : Int) == (n : Int)) = false := by simpa using hlI
        go_wp2
        go_ret
        exact ⟨by rw [HF.out]; rfl, HBQ.out⟩
    · have hie : i = n := by omega
      subst hie
      have HRW : Hid (∀ k, k < i → (c.getD k []).length = i) := fun k hk => by
        have := (HSH.out k hk).1
        rw [HCN.out]; exact this
      obtain ⟨n, hn⟩ : ∃ n, n = i := ⟨_, rfl⟩
      subst hn
      clear hlt hi HBQ
      go_wp2
      go_loopw [4, 5] (fun iv _ wr => ∃ i : Nat, i ≤ n ∧ iv = .int .i64 i ∧ ofE c n i = 0 ∧ ∃ q, wr = w.drewN q) (fun iv _ _ => n - (intOf iv).toNat)
      case atStart => exact ⟨0, Nat.zero_le _, rfl, rfl, q, rfl⟩
      case round =>
        obtain ⟨i, hi, rfl, hof, q, rfl⟩ := hrel
        have HOF : Hid (ofE c n i = 0) := hof
        clear hof
        by_cases hlt : i < n
        · go_wp2
          go_loopw [5] (fun jv wr => ∃ j : Nat, j ≤ n ∧ jv = .int .i64 j ∧ rwE c i j = 0 ∧ ∃ q, wr = w.drewN q) (fun jv _ => n - (intOf jv).toNat)
          case atStart => exact ⟨0, Nat.zero_le _, rfl, rfl, q, rfl⟩
          case round =>
            obtain ⟨j, hj, rfl, hrw, q2, rfl⟩ := hrel
            have HRZ : Hid (rwE c i j = 0) := hrw
            have HBQ : Hid (Below w.heap.size w (w.drewN q2)) := drew_below w q2
            clear hrw
            by_cases hlj : j < n
            · have HRN : Hid (rwE c i (j + 1) = if i = j then 0 else cpE (cE c i j) (cE c j i)) := rw_next HRZ.out
              cases hij : ((i : Int) == (j : Int))
              · have hne : i ≠ j := fun e => by rw [e] at hij; simp at hij
                obtain ⟨a1, p1, b1, o1, rc1, hao, hc1, hcX⟩ := ent_cellE HCN.out.symm HRW.out (HM.out.drewN q2) hlt
                obtain ⟨a2, p2, b2, o2, rc2, hao2, hc3, hcY⟩ := ent_cellE HCN.out.symm HRW.out (HM.out.drewN q2) hlj
                rw [hao] at hao2
                simp only [Option.some.injEq, Addr.mk.injEq, and_true] at hao2
                obtain ⟨rfl, rfl⟩ := hao2
                subst hao
                have hc2 := hcX j hlj
                have hc4 := hcY i hlt
                clear hcX hcY
                rw [if_neg hne] at HRN
                have HOA : Hid (¬ cpE (cE c i j) (cE c j i) = 0 → E = cpE (cE c i j) (cE c j i)) := fun e2 => by
                  have h := of_at HOF.out HRZ.out hlt hlj hne e2
                  rw [HE.out, ← h]
                  have hcn := HCN.out
                  have hne2 : ¬ ofE c c.length c.length = 0 := by rw [← hcn, h]; exact e2
                  rw [ck_off (by omega) (by omega) (by rw [← hcn]; exact HSH.out) hne2, ← hcn]
                generalize cE c i j = x at *
                generalize cE c j i = y at *
                have iI : (i : Int) < (n : Int) := by omega
                have iI0 : (0 : Int) ≤ (i : Int) := by omega
                have jI : (j : Int) < (n : Int) := by omega
                have jI0 : (0 : Int) ≤ (j : Int) := by omega
                clear hne
                by_cases hx3 : x < -3
                · have HEV : Hid (E = 4) := by
                    have e : cpE x y = 4 := by unfold cpE; rw [if_pos (.inl hx3)]
                    rw [e] at HOA
                    exact HOA.out (by omega)
                  have q1 : decide (x < -3) = true := decide_eq_true hx3
                  go_wp2
                  go_ret
                  exact ⟨by rw [HEV.out]; rfl, HBQ.out⟩
                by_cases hx0 : 0 < x
                · have HEV : Hid (E = 4) := by
                    have e : cpE x y = 4 := by unfold cpE; rw [if_pos (.inr hx0)]
                    rw [e] at HOA
                    exact HOA.out (by omega)
                  have q1 : decide (x < -3) = false := decide_eq_false hx3
                  have q2' : decide (0 < x) = true := decide_eq_true hx0
                  go_wp2
                  go_ret
                  exact ⟨by rw [HEV.out]; rfl, HBQ.out⟩
                have q1 : decide (x < -3) = false := decide_eq_false hx3
                have q2' : decide (0 < x) = false := decide_eq_false hx0
                have HCP : Hid (cpE x y = if (x == 0) = (y == 0) then 0 else 3) := by
                  show _ = _
                  unfold cpE
                  rw [if_neg (by omega)]
                by_cases hx : x = 0
                · subst hx
                  by_cases hy : y = 0
                  · subst hy
                    have HR2 : Hid (rwE c i (j + 1) = 0) := by show _ = _; rw [HRN.out, HCP.out]; rfl
                    go_wp2
                    refine wp_region_held_drew (S := fun w' => w'.cell? ⟨a1, p1 + i, none⟩ = some (.slice (some ⟨b1, o1, none⟩) n rc1) ∧ w'.cell? ⟨b1, o1 + j, none⟩ = some (.int .i64 0) ∧ w'.cell? ⟨a1, p1 + j, none⟩ = some (.slice (some ⟨b2, o2, none⟩) n rc2) ∧ w'.cell? ⟨b2, o2 + i, none⟩ = some (.int .i64 0)) (by kernel_rfl) ⟨hc1, hc2, hc3, hc4⟩ (fun hHeld => ?_)
                    refine wpAnyH_tk (i := 0) (d := 71) (v := (.slice (some ⟨a1, p1, none⟩) n cap)) rfl rfl (by kernel_rfl) (by kernel_rfl) (by kernel_rfl) (fun _ _ _ h => h) (.inl ⟨by rfl, by (intro wq hSw; (try dsimp only at hSw); go_simp; (try (first | rfl | omega)))⟩) hHeld ?_
                    simp only [Act.put, List.setIfInBounds_toArray, List.set_cons_zero, List.set_cons_succ]
                    refine wpAnyH_tk (i := 1) (d := 72) (v := (.int .i64 (i : Int))) rfl rfl (by kernel_rfl) (by kernel_rfl) (by kernel_rfl) (fun _ _ _ h => h) (.inl ⟨by rfl, by (intro wq hSw; (try dsimp only at hSw); go_simp; (try (first | rfl | omega)))⟩) hHeld ?_
                    simp only [Act.put, List.setIfInBounds_toArray, List.set_cons_zero, List.set_cons_succ]
                    refine wpAnyH_tk (i := 2) (d := 73) (v := (.pointer (some ⟨a1, p1 + i, none⟩))) rfl rfl (by kernel_rfl) (by kernel_rfl) (by kernel_rfl) (fun _ _ _ h => h) (.inl ⟨by rfl, by (intro wq hSw; (try dsimp only at hSw); go_simp; (try (first | rfl | omega)))⟩) hHeld ?_
                    simp only [Act.put, List.setIfInBounds_toArray, List.set_cons_zero, List.set_cons_succ]
                    refine wpAnyH_tk (i := 3) (d := 74) (v := (.slice (some ⟨b1, o1, none⟩) n rc1)) rfl rfl (by kernel_rfl) (by kernel_rfl) (by kernel_rfl) (fun _ _ _ h => h) (.inl ⟨by rfl, by (intro wq hSw; (try dsimp only at hSw); go_simp; (try (first | rfl | omega)))⟩) hHeld ?_
                    simp only [Act.put, List.setIfInBounds_toArray, List.set_cons_zero, List.set_cons_succ]
                    refine wpAnyH_tk (i := 4) (d := 75) (v := (.int .i64 (j : Int))) rfl rfl (by kernel_rfl) (by kernel_rfl) (by kernel_rfl) (fun _ _ _ h => h) (.inl ⟨by rfl, by (intro wq hSw; (try dsimp only at hSw); go_simp; (try (first | rfl | omega)))⟩) hHeld ?_
                    simp only [Act.put, List.setIfInBounds_toArray, List.set_cons_zero, List.set_cons_succ]
                    refine wpAnyH_tk (i := 5) (d := 76) (v := (.pointer (some ⟨b1, o1 + j, none⟩))) rfl rfl (by kernel_rfl) (by kernel_rfl) (by kernel_rfl) (fun _ _ _ h => h) (.inl ⟨by rfl, by (intro wq hSw; (try dsimp only at hSw); go_simp; (try (first | rfl | omega)))⟩) hHeld ?_
                    simp only [Act.put, List.setIfInBounds_toArray, List.set_cons_zero, List.set_cons_succ]
                    refine wpAnyH_tk (i := 6) (d := 77) (v := (.int .i64 0)) rfl rfl (by kernel_rfl) (by kernel_rfl) (by kernel_rfl) (fun _ _ _ h => h) (.inl ⟨by rfl, by (intro wq hSw; (try dsimp only at hSw); go_simp; (try (first | rfl | omega)))⟩) hHeld ?_
                    simp only [Act.put, List.setIfInBounds_toArray, List.set_cons_zero, List.set_cons_succ]
                    refine wpAnyH_tk (i := 7) (d := 78) (v := (.bool true)) rfl rfl (by kernel_rfl) (by kernel_rfl) (by kernel_rfl) (fun _ _ _ h => h) (.inl ⟨by rfl, by (intro wq hSw; (try dsimp only at hSw); go_simp; (try (first | rfl | omega)))⟩) hHeld ?_
                    simp only [Act.put, List.setIfInBounds_toArray, List.set_cons_zero, List.set_cons_succ]
                    refine wpAnyH_tk (i := 8) (d := 79) (v := (.slice (some ⟨a1, p1, none⟩) n cap)) rfl rfl (by kernel_rfl) (by kernel_rfl) (by kernel_rfl) (fun _ _ _ h => h) (.inl ⟨by rfl, by (intro wq hSw; (try dsimp only at hSw); go_simp; (try (first | rfl | omega)))⟩) hHeld ?_
                    simp only [Act.put, List.setIfInBounds_toArray, List.set_cons_zero, List.set_cons_succ]
                    refine wpAnyH_tk (i := 9) (d := 80) (v := (.int .i64 (j : Int))) rfl rfl (by kernel_rfl) (by kernel_rfl) (by kernel_rfl) (fun _ _ _ h => h) (.inl ⟨by rfl, by (intro wq hSw; (try dsimp only at hSw); go_simp; (try (first | rfl | omega)))⟩) hHeld ?_
                    simp only [Act.put, List.setIfInBounds_toArray, List.set_cons_zero, List.set_cons_succ]
                    refine wpAnyH_tk (i := 10) (d := 81) (v := (.pointer (some ⟨a1, p1 + j, none⟩))) rfl rfl (by kernel_rfl) (by kernel_rfl) (by kernel_rfl) (fun _ _ _ h => h) (.inl ⟨by rfl, by (intro wq hSw; (try dsimp only at hSw); go_simp; (try (first | rfl | omega)))⟩) hHeld ?_
                    simp only [Act.put, List.setIfInBounds_toArray, List.set_cons_zero, List.set_cons_succ]
                    refine wpAnyH_tk (i := 11) (d := 82) (v := (.slice (some ⟨b2, o2, none⟩) n rc2)) rfl rfl (by kernel_rfl) (by kernel_rfl) (by kernel_rfl) (fun _ _ _ h => h) (.inl ⟨by rfl, by (intro wq hSw; (try dsimp only at hSw); go_simp; (try (first | rfl | omega)))⟩) hHeld ?_
                    simp only [Act.put, List.setIfInBounds_toArray, List.set_cons_zero, List.set_cons_succ]
                    refine wpAnyH_tk (i := 12) (d := 83) (v := (.int .i64 (i : Int))) rfl rfl (by kernel_rfl) (by kernel_rfl) (by kernel_rfl) (fun _ _ _ h => h) (.inl ⟨by rfl, by (intro wq hSw; (try dsimp only at hSw); go_simp; (try (first | rfl | omega)))⟩) hHeld ?_
                    simp only [Act.put, List.setIfInBounds_toArray, List.set_cons_zero, List.set_cons_succ]
                    refine wpAnyH_tk (i := 13) (d := 84) (v := (.pointer (some ⟨b2, o2 + i, none⟩))) rfl rfl (by kernel_rfl) (by kernel_rfl) (by kernel_rfl) (fun _ _ _ h => h) (.inl ⟨by rfl, by (intro wq hSw; (try dsimp only at hSw); go_simp; (try (first | rfl | omega)))⟩) hHeld ?_
                    simp only [Act.put, List.setIfInBounds_toArray, List.set_cons_zero, List.set_cons_succ]
                    refine wpAnyH_tk (i := 14) (d := 85) (v := (.int .i64 0)) rfl rfl (by kernel_rfl) (by kernel_rfl) (by kernel_rfl) (fun _ _ _ h => h) (.inl ⟨by rfl, by (intro wq hSw; (try dsimp only at hSw); go_simp; (try (first | rfl | omega)))⟩) hHeld ?_
                    simp only [Act.put, List.setIfInBounds_toArray, List.set_cons_zero, List.set_cons_succ]
                    refine wpAnyH_tk (i := 15) (d := 86) (v := (.bool true)) rfl rfl (by kernel_rfl) (by kernel_rfl) (by kernel_rfl) (fun _ _ _ h => h) (.inl ⟨by rfl, by (intro wq hSw; (try dsimp only at hSw); go_simp; (try (first | rfl | omega)))⟩) hHeld ?_
                    simp only [Act.put, List.setIfInBounds_toArray, List.set_cons_zero, List.set_cons_succ]
                    refine wpAnyH_tk (i := 16) (d := 87) (v := (.bool false)) rfl rfl (by kernel_rfl) (by kernel_rfl) (by kernel_rfl) (fun _ _ _ h => h) (.inl ⟨by rfl, by (intro wq hSw; (try dsimp only at hSw); go_simp; (try (first | rfl | omega)))⟩) hHeld ?_
                    simp only [Act.put, List.setIfInBounds_toArray, List.set_cons_zero, List.set_cons_succ]
                    refine wpAnyH_done (by kernel_rfl) ?_ _
                    clear hHeld
                    go_wp2
                    go_roundw
                    case rel => exact ⟨j + 1, by omega, by go_num, HR2.out, _, rfl⟩
                    case measure => simp [intOf]; omega
                  · have hyB : (y == 0) = false := by simpa using hy
                    have HEV : Hid (E = 3) := by
                      have e : cpE 0 y = 3 := by rw [HCP.out, hyB]; rfl
                      rw [e] at HOA
                      exact HOA.out (by omega)
                    go_wp2
                    refine wp_region_held_drew (S := fun w' => w'.cell? ⟨a1, p1 + i, none⟩ = some (.slice (some ⟨b1, o1, none⟩) n rc1) ∧ w'.cell? ⟨b1, o1 + j, none⟩ = some (.int .i64 0) ∧ w'.cell? ⟨a1, p1 + j, none⟩ = some (.slice (some ⟨b2, o2, none⟩) n rc2) ∧ w'.cell? ⟨b2, o2 + i, none⟩ = some (.int .i64 y)) (by kernel_rfl) ⟨hc1, hc2, hc3, hc4⟩ (fun hHeld => ?_)
                    refine wpAnyH_tk (i := 0) (d := 71) (v := (.slice (some ⟨a1, p1, none⟩) n cap)) rfl rfl (by kernel_rfl) (by kernel_rfl) (by kernel_rfl) (fun _ _ _ h => h) (.inl ⟨by rfl, by (intro wq hSw; (try dsimp only at hSw); go_simp; (try (first | rfl | omega)))⟩) hHeld ?_
                    simp only [Act.put, List.setIfInBounds_toArray, List.set_cons_zero, List.set_cons_succ]
                    refine wpAnyH_tk (i := 1) (d := 72) (v := (.int .i64 (i : Int))) rfl rfl (by kernel_rfl) (by kernel_rfl) (by kernel_rfl) (fun _ _ _ h => h) (.inl ⟨by rfl, by (intro wq hSw; (try dsimp only at hSw); go_simp; (try (first | rfl | omega)))⟩) hHeld ?_
                    simp only [Act.put, List.setIfInBounds_toArray, List.set_cons_zero, List.set_cons_succ]
                    refine wpAnyH_tk (i := 2) (d := 73) (v := (.pointer (some ⟨a1, p1 + i, none⟩))) rfl rfl (by kernel_rfl) (by kernel_rfl) (by kernel_rfl) (fun _ _ _ h => h) (.inl ⟨by rfl, by (intro wq hSw; (try dsimp only at hSw); go_simp; (try (first | rfl | omega)))⟩) hHeld ?_
                    simp only [Act.put, List.setIfInBounds_toArray, List.set_cons_zero, List.set_cons_succ]
                    refine wpAnyH_tk (i := 3) (d := 74) (v := (.slice (some ⟨b1, o1, none⟩) n rc1)) rfl rfl (by kernel_rfl) (by kernel_rfl) (by kernel_rfl) (fun _ _ _ h => h) (.inl ⟨by rfl, by (intro wq hSw; (try dsimp only at hSw); go_simp; (try (first | rfl | omega)))⟩) hHeld ?_
                    simp only [Act.put, List.setIfInBounds_toArray, List.set_cons_zero, List.set_cons_succ]
                    refine wpAnyH_tk (i := 4) (d := 75) (v := (.int .i64 (j : Int))) rfl rfl (by kernel_rfl) (by kernel_rfl) (by kernel_rfl) (fun _ _ _ h => h) (.inl ⟨by rfl, by (intro wq hSw; (try dsimp only at hSw); go_simp; (try (first | rfl | omega)))⟩) hHeld ?_
                    simp only [Act.put, List.setIfInBounds_toArray, List.set_cons_zero, List.set_cons_succ]
                    refine wpAnyH_tk (i := 5) (d := 76) (v := (.pointer (some ⟨b1, o1 + j, none⟩))) rfl rfl (by kernel_rfl) (by kernel_rfl) (by kernel_rfl) (fun _ _ _ h => h) (.inl ⟨by rfl, by (intro wq hSw; (try dsimp only at hSw); go_simp; (try (first | rfl | omega)))⟩) hHeld ?_
                    simp only [Act.put, List.setIfInBounds_toArray, List.set_cons_zero, List.set_cons_succ]
                    refine wpAnyH_tk (i := 6) (d := 77) (v := (.int .i64 0)) rfl rfl (by kernel_rfl) (by kernel_rfl) (by kernel_rfl) (fun _ _ _ h => h) (.inl ⟨by rfl, by (intro wq hSw; (try dsimp only at hSw); go_simp; (try (first | rfl | omega)))⟩) hHeld ?_
                    simp only [Act.put, List.setIfInBounds_toArray, List.set_cons_zero, List.set_cons_succ]
                    refine wpAnyH_tk (i := 7) (d := 78) (v := (.bool true)) rfl rfl (by kernel_rfl) (by kernel_rfl) (by kernel_rfl) (fun _ _ _ h => h) (.inl ⟨by rfl, by (intro wq hSw; (try dsimp only at hSw); go_simp; (try (first | rfl | omega)))⟩) hHeld ?_
                    simp only [Act.put, List.setIfInBounds_toArray, List.set_cons_zero, List.set_cons_succ]
                    refine wpAnyH_tk (i := 8) (d := 79) (v := (.slice (some ⟨a1, p1, none⟩) n cap)) rfl rfl (by kernel_rfl) (by kernel_rfl) (by kernel_rfl) (fun _ _ _ h => h) (.inl ⟨by rfl, by (intro wq hSw; (try dsimp only at hSw); go_simp; (try (first | rfl | omega)))⟩) hHeld ?_
                    simp only [Act.put, List.setIfInBounds_toArray, List.set_cons_zero, List.set_cons_succ]
                    refine wpAnyH_tk (i := 9) (d := 80) (v := (.int .i64 (j : Int))) rfl rfl (by kernel_rfl) (by kernel_rfl) (by kernel_rfl) (fun _ _ _ h => h) (.inl ⟨by rfl, by (intro wq hSw; (try dsimp only at hSw); go_simp; (try (first | rfl | omega)))⟩) hHeld ?_
                    simp only [Act.put, List.setIfInBounds_toArray, List.set_cons_zero, List.set_cons_succ]
                    refine wpAnyH_tk (i := 10) (d := 81) (v := (.pointer (some ⟨a1, p1 + j, none⟩))) rfl rfl (by kernel_rfl) (by kernel_rfl) (by kernel_rfl) (fun _ _ _ h => h) (.inl ⟨by rfl, by (intro wq hSw; (try dsimp only at hSw); go_simp; (try (first | rfl | omega)))⟩) hHeld ?_
                    simp only [Act.put, List.setIfInBounds_toArray, List.set_cons_zero, List.set_cons_succ]
                    refine wpAnyH_tk (i := 11) (d := 82) (v := (.slice (some ⟨b2, o2, none⟩) n rc2)) rfl rfl (by kernel_rfl) (by kernel_rfl) (by kernel_rfl) (fun _ _ _ h => h) (.inl ⟨by rfl, by (intro wq hSw; (try dsimp only at hSw); go_simp; (try (first | rfl | omega)))⟩) hHeld ?_
                    simp only [Act.put, List.setIfInBounds_toArray, List.set_cons_zero, List.set_cons_succ]
                    refine wpAnyH_tk (i := 12) (d := 83) (v := (.int .i64 (i : Int))) rfl rfl (by kernel_rfl) (by kernel_rfl) (by kernel_rfl) (fun _ _ _ h => h) (.inl ⟨by rfl, by (intro wq hSw; (try dsimp only at hSw); go_simp; (try (first | rfl | omega)))⟩) hHeld ?_
                    simp only [Act.put, List.setIfInBounds_toArray, List.set_cons_zero, List.set_cons_succ]
                    refine wpAnyH_tk (i := 13) (d := 84) (v := (.pointer (some ⟨b2, o2 + i, none⟩))) rfl rfl (by kernel_rfl) (by kernel_rfl) (by kernel_rfl) (fun _ _ _ h => h) (.inl ⟨by rfl, by (intro wq hSw; (try dsimp only at hSw); go_simp; (try (first | rfl | omega)))⟩) hHeld ?_
                    simp only [Act.put, List.setIfInBounds_toArray, List.set_cons_zero, List.set_cons_succ]
                    refine wpAnyH_tk (i := 14) (d := 85) (v := (.int .i64 y)) rfl rfl (by kernel_rfl) (by kernel_rfl) (by kernel_rfl) (fun _ _ _ h => h) (.inl ⟨by rfl, by (intro wq hSw; (try dsimp only at hSw); go_simp; (try (first | rfl | omega)))⟩) hHeld ?_
                    simp only [Act.put, List.setIfInBounds_toArray, List.set_cons_zero, List.set_cons_succ]
                    refine wpAnyH_tk (i := 15) (d := 86) (v := (.bool false)) rfl rfl (by kernel_rfl) (by kernel_rfl) (by kernel_rfl) (fun _ _ _ h => h) (.inl ⟨by rfl, by (intro wq hSw; (try dsimp only at hSw); go_simp; (try (first | rfl | omega)))⟩) hHeld ?_
                    simp only [Act.put, List.setIfInBounds_toArray, List.set_cons_zero, List.set_cons_succ]
                    refine wpAnyH_tk (i := 16) (d := 87) (v := (.bool true)) rfl rfl (by kernel_rfl) (by kernel_rfl) (by kernel_rfl) (fun _ _ _ h => h) (.inl ⟨by rfl, by (intro wq hSw; (try dsimp only at hSw); go_simp; (try (first | rfl | omega)))⟩) hHeld ?_
                    simp only [Act.put, List.setIfInBounds_toArray, List.set_cons_zero, List.set_cons_succ]
                    refine wpAnyH_done (by kernel_rfl) ?_ _
                    clear hHeld
                    go_wp2
                    go_ret
                    exact ⟨by rw [HEV.out]; rfl, drew_below w (q2 + 1)⟩
                · have hxB : (x == 0) = false := by simpa using hx
                  by_cases hy : y = 0
                  · subst hy
                    have HEV : Hid (E = 3) := by
                      have e : cpE x 0 = 3 := by rw [HCP.out, hxB]; rfl
                      rw [e] at HOA
                      exact HOA.out (by omega)
                    go_wp2
                    refine wp_region_held_drew (S := fun w' => w'.cell? ⟨a1, p1 + i, none⟩ = some (.slice (some ⟨b1, o1, none⟩) n rc1) ∧ w'.cell? ⟨b1, o1 + j, none⟩ = some (.int .i64 x) ∧ w'.cell? ⟨a1, p1 + j, none⟩ = some (.slice (some ⟨b2, o2, none⟩) n rc2) ∧ w'.cell? ⟨b2, o2 + i, none⟩ = some (.int .i64 0)) (by kernel_rfl) ⟨hc1, hc2, hc3, hc4⟩ (fun hHeld => ?_)
                    refine wpAnyH_tk (i := 0) (d := 71) (v := (.slice (some ⟨a1, p1, none⟩) n cap)) rfl rfl (by kernel_rfl) (by kernel_rfl) (by kernel_rfl) (fun _ _ _ h => h) (.inl ⟨by rfl, by (intro wq hSw; (try dsimp only at hSw); go_simp; (try (first | rfl | omega)))⟩) hHeld ?_
                    simp only [Act.put, List.setIfInBounds_toArray, List.set_cons_zero, List.set_cons_succ]
                    refine wpAnyH_tk (i := 1) (d := 72) (v := (.int .i64 (i : Int))) rfl rfl (by kernel_rfl) (by kernel_rfl) (by kernel_rfl) (fun _ _ _ h => h) (.inl ⟨by rfl, by (intro wq hSw; (try dsimp only at hSw); go_simp; (try (first | rfl | omega)))⟩) hHeld ?_
                    simp only [Act.put, List.setIfInBounds_toArray, List.set_cons_zero, List.set_cons_succ]
                    refine wpAnyH_tk (i := 2) (d := 73) (v := (.pointer (some ⟨a1, p1 + i, none⟩))) rfl rfl (by kernel_rfl) (by kernel_rfl) (by kernel_rfl) (fun _ _ _ h => h) (.inl ⟨by rfl, by (intro wq hSw; (try dsimp only at hSw); go_simp; (try (first | rfl | omega)))⟩) hHeld ?_
                    simp only [Act.put, List.setIfInBounds_toArray, List.set_cons_zero, List.set_cons_succ]
                    refine wpAnyH_tk (i := 3) (d := 74) (v := (.slice (some ⟨b1, o1, none⟩) n rc1)) rfl rfl (by kernel_rfl) (by kernel_rfl) (by kernel_rfl) (fun _ _ _ h => h) (.inl ⟨by rfl, by (intro wq hSw; (try dsimp only at hSw); go_simp; (try (first | rfl | omega)))⟩) hHeld ?_
                    simp only [Act.put, List.setIfInBounds_toArray, List.set_cons_zero, List.set_cons_succ]
                    refine wpAnyH_tk (i := 4) (d := 75) (v := (.int .i64 (j : Int))) rfl rfl (by kernel_rfl) (by kernel_rfl) (by kernel_rfl) (fun _ _ _ h => h) (.inl ⟨by rfl, by (intro wq hSw; (try dsimp only at hSw); go_simp; (try (first | rfl | omega)))⟩) hHeld ?_
                    simp only [Act.put, List.setIfInBounds_toArray, List.set_cons_zero, List.set_cons_succ]
                    refine wpAnyH_tk (i := 5) (d := 76) (v := (.pointer (some ⟨b1, o1 + j, none⟩))) rfl rfl (by kernel_rfl) (by kernel_rfl) (by kernel_rfl) (fun _ _ _ h => h) (.inl ⟨by rfl, by (intro wq hSw; (try dsimp only at hSw); go_simp; (try (first | rfl | omega)))⟩) hHeld ?_
                    simp only [Act.put, List.setIfInBounds_toArray, List.set_cons_zero, List.set_cons_succ]
                    refine wpAnyH_tk (i := 6) (d := 77) (v := (.int .i64 x)) rfl rfl (by kernel_rfl) (by kernel_rfl) (by kernel_rfl) (fun _ _ _ h => h) (.inl ⟨by rfl, by (intro wq hSw; (try dsimp only at hSw); go_simp; (try (first | rfl | omega)))⟩) hHeld ?_
                    simp only [Act.put, List.setIfInBounds_toArray, List.set_cons_zero, List.set_cons_succ]
                    refine wpAnyH_tk (i := 7) (d := 78) (v := (.bool false)) rfl rfl (by kernel_rfl) (by kernel_rfl) (by kernel_rfl) (fun _ _ _ h => h) (.inl ⟨by rfl, by (intro wq hSw; (try dsimp only at hSw); go_simp; (try (first | rfl | omega)))⟩) hHeld ?_
                    simp only [Act.put, List.setIfInBounds_toArray, List.set_cons_zero, List.set_cons_succ]
                    refine wpAnyH_tk (i := 8) (d := 79) (v := (.slice (some ⟨a1, p1, none⟩) n cap)) rfl rfl (by kernel_rfl) (by kernel_rfl) (by kernel_rfl) (fun _ _ _ h => h) (.inl ⟨by rfl, by (intro wq hSw; (try dsimp only at hSw); go_simp; (try (first | rfl | omega)))⟩) hHeld ?_
                    simp only [Act.put, List.setIfInBounds_toArray, List.set_cons_zero, List.set_cons_succ]
                    refine wpAnyH_tk (i := 9) (d := 80) (v := (.int .i64 (j : Int))) rfl rfl (by kernel_rfl) (by kernel_rfl) (by kernel_rfl) (fun _ _ _ h => h) (.inl ⟨by rfl, by (intro wq hSw; (try dsimp only at hSw); go_simp; (try (first | rfl | omega)))⟩) hHeld ?_
                    simp only [Act.put, List.setIfInBounds_toArray, List.set_cons_zero, List.set_cons_succ]
                    refine wpAnyH_tk (i := 10) (d := 81) (v := (.pointer (some ⟨a1, p1 + j, none⟩))) rfl rfl (by kernel_rfl) (by kernel_rfl) (by kernel_rfl) (fun _ _ _ h => h) (.inl ⟨by rfl, by (intro wq hSw; (try dsimp only at hSw); go_simp; (try (first | rfl | omega)))⟩) hHeld ?_
                    simp only [Act.put, List.setIfInBounds_toArray, List.set_cons_zero, List.set_cons_succ]
                    refine wpAnyH_tk (i := 11) (d := 82) (v := (.slice (some ⟨b2, o2, none⟩) n rc2)) rfl rfl (by kernel_rfl) (by kernel_rfl) (by kernel_rfl) (fun _ _ _ h => h) (.inl ⟨by rfl, by (intro wq hSw; (try dsimp only at hSw); go_simp; (try (first | rfl | omega)))⟩) hHeld ?_
                    simp only [Act.put, List.setIfInBounds_toArray, List.set_cons_zero, List.set_cons_succ]
                    refine wpAnyH_tk (i := 12) (d := 83) (v := (.int .i64 (i : Int))) rfl rfl (by kernel_rfl) (by kernel_rfl) (by kernel_rfl) (fun _ _ _ h => h) (.inl ⟨by rfl, by (intro wq hSw; (try dsimp only at hSw); go_simp; (try (first | rfl | omega)))⟩) hHeld ?_
                    simp only [Act.put, List.setIfInBounds_toArray, List.set_cons_zero, List.set_cons_succ]
                    refine wpAnyH_tk (i := 13) (d := 84) (v := (.pointer (some ⟨b2, o2 + i, none⟩))) rfl rfl (by kernel_rfl) (by kernel_rfl) (by kernel_rfl) (fun _ _ _ h => h) (.inl ⟨by rfl, by (intro wq hSw; (try dsimp only at hSw); go_simp; (try (first | rfl | omega)))⟩) hHeld ?_
                    simp only [Act.put, List.setIfInBounds_toArray, List.set_cons_zero, List.set_cons_succ]
                    refine wpAnyH_tk (i := 14) (d := 85) (v := (.int .i64 0)) rfl rfl (by kernel_rfl) (by kernel_rfl) (by kernel_rfl) (fun _ _ _ h => h) (.inl ⟨by rfl, by (intro wq hSw; (try dsimp only at hSw); go_simp; (try (first | rfl | omega)))⟩) hHeld ?_
                    simp only [Act.put, List.setIfInBounds_toArray, List.set_cons_zero, List.set_cons_succ]
                    refine wpAnyH_tk (i := 15) (d := 86) (v := (.bool true)) rfl rfl (by kernel_rfl) (by kernel_rfl) (by kernel_rfl) (fun _ _ _ h => h) (.inl ⟨by rfl, by (intro wq hSw; (try dsimp only at hSw); go_simp; (try (first | rfl | omega)))⟩) hHeld ?_
                    simp only [Act.put, List.setIfInBounds_toArray, List.set_cons_zero, List.set_cons_succ]
                    refine wpAnyH_tk (i := 16) (d := 87) (v := (.bool true)) rfl rfl (by kernel_rfl) (by kernel_rfl) (by kernel_rfl) (fun _ _ _ h => h) (.inl ⟨by rfl, by (intro wq hSw; (try dsimp only at hSw); go_simp; (try (first | rfl | omega)))⟩) hHeld ?_
                    simp only [Act.put, List.setIfInBounds_toArray, List.set_cons_zero, List.set_cons_succ]
                    refine wpAnyH_done (by kernel_rfl) ?_ _
                    clear hHeld
                    go_wp2
                    go_ret
                    exact ⟨by rw [HEV.out]; rfl, drew_below w (q2 + 1)⟩
                  · have hyB : (y == 0) = false := by simpa using hy
                    have HR2 : Hid (rwE c i (j + 1) = 0) := by show _ = _; rw [HRN.out, HCP.out, hxB, hyB]; rfl
                    go_wp2
                    refine wp_region_held_drew (S := fun w' => w'.cell? ⟨a1, p1 + i, none⟩ = some (.slice (some ⟨b1, o1, none⟩) n rc1) ∧ w'.cell? ⟨b1, o1 + j, none⟩ = some (.int .i64 x) ∧ w'.cell? ⟨a1, p1 + j, none⟩ = some (.slice (some ⟨b2, o2, none⟩) n rc2) ∧ w'.cell? ⟨b2, o2 + i, none⟩ = some (.int .i64 y)) (by kernel_rfl) ⟨hc1, hc2, hc3, hc4⟩ (fun hHeld => ?_)
                    refine wpAnyH_tk (i := 0) (d := 71) (v := (.slice (some ⟨a1, p1, none⟩) n cap)) rfl rfl (by kernel_rfl) (by kernel_rfl) (by kernel_rfl) (fun _ _ _ h => h) (.inl ⟨by rfl, by (intro wq hSw; (try dsimp only at hSw); go_simp; (try (first | rfl | omega)))⟩) hHeld ?_
                    simp only [Act.put, List.setIfInBounds_toArray, List.set_cons_zero, List.set_cons_succ]
                    refine wpAnyH_tk (i := 1) (d := 72) (v := (.int .i64 (i : Int))) rfl rfl (by kernel_rfl) (by kernel_rfl) (by kernel_rfl) (fun _ _ _ h => h) (.inl ⟨by rfl, by (intro wq hSw; (try dsimp only at hSw); go_simp; (try (first | rfl | omega)))⟩) hHeld ?_
                    simp only [Act.put, List.setIfInBounds_toArray, List.set_cons_zero, List.set_cons_succ]
                    refine wpAnyH_tk (i := 2) (d := 73) (v := (.pointer (some ⟨a1, p1 + i, none⟩))) rfl rfl (by kernel_rfl) (by kernel_rfl) (by kernel_rfl) (fun _ _ _ h => h) (.inl ⟨by rfl, by (intro wq hSw; (try dsimp only at hSw); go_simp; (try (first | rfl | omega)))⟩) hHeld ?_
                    simp only [Act.put, List.setIfInBounds_toArray, List.set_cons_zero, List.set_cons_succ]
                    refine wpAnyH_tk (i := 3) (d := 74) (v := (.slice (some ⟨b1, o1, none⟩) n rc1)) rfl rfl (by kernel_rfl) (by kernel_rfl) (by kernel_rfl) (fun _ _ _ h => h) (.inl ⟨by rfl, by (intro wq hSw; (try dsimp only at hSw); go_simp; (try (first | rfl | omega)))⟩) hHeld ?_
                    simp only [Act.put, List.setIfInBounds_toArray, List.set_cons_zero, List.set_cons_succ]
                    refine wpAnyH_tk (i := 4) (d := 75) (v := (.int .i64 (j : Int))) rfl rfl (by kernel_rfl) (by kernel_rfl) (by kernel_rfl) (fun _ _ _ h => h) (.inl ⟨by rfl, by (intro wq hSw; (try dsimp only at hSw); go_simp; (try (first | rfl | omega)))⟩) hHeld ?_
                    simp only [Act.put, List.setIfInBounds_toArray, List.set_cons_zero, List.set_cons_succ]
                    refine wpAnyH_tk (i := 5) (d := 76) (v := (.pointer (some ⟨b1, o1 + j, none⟩))) rfl rfl (by kernel_rfl) (by kernel_rfl) (by kernel_rfl) (fun _ _ _ h => h) (.inl ⟨by rfl, by (intro wq hSw; (try dsimp only at hSw); go_simp; (try (first | rfl | omega)))⟩) hHeld ?_
                    simp only [Act.put, List.setIfInBounds_toArray, List.set_cons_zero, List.set_cons_succ]
                    refine wpAnyH_tk (i := 6) (d := 77) (v := (.int .i64 x)) rfl rfl (by kernel_rfl) (by kernel_rfl) (by kernel_rfl) (fun _ _ _ h => h) (.inl ⟨by rfl, by (intro wq hSw; (try dsimp only at hSw); go_simp; (try (first | rfl | omega)))⟩) hHeld ?_
                    simp only [Act.put, List.setIfInBounds_toArray, List.set_cons_zero, List.set_cons_succ]
                    refine wpAnyH_tk (i := 7) (d := 78) (v := (.bool false)) rfl rfl (by kernel_rfl) (by kernel_rfl) (by kernel_rfl) (fun _ _ _ h => h) (.inl ⟨by rfl, by (intro wq hSw; (try dsimp only at hSw); go_simp; (try (first | rfl | omega)))⟩) hHeld ?_
                    simp only [Act.put, List.setIfInBounds_toArray, List.set_cons_zero, List.set_cons_succ]
                    refine wpAnyH_tk (i := 8) (d := 79) (v := (.slice (some ⟨a1, p1, none⟩) n cap)) rfl rfl (by kernel_rfl) (by kernel_rfl) (by kernel_rfl) (fun _ _ _ h => h) (.inl ⟨by rfl, by (intro wq hSw; (try dsimp only at hSw); go_simp; (try (first | rfl | omega)))⟩) hHeld ?_
                    simp only [Act.put, List.setIfInBounds_toArray, List.set_cons_zero, List.set_cons_succ]
                    refine wpAnyH_tk (i := 9) (d := 80) (v := (.int .i64 (j : Int))) rfl rfl (by kernel_rfl) (by kernel_rfl) (by kernel_rfl) (fun _ _ _ h => h) (.inl ⟨by rfl, by (intro wq hSw; (try dsimp only at hSw); go_simp; (try (first | rfl | omega)))⟩) hHeld ?_
                    simp only [Act.put, List.setIfInBounds_toArray, List.set_cons_zero, List.set_cons_succ]
                    refine wpAnyH_tk (i := 10) (d := 81) (v := (.pointer (some ⟨a1, p1 + j, none⟩))) rfl rfl (by kernel_rfl) (by kernel_rfl) (by kernel_rfl) (fun _ _ _ h => h) (.inl ⟨by rfl, by (intro wq hSw; (try dsimp only at hSw); go_simp; (try (first | rfl | omega)))⟩) hHeld ?_
                    simp only [Act.put, List.setIfInBounds_toArray, List.set_cons_zero, List.set_cons_succ]
                    refine wpAnyH_tk (i := 11) (d := 82) (v := (.slice (some ⟨b2, o2, none⟩) n rc2)) rfl rfl (by kernel_rfl) (by kernel_rfl) (by kernel_rfl) (fun _ _ _ h => h) (.inl ⟨by rfl, by (intro wq hSw; (try dsimp only at hSw); go_simp; (try (first | rfl | omega)))⟩) hHeld ?_
                    simp only [Act.put, List.setIfInBounds_toArray, List.set_cons_zero, List.set_cons_succ]
                    refine wpAnyH_tk (i := 12) (d := 83) (v := (.int .i64 (i : Int))) rfl rfl (by kernel_rfl) (by kernel_rfl) (by kernel_rfl) (fun _ _ _ h => h) (.inl ⟨by rfl, by (intro wq hSw; (try dsimp only at hSw); go_simp; (try (first | rfl | omega)))⟩) hHeld ?_
                    simp only [Act.put, List.setIfInBounds_toArray, List.set_cons_zero, List.set_cons_succ]
                    refine wpAnyH_tk (i := 13) (d := 84) (v := (.pointer (some ⟨b2, o2 + i, none⟩))) rfl rfl (by kernel_rfl) (by kernel_rfl) (by kernel_rfl) (fun _ _ _ h => h) (.inl ⟨by rfl, by (intro wq hSw; (try dsimp only at hSw); go_simp; (try (first | rfl | omega)))⟩) hHeld ?_
                    simp only [Act.put, List.setIfInBounds_toArray, List.set_cons_zero, List.set_cons_succ]
                    refine wpAnyH_tk (i := 14) (d := 85) (v := (.int .i64 y)) rfl rfl (by kernel_rfl) (by kernel_rfl) (by kernel_rfl) (fun _ _ _ h => h) (.inl ⟨by rfl, by (intro wq hSw; (try dsimp only at hSw); go_simp; (try (first | rfl | omega)))⟩) hHeld ?_
                    simp only [Act.put, List.setIfInBounds_toArray, List.set_cons_zero, List.set_cons_succ]
                    refine wpAnyH_tk (i := 15) (d := 86) (v := (.bool false)) rfl rfl (by kernel_rfl) (by kernel_rfl) (by kernel_rfl) (fun _ _ _ h => h) (.inl ⟨by rfl, by (intro wq hSw; (try dsimp only at hSw); go_simp; (try (first | rfl | omega)))⟩) hHeld ?_
                    simp only [Act.put, List.setIfInBounds_toArray, List.set_cons_zero, List.set_cons_succ]
                    refine wpAnyH_tk (i := 16) (d := 87) (v := (.bool false)) rfl rfl (by kernel_rfl) (by kernel_rfl) (by kernel_rfl) (fun _ _ _ h => h) (.inl ⟨by rfl, by (intro wq hSw; (try dsimp only at hSw); go_simp; (try (first | rfl | omega)))⟩) hHeld ?_
                    simp only [Act.put, List.setIfInBounds_toArray, List.set_cons_zero, List.set_cons_succ]
                    refine wpAnyH_done (by kernel_rfl) ?_ _
                    clear hHeld
                    go_wp2
                    go_roundw
                    case rel => exact ⟨j + 1, by omega, by go_num, HR2.out, _, rfl⟩
                    case measure => simp [intOf]; omega
              · have HR2 : Hid (rwE c i (j + 1) = 0) := by
                  have e : i = j := by rw [beq_iff_eq] at hij; exact Int.ofNat.inj hij
                  show _ = _
                  rw [HRN.out, if_pos e]
                go_wp2
                go_roundw
                case rel => exact ⟨j + 1, by omega, by go_num, HR2.out, _, rfl⟩
                case measure => simp [intOf]; omega
            · have hje : j = n := by omega
              have HO2 : Hid (ofE c n (i + 1) = 0) := by show _ = _; rw [of_next HOF.out, ← hje]; exact HRZ.out
              go_wp2
              go_roundw
              case rel => exact ⟨i + 1, by omega, by go_num, HO2.out, _, rfl⟩
              case measure => simp [intOf]; omega
        · have hin : i = n := by omega
          have hcn := HCN.out
          have hnI : 1 ≤ c.length ∧ c.length ≤ 4 := by omega
          have hs : ShF c c.length := by rw [← hcn]; exact HSH.out
          have ho : ofE c c.length c.length = 0 := by rw [← hcn, ← hin]; rw [← hin] at HOF; exact HOF.out
          obtain ⟨ck7, hmn⟩ := ck_open hnI.1 hnI.2 hs ho HNE.out
          have HR1 := HRO.out (by rw [hcn]; exact shp_of hnI.1 hnI.2 hs ho) hmn q
          have HE7 : Hid (E = 7) := by show _ = _; rw [HE.out]; exact ck7
          clear hs ho ck7 hcn hnI hmn
          go_wp2_with fail
          refine HR1.mono ?_
          rintro e w2 ⟨⟨uo, um, uc, rfl, hum⟩, hb⟩
          have HB : Hid (Below w.heap.size w w2) := hb
          have e24 : decide ((24 : Int) < (um : Int)) = true := decide_eq_true (by omega)
          clear hb HR1
          go_wp2
          go_ret
          exact ⟨by rw [HE7.out]; rfl, HB.out⟩

end Go.Proofs.Ytkgljfnbaoncbaa
