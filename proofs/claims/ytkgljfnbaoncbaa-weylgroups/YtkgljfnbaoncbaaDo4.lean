/- The document's RootsMay, of a good square; WordMay. -/
import Derived.Test.YtkgljfnbaoncbaaDo3
import Derived.Test.YtkgljfnbaoncbaaMgAG
namespace Go.Proofs.Ytkgljfnbaoncbaa
open Go.RowKit
attribute [local go_sem ↓] Go.wp_at_zero Go.wp_at_succ

/-- A cell of a square. -/
theorem sq_cell {B n : Nat} {c : List (List Int)} {w : World} {ao : Option Addr} {cap i j : Nat} (hc : Sqc n c) (hm : Mat B 26 3 w (.slice ao n cap) c) (hi : i < n) (hj : j < n) :
    ∃ a p b o rc, ao = some ⟨a, p, none⟩ ∧ w.cell? ⟨a, p + i, none⟩ = some (.slice (some ⟨b, o, none⟩) n rc) ∧ w.cell? ⟨b, o + j, none⟩ = some (.int .i64 (cE c i j)) := by
  obtain ⟨b1, o1, cp1, r1, hs, _, hcc, hr1⟩ := mat_cell hm (k := i) (by rw [hc.len]; exact hi)
  rw [hc.len] at hs
  simp only [Value.slice.injEq, true_and] at hs
  obtain ⟨rfl, rfl⟩ := hs
  have hln : (c.getD i []).length = n := hc.row _ (by simp [hc.len, hi])
  obtain ⟨b2, o2, cp2, hs2, _, hcc2⟩ := sl_cell hr1 (k := j) (by rw [hln]; exact hj)
  rw [hln] at hs2
  exact ⟨b1, o1, b2, o2, cp2, rfl, by rw [hcc, hs2], hcc2⟩

set_option maxRecDepth 100000 in
set_option maxHeartbeats 3200000 in
theorem rootsMay_any (n : Nat) (c : List (List Int)) (cv : Value) (w : World) (hg : Gdc n c) (hp : ∀ b ∈ abL c, (∀ k, 0 ≤ b.getD k 0) ∧ 1 ≤ b.sum) (hnod : (abL c).Nodup) (hm : Mat w.heap.size 26 3 w cv c) :
    Calls Try.prog 6 #[cv] w fun e w' => e = .returned (.int .i64 0) ∧ Below w.heap.size w w' := by
  obtain ⟨ao, cap, hvv, hlc, hcm⟩ := mat_open hm
  subst hvv
  have hcl := hg.sq.len
  have hn1 := hg.n1
  have hn4 := hg.sq.n4
  have HSQ : Hid (Sqc n c) := hg.sq
  have HDI : Hid (∀ i, i < n → cE c i i = 2) := hg.dia
  have HOF : Hid (∀ i j, i < n → j < n → i ≠ j → (-3 ≤ cE c i j ∧ cE c i j ≤ 0) ∧ (cE c i j = 0 ↔ cE c j i = 0)) := hg.off
  have HRO : Hid (∀ q, Calls Try.prog 14 #[.slice ao c.length cap] (w.drewN q) fun e w' => ∃ u, e = .returned u ∧ ∃ L : List (List Int), Fr w.heap.size 26 3 w' u L ∧ L.Perm (abL c) ∧ Below w.heap.size w w') := fun q => by
    refine (rootsOf_any n c _ (w.drewN q) hg hp hnod (hm.drewN q)).mono ?_
    rintro e w' ⟨u, he, L, h1, h2, h3⟩
    exact ⟨u, he, L, h1, h2, (Below.refl w.heap.size w).trans ⟨h3.os, h3.tape, h3.output, h3.size, h3.block⟩⟩
  have HMN : Hid ((abL c).length ≤ 24) := hg.many
  rw [hcl] at hm HRO ⊢
  have HM : Hid (Mat w.heap.size 26 3 w (.slice ao n cap) c) := hm
  clear hg hp hnod hm
  have e1 : decide ((n : Int) < 1) = false := decide_eq_false (by omega)
  have e4 : decide ((4 : Int) < (n : Int)) = false := decide_eq_false (by omega)
  go_enter Try.func6, Try.ntmps6
  go_wp2
  go_loopw [3] (fun iv wr => ∃ i : Nat, i ≤ n ∧ iv = .int .i64 i ∧ ∃ q, wr = w.drewN q) (fun iv _ => n - (intOf iv).toNat)
  case atStart => exact ⟨0, Nat.zero_le _, rfl, 0, rfl⟩
  case round =>
    obtain ⟨i, hi, rfl, q, rfl⟩ := hrel
    by_cases hlt : i < n
    · obtain ⟨a1, p1, b1, o1, rc1, rfl, hc1, hc2⟩ := sq_cell HSQ.out (HM.out.drewN q) hlt hlt
      rw [HDI.out i hlt] at hc2
      go_wp2
      go_roundw
      case rel => exact ⟨i + 1, by omega, by go_num, _, rfl⟩
      case measure => simp [intOf]; omega
    · go_wp2
      go_loopw [4, 5] (fun iv _ wr => ∃ i : Nat, i ≤ n ∧ iv = .int .i64 i ∧ ∃ q, wr = w.drewN q) (fun iv _ _ => n - (intOf iv).toNat)
      case atStart => exact ⟨0, Nat.zero_le _, rfl, q, rfl⟩
      case round =>
        clear hlt hi
        obtain ⟨i, hi, rfl, q, rfl⟩ := hrel
        by_cases hlt : i < n
        · go_wp2
          go_loopw [5] (fun jv wr => ∃ j : Nat, j ≤ n ∧ jv = .int .i64 j ∧ ∃ q, wr = w.drewN q) (fun jv _ => n - (intOf jv).toNat)
          case atStart => exact ⟨0, Nat.zero_le _, rfl, q, rfl⟩
          case round =>
            obtain ⟨j, hj, rfl, q2, rfl⟩ := hrel
            by_cases hlj : j < n
            · cases hij : ((i : Int) == (j : Int))
              · have hne : i ≠ j := fun e => by rw [e] at hij; simp at hij
                obtain ⟨a1, p1, b1, o1, rc1, hao, hc1, hc2⟩ := sq_cell HSQ.out (HM.out.drewN q2) hlt hlj
                obtain ⟨a2, p2, b2, o2, rc2, hao2, hc3, hc4⟩ := sq_cell HSQ.out (HM.out.drewN q2) hlj hlt
                rw [hao] at hao2
                simp only [Option.some.injEq, Addr.mk.injEq, and_true] at hao2
                obtain ⟨rfl, rfl⟩ := hao2
                subst hao
                obtain ⟨⟨hx1, hx2⟩, hx3⟩ := HOF.out i j hlt hlj hne
                have HX3 : Hid (cE c i j = 0 ↔ cE c j i = 0) := hx3
                generalize cE c i j = x at *
                generalize cE c j i = y at *
                have q1 : decide (x < -3) = false := decide_eq_false (by omega)
                have q2' : decide (0 < x) = false := decide_eq_false (by omega)
                have iI : (i : Int) < (n : Int) := by omega
                have iI0 : (0 : Int) ≤ (i : Int) := by omega
                have jI : (j : Int) < (n : Int) := by omega
                have jI0 : (0 : Int) ≤ (j : Int) := by omega
                clear hx3 hne
                cases hx : (x == 0)
                · have hy : (y == 0) = false := by
                    have hx' : x ≠ 0 := by simpa using hx
                    have hy' : y ≠ 0 := fun e => hx' (HX3.out.2 e)
                    simpa using hy'
                  go_wp2
                  refine wp_region_held_drew (S := fun w' => w'.cell? ⟨a1, p1 + i, none⟩ = some (.slice (some ⟨b1, o1, none⟩) n rc1) ∧ w'.cell? ⟨b1, o1 + j, none⟩ = some (.int .i64 x) ∧ w'.cell? ⟨a1, p1 + j, none⟩ = some (.slice (some ⟨b2, o2, none⟩) n rc2) ∧ w'.cell? ⟨b2, o2 + i, none⟩ = some (.int .i64 y)) (by kernel_rfl) ⟨hc1, hc2, hc3, hc4⟩ (fun hHeld => ?_)
                  refine wpAnyH_tk (i := 0) (d := 71) (v := (.slice (some ⟨a1, p1, none⟩) n cap)) rfl rfl (by kernel_rfl) (by kernel_rfl) (by kernel_rfl) (fun _ _ _ h => h) (.inl ⟨by rfl, by (intro wq hSw; (try dsimp only at hSw); go_simp; (try (first | rfl | omega)))⟩) hHeld ?_
                  simp only [Act.put, List.setIfInBounds_toArray, List.set_cons_zero, List.set_cons_succ]
                  refine wpAnyH_tk (i := 1) (d := 72) (v := (.int .i64 (i : Int))) rfl rfl (by kernel_rfl) (by kernel_rfl) (by kernel_rfl) (fun _ _ _ h => h) (.inl ⟨by rfl, by (intro wq hSw; (try dsimp only at hSw); go_simp; (try (first | rfl | omega)))⟩) hHeld ?_
                  simp only [Act.put, List.setIfInBounds_toArray, List.set_cons_zero, List.set_cons_succ]
                  refine wpAnyH_tk (i := 2) (d := 73) (v := (.pointer (some ⟨a1, p1 + i, none⟩))) rfl rfl (by kernel_rfl) (by kernel_rfl) (by kernel_rfl) (fun _ _ _ h => h) (.inl ⟨by rfl, by (intro wq hSw; (try dsimp only at hSw); go_simp; (try (first | rfl | omega)))⟩) hHeld ?_
                  simp only [Act.put, List.setIfInBounds_toArray, List.set_cons_zero, List.set_cons_succ]
                  refine wpAnyH_tk (i := 3) (d := 74) (v := (.slice (some ⟨b1, o1, none⟩) n rc1)) rfl rfl (by kernel_rfl) (by kernel_rfl) (by kernel_rfl) (fun _ _ _ h => h) (.inl ⟨by rfl, by (intro wq hSw; (try dsimp only at hSw); go_simp; (try (first | rfl | omega)))⟩) hHeld ?_
                  simp only [Act.put, List.setIfInBounds_toArray, List.set_cons_zero, List.set_cons_succ]
                  refine wpAnyH_tk (i := 4) (d := 75) (v := (.int .i64 (j : Int))) rfl rfl (by kernel_rfl) (by kernel_rfl) (by kernel_rfl) (fun _ _ _ h => h) (.inl ⟨by rfl, by (intro wq hSw; (try dsimp only at hSw); go_simp; (try (first | rfl | omega)))⟩) hHeld ?_
                  simp only [Act.put, List.setIfInBounds_toArray, List.set_cons_zero, List.set_cons_succ]
                  refine wpAnyH_tk (i := 5) (d := 76) (v := (.pointer (some ⟨b1, o1 + j, none⟩))) rfl rfl (by kernel_rfl) (by kernel_rfl) (by kernel_rfl) (fun _ _ _ h => h) (.inl ⟨by rfl, by (intro wq hSw; (try dsimp only at hSw); go_simp; (try (first | rfl | omega)))⟩) hHeld ?_
                  simp only [Act.put, List.setIfInBounds_toArray, List.set_cons_zero, List.set_cons_succ]
                  refine wpAnyH_tk (i := 6) (d := 77) (v := (.int .i64 x)) rfl rfl (by kernel_rfl) (by kernel_rfl) (by kernel_rfl) (fun _ _ _ h => h) (.inl ⟨by rfl, by (intro wq hSw; (try dsimp only at hSw); go_simp; (try (first | rfl | omega)))⟩) hHeld ?_
                  simp only [Act.put, List.setIfInBounds_toArray, List.set_cons_zero, List.set_cons_succ]
                  refine wpAnyH_tk (i := 7) (d := 78) (v := (.bool false)) rfl rfl (by kernel_rfl) (by kernel_rfl) (by kernel_rfl) (fun _ _ _ h => h) (.inl ⟨by rfl, by (intro wq hSw; (try dsimp only at hSw); go_simp; (try (first | rfl | omega)))⟩) hHeld ?_
                  simp only [Act.put, List.setIfInBounds_toArray, List.set_cons_zero, List.set_cons_succ]
                  refine wpAnyH_tk (i := 8) (d := 79) (v := (.slice (some ⟨a1, p1, none⟩) n cap)) rfl rfl (by kernel_rfl) (by kernel_rfl) (by kernel_rfl) (fun _ _ _ h => h) (.inl ⟨by rfl, by (intro wq hSw; (try dsimp only at hSw); go_simp; (try (first | rfl | omega)))⟩) hHeld ?_
                  simp only [Act.put, List.setIfInBounds_toArray, List.set_cons_zero, List.set_cons_succ]
                  refine wpAnyH_tk (i := 9) (d := 80) (v := (.int .i64 (j : Int))) rfl rfl (by kernel_rfl) (by kernel_rfl) (by kernel_rfl) (fun _ _ _ h => h) (.inl ⟨by rfl, by (intro wq hSw; (try dsimp only at hSw); go_simp; (try (first | rfl | omega)))⟩) hHeld ?_
                  simp only [Act.put, List.setIfInBounds_toArray, List.set_cons_zero, List.set_cons_succ]
                  refine wpAnyH_tk (i := 10) (d := 81) (v := (.pointer (some ⟨a1, p1 + j, none⟩))) rfl rfl (by kernel_rfl) (by kernel_rfl) (by kernel_rfl) (fun _ _ _ h => h) (.inl ⟨by rfl, by (intro wq hSw; (try dsimp only at hSw); go_simp; (try (first | rfl | omega)))⟩) hHeld ?_
                  simp only [Act.put, List.setIfInBounds_toArray, List.set_cons_zero, List.set_cons_succ]
                  refine wpAnyH_tk (i := 11) (d := 82) (v := (.slice (some ⟨b2, o2, none⟩) n rc2)) rfl rfl (by kernel_rfl) (by kernel_rfl) (by kernel_rfl) (fun _ _ _ h => h) (.inl ⟨by rfl, by (intro wq hSw; (try dsimp only at hSw); go_simp; (try (first | rfl | omega)))⟩) hHeld ?_
                  simp only [Act.put, List.setIfInBounds_toArray, List.set_cons_zero, List.set_cons_succ]
                  refine wpAnyH_tk (i := 12) (d := 83) (v := (.int .i64 (i : Int))) rfl rfl (by kernel_rfl) (by kernel_rfl) (by kernel_rfl) (fun _ _ _ h => h) (.inl ⟨by rfl, by (intro wq hSw; (try dsimp only at hSw); go_simp; (try (first | rfl | omega)))⟩) hHeld ?_
                  simp only [Act.put, List.setIfInBounds_toArray, List.set_cons_zero, List.set_cons_succ]
                  refine wpAnyH_tk (i := 13) (d := 84) (v := (.pointer (some ⟨b2, o2 + i, none⟩))) rfl rfl (by kernel_rfl) (by kernel_rfl) (by kernel_rfl) (fun _ _ _ h => h) (.inl ⟨by rfl, by (intro wq hSw; (try dsimp only at hSw); go_simp; (try (first | rfl | omega)))⟩) hHeld ?_
                  simp only [Act.put, List.setIfInBounds_toArray, List.set_cons_zero, List.set_cons_succ]
                  refine wpAnyH_tk (i := 14) (d := 85) (v := (.int .i64 y)) rfl rfl (by kernel_rfl) (by kernel_rfl) (by kernel_rfl) (fun _ _ _ h => h) (.inl ⟨by rfl, by (intro wq hSw; (try dsimp only at hSw); go_simp; (try (first | rfl | omega)))⟩) hHeld ?_
                  simp only [Act.put, List.setIfInBounds_toArray, List.set_cons_zero, List.set_cons_succ]
                  refine wpAnyH_tk (i := 15) (d := 86) (v := (.bool false)) rfl rfl (by kernel_rfl) (by kernel_rfl) (by kernel_rfl) (fun _ _ _ h => h) (.inl ⟨by rfl, by (intro wq hSw; (try dsimp only at hSw); go_simp; (try (first | rfl | omega)))⟩) hHeld ?_
                  simp only [Act.put, List.setIfInBounds_toArray, List.set_cons_zero, List.set_cons_succ]
                  refine wpAnyH_tk (i := 16) (d := 87) (v := (.bool false)) rfl rfl (by kernel_rfl) (by kernel_rfl) (by kernel_rfl) (fun _ _ _ h => h) (.inl ⟨by rfl, by (intro wq hSw; (try dsimp only at hSw); go_simp; (try (first | rfl | omega)))⟩) hHeld ?_
                  simp only [Act.put, List.setIfInBounds_toArray, List.set_cons_zero, List.set_cons_succ]
                  refine wpAnyH_done (by kernel_rfl) ?_ _
                  clear hHeld
                  go_wp2
                  go_roundw
                  case rel => exact ⟨j + 1, by omega, by go_num, _, rfl⟩
                  case measure => simp [intOf]; omega
                · have hx' : x = 0 := by simpa using hx
                  have hy' : y = 0 := HX3.out.1 hx'
                  subst hx' hy'
                  clear hx HX3
                  go_wp2
                  refine wp_region_held_drew (S := fun w' => w'.cell? ⟨a1, p1 + i, none⟩ = some (.slice (some ⟨b1, o1, none⟩) n rc1) ∧ w'.cell? ⟨b1, o1 + j, none⟩ = some (.int .i64 0) ∧ w'.cell? ⟨a1, p1 + j, none⟩ = some (.slice (some ⟨b2, o2, none⟩) n rc2) ∧ w'.cell? ⟨b2, o2 + i, none⟩ = some (.int .i64 0)) (by kernel_rfl) ⟨hc1, hc2, hc3, hc4⟩ (fun hHeld => ?_)
                  refine wpAnyH_tk (i := 0) (d := 71) (v := (.slice (some ⟨a1, p1, none⟩) n cap)) rfl rfl (by kernel_rfl) (by kernel_rfl) (by kernel_rfl) (fun _ _ _ h => h) (.inl ⟨by rfl, by (intro wq hSw; (try dsimp only at hSw); go_simp; (try (first | rfl | omega)))⟩) hHeld ?_
                  simp only [Act.put, List.setIfInBounds_toArray, List.set_cons_zero, List.set_cons_succ]
                  refine wpAnyH_tk (i := 1) (d := 72) (v := (.int .i64 (i : Int))) rfl rfl (by kernel_rfl) (by kernel_rfl) (by kernel_rfl) (fun _ _ _ h => h) (.inl ⟨by rfl, by (intro wq hSw; (try dsimp only at hSw); go_simp; (try (first | rfl | omega)))⟩) hHeld ?_
                  simp only [Act.put, List.setIfInBounds_toArray, List.set_cons_zero, List.set_cons_succ]
                  refine wpAnyH_tk (i := 2) (d := 73) (v := (.pointer (some ⟨a1, p1 + i, none⟩))) rfl rfl (by kernel_rfl) (by kernel_rfl) (by kernel_rfl) (fun _ _ _ h => h) (.inl ⟨by rfl, by (intro wq hSw; (try dsimp only at hSw); go_simp; (try (first | rfl | omega)))⟩) hHeld ?_
                  simp only [Act.put, List.setIfInBounds_toArray, List.set_cons_zero, List.set_cons_succ]
                  refine wpAnyH_tk (i := 3) (d := 74) (v := (.slice (some ⟨b1, o1, none⟩) n rc1)) rfl rfl (by kernel_rfl) (by kernel_rfl) (by kernel_rfl) (fun _ _ _ h => h) (.inl ⟨by rfl, by (intro wq hSw; (try dsimp only at hSw); go_simp; (try (first | rfl | omega)))⟩) hHeld ?_
                  simp only [Act.put, List.setIfInBounds_toArray, List.set_cons_zero, List.set_cons_succ]
                  refine wpAnyH_tk (i := 4) (d := 75) (v := (.int .i64 (j : Int))) rfl rfl (by kernel_rfl) (by kernel_rfl) (by kernel_rfl) (fun _ _ _ h => h) (.inl ⟨by rfl, by (intro wq hSw; (try dsimp only at hSw); go_simp; (try (first | rfl | omega)))⟩) hHeld ?_
                  simp only [Act.put, List.setIfInBounds_toArray, List.set_cons_zero, List.set_cons_succ]
                  refine wpAnyH_tk (i := 5) (d := 76) (v := (.pointer (some ⟨b1, o1 + j, none⟩))) rfl rfl (by kernel_rfl) (by kernel_rfl) (by kernel_rfl) (fun _ _ _ h => h) (.inl ⟨by rfl, by (intro wq hSw; (try dsimp only at hSw); go_simp; (try (first | rfl | omega)))⟩) hHeld ?_
                  simp only [Act.put, List.setIfInBounds_toArray, List.set_cons_zero, List.set_cons_succ]
                  refine wpAnyH_tk (i := 6) (d := 77) (v := (.int .i64 0)) rfl rfl (by kernel_rfl) (by kernel_rfl) (by kernel_rfl) (fun _ _ _ h => h) (.inl ⟨by rfl, by (intro wq hSw; (try dsimp only at hSw); go_simp; (try (first | rfl | omega)))⟩) hHeld ?_
                  simp only [Act.put, List.setIfInBounds_toArray, List.set_cons_zero, List.set_cons_succ]
                  refine wpAnyH_tk (i := 7) (d := 78) (v := (.bool true)) rfl rfl (by kernel_rfl) (by kernel_rfl) (by kernel_rfl) (fun _ _ _ h => h) (.inl ⟨by rfl, by (intro wq hSw; (try dsimp only at hSw); go_simp; (try (first | rfl | omega)))⟩) hHeld ?_
                  simp only [Act.put, List.setIfInBounds_toArray, List.set_cons_zero, List.set_cons_succ]
                  refine wpAnyH_tk (i := 8) (d := 79) (v := (.slice (some ⟨a1, p1, none⟩) n cap)) rfl rfl (by kernel_rfl) (by kernel_rfl) (by kernel_rfl) (fun _ _ _ h => h) (.inl ⟨by rfl, by (intro wq hSw; (try dsimp only at hSw); go_simp; (try (first | rfl | omega)))⟩) hHeld ?_
                  simp only [Act.put, List.setIfInBounds_toArray, List.set_cons_zero, List.set_cons_succ]
                  refine wpAnyH_tk (i := 9) (d := 80) (v := (.int .i64 (j : Int))) rfl rfl (by kernel_rfl) (by kernel_rfl) (by kernel_rfl) (fun _ _ _ h => h) (.inl ⟨by rfl, by (intro wq hSw; (try dsimp only at hSw); go_simp; (try (first | rfl | omega)))⟩) hHeld ?_
                  simp only [Act.put, List.setIfInBounds_toArray, List.set_cons_zero, List.set_cons_succ]
                  refine wpAnyH_tk (i := 10) (d := 81) (v := (.pointer (some ⟨a1, p1 + j, none⟩))) rfl rfl (by kernel_rfl) (by kernel_rfl) (by kernel_rfl) (fun _ _ _ h => h) (.inl ⟨by rfl, by (intro wq hSw; (try dsimp only at hSw); go_simp; (try (first | rfl | omega)))⟩) hHeld ?_
                  simp only [Act.put, List.setIfInBounds_toArray, List.set_cons_zero, List.set_cons_succ]
                  refine wpAnyH_tk (i := 11) (d := 82) (v := (.slice (some ⟨b2, o2, none⟩) n rc2)) rfl rfl (by kernel_rfl) (by kernel_rfl) (by kernel_rfl) (fun _ _ _ h => h) (.inl ⟨by rfl, by (intro wq hSw; (try dsimp only at hSw); go_simp; (try (first | rfl | omega)))⟩) hHeld ?_
                  simp only [Act.put, List.setIfInBounds_toArray, List.set_cons_zero, List.set_cons_succ]
                  refine wpAnyH_tk (i := 12) (d := 83) (v := (.int .i64 (i : Int))) rfl rfl (by kernel_rfl) (by kernel_rfl) (by kernel_rfl) (fun _ _ _ h => h) (.inl ⟨by rfl, by (intro wq hSw; (try dsimp only at hSw); go_simp; (try (first | rfl | omega)))⟩) hHeld ?_
                  simp only [Act.put, List.setIfInBounds_toArray, List.set_cons_zero, List.set_cons_succ]
                  refine wpAnyH_tk (i := 13) (d := 84) (v := (.pointer (some ⟨b2, o2 + i, none⟩))) rfl rfl (by kernel_rfl) (by kernel_rfl) (by kernel_rfl) (fun _ _ _ h => h) (.inl ⟨by rfl, by (intro wq hSw; (try dsimp only at hSw); go_simp; (try (first | rfl | omega)))⟩) hHeld ?_
                  simp only [Act.put, List.setIfInBounds_toArray, List.set_cons_zero, List.set_cons_succ]
                  refine wpAnyH_tk (i := 14) (d := 85) (v := (.int .i64 0)) rfl rfl (by kernel_rfl) (by kernel_rfl) (by kernel_rfl) (fun _ _ _ h => h) (.inl ⟨by rfl, by (intro wq hSw; (try dsimp only at hSw); go_simp; (try (first | rfl | omega)))⟩) hHeld ?_
                  simp only [Act.put, List.setIfInBounds_toArray, List.set_cons_zero, List.set_cons_succ]
                  refine wpAnyH_tk (i := 15) (d := 86) (v := (.bool true)) rfl rfl (by kernel_rfl) (by kernel_rfl) (by kernel_rfl) (fun _ _ _ h => h) (.inl ⟨by rfl, by (intro wq hSw; (try dsimp only at hSw); go_simp; (try (first | rfl | omega)))⟩) hHeld ?_
                  simp only [Act.put, List.setIfInBounds_toArray, List.set_cons_zero, List.set_cons_succ]
                  refine wpAnyH_tk (i := 16) (d := 87) (v := (.bool false)) rfl rfl (by kernel_rfl) (by kernel_rfl) (by kernel_rfl) (fun _ _ _ h => h) (.inl ⟨by rfl, by (intro wq hSw; (try dsimp only at hSw); go_simp; (try (first | rfl | omega)))⟩) hHeld ?_
                  simp only [Act.put, List.setIfInBounds_toArray, List.set_cons_zero, List.set_cons_succ]
                  refine wpAnyH_done (by kernel_rfl) ?_ _
                  clear hHeld
                  go_wp2
                  go_roundw
                  case rel => exact ⟨j + 1, by omega, by go_num, _, rfl⟩
                  case measure => simp [intOf]; omega
              · go_wp2
                go_roundw
                case rel => exact ⟨j + 1, by omega, by go_num, _, rfl⟩
                case measure => simp [intOf]; omega
            · go_wp2
              go_roundw
              case rel => exact ⟨i + 1, by omega, by go_num, _, rfl⟩
              case measure => simp [intOf]; omega
        · have HR1 := HRO.out q
          go_wp2_with fail
          refine HR1.mono ?_
          rintro e w2 ⟨u, rfl, L, hf, hpm, hb⟩
          obtain ⟨uo, uc, huv⟩ : ∃ uo uc, u = .slice uo L.length uc := by
            obtain ⟨vs, g1, g2, g3⟩ := hf
            exact owns_form g2
          subst huv
          have hll : L.length ≤ 24 := by rw [hpm.length_eq]; exact HMN.out
          have HB : Hid (Below w.heap.size w w2) := hb
          have e24 : decide ((24 : Int) < (L.length : Int)) = false := decide_eq_false (by omega)
          clear hf hpm hb HR1
          go_wp2
          go_ret
          exact ⟨rfl, HB.out⟩

set_option maxRecDepth 100000 in
set_option maxHeartbeats 1600000 in
theorem wordMay_any (n : Nat) (c : List (List Int)) (wd : List Nat) (cv wv : Value) (w : World) (hg : Gdc n c) (hp : ∀ b ∈ abL c, (∀ k, 0 ≤ b.getD k 0) ∧ 1 ≤ b.sum) (hnod : (abL c).Nodup) (hw : Lt c wd) (hwl : wd.length ≤ 40) (hm : Mat w.heap.size 26 3 w cv c) (hwv : Sl w.heap.size 3 w wv (ints (natsI wd))) :
    Calls Try.prog 13 #[cv, wv] w fun e w' => e = .returned (.int .i64 0) ∧ Below w.heap.size w w' := by
  have HR : Hid (Calls Try.prog 6 #[cv] w fun e w' => e = .returned (.int .i64 0) ∧ Below w.heap.size w w') := rootsMay_any n c cv w hg hp hnod hm
  have hcl := hg.sq.len
  obtain ⟨ao, cap, hvv, _, _⟩ := mat_open hm
  subst hvv
  obtain ⟨wo, wc, hwvv, _, _⟩ := sl_open hwv
  subst hwvv
  have HWV : Hid (Sl w.heap.size 3 w (.slice wo (natsI wd).length wc) (ints (natsI wd))) := hwv
  have HLT : Hid (∀ k, k < wd.length → wd.getD k 0 < n) := fun k hk => by rw [← hcl]; exact hw _ (by simp [hk])
  rw [natsI_len] at HWV ⊢
  rw [hcl] at HR ⊢
  have e40 : decide ((40 : Int) < (wd.length : Int)) = false := decide_eq_false (by omega)
  clear hg hp hnod hm hwv hw
  go_enter Try.func13, Try.ntmps13
  go_wp2_with fail
  refine HR.out.mono ?_
  rintro e w1 ⟨rfl, hb1⟩
  have HB1 : Hid (Below w.heap.size w w1) := hb1
  have HW1 : Hid (Sl w.heap.size 3 w1 (.slice wo wd.length wc) (ints (natsI wd))) := HWV.out.below hb1 (Nat.le_refl _)
  clear hb1 HR
  go_wp2
  go_loopw [6] (fun iv wr => ∃ i : Nat, i ≤ wd.length ∧ iv = .int .i64 i ∧ ∃ q, wr = w1.drewN q) (fun iv _ => wd.length - (intOf iv).toNat)
  case atStart => exact ⟨0, Nat.zero_le _, rfl, 0, rfl⟩
  case round =>
    obtain ⟨i, hi, rfl, q, rfl⟩ := hrel
    by_cases hlt : i < wd.length
    · obtain ⟨b2, o2, cp2, hs2, _, hc2⟩ := sl_cell (HW1.out.drewN q) (k := i) (by rw [natsI_len]; exact hlt)
      rw [natsI_len] at hs2
      simp only [Value.slice.injEq, true_and] at hs2
      obtain ⟨rfl, rfl⟩ := hs2
      rw [natsI_at hlt] at hc2
      have hz := HLT.out i hlt
      generalize wd.getD i 0 = z at *
      have ez : decide ((z : Int) < 0) = false := decide_eq_false (by omega)
      have ez2 : decide ((n : Int) ≤ (z : Int)) = false := decide_eq_false (by omega)
      go_wp2
      go_roundw
      case rel => exact ⟨i + 1, by omega, by go_num, _, rfl⟩
      case measure => simp [intOf]; omega
    · have HBE : Hid (Below w.heap.size w (w1.drewN q)) := HB1.out.trans ⟨rfl, rfl, rfl, Nat.le_refl _, fun _ _ => rfl⟩
      go_wp2
      go_ret
      exact ⟨rfl, HBE.out⟩

end Go.Proofs.Ytkgljfnbaoncbaa
