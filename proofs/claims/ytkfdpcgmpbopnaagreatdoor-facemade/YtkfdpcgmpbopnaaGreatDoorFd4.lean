/- facetlaw.list, lists, levels: what is the same is called the same. -/
import Derived.Test.YtkfdpcgmpbopnaaGreatDoorFd1
namespace Go.Proofs.YtkfdpcgmpbopnaaGreatDoor
open Go.RowKit Lin
attribute [local go_sem ↓] Go.wp_at_zero Go.wp_at_succ

set_option maxRecDepth 100000 in
theorem listF_no (E : Int) (hE : ¬ E = 0) (v : Value) (vo : Option Addr) (vl vc : Nat) (hv : v = .slice vo vl vc) (w : World) :
    Calls Tryz.prog 19 #[.slice none 0 0, .int .i64 E, v, .int .i64 E] w fun x w' => x = .returned (.bool true) ∧ Below w.heap.size w w' := by
  subst hv
  go_enter Tryz.func19, Tryz.ntmps19
  go_wp2
  go_ret
  exact ⟨rfl, Below.refl _ _⟩

set_option maxRecDepth 100000 in
theorem listF_same (B : Nat) (x : List Int) (u v : Value) (w : World) (hu : Sl B 3 w u (ints x)) (hv : Sl B 3 w v (ints x)) :
    Calls Tryz.prog 19 #[u, .int .i64 0, v, .int .i64 0] w fun x w' => x = .returned (.bool true) ∧ Below w.heap.size w w' := by
  obtain ⟨uo, uc, rfl, _, _⟩ := sl_open hu
  obtain ⟨vo, vc, rfl, _, _⟩ := sl_open hv
  have HS : Hid (Calls Tryz.prog 39 #[.slice uo x.length uc, .slice vo x.length vc] w fun e w' => e = .returned (.bool true) ∧ Below w.heap.size w w') := by
    refine (same_any B x x _ _ w hu hv).mono ?_
    rintro e w' ⟨rfl, n, rfl⟩
    exact ⟨by simp, below_drewN (Below.refl _ _) n⟩
  clear hu hv
  go_enter Tryz.func19, Tryz.ntmps19
  go_wp2_with fail
  refine HS.out.mono ?_
  rintro e w' ⟨rfl, hb⟩
  have HB : Hid (Below w.heap.size w w') := hb
  clear hb
  go_wp2
  go_ret
  exact ⟨rfl, HB.out⟩

set_option maxRecDepth 100000 in
theorem listsF_same (B : Nat) (x : List (List Int)) (u v : Value) (w : World) (hu : Mat B 22 3 w u x) (hv : Mat B 22 3 w v x) :
    Calls Tryz.prog 20 #[u, .int .i64 0, v, .int .i64 0] w fun x w' => x = .returned (.bool true) ∧ Below w.heap.size w w' := by
  obtain ⟨uo, uc, rfl, _, _⟩ := mat_open hu
  obtain ⟨vo, vc, rfl, _, _⟩ := mat_open hv
  have HS : Hid (Calls Tryz.prog 38 #[.slice uo x.length uc, .slice vo x.length vc] w fun e w' => e = .returned (.bool true) ∧ Below w.heap.size w w') := by
    refine (sameAll_any B x x _ _ w hu hv).mono ?_
    rintro e w' ⟨rfl, n, rfl⟩
    exact ⟨by simp, below_drewN (Below.refl _ _) n⟩
  clear hu hv
  go_enter Tryz.func20, Tryz.ntmps20
  go_wp2_with fail
  refine HS.out.mono ?_
  rintro e w' ⟨rfl, hb⟩
  have HB : Hid (Below w.heap.size w w') := hb
  clear hb
  go_wp2
  go_ret
  exact ⟨rfl, HB.out⟩

set_option maxRecDepth 100000 in
set_option maxHeartbeats 800000 in
theorem levelsF_same (j : Nat) (LV : Nat → List (List Int)) (u v : Value) (w : World) (hu : LvV w u j LV) (hv : LvV w v j LV) (hj : j ≤ 100) :
    Calls Tryz.prog 18 #[u, .int .i64 0, v, .int .i64 0] w fun x w' => x = .returned (.bool true) ∧ Below w.heap.size w w' := by
  obtain ⟨uo, uc, rfl, h1⟩ := hu.rows
  obtain ⟨vo, vc, rfl, h2⟩ := hv.rows
  have HCE : Hid (∀ X t, Below w.heap.size w X → t < j → ∃ b1 o1 r1 c1 b2 o2 r2 c2, uo = some ⟨b1, o1, none⟩ ∧ vo = some ⟨b2, o2, none⟩ ∧ (∀ Y, Below X.heap.size X Y → Y.cell? ⟨b1, o1 + t, none⟩ = some (.slice r1 (LV t).length c1) ∧ Y.cell? ⟨b2, o2 + t, none⟩ = some (.slice r2 (LV t).length c2)) ∧ ∀ Y, Below X.heap.size X Y → Calls Tryz.prog 38 #[.slice r1 (LV t).length c1, .slice r2 (LV t).length c2] Y fun e w' => e = .returned (.bool true) ∧ Below X.heap.size X w') := fun X t hX ht => by
    obtain ⟨b1, o1, r1, c1, e1, k1, m1⟩ := h1 X t hX ht
    obtain ⟨b2, o2, r2, c2, e2, k2, m2⟩ := h2 X t hX ht
    refine ⟨b1, o1, r1, c1, b2, o2, r2, c2, e1, e2, fun Y hY => ⟨(hY.cell (lt_of_cell k1)).trans k1, (hY.cell (lt_of_cell k2)).trans k2⟩, fun Y hY => ?_⟩
    refine (sameAll_any X.heap.size (LV t) (LV t) _ _ Y (m1.below hY (Nat.le_refl _)) (m2.below hY (Nat.le_refl _))).mono ?_
    rintro e w' ⟨rfl, n, rfl⟩
    exact ⟨by simp, below_drewN hY n⟩
  clear hu hv h1 h2
  go_enter Tryz.func18, Tryz.ntmps18
  go_wp2
  go_loopw [9] (fun i wr => ∃ k : Nat, k ≤ j ∧ i = .int .i64 (k : Int) ∧ Below w.heap.size w wr) (fun i _ => j - (intOf i).toNat)
  case atStart => exact ⟨0, Nat.zero_le _, rfl, Below.refl _ _⟩
  case round =>
    obtain ⟨k, hk, rfl, hb⟩ := hrel
    have HB : Hid (Below w.heap.size w wr) := hb
    clear hb
    by_cases hlt : k < j
    · obtain ⟨b1, o1, r1, c1, b2, o2, r2, c2, e1, e2, hcc, hca⟩ := HCE.out wr k HB.out hlt
      have hkI : (k : Int) < (j : Int) := by omega
      have HCC : Hid (∀ Y, Below wr.heap.size wr Y → Y.cell? ⟨b1, o1 + k, none⟩ = some (.slice r1 (LV k).length c1) ∧ Y.cell? ⟨b2, o2 + k, none⟩ = some (.slice r2 (LV k).length c2)) := hcc
      have HCA : Hid (∀ Y, Below wr.heap.size wr Y → Calls Tryz.prog 38 #[.slice r1 (LV k).length c1, .slice r2 (LV k).length c2] Y fun e w' => e = .returned (.bool true) ∧ Below wr.heap.size wr w') := hca
      clear hcc hca HCE
      subst e1 e2
      generalize (LV k).length = ll at *
      have hc0 := HCC.out wr (Below.refl _ _)
      go_upto_region 8 with fail
      refine wp_region_held_drew (S := fun Y => Y.cell? ⟨b1, o1 + k, none⟩ = some (.slice r1 ll c1) ∧ Y.cell? ⟨b2, o2 + k, none⟩ = some (.slice r2 ll c2)) (by kernel_rfl) hc0 (fun hHeld => ?_)
      clear hc0
      refine wpAnyH_tk (i := 0) (d := 35) (v := (.slice (some ⟨b1, o1, none⟩) j uc)) rfl rfl (by kernel_rfl) (by kernel_rfl) (by kernel_rfl) (fun _ _ _ h => h) (.inl ⟨by rfl, by (intro wq hSw; (try dsimp only at hSw); go_simp; (try (first | rfl | omega)))⟩) hHeld ?_
      simp only [Act.put, List.setIfInBounds_toArray, List.set_cons_zero, List.set_cons_succ]
      refine wpAnyH_tk (i := 1) (d := 36) (v := (.int .i64 (k : Int))) rfl rfl (by kernel_rfl) (by kernel_rfl) (by kernel_rfl) (fun _ _ _ h => h) (.inl ⟨by rfl, by (intro wq hSw; (try dsimp only at hSw); go_simp; (try (first | rfl | omega)))⟩) hHeld ?_
      simp only [Act.put, List.setIfInBounds_toArray, List.set_cons_zero, List.set_cons_succ]
      refine wpAnyH_tk (i := 2) (d := 37) (v := (.pointer (some ⟨b1, o1 + k, none⟩))) rfl rfl (by kernel_rfl) (by kernel_rfl) (by kernel_rfl) (fun _ _ _ h => h) (.inl ⟨by rfl, by (intro wq hSw; (try dsimp only at hSw); go_simp; (try (first | rfl | omega)))⟩) hHeld ?_
      simp only [Act.put, List.setIfInBounds_toArray, List.set_cons_zero, List.set_cons_succ]
      refine wpAnyH_tk (i := 3) (d := 38) (v := (.slice r1 ll c1)) rfl rfl (by kernel_rfl) (by kernel_rfl) (by kernel_rfl) (fun _ _ _ h => h) (.inl ⟨by rfl, by (intro wq hSw; (try dsimp only at hSw); go_simp; (try (first | rfl | omega)))⟩) hHeld ?_
      simp only [Act.put, List.setIfInBounds_toArray, List.set_cons_zero, List.set_cons_succ]
      refine wpAnyH_tk (i := 4) (d := 39) (v := (.slice (some ⟨b2, o2, none⟩) j vc)) rfl rfl (by kernel_rfl) (by kernel_rfl) (by kernel_rfl) (fun _ _ _ h => h) (.inl ⟨by rfl, by (intro wq hSw; (try dsimp only at hSw); go_simp; (try (first | rfl | omega)))⟩) hHeld ?_
      simp only [Act.put, List.setIfInBounds_toArray, List.set_cons_zero, List.set_cons_succ]
      refine wpAnyH_tk (i := 5) (d := 40) (v := (.int .i64 (k : Int))) rfl rfl (by kernel_rfl) (by kernel_rfl) (by kernel_rfl) (fun _ _ _ h => h) (.inl ⟨by rfl, by (intro wq hSw; (try dsimp only at hSw); go_simp; (try (first | rfl | omega)))⟩) hHeld ?_
      simp only [Act.put, List.setIfInBounds_toArray, List.set_cons_zero, List.set_cons_succ]
      refine wpAnyH_tk (i := 6) (d := 41) (v := (.pointer (some ⟨b2, o2 + k, none⟩))) rfl rfl (by kernel_rfl) (by kernel_rfl) (by kernel_rfl) (fun _ _ _ h => h) (.inl ⟨by rfl, by (intro wq hSw; (try dsimp only at hSw); go_simp; (try (first | rfl | omega)))⟩) hHeld ?_
      simp only [Act.put, List.setIfInBounds_toArray, List.set_cons_zero, List.set_cons_succ]
      refine wpAnyH_tk (i := 7) (d := 42) (v := (.slice r2 ll c2)) rfl rfl (by kernel_rfl) (by kernel_rfl) (by kernel_rfl) (fun _ _ _ h => h) (.inl ⟨by rfl, by (intro wq hSw; (try dsimp only at hSw); go_simp; (try (first | rfl | omega)))⟩) hHeld ?_
      simp only [Act.put, List.setIfInBounds_toArray, List.set_cons_zero, List.set_cons_succ]
      refine wpAnyH_ready (rs := [8]) (by kernel_rfl) (by simp) ?_
      refine ready_tk (i := 8) rfl (by rfl) (fun K hK => ?_) AllReadyH.nil
      go_simp
      refine (HCA.out wr.drew (Below.refl _ _).drew).mono ?_
      rintro e w3 ⟨rfl, hb3⟩
      have HB3 : Hid (Below wr.heap.size wr w3) := hb3
      clear hb3
      refine hK.out _ _ (HCC.out w3 HB3.out) (fun hHeld => ?_)
      clear hK K
      refine wpAnyH_tk (i := 9) (d := 44) (v := (.bool false)) rfl rfl (by kernel_rfl) (by kernel_rfl) (by kernel_rfl) (fun _ _ _ h => h) (.inl ⟨by rfl, by (intro wq hSw; (try dsimp only at hSw); go_simp; (try (first | rfl | omega)))⟩) hHeld ?_
      simp only [Act.put, List.setIfInBounds_toArray, List.set_cons_zero, List.set_cons_succ]
      refine wpAnyH_done (by kernel_rfl) ?_ _
      clear hHeld
      go_wp2
      go_roundw
      case rel => exact ⟨k + 1, by omega, by go_num, HB.out.trans (HB3.out.mono HB.out.size)⟩
      case measure => simp [intOf]; omega
    · have hke : k = j := by omega
      subst hke
      clear HCE
      go_wp2
      go_ret
      exact ⟨rfl, HB.out⟩

end Go.Proofs.YtkfdpcgmpbopnaaGreatDoor
