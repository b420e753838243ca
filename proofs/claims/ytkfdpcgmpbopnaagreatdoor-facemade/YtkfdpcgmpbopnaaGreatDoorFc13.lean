/- face.Kind, face.Short, face.Lattice. -/
import Derived.Test.YtkfdpcgmpbopnaaGreatDoorFc12
namespace Go.Proofs.YtkfdpcgmpbopnaaGreatDoor
open Go.RowKit Lin
attribute [local go_sem ↓] Go.wp_at_zero Go.wp_at_succ

set_option maxRecDepth 100000 in
set_option maxHeartbeats 1600000 in
theorem kindP_any (d : Nat) (P : List (List Int)) (v : Value) (w : World) (hv : Mat w.heap.size 22 3 w v P) (hg : Good d P) (hn : P.length ≤ 10) (hT : TabB w) :
    Calls Tryz.prog 15 #[.agg #[.int .i64 d, v]] w fun e w' => ∃ C s, e = .returned (.tuple #[.bool (splB d (s.map (sdN C))), .bool (smpB d C.length (s.map (sdN C))), .int .i64 0]) ∧ FndS d P C s ∧ Below w.heap.size w w' := by
  obtain ⟨po, pc, rfl, hlc, hcm⟩ := mat_open hv
  have h4 := hg.d4
  obtain ⟨W, hW⟩ : ∃ W, W = w.alloc (.cells #[.int .i64 d, .slice po P.length pc] 27) := ⟨_, rfl⟩
  have hbw : Below w.heap.size w W := by rw [hW]; exact alloc_keep _ _
  have HW : Hid (Below w.heap.size w W) := hbw
  have hsW : W.heap.size = w.heap.size + 1 := by rw [hW]; exact size_alloc _ _
  have c0 : W.cell? ⟨w.heap.size, 0, none⟩ = some (.int .i64 d) := by rw [hW]; simp
  have c1 : W.cell? ⟨w.heap.size, 1, none⟩ = some (.slice po P.length pc) := by rw [hW]; simp
  have HBO := bodW_any d P (.slice po P.length pc) W ((hv.below hbw (Nat.le_refl _)).any (Nat.le_refl _)) hg hn (hT.below hbw)
  clear hv hg hT hbw
  go_enter Tryz.func15, Tryz.ntmps15
  go_wp2_with fail
  rw [← hW]
  clear hW
  refine HBO.mono ?_
  rintro e w2 ⟨C, s, S, co, cc, ro, rl, rc, so, sc, rfl, hB⟩
  have HB : Hid (BodW W d P C s S co cc so sc w2) := hB
  clear HBO hB c0 c1
  obtain ⟨W3, hW3⟩ : ∃ W3, W3 = w2.alloc (.cells #[.int .i64 d, .slice co C.length cc, .slice ro rl rc, .slice so S.length sc] 60) := ⟨_, rfl⟩
  have HB3 : Hid (Below w2.heap.size w2 W3) := by rw [hW3]; exact alloc_keep _ _
  have HF : Hid (FndS d P C s) := ⟨HB.out.ok, HB.out.doc, HB.out.n10⟩
  have HSE : Hid (S = s.map (sdN C)) := HB.out.se
  have hb3 : W3.heap[w2.heap.size]? = some (.cells #[.int .i64 d, .slice co C.length cc, .slice ro rl rc, .slice so S.length sc] 60 (0, 0)) := by rw [hW3]; exact alloc_at _ _
  have hs3 : W3.heap.size = w2.heap.size + 1 := by rw [hW3]; exact size_alloc _ _
  have HCE : Hid (∀ X, Below W3.heap.size W3 X → X.cell? ⟨w2.heap.size, 0, none⟩ = some (.int .i64 d) ∧ X.cell? ⟨w2.heap.size, 1, none⟩ = some (.slice co C.length cc) ∧ X.cell? ⟨w2.heap.size, 2, none⟩ = some (.slice ro rl rc) ∧ X.cell? ⟨w2.heap.size, 3, none⟩ = some (.slice so S.length sc)) := fun X hX => by
    have h0 := (hX.block w2.heap.size (by omega)).trans hb3
    exact ⟨by simp [World.cell?, h0], by simp [World.cell?, h0], by simp [World.cell?, h0], by simp [World.cell?, h0]⟩
  have HSP : Hid (∀ X, Below W3.heap.size W3 X → Calls Tryz.prog 35 #[.agg #[.int .i64 d, .slice co C.length cc, .slice ro rl rc, .slice so S.length sc]] X fun e w' => e = .returned (.bool (splB d S)) ∧ Below W3.heap.size W3 w') := fun X hX =>
    (isSimplicial_any d _ _ so sc S X (HB.out.sds X (HB3.out.trans (hX.mono HB3.out.size))) HB.out.lt10).mono fun e w' ⟨e1, e2⟩ => ⟨e1, hX.trans (e2.mono hX.size)⟩
  have HSM : Hid (∀ X, Below W3.heap.size W3 X → Calls Tryz.prog 36 #[.agg #[.int .i64 d, .slice co C.length cc, .slice ro rl rc, .slice so S.length sc]] X fun e w' => e = .returned (.bool (smpB d C.length S)) ∧ Below W3.heap.size W3 w') := fun X hX =>
    (isSimple_any d C.length co cc _ so sc S X HB.out.n10 (HB.out.tab X (HB3.out.trans (hX.mono HB3.out.size))) (HB.out.sds X (HB3.out.trans (hX.mono HB3.out.size))) HB.out.lt HB.out.sl).mono fun e w' ⟨e1, e2⟩ => ⟨e1, hX.trans (e2.mono hX.size)⟩
  have HBF : Hid (∀ X, Below W3.heap.size W3 X → Below w.heap.size w X) := fun X hX => HW.out.trans ((HB.out.bel.trans ((HB3.out.trans (hX.mono HB3.out.size)).mono HB.out.bel.size)).mono (by omega))
  have HRES : Hid (splB d S = splB d (s.map (sdN C)) ∧ smpB d C.length S = smpB d C.length (s.map (sdN C))) := by
    show _ ∧ _
    rw [HSE.out]
    exact ⟨rfl, rfl⟩
  generalize splB d S = q1 at *
  generalize smpB d C.length S = q2 at *
  clear hb3 hs3 HB HB3 HSE
  go_upto_region 4 with fail
  rw [← hW3]
  clear hW3
  have hc3 := HCE.out W3 (Below.refl _ _)
  refine wp_region_held_drew (S := fun X => X.cell? ⟨w2.heap.size, 0, none⟩ = some (.int .i64 d) ∧ X.cell? ⟨w2.heap.size, 1, none⟩ = some (.slice co C.length cc) ∧ X.cell? ⟨w2.heap.size, 2, none⟩ = some (.slice ro rl rc) ∧ X.cell? ⟨w2.heap.size, 3, none⟩ = some (.slice so S.length sc)) (by kernel_rfl) hc3 (fun hHeld => ?_)
  clear hc3
  refine wpAnyH_tk (i := 0) (d := 14) (v := (.agg #[.int .i64 d, .slice co C.length cc, .slice ro rl rc, .slice so S.length sc])) rfl rfl (by kernel_rfl) (by kernel_rfl) (by kernel_rfl) (fun _ _ _ h => h) (.inl ⟨by rfl, by (intro wq hSw; (try dsimp only at hSw); go_simp; (try (first | rfl | omega)))⟩) hHeld ?_
  simp only [Act.put, List.setIfInBounds_toArray, List.set_cons_zero, List.set_cons_succ]
  refine wpAnyH_tk (i := 2) (d := 16) (v := (.agg #[.int .i64 d, .slice co C.length cc, .slice ro rl rc, .slice so S.length sc])) rfl rfl (by kernel_rfl) (by kernel_rfl) (by kernel_rfl) (fun _ _ _ h => h) (.inl ⟨by rfl, by (intro wq hSw; (try dsimp only at hSw); go_simp; (try (first | rfl | omega)))⟩) hHeld ?_
  simp only [Act.put, List.setIfInBounds_toArray, List.set_cons_zero, List.set_cons_succ]
  refine wpAnyH_ready (rs := [1]) (by kernel_rfl) (by simp) ?_
  refine ready_tk (i := 1) rfl (by rfl) (fun K hK => ?_) AllReadyH.nil
  go_simp
  refine (HSP.out W3.drew (Below.refl _ _).drew).mono ?_
  rintro e w4 ⟨rfl, hb4⟩
  have HB4 : Hid (Below W3.heap.size W3 w4) := hb4
  clear hb4
  refine hK.out _ _ (HCE.out w4 HB4.out) (fun hHeld => ?_)
  clear hK K
  refine wpAnyH_ready (rs := [3]) (by kernel_rfl) (by simp) ?_
  refine ready_tk (i := 3) rfl (by rfl) (fun K hK => ?_) AllReadyH.nil
  go_simp
  refine (HSM.out w4 HB4.out).mono ?_
  rintro e w5 ⟨rfl, hb5⟩
  have HB5 : Hid (Below W3.heap.size W3 w5) := hb5
  clear hb5
  refine hK.out _ _ (HCE.out w5 HB5.out) (fun hHeld => ?_)
  clear hK K
  refine wpAnyH_tk (i := 4) (d := 2) (v := (.bool q1)) rfl rfl (by kernel_rfl) (by kernel_rfl) (by kernel_rfl) (fun _ _ _ h => h) (.inl ⟨by rfl, by (intro wq hSw; (try dsimp only at hSw); go_simp; (try (first | rfl | omega)))⟩) hHeld ?_
  simp only [Act.put, List.setIfInBounds_toArray, List.set_cons_zero, List.set_cons_succ]
  refine wpAnyH_tk (i := 5) (d := 3) (v := (.bool q2)) rfl rfl (by kernel_rfl) (by kernel_rfl) (by kernel_rfl) (fun _ _ _ h => h) (.inl ⟨by rfl, by (intro wq hSw; (try dsimp only at hSw); go_simp; (try (first | rfl | omega)))⟩) hHeld ?_
  simp only [Act.put, List.setIfInBounds_toArray, List.set_cons_zero, List.set_cons_succ]
  refine wpAnyH_tk (i := 6) (d := 4) (v := (.int .i64 0)) rfl rfl (by kernel_rfl) (by kernel_rfl) (by kernel_rfl) (fun _ _ _ h => h) (.inl ⟨by rfl, by (intro wq hSw; (try dsimp only at hSw); go_simp; (try (first | rfl | omega)))⟩) hHeld ?_
  simp only [Act.put, List.setIfInBounds_toArray, List.set_cons_zero, List.set_cons_succ]
  refine wpAnyH_done (by kernel_rfl) ?_ _
  clear hHeld
  go_wp2
  refine bodyPost_ret (v := .tuple #[.bool q1, .bool q2, .int .i64 0]) (by simp [results, Tryz.results15, go_sem]) rfl ?_
  exact ⟨C, s, by rw [HRES.out.1, HRES.out.2], HF.out, HBF.out w5 HB5.out⟩

end Go.Proofs.YtkfdpcgmpbopnaaGreatDoor
