/- face.Short. -/
import Derived.Test.YtkfdpcgmpbopnaaGreatDoorFc13
namespace Go.Proofs.YtkfdpcgmpbopnaaGreatDoor
open Go.RowKit Lin
attribute [local go_sem ↓] Go.wp_at_zero Go.wp_at_succ

theorem hvN_congr {c c2 : Nat → Int} : ∀ i, (∀ k, k < i → c k = c2 k) → ∀ j, hvN c i j = hvN c2 i j
  | 0, _, _ => rfl
  | i + 1, h, j => by
    simp only [hvN]
    rw [hvN_congr i (fun k hk => h k (by omega)) j, hvN_congr i (fun k hk => h k (by omega)) (j - 1), h i (by omega)]

theorem hvF_cnF (L : Nat → Nat) (n : Nat) : hvF (fun k => (cnF L n).getD k 0) n = hvF (fun k => (L k : Int)) n := by
  unfold hvF
  refine List.map_congr_left fun j _ => hvN_congr n (fun k hk => ?_) j
  simp [cnF, hk]

set_option maxRecDepth 100000 in
set_option maxHeartbeats 1600000 in
theorem shortP_any (d : Nat) (P : List (List Int)) (v : Value) (w : World) (hv : Mat w.heap.size 22 3 w v P) (hg : Good d P) (hn : P.length ≤ 10) (hT : TabB w) :
    Calls Tryz.prog 17 #[.agg #[.int .i64 d, v]] w fun e w' => ∃ C s, FndS d P C s ∧ Below w.heap.size w w' ∧ ((splB d (s.map (sdN C)) = false ∧ e = .returned (.tuple #[.slice none 0 0, .int .i64 3])) ∨ (splB d (s.map (sdN C)) = true ∧ ∃ u A, e = .returned (.tuple #[u, .int .i64 0]) ∧ Fnd d P C s A ∧ w'.ownsRow w.heap.size 3 1 u (d + 1) (ints (hvF (fun t => ((lvA d C A t).length : Int)) (d + 1))))) := by
  obtain ⟨po, pc, rfl, hlc, hcm⟩ := mat_open hv
  have h4 := hg.d4
  obtain ⟨W, hW⟩ : ∃ W, W = w.alloc (.cells #[.int .i64 d, .slice po P.length pc] 27) := ⟨_, rfl⟩
  have hbw : Below w.heap.size w W := by rw [hW]; exact alloc_keep _ _
  have HW : Hid (Below w.heap.size w W) := hbw
  have hsW : W.heap.size = w.heap.size + 1 := by rw [hW]; exact size_alloc _ _
  have c0 : W.cell? ⟨w.heap.size, 0, none⟩ = some (.int .i64 d) := by rw [hW]; simp
  have c1 : W.cell? ⟨w.heap.size, 1, none⟩ = some (.slice po P.length pc) := by rw [hW]; simp
  have HBO := bodW_any d P (.slice po P.length pc) W ((hv.below hbw (Nat.le_refl _)).any (Nat.le_refl _)) hg hn (hT.below hbw)
  clear hv hg hT hbw
  go_enter Tryz.func17, Tryz.ntmps17
  go_wp2_with fail
  rw [← hW]
  clear hW
  refine HBO.mono ?_
  rintro e w2 ⟨C, s, S, co, cc, ro, rl, rc, so, sc, rfl, hB⟩
  have HB : Hid (BodW W d P C s S co cc so sc w2) := hB
  clear HBO hB c0 c1
  obtain ⟨W3, hW3⟩ : ∃ W3, W3 = w2.alloc (.cells #[.int .i64 d, .slice co C.length cc, .slice ro rl rc, .slice so S.length sc] 60) := ⟨_, rfl⟩
  have HB3 : Hid (Below w2.heap.size w2 W3) := by rw [hW3]; exact alloc_keep _ _
  have HF : Hid (FndS d P C s) := ⟨HB.out.ok, HB.out.doc, HB.out.n10⟩
  have hb3 : W3.heap[w2.heap.size]? = some (.cells #[.int .i64 d, .slice co C.length cc, .slice ro rl rc, .slice so S.length sc] 60 (0, 0)) := by rw [hW3]; exact alloc_at _ _
  have hs3 : W3.heap.size = w2.heap.size + 1 := by rw [hW3]; exact size_alloc _ _
  have HCE : Hid (∀ X, Below W3.heap.size W3 X → X.cell? ⟨w2.heap.size, 0, none⟩ = some (.int .i64 d) ∧ X.cell? ⟨w2.heap.size, 1, none⟩ = some (.slice co C.length cc) ∧ X.cell? ⟨w2.heap.size, 2, none⟩ = some (.slice ro rl rc) ∧ X.cell? ⟨w2.heap.size, 3, none⟩ = some (.slice so S.length sc)) := fun X hX => by
    have h0 := (hX.block w2.heap.size (by omega)).trans hb3
    exact ⟨by simp [World.cell?, h0], by simp [World.cell?, h0], by simp [World.cell?, h0], by simp [World.cell?, h0]⟩
  have HSP : Hid (∀ X, Below W3.heap.size W3 X → Calls Tryz.prog 35 #[.agg #[.int .i64 d, .slice co C.length cc, .slice ro rl rc, .slice so S.length sc]] X fun e w' => e = .returned (.bool (splB d S)) ∧ Below W3.heap.size W3 w') := fun X hX =>
    (isSimplicial_any d _ _ so sc S X (HB.out.sds X (HB3.out.trans (hX.mono HB3.out.size))) HB.out.lt10).mono fun e w' ⟨e1, e2⟩ => ⟨e1, hX.trans (e2.mono hX.size)⟩
  have HBF : Hid (∀ X, Below W3.heap.size W3 X → Below w.heap.size w X) := fun X hX => HW.out.trans ((HB.out.bel.trans ((HB3.out.trans (hX.mono HB3.out.size)).mono HB.out.bel.size)).mono (by omega))
  have HLV : Hid (∀ X, Below W3.heap.size W3 X → Calls Tryz.prog 32 #[.agg #[.int .i64 d, .slice co C.length cc, .slice ro rl rc, .slice so S.length sc]] X fun e w4 => ∃ A g, e = .returned (.slice (some ⟨g, 0, none⟩) (d + 2) (d + 2)) ∧ Fnd d P C s A ∧ Below W3.heap.size W3 w4 ∧ Calls Tryz.prog 34 #[.slice (some ⟨g, 0, none⟩) (d + 1) (d + 2)] w4 fun e w5 => ∃ u, e = .returned u ∧ w5.ownsRow w4.heap.size 3 1 u (d + 1) (ints (cnF (fun t => (lvA d C A t).length) (d + 1))) ∧ Below w4.heap.size w4 w5) := fun X hX => by
    refine (levW_any HB.out (.slice ro rl rc) X (HB3.out.trans (hX.mono HB3.out.size))).mono ?_
    rintro e w4 ⟨A, g, vs, rfl, hF, hg4, hvl, hvs, hb4⟩
    refine ⟨A, g, rfl, hF, hX.trans (hb4.mono hX.size), countsF_any g (d + 1) (d + 2) vs (fun t => (lvA d C A t).length) w4 hg4 (by omega) (by omega) fun t ht => ?_⟩
    obtain ⟨ao, cp, e, _⟩ := hvs t (by omega)
    exact ⟨ao, cp, e⟩
  have HSH : Hid (∀ A uo uc w5, Fnd d P C s A → Sl 0 3 w5 (.slice uo (d + 1) uc) (ints (cnF (fun t => (lvA d C A t).length) (d + 1))) → Calls Tryz.prog 37 #[.slice uo (d + 1) uc] w5 fun e w6 => ∃ u, e = .returned u ∧ w6.ownsRow w5.heap.size 3 1 u (d + 1) (ints (hvF (fun t => ((lvA d C A t).length : Int)) (d + 1))) ∧ Below w5.heap.size w5 w6) := fun A uo uc w5 hF hs => by
    have h := short_any 0 (cnF (fun t => (lvA d C A t).length) (d + 1)) (.slice uo (d + 1) uc) w5 hs (by rw [cnF_len]; omega) (fun z hz => by
      simp only [cnF, List.mem_map, List.mem_range] at hz
      obtain ⟨t, _, rfl⟩ := hz
      have h5 := lvA_len d C A t
      have h6 := nodup_len A (List.range 1024) hF.nd fun x hx => List.mem_range.2 (hF.lt x hx)
      rw [List.length_range] at h6
      omega)
    rw [cnF_len, hvF_cnF] at h
    exact h
  have HRES : Hid (splB d S = splB d (s.map (sdN C))) := by
    show _ = _
    rw [HB.out.se]
  generalize splB d S = q1 at *
  clear hb3 hs3 HB HB3
  have hc3 := HCE.out W3 (Below.refl _ _)
  go_upto_region 4 with fail
  rw [← hW3]
  clear hW3
  obtain ⟨k0, k1, k2, k3⟩ := hc3
  cases q1
  · go_wp2_with fail
    refine (HSP.out W3 (Below.refl _ _)).mono ?_
    rintro e w4 ⟨rfl, hb4⟩
    have HB4 : Hid (Below W3.heap.size W3 w4) := hb4
    clear hb4
    go_wp2
    go_ret2
    exact ⟨C, s, HF.out, HBF.out w4 HB4.out, Or.inl ⟨HRES.out.symm, rfl⟩⟩
  · go_wp2_with fail
    refine (HSP.out W3 (Below.refl _ _)).mono ?_
    rintro e w4 ⟨rfl, hb4⟩
    have HB4 : Hid (Below W3.heap.size W3 w4) := hb4
    clear hb4 k0 k1 k2 k3
    have hc4 := HCE.out w4 HB4.out
    have hwd : IntKind.wrap .i64 ((d : Int) + 1) = (d : Int) + 1 := by rw [IntKind.wrap_i64]; omega
    go_upto_region 6 with fail
    refine wp_region_held_drew (S := fun X => X.cell? ⟨w2.heap.size, 0, none⟩ = some (.int .i64 d) ∧ X.cell? ⟨w2.heap.size, 1, none⟩ = some (.slice co C.length cc) ∧ X.cell? ⟨w2.heap.size, 2, none⟩ = some (.slice ro rl rc) ∧ X.cell? ⟨w2.heap.size, 3, none⟩ = some (.slice so S.length sc)) (by kernel_rfl) hc4 (fun hHeld => ?_)
    clear hc4
    refine wpAnyH_tk (i := 0) (d := 17) (v := (.agg #[.int .i64 d, .slice co C.length cc, .slice ro rl rc, .slice so S.length sc])) rfl rfl (by kernel_rfl) (by kernel_rfl) (by kernel_rfl) (fun _ _ _ h => h) (.inl ⟨by rfl, by (intro wq hSw; (try dsimp only at hSw); go_simp; (try (first | rfl | omega)))⟩) hHeld ?_
    simp only [Act.put, List.setIfInBounds_toArray, List.set_cons_zero, List.set_cons_succ]
    refine wpAnyH_tk (i := 2) (d := 19) (v := (.pointer (some ⟨w2.heap.size, 0, none⟩))) rfl rfl (by kernel_rfl) (by kernel_rfl) (by kernel_rfl) (fun _ _ _ h => h) (.inl ⟨by rfl, by (intro wq hSw; (try dsimp only at hSw); go_simp; (try (first | rfl | omega)))⟩) hHeld ?_
    simp only [Act.put, List.setIfInBounds_toArray, List.set_cons_zero, List.set_cons_succ]
    refine wpAnyH_tk (i := 3) (d := 20) (v := (.int .i64 d)) rfl rfl (by kernel_rfl) (by kernel_rfl) (by kernel_rfl) (fun _ _ _ h => h) (.inl ⟨by rfl, by (intro wq hSw; (try dsimp only at hSw); go_simp; (try (first | rfl | omega)))⟩) hHeld ?_
    simp only [Act.put, List.setIfInBounds_toArray, List.set_cons_zero, List.set_cons_succ]
    refine wpAnyH_tk (i := 4) (d := 21) (v := (.int .i64 ((d : Int) + 1))) rfl rfl (by kernel_rfl) (by kernel_rfl) (by kernel_rfl) (fun _ _ _ h => h) (.inl ⟨by rfl, by (intro wq hSw; (try dsimp only at hSw); go_simp; (try (first | rfl | omega)))⟩) hHeld ?_
    simp only [Act.put, List.setIfInBounds_toArray, List.set_cons_zero, List.set_cons_succ]
    refine wpAnyH_ready (rs := [1]) (by kernel_rfl) (by simp) ?_
    refine ready_tk (i := 1) rfl (by rfl) (fun K hK => ?_) AllReadyH.nil
    go_simp
    refine (HLV.out w4.drew HB4.out.drew).mono ?_
    rintro e w5 ⟨A, g, rfl, hF, hb5, hcnt⟩
    have HFA : Hid (Fnd d P C s A) := hF
    have HB5 : Hid (Below W3.heap.size W3 w5) := hb5
    have HCN : Hid (Calls Tryz.prog 34 #[.slice (some ⟨g, 0, none⟩) (d + 1) (d + 2)] w5 fun e w6 => ∃ u, e = .returned u ∧ w6.ownsRow w5.heap.size 3 1 u (d + 1) (ints (cnF (fun t => (lvA d C A t).length) (d + 1))) ∧ Below w5.heap.size w5 w6) := hcnt
    clear hF hb5 hcnt
    refine hK.out _ _ (HCE.out w5 HB5.out) (fun hHeld => ?_)
    clear hK K
    refine wpAnyH_tk (i := 5) (d := 22) (v := (.slice (some ⟨g, 0, none⟩) (d + 1) (d + 2))) rfl rfl (by kernel_rfl) (by kernel_rfl) (by kernel_rfl) (fun _ _ _ h => h) (.inl ⟨by rfl, by (intro wq hSw; (try dsimp only at hSw); go_simp; (try (first | rfl | omega)))⟩) hHeld ?_
    simp only [Act.put, List.setIfInBounds_toArray, List.set_cons_zero, List.set_cons_succ]
    refine wpAnyH_ready (rs := [6]) (by kernel_rfl) (by simp) ?_
    refine ready_tk (i := 6) rfl (by rfl) (fun K hK => ?_) AllReadyH.nil
    go_simp
    refine HCN.out.mono ?_
    rintro e w6 ⟨u, rfl, ho, hb6⟩
    obtain ⟨uo, uc, hu⟩ := owns_form ho
    subst hu
    have HB6 : Hid (Below W3.heap.size W3 w6) := HB5.out.trans (hb6.mono HB5.out.size)
    have HS6 : Hid (Sl 0 3 w6 (.slice uo (d + 1) uc) (ints (cnF (fun t => (lvA d C A t).length) (d + 1)))) := Sl.own ho
    clear ho hb6
    refine hK.out _ _ (HCE.out w6 HB6.out) (fun hHeld => ?_)
    clear hK K
    refine wpAnyH_ready (rs := [7]) (by kernel_rfl) (by simp) ?_
    refine ready_tk (i := 7) rfl (by rfl) (fun K hK => ?_) AllReadyH.nil
    go_simp
    refine (HSH.out A uo uc w6 HFA.out HS6.out).mono ?_
    rintro e w7 ⟨u, rfl, ho, hb7⟩
    obtain ⟨xo, xc, hu⟩ := owns_form ho
    subst hu
    have HB7 : Hid (Below W3.heap.size W3 w7) := HB6.out.trans (hb7.mono HB6.out.size)
    have HO7 : Hid (w7.ownsRow w6.heap.size 3 1 (.slice xo (d + 1) xc) (d + 1) (ints (hvF (fun t => ((lvA d C A t).length : Int)) (d + 1)))) := ho
    clear ho hb7
    refine hK.out _ _ (HCE.out w7 HB7.out) (fun hHeld => ?_)
    clear hK K
    refine wpAnyH_tk (i := 8) (d := 2) (v := (.slice xo (d + 1) xc)) rfl rfl (by kernel_rfl) (by kernel_rfl) (by kernel_rfl) (fun _ _ _ h => h) (.inl ⟨by rfl, by (intro wq hSw; (try dsimp only at hSw); go_simp; (try (first | rfl | omega)))⟩) hHeld ?_
    simp only [Act.put, List.setIfInBounds_toArray, List.set_cons_zero, List.set_cons_succ]
    refine wpAnyH_tk (i := 9) (d := 3) (v := (.int .i64 0)) rfl rfl (by kernel_rfl) (by kernel_rfl) (by kernel_rfl) (fun _ _ _ h => h) (.inl ⟨by rfl, by (intro wq hSw; (try dsimp only at hSw); go_simp; (try (first | rfl | omega)))⟩) hHeld ?_
    simp only [Act.put, List.setIfInBounds_toArray, List.set_cons_zero, List.set_cons_succ]
    refine wpAnyH_done (by kernel_rfl) ?_ _
    clear hHeld
    go_wp2
    go_ret2
    exact ⟨C, s, HF.out, HBF.out w7 HB7.out, Or.inr ⟨HRES.out.symm, _, A, rfl, HFA.out, HO7.out.mono (HBF.out w6 HB6.out).size⟩⟩

end Go.Proofs.YtkfdpcgmpbopnaaGreatDoor
