/- plane.goesAbove. -/
import Derived.Test.YtgfnmkenpgnllaaGreatSg0
import Derived.Test.YtgfnmkenpgnllaaGreatSgi
namespace Go.Proofs.YtgfnmkenpgnllaaGreat
open Go.RowKit Lin
attribute [local go_sem ↓] Go.wp_at_zero Go.wp_at_succ

theorem best_bd {d : Nat} {rows : List (List Int)} {g : List Int} {a b : Int} (hc : CutOk d rows) (hgl : g.length = d) (hgb : ∀ z ∈ g, z.natAbs ≤ 20) (h : BestV d rows g a b) : a.natAbs ≤ 80000000 ∧ b.natAbs ≤ 80000000 := by
  rcases h with ⟨_, rfl, rfl⟩ | ⟨y, h0, hy, hl⟩
  · exact ⟨by decide, by decide⟩
  · have hk := way_ok hc hgl hgb (lwO_mem hy)
    have h1 := sdL_bd hk hc.rw
    have h2 := hk.ub
    obtain ⟨_, q1, q2⟩ := low_cross hl
    constructor <;> omega

set_option maxRecDepth 100000 in
set_option maxHeartbeats 1600000 in
theorem above_any (d : Nat) (rows : List (List Int)) (p : List Int) (v pv : Value) (w : World) (hv : Mat 0 22 3 w v rows) (hp : Sl 0 3 w pv (ints p)) (hc : CutOk d rows) (hpl : p.length = d + 1) (hpb : ∀ z ∈ p, z.natAbs ≤ 20) (hf : ∃ x y, Fea d rows x y) :
    Calls Tryz.prog 77 #[.agg #[.int .i64 d, v], pv] w fun e w' => e = .returned (.bool (gaC d rows p)) ∧ Below w.heap.size w w' := by
  obtain ⟨ro, rc, hvv, hlc, hcm⟩ := mat_open hv
  obtain ⟨po, pc, hpp, hlp, hpm⟩ := sl_open hp
  rw [hpl] at hpp
  subst hvv hpp
  obtain ⟨pa, rfl⟩ : ∃ pa, po = some pa := by
    obtain ⟨ao, cap, e1, _, _, h3, _⟩ := hp
    obtain ⟨b, o, e, _⟩ := h3 0 (by simp; omega)
    simp only [Value.slice.injEq] at e1
    exact ⟨_, e1.1.trans e⟩
  obtain ⟨pb, pof, hpa⟩ : ∃ pb pof, pa = ⟨pb, pof, none⟩ := by
    obtain ⟨ao, cap, e1, _, _, h3, _⟩ := hp
    obtain ⟨b, o, e, _⟩ := h3 0 (by simp; omega)
    simp only [Value.slice.injEq] at e1
    have := e1.1.trans e
    exact ⟨b, o, by simpa using this⟩
  subst hpa
  obtain ⟨W, hW, hbW, hsW, hcW⟩ := cut_box w d (.slice ro rows.length rc)
  have HWW : Hid (W = w.alloc (.cells #[.int .i64 d, .slice ro rows.length rc] 61)) := hW
  have HBW : Hid (∀ X, Below W.heap.size W X → Below w.heap.size w X) := fun X hX => hbW.trans (hX.mono hbW.size)
  have HCC : Hid (∀ X, Below W.heap.size W X → X.cell? ⟨w.heap.size, 0, none⟩ = some (.int .i64 d) ∧ X.cell? ⟨w.heap.size, 1, none⟩ = some (.slice ro rows.length rc)) := hcW
  have hgl : (p.take d).length = d := by simp; omega
  have hgb : ∀ z ∈ p.take d, z.natAbs ≤ 20 := fun z hz => hpb z (List.mem_of_mem_take hz)
  have HLW : Hid (∀ X, Below W.heap.size W X → Calls Tryz.prog 102 #[.agg #[.int .i64 d, .slice ro rows.length rc], .slice (some ⟨pb, pof, none⟩) d pc] X fun e w' => ∃ a b, e = .returned (.tuple #[.int .i64 a, .int .i64 b, .int .i64 (gmE d rows (p.take d))]) ∧ BestV d rows (p.take d) a b ∧ Below W.heap.size W w') := fun X hX => by
    have hB := HBW.out X hX
    refine (best_any d rows (p.take d) _ _ X (hv.below hB (Nat.le_refl _)) ((hp.below hB (Nat.le_refl _)).cutC (by omega) (by omega) (by unfold maxLen; omega)) hc hgl hgb).mono ?_
    rintro e w' ⟨a, b, rfl, h1, h2⟩
    exact ⟨a, b, rfl, h1, hX.trans (h2.mono hX.size)⟩
  have HPD : Hid (∀ X, Below W.heap.size W X → X.cell? ⟨pb, pof + d, none⟩ = some (.int .i64 (V p d))) := fun X hX => by
    obtain ⟨ao, cap, e1, _, _, h3, _⟩ := hp.below (HBW.out X hX) (Nat.le_refl _)
    obtain ⟨b, o, e, hcc, _⟩ := h3 d (by simp; omega)
    simp only [Value.slice.injEq] at e1
    have := e1.1.trans e
    simp only [Option.some.injEq, Addr.mk.injEq] at this
    obtain ⟨rfl, rfl, _⟩ := this
    rw [hcc, ints_get _ _ (by omega)]
    rfl
  have HGA : Hid (∀ a b, BestV d rows (p.take d) a b → (decide (gmE d rows (p.take d) = 7) || decide (V p d * b < a)) = gaC d rows p ∧ a.natAbs ≤ 80000000 ∧ b.natAbs ≤ 80000000) := fun a b hB => by
    refine ⟨?_, best_bd hc hgl hgb hB⟩
    have := (ga_iff hpl hf hB).trans gaC_iff.symm
    rw [Bool.eq_iff_iff, ← this]
    simp
  have hvd : (V p d).natAbs ≤ 20 := hpb _ (by simp [V, hpl])
  have hd3 := hc.d3
  have hsl := fun w => run_cut2C (a := ⟨pb, pof, none⟩) (n := d + 1) (c := pc) (d := d) (by omega) (by omega) w
  have hpc := hlp
  rw [hpl] at hpc
  obtain ⟨c0, c1⟩ := hcW W (Below.refl _ _)
  clear hv hp hc hpl hpb hf hW hbW hsW hcW hgl hgb hlp
  generalize gmE d rows (p.take d) = E at *
  generalize hvp : V p d = vd at *
  clear hvp
  go_enter Tryz.func77, Tryz.ntmps77
  go_upto_region 1 with fail
  rw [← HWW.out]
  refine wp_region_held_drew (S := fun X => Below W.heap.size W X ∧ X.cell? ⟨w.heap.size, 0, none⟩ = some (.int .i64 d) ∧ X.cell? ⟨w.heap.size, 1, none⟩ = some (.slice ro rows.length rc)) (by kernel_rfl) ⟨(Below.refl _ _).drew, HCC.out _ (Below.refl _ _).drew⟩ (fun hHeld => ?_)
  refine wpAnyH_tk (i := 0) (d := 9) (v := (.agg #[.int .i64 d, .slice ro rows.length rc])) rfl rfl (by kernel_rfl) (by kernel_rfl) (by kernel_rfl) (fun _ _ _ h => h) (.inl ⟨by rfl, by (intro wq hSw; (try dsimp only at hSw); go_simp; (try (first | rfl | omega)))⟩) hHeld ?_
  simp only [Act.put, List.setIfInBounds_toArray, List.set_cons_zero, List.set_cons_succ]
  refine wpAnyH_tk (i := 1) (d := 10) (v := (.slice (some ⟨pb, pof, none⟩) (d + 1) pc)) rfl rfl (by kernel_rfl) (by kernel_rfl) (by kernel_rfl) (fun _ _ _ h => h) (.inl ⟨by rfl, by (intro wq hSw; (try dsimp only at hSw); go_simp; (try (first | rfl | omega)))⟩) hHeld ?_
  simp only [Act.put, List.setIfInBounds_toArray, List.set_cons_zero, List.set_cons_succ]
  refine wpAnyH_tk (i := 2) (d := 11) (v := (.pointer (some ⟨w.heap.size, 0, none⟩))) rfl rfl (by kernel_rfl) (by kernel_rfl) (by kernel_rfl) (fun _ _ _ h => h) (.inl ⟨by rfl, by (intro wq hSw; (try dsimp only at hSw); go_simp; (try (first | rfl | omega)))⟩) hHeld ?_
  simp only [Act.put, List.setIfInBounds_toArray, List.set_cons_zero, List.set_cons_succ]
  refine wpAnyH_tk (i := 3) (d := 12) (v := (.int .i64 d)) rfl rfl (by kernel_rfl) (by kernel_rfl) (by kernel_rfl) (fun _ _ _ h => h) (.inl ⟨by rfl, by (intro wq hSw; (try dsimp only at hSw); go_simp; (try (first | rfl | omega)))⟩) hHeld ?_
  simp only [Act.put, List.setIfInBounds_toArray, List.set_cons_zero, List.set_cons_succ]
  refine wpAnyH_tk (i := 4) (d := 13) (v := (.slice (some ⟨pb, pof, none⟩) d pc)) rfl rfl (by kernel_rfl) (by kernel_rfl) (by kernel_rfl) (fun _ _ _ h => h) (.inl ⟨by rfl, by (intro wq hSw; (try dsimp only at hSw); go_simp; (try (first | rfl | omega)))⟩) hHeld ?_
  simp only [Act.put, List.setIfInBounds_toArray, List.set_cons_zero, List.set_cons_succ]
  refine wpAnyH_ready (rs := [5]) (by kernel_rfl) (by simp) ?_
  refine ready_tk (i := 5) rfl (by rfl) (fun K hK => ?_) AllReadyH.nil
  go_simp
  refine (HLW.out _ (Below.refl _ _).drew).mono ?_
  rintro e w5 ⟨a, b, rfl, hbv, hb5⟩
  refine hK.out _ _ ⟨hb5, HCC.out w5 hb5⟩ (fun hHeld => ?_)
  clear hK K
  obtain ⟨hans, hab, hbb⟩ := HGA.out a b hbv
  refine wpAnyH_tk (i := 6) (d := 8) (v := (.tuple #[.int .i64 a, .int .i64 b, .int .i64 E])) rfl rfl (by kernel_rfl) (by kernel_rfl) (by kernel_rfl) (fun _ _ _ h => h) (.inl ⟨by rfl, by (intro wq hSw; (try dsimp only at hSw); go_simp; (try (first | rfl | omega)))⟩) hHeld ?_
  simp only [Act.put, List.setIfInBounds_toArray, List.set_cons_zero, List.set_cons_succ]
  refine wpAnyH_tk (i := 7) (d := 15) (v := (.int .i64 a)) rfl rfl (by kernel_rfl) (by kernel_rfl) (by kernel_rfl) (fun _ _ _ h => h) (.inl ⟨by rfl, by (intro wq hSw; (try dsimp only at hSw); go_simp; (try (first | rfl | omega)))⟩) hHeld ?_
  simp only [Act.put, List.setIfInBounds_toArray, List.set_cons_zero, List.set_cons_succ]
  refine wpAnyH_tk (i := 8) (d := 16) (v := (.int .i64 b)) rfl rfl (by kernel_rfl) (by kernel_rfl) (by kernel_rfl) (fun _ _ _ h => h) (.inl ⟨by rfl, by (intro wq hSw; (try dsimp only at hSw); go_simp; (try (first | rfl | omega)))⟩) hHeld ?_
  simp only [Act.put, List.setIfInBounds_toArray, List.set_cons_zero, List.set_cons_succ]
  refine wpAnyH_tk (i := 9) (d := 17) (v := (.int .i64 E)) rfl rfl (by kernel_rfl) (by kernel_rfl) (by kernel_rfl) (fun _ _ _ h => h) (.inl ⟨by rfl, by (intro wq hSw; (try dsimp only at hSw); go_simp; (try (first | rfl | omega)))⟩) hHeld ?_
  simp only [Act.put, List.setIfInBounds_toArray, List.set_cons_zero, List.set_cons_succ]
  refine wpAnyH_tk (i := 10) (d := 5) (v := (.int .i64 a)) rfl rfl (by kernel_rfl) (by kernel_rfl) (by kernel_rfl) (fun _ _ _ h => h) (.inl ⟨by rfl, by (intro wq hSw; (try dsimp only at hSw); go_simp; (try (first | rfl | omega)))⟩) hHeld ?_
  simp only [Act.put, List.setIfInBounds_toArray, List.set_cons_zero, List.set_cons_succ]
  refine wpAnyH_tk (i := 11) (d := 6) (v := (.int .i64 b)) rfl rfl (by kernel_rfl) (by kernel_rfl) (by kernel_rfl) (fun _ _ _ h => h) (.inl ⟨by rfl, by (intro wq hSw; (try dsimp only at hSw); go_simp; (try (first | rfl | omega)))⟩) hHeld ?_
  simp only [Act.put, List.setIfInBounds_toArray, List.set_cons_zero, List.set_cons_succ]
  refine wpAnyH_tk (i := 12) (d := 7) (v := (.int .i64 E)) rfl rfl (by kernel_rfl) (by kernel_rfl) (by kernel_rfl) (fun _ _ _ h => h) (.inl ⟨by rfl, by (intro wq hSw; (try dsimp only at hSw); go_simp; (try (first | rfl | omega)))⟩) hHeld ?_
  simp only [Act.put, List.setIfInBounds_toArray, List.set_cons_zero, List.set_cons_succ]
  refine wpAnyH_done (by kernel_rfl) ?_ _
  have HB5 : Hid (Below W.heap.size W w5) := hb5
  obtain ⟨c0', c1'⟩ := HCC.out w5 hb5
  have c2 := HPD.out w5 hb5
  have hw1 : IntKind.i64.wrap (vd * b) = vd * b := by
    have : (vd * b).natAbs ≤ 20 * 80000000 := by rw [Int.natAbs_mul]; exact Nat.mul_le_mul hvd hbb
    rw [IntKind.wrap_i64]; omega
  have HAN : Hid ((decide (E = 7) || decide (vd * b < a)) = gaC d rows p) := hans
  clear hHeld hb5 hbv hans c0 c1
  by_cases h7 : E = 7
  · subst h7
    go_wp2
    go_ret
    refine ⟨?_, HBW.out _ HB5.out⟩
    rw [← HAN.out]
    simp
  · have h7b : decide (E = 7) = false := by simpa using h7
    have h7c : (E == 7) = false := by simpa using h7
    go_wp2
    go_ret
    refine ⟨?_, HBW.out _ HB5.out⟩
    rw [← HAN.out]
    simp [h7]

end Go.Proofs.YtgfnmkenpgnllaaGreat
