/- facetref.around: what it says. -/
import Derived.Test.YtkdileeahbaobaaDoorGpA
import Derived.Test.YtkdileeahbaobaaDoorAp1
namespace Go.Proofs.YtkdileeahbaobaaDoor
open Go.RowKit
attribute [local go_sem ↓] Go.wp_at_zero Go.wp_at_succ

theorem lw_if (q : Nat → Nat) (a b : Nat) : (q a < q b → lw q a b = fun v => if v = b then q a else q v) ∧ (¬ q a < q b → lw q a b = fun v => if v = a then q b else q v) := by
  constructor
  · intro h; funext v; unfold lw; rw [if_pos h]
  · intro h; funext v; unfold lw; rw [if_neg h]

set_option maxRecDepth 100000 in
set_option maxHeartbeats 1600000 in
theorem around_is (nodes s : Nat) (es : List (Nat × Nat)) (v : Value) (w : World) (he : Eds w.heap.size w v es) (hes : ∀ e ∈ es, e.1 < nodes ∧ e.2 < nodes) (hs : s < 2 ^ es.length) (hm : es.length ≤ 8) (hn : nodes ≤ 16) :
    Calls Tryd.prog 27 #[.int .i64 nodes, v, .int .i64 s] w fun e w' => e = .returned (.bool (!fsB (pkE es s) fun v => v)) ∧ Below w.heap.size w w' := by
  obtain ⟨po, ec, rfl, hec⟩ := he
  have hs8 : s < 256 := Nat.lt_of_lt_of_le hs (show 2 ^ es.length ≤ 2 ^ 8 from Nat.pow_le_pow_right (by omega) hm)
  have HM : Hid (Calls Tryd.prog 11 #[.int .i64 s] w fun e w' => ∃ uo uc, e = .returned (.slice uo (mem8 s).length uc) ∧ Sl 0 3 w' (.slice uo (mem8 s).length uc) (ints (mem8 s)) ∧ Below w.heap.size w w') := (members8_any s w hs8).mono (by
    rintro e w' ⟨u, rfl, h1, h2⟩
    obtain ⟨uo, uc, rfl⟩ := owns_form h1
    exact ⟨uo, uc, rfl, Sl.own h1, h2⟩)
  have HI : Hid (∀ z ∈ mem8 s, ∃ i : Nat, z = (i : Int) ∧ i < es.length) := fun z hz => by
    obtain ⟨i, _, h2, rfl⟩ := mem8_iff.1 hz
    exact ⟨i, rfl, bit_lt hs h2⟩
  have HFS : Hid (fsB (pkE es s) (fun v => v) = true ↔ nodes - arN nodes (pkE es s) = (mem8 s).length) := by
    have h := (fs_ar (pkE_lt hs hes)).2
    rw [pkE_len] at h
    exact h
  have HPG : Hid (∀ t x : Nat, t < (mem8 s).length → (mem8 s).getD t 0 = (x : Int) → (pkE es s).getD t (0, 0) = es.getD x (0, 0)) := fun t x ht hx => by
    rw [pkE_getD es s t ht, hx]; rfl
  have HPL : Hid ((pkE es s).length = (mem8 s).length) := pkE_len es s
  have HE : Hid (∀ W', Below w.heap.size w W' → ∀ i, i < es.length → ∃ eb eo, ∃ a b : Nat, es.getD i (0, 0) = (a, b) ∧ po = some ⟨eb, eo, none⟩ ∧ a < nodes ∧ b < nodes ∧ W'.cell? ⟨eb, eo + i * 2, none⟩ = some (.int .i64 a) ∧ W'.cell? ⟨eb, eo + i * 2 + 1, none⟩ = some (.int .i64 b)) := fun W' h i hi => by
    obtain ⟨eb, eo, h1, h2, h3, h4⟩ := hec i hi
    have hm := hes (es.getD i (0, 0)) (by simp [hi])
    exact ⟨eb, eo, _, _, rfl, h1, hm.1, hm.2, (h.cell h2).trans h3, (h.cell h2).trans h4⟩
  obtain ⟨m, hmm⟩ : ∃ m, m = es.length := ⟨_, rfl⟩
  rw [← hmm] at HI HE hm ⊢
  generalize hP : pkE es s = P at *
  have hml := mem8_len s
  generalize mem8 s = M at *
  have hmk : ∀ w : World, (Instr.makeSlice 22 (.int .i64 (nodes : Int)) (.int .i64 (nodes : Int))).run Tryd.prog w = .ok (.slice (some ⟨w.heap.size, 0, none⟩) nodes nodes) (w.alloc (.cells (madeCells #[.int .i64 0] nodes) 3)) := run_make_row' (P := Tryd.prog) 22 3 (.int .i64 0) 8 Tryd.underlying22 Tryd.info3 rfl .i64 .i64 nodes (by omega) (by omega)
  clear hec hs hs8 hes
  go_enter Tryd.func27, Tryd.ntmps27
  go_wp2_with fail
  refine HM.out.mono ?_
  rintro e w1 ⟨mo, mc, rfl, hs1, hb1⟩
  have HB1 : Hid (Below w.heap.size w w1) := hb1
  have HS1 : Hid (Sl 0 3 w1 (.slice mo M.length mc) (ints M)) := hs1
  clear hs1 hb1 HM
  obtain ⟨W1, hW1⟩ : ∃ W1, W1 = w1.alloc (.cells (madeCells #[.int .i64 0] nodes) 3) := ⟨_, rfl⟩
  have HR0 : Hid (W1.rowIs w1.heap.size 3 nodes (fun _ => .int .i64 0)) := by rw [hW1]; exact World.rowIs_made w1 (.int .i64 0) nodes 3
  have HBW1 : Hid (Below w1.heap.size w1 W1) := by rw [hW1]; exact (Below.refl _ _).alloc (Nat.le_refl _) _
  have HKP : Hid (∀ W', Below w1.heap.size w1 W' → Sl 0 3 W' (.slice mo M.length mc) (ints M) ∧ Below w.heap.size w W') := fun W' h => ⟨HS1.out.below h (Nat.le_refl _), HB1.out.trans (h.mono HB1.out.size)⟩
  have HST : Hid (∀ W' (f : Nat → Nat) (i z : Nat), W'.rowIs w1.heap.size 3 nodes (fun i => .int .i64 (f i)) → Below w1.heap.size w1 W' → ((W'.setCell ⟨w1.heap.size, i, none⟩ (.int .i64 z)).rowIs w1.heap.size 3 nodes (fun j => .int .i64 ((if j = i then z else f j : Nat)))) ∧ Below w1.heap.size w1 (W'.setCell ⟨w1.heap.size, i, none⟩ (.int .i64 z))) := fun W' f i z hr hb => by
    refine ⟨(hr.set i (.int .i64 z)).congr fun j _ => ?_, ⟨hb.os, hb.tape, hb.output, by simp only [World.setCell, Array.size_modify]; exact hb.size, fun b hbb => (Below.heap_setCell _ _ _ _ (by show b ≠ w1.heap.size; omega)).trans (hb.block b hbb)⟩⟩
    by_cases h : j = i
    · simp [h]
    · simp [h]
  go_wp2
  rw [← hW1]
  clear hW1 hmk
  go_loopw [9] (fun x wr => ∃ k : Nat, k ≤ nodes ∧ x = .int .i64 k ∧ (∃ f : Nat → Nat, (∀ i, i < k → f i = i) ∧ wr.rowIs w1.heap.size 3 nodes (fun i => .int .i64 (f i))) ∧ Below w1.heap.size w1 wr) (fun x _ => nodes - (intOf x).toNat)
  case atStart => exact ⟨0, Nat.zero_le _, rfl, ⟨fun _ => 0, fun i hi => by omega, HR0.out⟩, HBW1.out⟩
  case round =>
    obtain ⟨k, hk, rfl, ⟨f, hfi, hrw⟩, hbr⟩ := hrel
    have HFI : Hid (∀ i, i < k → f i = i) := hfi
    clear hfi
    have HRW : Hid (wr.rowIs w1.heap.size 3 nodes (fun i => .int .i64 (f i))) := hrw
    have HBR : Hid (Below w1.heap.size w1 wr) := hbr
    clear hrw hbr
    by_cases hlt : k < nodes
    · have c1 := HRW.out.cell hlt
      have c2 := HRW.out.frozen k
      have kI : (k : Int) < (nodes : Int) := by omega
      have kI0 : (0 : Int) ≤ (k : Int) := by omega
      have HN := HST.out wr f k k HRW.out HBR.out
      have HN1 : Hid (∃ f : Nat → Nat, (∀ i, i < k + 1 → f i = i) ∧ (wr.setCell ⟨w1.heap.size, k, none⟩ (.int .i64 k)).rowIs w1.heap.size 3 nodes (fun i => .int .i64 (f i))) := ⟨_, fun i hi => by
        by_cases c : i = k
        · rw [if_pos c, c]
        · rw [if_neg c]; exact HFI.out i (by omega), HN.1⟩
      have HN2 : Hid (Below w1.heap.size w1 (wr.setCell ⟨w1.heap.size, k, none⟩ (.int .i64 k))) := HN.2
      clear HN
      go_wp2
      exact ⟨⟨k + 1, by omega, by go_num, HN1.out, HN2.out⟩, by simp [intOf]; omega⟩
    · have hke : nodes = k := by omega
      subst hke
      clear hlt
      have HRI : Hid (wr.rowIs w1.heap.size 3 nodes (fun i => .int .i64 (rnd P 0 (fun v => v) i : Nat))) := HRW.out.congr fun i hi => by rw [HFI.out i hi]; rfl
      clear HRW HFI
      go_wp2
      go_loopw [10] (fun x wr => ∃ k : Nat, k ≤ nodes ∧ x = .int .i64 k ∧ wr.rowIs w1.heap.size 3 nodes (fun i => .int .i64 (rnd P k (fun v => v) i : Nat)) ∧ Below w1.heap.size w1 wr) (fun x _ => nodes - (intOf x).toNat)
      case atStart => exact ⟨0, Nat.zero_le _, rfl, HRI.out, HBR.out⟩
      case round =>
        obtain ⟨k, hk, rfl, hrw, hbr⟩ := hrel
        have HRK : Hid (wr.rowIs w1.heap.size 3 nodes (fun i => .int .i64 (rnd P k (fun v => v) i : Nat))) := hrw
        have HBK : Hid (Below w1.heap.size w1 wr) := hbr
        clear hrw hbr HRI HBR
        obtain ⟨wk, rfl⟩ : ∃ wk, wk = wr := ⟨wr, rfl⟩
        by_cases hlt : k < nodes
        · have kI : (k : Int) < (nodes : Int) := by omega
          have HRD1 : Hid (lws P (rnd P k fun v => v) = rnd P (k + 1) fun v => v) := rfl
          generalize hk1 : rnd P (k + 1) (fun v => v) = rk1 at *
          have HK1 : Hid (rnd P (k + 1) (fun v => v) = rk1) := hk1
          clear hk1
          generalize rnd P k (fun v => v) = rk at *
          go_wp2
          go_loopw [11] (fun x wr => ∃ t : Nat, t ≤ M.length ∧ x = .int .i64 t ∧ wr.rowIs w1.heap.size 3 nodes (fun i => .int .i64 (lws (P.take t) rk i : Nat)) ∧ Below w1.heap.size w1 wr) (fun x _ => M.length - (intOf x).toNat)
          case atStart => exact ⟨0, Nat.zero_le _, rfl, HRK.out, HBK.out⟩
          case round =>
            obtain ⟨t, ht, rfl, hrw, hbr⟩ := hrel
            have HRT : Hid (wr.rowIs w1.heap.size 3 nodes (fun i => .int .i64 (lws (P.take t) rk i : Nat))) := hrw
            have HBT : Hid (Below w1.heap.size w1 wr) := hbr
            clear hrw hbr HRK HBK
            obtain ⟨wt, rfl⟩ : ∃ wt, wt = wr := ⟨wr, rfl⟩
            by_cases htl : t < M.length
            · obtain ⟨mb, mq, _, hs, _, hcm⟩ := sl_cell (HKP.out wt HBT.out).1 htl
              simp only [Value.slice.injEq] at hs
              obtain ⟨rfl, -, -⟩ := hs
              obtain ⟨x, hx, hxm⟩ := HI.out (M.getD t 0) (by simp [htl])
              rw [hx] at hcm
              obtain ⟨eb, eo, a, b, hgd, hpo, ha, hb, hca, hcb⟩ := HE.out wt (HKP.out wt HBT.out).2 x hxm
              have HLT : Hid (lws (P.take (t + 1)) rk = lw (lws (P.take t) rk) a b) := by
                have h := lws_take (l := P) rk (t := t) (by rw [HPL.out]; exact htl)
                rw [HPG.out t x htl hx, hgd] at h
                exact h
              generalize hf1 : lws (P.take (t + 1)) rk = f1 at *
              have HF1 : Hid (lws (P.take (t + 1)) rk = f1) := hf1
              clear hf1
              generalize lws (P.take t) rk = f at *
              subst hpo
              have pa := HRT.out.cell ha
              have pb := HRT.out.cell hb
              have fa := HRT.out.frozen a
              have fb := HRT.out.frozen b
              have HRD : Hid (wt.drew.rowIs w1.heap.size 3 nodes (fun i => .int .i64 (f i))) := HRT.out
              have HBD : Hid (Below w1.heap.size w1 wt.drew) := ⟨HBT.out.os, HBT.out.tape, HBT.out.output, HBT.out.size, HBT.out.block⟩
              have HNA := HST.out wt.drew f b (f a) HRD.out HBD.out
              have HNB := HST.out wt.drew f a (f b) HRD.out HBD.out
              have HIF := lw_if f a b
              rw [← HLT.out] at HIF
              have HA1 : Hid (f a < f b → (wt.drew.setCell ⟨w1.heap.size, b, none⟩ (.int .i64 (f a))).rowIs w1.heap.size 3 nodes (fun i => .int .i64 (f1 i))) := fun h => by rw [HIF.1 h]; exact HNA.1
              have HA2 : Hid (Below w1.heap.size w1 (wt.drew.setCell ⟨w1.heap.size, b, none⟩ (.int .i64 (f a)))) := HNA.2
              have HB1' : Hid (¬ f a < f b → (wt.drew.setCell ⟨w1.heap.size, a, none⟩ (.int .i64 (f b))).rowIs w1.heap.size 3 nodes (fun i => .int .i64 (f1 i))) := fun h => by rw [HIF.2 h]; exact HNB.1
              have HB2' : Hid (Below w1.heap.size w1 (wt.drew.setCell ⟨w1.heap.size, a, none⟩ (.int .i64 (f b)))) := HNB.2
              clear HIF HNA HNB HLT hgd
              generalize f a = X at *
              generalize f b = Y at *
              have tI : (t : Int) < (M.length : Int) := by omega
              have tI0 : (0 : Int) ≤ (t : Int) := by omega
              have xI : (x : Int) < (m : Int) := by omega
              have xI0 : (0 : Int) ≤ (x : Int) := by omega
              have aI : (a : Int) < (nodes : Int) := by omega
              have aI0 : (0 : Int) ≤ (a : Int) := by omega
              have bI : (b : Int) < (nodes : Int) := by omega
              have bI0 : (0 : Int) ≤ (b : Int) := by omega
              clear hx
              by_cases hXY : X < Y
              · have t1 : decide ((X : Int) < (Y : Int)) = true := decide_eq_true (by omega)
                have t0 : (X : Int) < (Y : Int) := by omega
                go_wp2
                refine wp_region_held_drew (S := fun w' => w'.cell? ⟨w1.heap.size, a, none⟩ = some (.int .i64 X) ∧ w'.cell? ⟨w1.heap.size, b, none⟩ = some (.int .i64 Y)) (by kernel_rfl) ⟨pa, pb⟩ (fun hHeld => ?_)
                refine wpAnyH_tk (i := 0) (d := 56) (v := (.slice (some ⟨w1.heap.size, 0, none⟩) nodes nodes)) rfl rfl (by kernel_rfl) (by kernel_rfl) (by kernel_rfl) (fun _ _ _ h => h) (.inl ⟨by rfl, by (intro wq hSw; (try dsimp only at hSw); go_simp; (try (first | rfl | omega)))⟩) hHeld ?_
                simp only [Act.put, List.setIfInBounds_toArray, List.set_cons_zero, List.set_cons_succ]
                refine wpAnyH_tk (i := 1) (d := 57) (v := (.int .i64 a)) rfl rfl (by kernel_rfl) (by kernel_rfl) (by kernel_rfl) (fun _ _ _ h => h) (.inl ⟨by rfl, by (intro wq hSw; (try dsimp only at hSw); go_simp; (try (first | rfl | omega)))⟩) hHeld ?_
                simp only [Act.put, List.setIfInBounds_toArray, List.set_cons_zero, List.set_cons_succ]
                refine wpAnyH_tk (i := 2) (d := 58) (v := (.pointer (some ⟨w1.heap.size, a, none⟩))) rfl rfl (by kernel_rfl) (by kernel_rfl) (by kernel_rfl) (fun _ _ _ h => h) (.inl ⟨by rfl, by (intro wq hSw; (try dsimp only at hSw); go_simp; (try (first | rfl | omega)))⟩) hHeld ?_
                simp only [Act.put, List.setIfInBounds_toArray, List.set_cons_zero, List.set_cons_succ]
                refine wpAnyH_tk (i := 3) (d := 59) (v := (.int .i64 X)) rfl rfl (by kernel_rfl) (by kernel_rfl) (by kernel_rfl) (fun _ _ _ h => h) (.inl ⟨by rfl, by (intro wq hSw; (try dsimp only at hSw); go_simp; (try (first | rfl | omega)))⟩) hHeld ?_
                simp only [Act.put, List.setIfInBounds_toArray, List.set_cons_zero, List.set_cons_succ]
                refine wpAnyH_tk (i := 4) (d := 60) (v := (.slice (some ⟨w1.heap.size, 0, none⟩) nodes nodes)) rfl rfl (by kernel_rfl) (by kernel_rfl) (by kernel_rfl) (fun _ _ _ h => h) (.inl ⟨by rfl, by (intro wq hSw; (try dsimp only at hSw); go_simp; (try (first | rfl | omega)))⟩) hHeld ?_
                simp only [Act.put, List.setIfInBounds_toArray, List.set_cons_zero, List.set_cons_succ]
                refine wpAnyH_tk (i := 5) (d := 61) (v := (.int .i64 b)) rfl rfl (by kernel_rfl) (by kernel_rfl) (by kernel_rfl) (fun _ _ _ h => h) (.inl ⟨by rfl, by (intro wq hSw; (try dsimp only at hSw); go_simp; (try (first | rfl | omega)))⟩) hHeld ?_
                simp only [Act.put, List.setIfInBounds_toArray, List.set_cons_zero, List.set_cons_succ]
                refine wpAnyH_tk (i := 6) (d := 62) (v := (.pointer (some ⟨w1.heap.size, b, none⟩))) rfl rfl (by kernel_rfl) (by kernel_rfl) (by kernel_rfl) (fun _ _ _ h => h) (.inl ⟨by rfl, by (intro wq hSw; (try dsimp only at hSw); go_simp; (try (first | rfl | omega)))⟩) hHeld ?_
                simp only [Act.put, List.setIfInBounds_toArray, List.set_cons_zero, List.set_cons_succ]
                refine wpAnyH_tk (i := 7) (d := 63) (v := (.int .i64 Y)) rfl rfl (by kernel_rfl) (by kernel_rfl) (by kernel_rfl) (fun _ _ _ h => h) (.inl ⟨by rfl, by (intro wq hSw; (try dsimp only at hSw); go_simp; (try (first | rfl | omega)))⟩) hHeld ?_
                simp only [Act.put, List.setIfInBounds_toArray, List.set_cons_zero, List.set_cons_succ]
                refine wpAnyH_tk (i := 8) (d := 64) (v := (.bool true)) rfl rfl (by kernel_rfl) (by kernel_rfl) (by kernel_rfl) (fun _ _ _ h => h) (.inl ⟨by rfl, by (intro wq hSw; (try dsimp only at hSw); go_simp; (try (first | rfl | omega)))⟩) hHeld ?_
                simp only [Act.put, List.setIfInBounds_toArray, List.set_cons_zero, List.set_cons_succ]
                refine wpAnyH_done (by kernel_rfl) ?_ _
                clear hHeld
                go_wp2
                exact ⟨⟨t + 1, by omega, by go_num, by rw [HF1.out]; exact HA1.out hXY, HA2.out⟩, by simp [intOf]; omega⟩
              · have t1 : decide ((X : Int) < (Y : Int)) = false := decide_eq_false (by omega)
                have t2 : (Y : Int) ≤ (X : Int) := by omega
                go_wp2
                refine wp_region_held_drew (S := fun w' => w'.cell? ⟨w1.heap.size, a, none⟩ = some (.int .i64 X) ∧ w'.cell? ⟨w1.heap.size, b, none⟩ = some (.int .i64 Y)) (by kernel_rfl) ⟨pa, pb⟩ (fun hHeld => ?_)
                refine wpAnyH_tk (i := 0) (d := 56) (v := (.slice (some ⟨w1.heap.size, 0, none⟩) nodes nodes)) rfl rfl (by kernel_rfl) (by kernel_rfl) (by kernel_rfl) (fun _ _ _ h => h) (.inl ⟨by rfl, by (intro wq hSw; (try dsimp only at hSw); go_simp; (try (first | rfl | omega)))⟩) hHeld ?_
                simp only [Act.put, List.setIfInBounds_toArray, List.set_cons_zero, List.set_cons_succ]
                refine wpAnyH_tk (i := 1) (d := 57) (v := (.int .i64 a)) rfl rfl (by kernel_rfl) (by kernel_rfl) (by kernel_rfl) (fun _ _ _ h => h) (.inl ⟨by rfl, by (intro wq hSw; (try dsimp only at hSw); go_simp; (try (first | rfl | omega)))⟩) hHeld ?_
                simp only [Act.put, List.setIfInBounds_toArray, List.set_cons_zero, List.set_cons_succ]
                refine wpAnyH_tk (i := 2) (d := 58) (v := (.pointer (some ⟨w1.heap.size, a, none⟩))) rfl rfl (by kernel_rfl) (by kernel_rfl) (by kernel_rfl) (fun _ _ _ h => h) (.inl ⟨by rfl, by (intro wq hSw; (try dsimp only at hSw); go_simp; (try (first | rfl | omega)))⟩) hHeld ?_
                simp only [Act.put, List.setIfInBounds_toArray, List.set_cons_zero, List.set_cons_succ]
                refine wpAnyH_tk (i := 3) (d := 59) (v := (.int .i64 X)) rfl rfl (by kernel_rfl) (by kernel_rfl) (by kernel_rfl) (fun _ _ _ h => h) (.inl ⟨by rfl, by (intro wq hSw; (try dsimp only at hSw); go_simp; (try (first | rfl | omega)))⟩) hHeld ?_
                simp only [Act.put, List.setIfInBounds_toArray, List.set_cons_zero, List.set_cons_succ]
                refine wpAnyH_tk (i := 4) (d := 60) (v := (.slice (some ⟨w1.heap.size, 0, none⟩) nodes nodes)) rfl rfl (by kernel_rfl) (by kernel_rfl) (by kernel_rfl) (fun _ _ _ h => h) (.inl ⟨by rfl, by (intro wq hSw; (try dsimp only at hSw); go_simp; (try (first | rfl | omega)))⟩) hHeld ?_
                simp only [Act.put, List.setIfInBounds_toArray, List.set_cons_zero, List.set_cons_succ]
                refine wpAnyH_tk (i := 5) (d := 61) (v := (.int .i64 b)) rfl rfl (by kernel_rfl) (by kernel_rfl) (by kernel_rfl) (fun _ _ _ h => h) (.inl ⟨by rfl, by (intro wq hSw; (try dsimp only at hSw); go_simp; (try (first | rfl | omega)))⟩) hHeld ?_
                simp only [Act.put, List.setIfInBounds_toArray, List.set_cons_zero, List.set_cons_succ]
                refine wpAnyH_tk (i := 6) (d := 62) (v := (.pointer (some ⟨w1.heap.size, b, none⟩))) rfl rfl (by kernel_rfl) (by kernel_rfl) (by kernel_rfl) (fun _ _ _ h => h) (.inl ⟨by rfl, by (intro wq hSw; (try dsimp only at hSw); go_simp; (try (first | rfl | omega)))⟩) hHeld ?_
                simp only [Act.put, List.setIfInBounds_toArray, List.set_cons_zero, List.set_cons_succ]
                refine wpAnyH_tk (i := 7) (d := 63) (v := (.int .i64 Y)) rfl rfl (by kernel_rfl) (by kernel_rfl) (by kernel_rfl) (fun _ _ _ h => h) (.inl ⟨by rfl, by (intro wq hSw; (try dsimp only at hSw); go_simp; (try (first | rfl | omega)))⟩) hHeld ?_
                simp only [Act.put, List.setIfInBounds_toArray, List.set_cons_zero, List.set_cons_succ]
                refine wpAnyH_tk (i := 8) (d := 64) (v := (.bool false)) rfl rfl (by kernel_rfl) (by kernel_rfl) (by kernel_rfl) (fun _ _ _ h => h) (.inl ⟨by rfl, by (intro wq hSw; (try dsimp only at hSw); go_simp; (try (first | rfl | omega)))⟩) hHeld ?_
                simp only [Act.put, List.setIfInBounds_toArray, List.set_cons_zero, List.set_cons_succ]
                refine wpAnyH_done (by kernel_rfl) ?_ _
                clear hHeld
                go_wp2
                exact ⟨⟨t + 1, by omega, by go_num, by rw [HF1.out]; exact HB1'.out hXY, HB2'.out⟩, by simp [intOf]; omega⟩
            · have hte : t = M.length := by omega
              subst hte
              have HRZ : Hid (wt.rowIs w1.heap.size 3 nodes (fun i => .int .i64 (rk1 i))) := by
                have h := HRT.out
                rw [← HPL.out, List.take_length, HRD1.out] at h
                exact h
              go_wp2
              exact ⟨⟨k + 1, by omega, by go_num, by rw [HK1.out]; exact HRZ.out, HBT.out⟩, by simp [intOf]; omega⟩
        · have hke : nodes = k := by omega
          subst hke
          go_wp2
          have HOW : Hid (owN (rnd P nodes fun v => v) nodes = arN nodes P) := rfl
          generalize rnd P nodes (fun v => v) = f at *
          go_loopw [14, 15] (fun c x wr => ∃ t : Nat, t ≤ nodes ∧ x = .int .i64 t ∧ c = .int .i64 (owN f t) ∧ wr = wk) (fun _ x _ => nodes - (intOf x).toNat)
          case atStart => exact ⟨0, Nat.zero_le _, rfl, rfl, rfl⟩
          case round =>
            obtain ⟨t, ht, rfl, rfl, rfl⟩ := hrel
            have hq := owN_le f t
            by_cases htl : t < nodes
            · have ct := HRK.out.cell htl
              have tI : (t : Int) < (nodes : Int) := by omega
              have tI0 : (0 : Int) ≤ (t : Int) := by omega
              have HSC : Hid (owN f (t + 1) = owN f t + if f t = t then 1 else 0) := owN_succ f t
              generalize hq1 : owN f (t + 1) = q1 at *
              have HQQ : Hid (owN f (t + 1) = q1) := hq1
              clear hq1
              generalize owN f t = q at *
              have w1' : IntKind.i64.wrap ((q : Int) + 1) = (q : Int) + 1 := wrap_small (a := q + 1) (by omega)
              by_cases heq : f t = t
              · have t1 : ((f t : Int) == (t : Int)) = true := by rw [heq]; simp
                have HQ1 : Hid (q1 = q + 1) := by show _ = _; rw [HSC.out, if_pos heq]
                generalize f t = ft at *
                clear heq HSC
                go_wp2
                exact ⟨⟨t + 1, by omega, by go_num, by rw [HQQ.out, HQ1.out]; go_num, trivial⟩, by simp [intOf]; omega⟩
              · have t1 : ((f t : Int) == (t : Int)) = false := by rw [beq_eq_false_iff_ne]; omega
                have HQ1 : Hid (q1 = q) := by show _ = _; rw [HSC.out, if_neg heq]; rfl
                generalize f t = ft at *
                clear heq HSC
                go_wp2
                exact ⟨⟨t + 1, by omega, by go_num, by rw [HQQ.out, HQ1.out], trivial⟩, by simp [intOf]; omega⟩
            · have hte : nodes = t := by omega
              subst hte
              have HBZ : Hid (Below w.heap.size w wr) := (HKP.out wr HBK.out).2
              rw [← HOW.out] at HFS
              generalize owN f nodes = q at *
              have w2' : IntKind.i64.wrap ((nodes : Int) - (q : Int)) = (nodes : Int) - (q : Int) := by
                have h : ((nodes - q : Nat) : Int) = (nodes : Int) - (q : Int) := by omega
                rw [← h]; exact wrap_small (by omega)
              have HRS : Hid (((nodes : Int) - (q : Int) != (M.length : Int)) = !fsB P fun v => v) := by
                show _ = _
                have h := HFS.out
                cases hc : fsB P (fun v => v)
                · rw [hc] at h
                  have : ¬ (nodes - q = M.length) := fun e => by simpa using h.2 e
                  simp only [bne_iff_ne, Bool.not_false, ne_eq]; omega
                · rw [hc] at h
                  have := h.1 rfl
                  have e : (nodes : Int) - (q : Int) = (M.length : Int) := by omega
                  simp [e]
              clear HFS
              go_wp2
              go_ret
              refine ⟨?_, HBZ.out⟩
              rw [← HRS.out]
              rfl

end Go.Proofs.YtkdileeahbaobaaDoor
