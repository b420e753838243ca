/- facetref.GreedyOf. -/
import Derived.Test.YtkimhomkeneddaaDoorMt16
import Derived.Test.YtkimhomkeneddaaDoorTk1
import Derived.Deep.OwnRows
namespace Go.Proofs.YtkimhomkeneddaaDoor
open Go.RowKit
attribute [local go_sem ↓] Go.wp_at_zero Go.wp_at_succ

theorem dn_succ {ws : List Int} {k b : Nat} (hk : k < ws.length) (hb : (hvL ws).getD k 0 = (b : Int)) (i : Nat) : dnB ws (k + 1) i = if i = b then true else dnB ws k i := by
  have hl := (hvL_keep ws).1
  have e : (hvL ws)[k]'(by omega) = (b : Int) := by rw [← hb]; simp [show k < (hvL ws).length by omega]
  unfold dnB
  rw [List.take_succ_eq_append_getElem (by omega), List.contains_append, e]
  by_cases h : i = b
  · subst h; simp
  · rw [if_neg h]
    have : [(b : Int)].contains (i : Int) = false := by
      simp only [List.contains_cons, List.contains_nil, Bool.or_false, beq_eq_false_iff_ne]
      omega
    rw [this, Bool.or_false]

theorem best_done {ws : List Int} {k i : Nat} {bv : Int} (h : BestR ws k i bv) (hd : dnB ws k i = true) : BestR ws k (i + 1) bv := by
  rcases h with ⟨h1, h2⟩ | ⟨b, h1, h2, h3, h4⟩
  · exact .inl ⟨h1, fun j hj => by
      by_cases e : j = i
      · rw [e]; exact hd
      · exact h2 j (by omega)⟩
  · exact .inr ⟨b, h1, by omega, h3, fun j hj hjd hjb => h4 j (by
      have : j ≠ i := fun e => by rw [e, hd] at hjd; cases hjd
      omega) hjd hjb⟩

theorem best_first {ws : List Int} {k i : Nat} (h : BestR ws k i (-1)) (hd : dnB ws k i = false) : BestR ws k (i + 1) i := by
  rcases h with ⟨_, h2⟩ | ⟨b, h1, _⟩
  · exact .inr ⟨i, rfl, by omega, hd, fun j hj hjd hji => by
      rw [h2 j (by omega)] at hjd
      cases hjd⟩
  · omega

theorem best_new {ws : List Int} {k i b : Nat} (h : BestR ws k i b) (hd : dnB ws k i = false) (hw : ws.getD b 0 < ws.getD i 0) : BestR ws k (i + 1) i := by
  rcases h with ⟨h1, _⟩ | ⟨b', h1, h2, h3, h4⟩
  · omega
  · have : b = b' := by omega
    subst this
    refine .inr ⟨i, rfl, by omega, hd, fun j hj hjd hji => ?_⟩
    by_cases hjb : j = b
    · rw [hjb]; exact .inl (by simpa using hw)
    · exact Bf.trans (b := (b : Int)) (.inl (by simpa using hw)) (h4 j (by omega) hjd hjb)

theorem best_old {ws : List Int} {k i b : Nat} (h : BestR ws k i b) (hw : ¬ ws.getD b 0 < ws.getD i 0) : BestR ws k (i + 1) b := by
  rcases h with ⟨h1, _⟩ | ⟨b', h1, h2, h3, h4⟩
  · omega
  · have : b = b' := by omega
    subst this
    refine .inr ⟨b, rfl, by omega, h3, fun j hj hjd hji => ?_⟩
    by_cases hjb : j = i
    · subst hjb
      unfold Bf
      simp only [Int.toNat_natCast]
      omega
    · exact h4 j (by omega) hjd hji

set_option maxRecDepth 100000 in
set_option maxHeartbeats 1600000 in
theorem gof_any (bs ws : List Int) (v wv : Value) (w : World) (hv : Sl w.heap.size 3 w v (ints bs)) (hwv : Sl w.heap.size 3 w wv (ints ws)) (h8 : B8 bs) (hn : ws.length ≤ 8) (hfar : ws.any (farB · 1000) = false) :
    Calls Tryd.prog 6 #[.agg #[.int .i64 ws.length, v], wv] w fun e w' => e = .returned (.tuple #[.int .i64 ((grT bs ws (hvL ws) ws.length).1 : Int), .int .i64 (grT bs ws (hvL ws) ws.length).2]) ∧ Below w.heap.size w w' := by
  obtain ⟨ao, cap, hvv, hlc, hcm⟩ := sl_open hv
  subst hvv
  obtain ⟨wo, wc, hwvv, hwlc, hwcm⟩ := sl_open hwv
  subst hwvv
  obtain ⟨N, hN⟩ : ∃ N, N = ws.length := ⟨_, rfl⟩
  have HN : Hid (N = ws.length) := hN
  obtain ⟨W, hW⟩ : ∃ W, W = w.alloc (.cells #[.int .i64 N, .slice ao bs.length cap] 24) := ⟨_, rfl⟩
  have HBA : Hid (Below w.heap.size w W) := by rw [hW]; exact (Below.refl _ _).alloc (Nat.le_refl _) _
  have c0 : W.cell? ⟨w.heap.size, 0, none⟩ = some (.int .i64 N) := by rw [hW]; simp
  have c1 : W.cell? ⟨w.heap.size, 1, none⟩ = some (.slice ao bs.length cap) := by rw [hW]; simp
  have HC : Hid (∀ W', Below W.heap.size W W' → W'.cell? ⟨w.heap.size, 0, none⟩ = some (.int .i64 N) ∧ W'.cell? ⟨w.heap.size, 1, none⟩ = some (.slice ao bs.length cap) ∧ Sl w.heap.size 3 W' (.slice ao bs.length cap) (ints bs) ∧ Sl w.heap.size 3 W' (.slice wo ws.length wc) (ints ws) ∧ Below w.heap.size w W') := fun W' h =>
    ⟨(h.cell (lt_of_cell c0)).trans c0, (h.cell (lt_of_cell c1)).trans c1, (hv.below HBA.out (Nat.le_refl _)).below h (Nat.le_refl _), (hwv.below HBA.out (Nat.le_refl _)).below h (Nat.le_refl _), HBA.out.trans (h.mono HBA.out.size)⟩
  have HIF : Hid (∀ W' (s : Nat), Below W.heap.size W W' → s < 256 → Calls Tryd.prog 13 #[.agg #[.int .i64 N, .slice ao bs.length cap], .int .i64 s] W' fun e w' => e = .returned (.bool (freeB bs s)) ∧ Below W'.heap.size W' w') := fun W' s h hs =>
    isFree_any N bs s _ W' ((HC.out W' h).2.2.1.more (Nat.le_trans HBA.out.size h.size)) h8 hs
  have HWB : Hid (∀ i : Nat, -1000 ≤ ws.getD i 0 ∧ ws.getD i 0 ≤ 1000) := fun i => by
    by_cases hi : i < ws.length
    · have := List.any_eq_false.1 hfar (ws.getD i 0) (by simp [hi])
      unfold farB at this
      simp only [Bool.not_eq_true, Bool.or_eq_false_iff, decide_eq_false_iff_not] at this
      omega
    · rw [List.getD_eq_getElem?_getD, List.getElem?_eq_none (by omega)]; simp
  have HBD : Hid (∀ k, k ≤ ws.length → (grT bs ws (hvL ws) k).1 < 256 ∧ -1000 * (k : Int) ≤ (grT bs ws (hvL ws) k).2 ∧ (grT bs ws (hvL ws) k).2 ≤ 1000 * (k : Int)) := grT_bd hn (hvL_keep ws).1 (hvL_keep ws).2 HWB.out
  have hmk : ∀ w : World, (Instr.makeSlice 38 (.int .i64 (N : Int)) (.int .i64 (N : Int))).run Tryd.prog w = .ok (.slice (some ⟨w.heap.size, 0, none⟩) N N) (w.alloc (.cells (madeCells #[.bool false] N) 4)) := run_make_row' (P := Tryd.prog) 38 4 (.bool false) 1 Tryd.underlying38 (by kernel_rfl) rfl .i64 .i64 N (by omega) (by omega)
  have hWs : W.heap.size = w.heap.size + 1 := by rw [hW]; simp
  obtain ⟨W1, hW1⟩ : ∃ W1, W1 = W.alloc (.cells (madeCells #[.bool false] N) 4) := ⟨_, rfl⟩
  have HB1 : Hid (Below W.heap.size W W1) := by rw [hW1]; exact (Below.refl _ _).alloc (Nat.le_refl _) _
  have HR1 : Hid (W1.rowIs (w.heap.size + 1) 4 N (fun _ => .bool false)) := by rw [hW1, ← hWs]; exact World.rowIs_made W (.bool false) N 4
  have hN8 : N ≤ 8 := by omega
  rw [← hN]
  clear hv hwv h8 hfar hn hN
  go_enter Tryd.func6, Tryd.ntmps6
  go_wp2_with (rw [← hW])
  rw [← hW1]
  have HWS : Hid (W.heap.size = w.heap.size + 1) := hWs
  clear hmk hW1 hW c0 c1 hWs
  go_loopw [6, 7, 9] (fun sv mv kv wr => ∃ k : Nat, k ≤ N ∧ kv = .int .i64 k ∧ sv = .int .i64 ((grT bs ws (hvL ws) k).1 : Int) ∧ mv = .int .i64 (grT bs ws (hvL ws) k).2 ∧ wr.rowIs (w.heap.size + 1) 4 N (fun i => .bool (dnB ws k i)) ∧ Below W.heap.size W wr) (fun _ _ kv _ => N - (intOf kv).toNat)
  case atStart => exact ⟨0, Nat.zero_le _, rfl, rfl, rfl, HR1.out.congr (fun i hi => by simp [dnB]), HB1.out⟩
  case round =>
    obtain ⟨k, hk, rfl, rfl, rfl, hrw, hbr⟩ := hrel
    have HRW : Hid (wr.rowIs (w.heap.size + 1) 4 N (fun i => .bool (dnB ws k i))) := hrw
    have HBR : Hid (Below W.heap.size W wr) := hbr
    clear hrw hbr HR1 HB1
    obtain ⟨wk, rfl⟩ : ∃ wk, wk = wr := ⟨wr, rfl⟩
    obtain ⟨d0, -, -, -, -⟩ := HC.out wk HBR.out
    by_cases hlt : k < N
    · have kI : (k : Int) < (N : Int) := by omega
      go_wp2
      clear d0
      go_loopw [10, 11] (fun bv iv wr => ∃ (i : Nat) (b : Int), i ≤ N ∧ iv = .int .i64 i ∧ bv = .int .i64 b ∧ BestR ws k i b ∧ Below wk.heap.size wk wr) (fun _ iv _ => N - (intOf iv).toNat)
      case atStart => exact ⟨0, -1, Nat.zero_le _, rfl, rfl, .inl ⟨rfl, fun j hj => by omega⟩, Below.refl _ _⟩
      case round =>
        obtain ⟨i, bv, hi, rfl, rfl, hbe, hbr⟩ := hrel
        have HBE : Hid (BestR ws k i bv) := hbe
        have HBI : Hid (Below wk.heap.size wk wr) := hbr
        clear hbe hbr
        obtain ⟨wi, rfl⟩ : ∃ wi, wi = wr := ⟨wr, rfl⟩
        have HBK : Hid (Below W.heap.size W wi) := HBR.out.trans (HBI.out.mono HBR.out.size)
        obtain ⟨d0, d1, dv, dw, dbw⟩ := HC.out wi HBK.out
        have HBW : Hid (Below w.heap.size w wi) := dbw
        have HDV : Hid (Sl w.heap.size 3 wi (.slice wo ws.length wc) (ints ws)) := dw
        have HRI : Hid (wi.rowIs (w.heap.size + 1) 4 N (fun i => .bool (dnB ws k i))) := HRW.out.of_block (HBI.out.block _ HRW.out.lt)
        have HBJ : Hid (Below wk.heap.size wk wi.drew) := ⟨HBI.out.os, HBI.out.tape, HBI.out.output, HBI.out.size, HBI.out.block⟩
        clear dbw dw dv
        by_cases hil : i < N
        · have hil2 : i < ws.length := by rw [← HN.out]; exact hil
          obtain ⟨wb, wq, _, hs, _, hci⟩ := sl_cell HDV.out hil2
          simp only [Value.slice.injEq] at hs
          obtain ⟨rfl, -, -⟩ := hs
          have hdc := HRI.out.cell hil
          obtain ⟨X, hX⟩ : ∃ X, X = ws.getD i 0 := ⟨_, rfl⟩
          have HX : Hid (X = ws.getD i 0) := hX
          rw [← hX] at hci
          have iI : (i : Int) < (N : Int) := by omega
          have iI0 : (0 : Int) ≤ (i : Int) := by omega
          have iI2 : (i : Int) < (ws.length : Int) := by omega
          clear hX
          cases hdn : dnB ws k i
          · rw [hdn] at hdc
            have HDN : Hid (dnB ws k i = false) := hdn
            clear hdn
            by_cases hbn : bv = -1
            · subst hbn
              have HNX : Hid (BestR ws k (i + 1) i) := best_first HBE.out HDN.out
              clear hil2
              go_wp2
              refine wp_region_held_drew (S := fun w' => w'.cell? ⟨w.heap.size + 1, i, none⟩ = some (.bool false) ∧ w'.cell? ⟨wb, wq + i, none⟩ = some (.int .i64 X)) (by kernel_rfl) ⟨hdc, hci⟩ (fun hHeld => ?_)
              refine wpAnyH_tk (i := 0) (d := 27) (v := (.slice (some ⟨w.heap.size + 1, 0, none⟩) N N)) rfl rfl (by kernel_rfl) (by kernel_rfl) (by kernel_rfl) (fun _ _ _ h => h) (.inl ⟨by rfl, by (intro wq hSw; (try dsimp only at hSw); go_simp)⟩) hHeld ?_
              simp only [Act.put, List.setIfInBounds_toArray, List.set_cons_zero, List.set_cons_succ]
              refine wpAnyH_tk (i := 1) (d := 28) (v := (.int .i64 i)) rfl rfl (by kernel_rfl) (by kernel_rfl) (by kernel_rfl) (fun _ _ _ h => h) (.inl ⟨by rfl, by (intro wq hSw; (try dsimp only at hSw); go_simp)⟩) hHeld ?_
              simp only [Act.put, List.setIfInBounds_toArray, List.set_cons_zero, List.set_cons_succ]
              refine wpAnyH_tk (i := 2) (d := 29) (v := (.pointer (some ⟨w.heap.size + 1, i, none⟩))) rfl rfl (by kernel_rfl) (by kernel_rfl) (by kernel_rfl) (fun _ _ _ h => h) (.inl ⟨by rfl, by (intro wq hSw; (try dsimp only at hSw); go_simp)⟩) hHeld ?_
              simp only [Act.put, List.setIfInBounds_toArray, List.set_cons_zero, List.set_cons_succ]
              refine wpAnyH_tk (i := 3) (d := 30) (v := (.bool false)) rfl rfl (by kernel_rfl) (by kernel_rfl) (by kernel_rfl) (fun _ _ _ h => h) (.inl ⟨by rfl, by (intro wq hSw; (try dsimp only at hSw); go_simp)⟩) hHeld ?_
              simp only [Act.put, List.setIfInBounds_toArray, List.set_cons_zero, List.set_cons_succ]
              refine wpAnyH_tk (i := 4) (d := 31) (v := (.bool true)) rfl rfl (by kernel_rfl) (by kernel_rfl) (by kernel_rfl) (fun _ _ _ h => h) (.inl ⟨by rfl, by (intro wq hSw; (try dsimp only at hSw); go_simp)⟩) hHeld ?_
              simp only [Act.put, List.setIfInBounds_toArray, List.set_cons_zero, List.set_cons_succ]
              refine wpAnyH_tk (i := 5) (d := 32) (v := (.bool true)) rfl rfl (by kernel_rfl) (by kernel_rfl) (by kernel_rfl) (fun _ _ _ h => h) (.inl ⟨by rfl, by (intro wq hSw; (try dsimp only at hSw); go_simp)⟩) hHeld ?_
              simp only [Act.put, List.setIfInBounds_toArray, List.set_cons_zero, List.set_cons_succ]
              refine wpAnyH_tk (i := 6) (d := 33) (v := (.int .i64 (-1))) rfl rfl (by kernel_rfl) (by kernel_rfl) (by kernel_rfl) (fun _ _ _ h => h) (.inl ⟨by rfl, by (intro wq hSw; (try dsimp only at hSw); go_simp)⟩) hHeld ?_
              simp only [Act.put, List.setIfInBounds_toArray, List.set_cons_zero, List.set_cons_succ]
              refine wpAnyH_tk (i := 7) (d := 34) (v := (.bool true)) rfl rfl (by kernel_rfl) (by kernel_rfl) (by kernel_rfl) (fun _ _ _ h => h) (.inl ⟨by rfl, by (intro wq hSw; (try dsimp only at hSw); go_simp)⟩) hHeld ?_
              simp only [Act.put, List.setIfInBounds_toArray, List.set_cons_zero, List.set_cons_succ]
              refine wpAnyH_tk (i := 8) (d := 35) (v := (.bool true)) rfl rfl (by kernel_rfl) (by kernel_rfl) (by kernel_rfl) (fun _ _ _ h => h) (.inl ⟨by rfl, by (intro wq hSw; (try dsimp only at hSw); go_simp)⟩) hHeld ?_
              simp only [Act.put, List.setIfInBounds_toArray, List.set_cons_zero, List.set_cons_succ]
              refine wpAnyH_tk (i := 9) (d := 36) (v := undef) rfl rfl (by kernel_rfl) (by kernel_rfl) (by kernel_rfl) (fun _ _ _ h => h) (.inr ⟨by rfl, rfl⟩) hHeld ?_
              simp only [Act.put, List.setIfInBounds_toArray, List.set_cons_zero, List.set_cons_succ]
              refine wpAnyH_tk (i := 10) (d := 37) (v := undef) rfl rfl (by kernel_rfl) (by kernel_rfl) (by kernel_rfl) (fun _ _ _ h => h) (.inr ⟨by rfl, rfl⟩) hHeld ?_
              simp only [Act.put, List.setIfInBounds_toArray, List.set_cons_zero, List.set_cons_succ]
              refine wpAnyH_tk (i := 11) (d := 38) (v := undef) rfl rfl (by kernel_rfl) (by kernel_rfl) (by kernel_rfl) (fun _ _ _ h => h) (.inr ⟨by rfl, rfl⟩) hHeld ?_
              simp only [Act.put, List.setIfInBounds_toArray, List.set_cons_zero, List.set_cons_succ]
              refine wpAnyH_tk (i := 12) (d := 39) (v := undef) rfl rfl (by kernel_rfl) (by kernel_rfl) (by kernel_rfl) (fun _ _ _ h => h) (.inr ⟨by rfl, rfl⟩) hHeld ?_
              simp only [Act.put, List.setIfInBounds_toArray, List.set_cons_zero, List.set_cons_succ]
              refine wpAnyH_tk (i := 13) (d := 40) (v := undef) rfl rfl (by kernel_rfl) (by kernel_rfl) (by kernel_rfl) (fun _ _ _ h => h) (.inr ⟨by rfl, rfl⟩) hHeld ?_
              simp only [Act.put, List.setIfInBounds_toArray, List.set_cons_zero, List.set_cons_succ]
              refine wpAnyH_tk (i := 14) (d := 41) (v := undef) rfl rfl (by kernel_rfl) (by kernel_rfl) (by kernel_rfl) (fun _ _ _ h => h) (.inr ⟨by rfl, rfl⟩) hHeld ?_
              simp only [Act.put, List.setIfInBounds_toArray, List.set_cons_zero, List.set_cons_succ]
              refine wpAnyH_tk (i := 15) (d := 42) (v := undef) rfl rfl (by kernel_rfl) (by kernel_rfl) (by kernel_rfl) (fun _ _ _ h => h) (.inr ⟨by rfl, rfl⟩) hHeld ?_
              simp only [Act.put, List.setIfInBounds_toArray, List.set_cons_zero, List.set_cons_succ]
              refine wpAnyH_tk (i := 16) (d := 43) (v := undef) rfl rfl (by kernel_rfl) (by kernel_rfl) (by kernel_rfl) (fun _ _ _ h => h) (.inr ⟨by rfl, rfl⟩) hHeld ?_
              simp only [Act.put, List.setIfInBounds_toArray, List.set_cons_zero, List.set_cons_succ]
              refine wpAnyH_tk (i := 17) (d := 44) (v := undef) rfl rfl (by kernel_rfl) (by kernel_rfl) (by kernel_rfl) (fun _ _ _ h => h) (.inr ⟨by rfl, rfl⟩) hHeld ?_
              simp only [Act.put, List.setIfInBounds_toArray, List.set_cons_zero, List.set_cons_succ]
              refine wpAnyH_tk (i := 18) (d := 45) (v := (.bool true)) rfl rfl (by kernel_rfl) (by kernel_rfl) (by kernel_rfl) (fun _ _ _ h => h) (.inl ⟨by rfl, by (intro wq hSw; (try dsimp only at hSw); go_simp)⟩) hHeld ?_
              simp only [Act.put, List.setIfInBounds_toArray, List.set_cons_zero, List.set_cons_succ]
              refine wpAnyH_tk (i := 19) (d := 46) (v := (.bool true)) rfl rfl (by kernel_rfl) (by kernel_rfl) (by kernel_rfl) (fun _ _ _ h => h) (.inl ⟨by rfl, by (intro wq hSw; (try dsimp only at hSw); go_simp)⟩) hHeld ?_
              simp only [Act.put, List.setIfInBounds_toArray, List.set_cons_zero, List.set_cons_succ]
              refine wpAnyH_done (by kernel_rfl) ?_ _
              clear hHeld
              go_wp2
              exact ⟨⟨i + 1, i, by omega, by go_num, rfl, HNX.out, HBJ.out⟩, by simp [intOf]; omega⟩
            · obtain ⟨b, hbv, hbi⟩ : ∃ b : Nat, bv = (b : Int) ∧ b < i := by
                rcases HBE.out with ⟨h1, _⟩ | ⟨b, h1, h2, _⟩
                · exact absurd h1 hbn
                · exact ⟨b, h1, h2⟩
              subst hbv
              have hbl2 : b < ws.length := by omega
              obtain ⟨wb', wq', _, hs, _, hcb⟩ := sl_cell HDV.out hbl2
              simp only [Value.slice.injEq, Option.some.injEq, Addr.mk.injEq, and_true] at hs
              obtain ⟨⟨rfl, rfl⟩, -, -⟩ := hs
              obtain ⟨Y, hY⟩ : ∃ Y, Y = ws.getD b 0 := ⟨_, rfl⟩
              have HY : Hid (Y = ws.getD b 0) := hY
              rw [← hY] at hcb
              have bI2 : (b : Int) < (ws.length : Int) := by omega
              have bI0 : (0 : Int) ≤ (b : Int) := by omega
              have bI3 : (b : Int) < (N : Int) := by omega
              clear hY hbn hil2 hbl2
              by_cases hXY : Y < X
              · have q1 : decide (Y < X) = true := decide_eq_true hXY
                have HNX : Hid (BestR ws k (i + 1) i) := best_new HBE.out HDN.out (by rw [← HX.out, ← HY.out]; exact hXY)
                go_wp2
                refine wp_region_held_drew (S := fun w' => w'.cell? ⟨w.heap.size + 1, i, none⟩ = some (.bool false) ∧ w'.cell? ⟨wb, wq + i, none⟩ = some (.int .i64 X) ∧ w'.cell? ⟨wb, wq + b, none⟩ = some (.int .i64 Y)) (by kernel_rfl) ⟨hdc, hci, hcb⟩ (fun hHeld => ?_)
                refine wpAnyH_tk (i := 0) (d := 27) (v := (.slice (some ⟨w.heap.size + 1, 0, none⟩) N N)) rfl rfl (by kernel_rfl) (by kernel_rfl) (by kernel_rfl) (fun _ _ _ h => h) (.inl ⟨by rfl, by (intro wq hSw; (try dsimp only at hSw); go_simp)⟩) hHeld ?_
                simp only [Act.put, List.setIfInBounds_toArray, List.set_cons_zero, List.set_cons_succ]
                refine wpAnyH_tk (i := 1) (d := 28) (v := (.int .i64 i)) rfl rfl (by kernel_rfl) (by kernel_rfl) (by kernel_rfl) (fun _ _ _ h => h) (.inl ⟨by rfl, by (intro wq hSw; (try dsimp only at hSw); go_simp)⟩) hHeld ?_
                simp only [Act.put, List.setIfInBounds_toArray, List.set_cons_zero, List.set_cons_succ]
                refine wpAnyH_tk (i := 2) (d := 29) (v := (.pointer (some ⟨w.heap.size + 1, i, none⟩))) rfl rfl (by kernel_rfl) (by kernel_rfl) (by kernel_rfl) (fun _ _ _ h => h) (.inl ⟨by rfl, by (intro wq hSw; (try dsimp only at hSw); go_simp)⟩) hHeld ?_
                simp only [Act.put, List.setIfInBounds_toArray, List.set_cons_zero, List.set_cons_succ]
                refine wpAnyH_tk (i := 3) (d := 30) (v := (.bool false)) rfl rfl (by kernel_rfl) (by kernel_rfl) (by kernel_rfl) (fun _ _ _ h => h) (.inl ⟨by rfl, by (intro wq hSw; (try dsimp only at hSw); go_simp)⟩) hHeld ?_
                simp only [Act.put, List.setIfInBounds_toArray, List.set_cons_zero, List.set_cons_succ]
                refine wpAnyH_tk (i := 4) (d := 31) (v := (.bool true)) rfl rfl (by kernel_rfl) (by kernel_rfl) (by kernel_rfl) (fun _ _ _ h => h) (.inl ⟨by rfl, by (intro wq hSw; (try dsimp only at hSw); go_simp)⟩) hHeld ?_
                simp only [Act.put, List.setIfInBounds_toArray, List.set_cons_zero, List.set_cons_succ]
                refine wpAnyH_tk (i := 5) (d := 32) (v := (.bool true)) rfl rfl (by kernel_rfl) (by kernel_rfl) (by kernel_rfl) (fun _ _ _ h => h) (.inl ⟨by rfl, by (intro wq hSw; (try dsimp only at hSw); go_simp)⟩) hHeld ?_
                simp only [Act.put, List.setIfInBounds_toArray, List.set_cons_zero, List.set_cons_succ]
                refine wpAnyH_tk (i := 6) (d := 33) (v := (.int .i64 b)) rfl rfl (by kernel_rfl) (by kernel_rfl) (by kernel_rfl) (fun _ _ _ h => h) (.inl ⟨by rfl, by (intro wq hSw; (try dsimp only at hSw); go_simp)⟩) hHeld ?_
                simp only [Act.put, List.setIfInBounds_toArray, List.set_cons_zero, List.set_cons_succ]
                refine wpAnyH_tk (i := 7) (d := 34) (v := (.bool false)) rfl rfl (by kernel_rfl) (by kernel_rfl) (by kernel_rfl) (fun _ _ _ h => h) (.inl ⟨by rfl, by (intro wq hSw; (try dsimp only at hSw); go_simp)⟩) hHeld ?_
                simp only [Act.put, List.setIfInBounds_toArray, List.set_cons_zero, List.set_cons_succ]
                refine wpAnyH_tk (i := 8) (d := 35) (v := (.bool false)) rfl rfl (by kernel_rfl) (by kernel_rfl) (by kernel_rfl) (fun _ _ _ h => h) (.inl ⟨by rfl, by (intro wq hSw; (try dsimp only at hSw); go_simp)⟩) hHeld ?_
                simp only [Act.put, List.setIfInBounds_toArray, List.set_cons_zero, List.set_cons_succ]
                refine wpAnyH_tk (i := 9) (d := 36) (v := (.slice (some ⟨wb, wq, none⟩) N wc)) rfl rfl (by kernel_rfl) (by kernel_rfl) (by kernel_rfl) (fun _ _ _ h => h) (.inl ⟨by rfl, by (intro wq hSw; (try dsimp only at hSw); go_simp)⟩) hHeld ?_
                simp only [Act.put, List.setIfInBounds_toArray, List.set_cons_zero, List.set_cons_succ]
                refine wpAnyH_tk (i := 10) (d := 37) (v := (.int .i64 i)) rfl rfl (by kernel_rfl) (by kernel_rfl) (by kernel_rfl) (fun _ _ _ h => h) (.inl ⟨by rfl, by (intro wq hSw; (try dsimp only at hSw); go_simp)⟩) hHeld ?_
                simp only [Act.put, List.setIfInBounds_toArray, List.set_cons_zero, List.set_cons_succ]
                refine wpAnyH_tk (i := 11) (d := 38) (v := (.pointer (some ⟨wb, wq + i, none⟩))) rfl rfl (by kernel_rfl) (by kernel_rfl) (by kernel_rfl) (fun _ _ _ h => h) (.inl ⟨by rfl, by (intro wq hSw; (try dsimp only at hSw); go_simp)⟩) hHeld ?_
                simp only [Act.put, List.setIfInBounds_toArray, List.set_cons_zero, List.set_cons_succ]
                refine wpAnyH_tk (i := 12) (d := 39) (v := (.int .i64 X)) rfl rfl (by kernel_rfl) (by kernel_rfl) (by kernel_rfl) (fun _ _ _ h => h) (.inl ⟨by rfl, by (intro wq hSw; (try dsimp only at hSw); go_simp)⟩) hHeld ?_
                simp only [Act.put, List.setIfInBounds_toArray, List.set_cons_zero, List.set_cons_succ]
                refine wpAnyH_tk (i := 13) (d := 40) (v := (.slice (some ⟨wb, wq, none⟩) N wc)) rfl rfl (by kernel_rfl) (by kernel_rfl) (by kernel_rfl) (fun _ _ _ h => h) (.inl ⟨by rfl, by (intro wq hSw; (try dsimp only at hSw); go_simp)⟩) hHeld ?_
                simp only [Act.put, List.setIfInBounds_toArray, List.set_cons_zero, List.set_cons_succ]
                refine wpAnyH_tk (i := 14) (d := 41) (v := (.int .i64 b)) rfl rfl (by kernel_rfl) (by kernel_rfl) (by kernel_rfl) (fun _ _ _ h => h) (.inl ⟨by rfl, by (intro wq hSw; (try dsimp only at hSw); go_simp)⟩) hHeld ?_
                simp only [Act.put, List.setIfInBounds_toArray, List.set_cons_zero, List.set_cons_succ]
                refine wpAnyH_tk (i := 15) (d := 42) (v := (.pointer (some ⟨wb, wq + b, none⟩))) rfl rfl (by kernel_rfl) (by kernel_rfl) (by kernel_rfl) (fun _ _ _ h => h) (.inl ⟨by rfl, by (intro wq hSw; (try dsimp only at hSw); go_simp)⟩) hHeld ?_
                simp only [Act.put, List.setIfInBounds_toArray, List.set_cons_zero, List.set_cons_succ]
                refine wpAnyH_tk (i := 16) (d := 43) (v := (.int .i64 Y)) rfl rfl (by kernel_rfl) (by kernel_rfl) (by kernel_rfl) (fun _ _ _ h => h) (.inl ⟨by rfl, by (intro wq hSw; (try dsimp only at hSw); go_simp)⟩) hHeld ?_
                simp only [Act.put, List.setIfInBounds_toArray, List.set_cons_zero, List.set_cons_succ]
                refine wpAnyH_tk (i := 17) (d := 44) (v := (.bool true)) rfl rfl (by kernel_rfl) (by kernel_rfl) (by kernel_rfl) (fun _ _ _ h => h) (.inl ⟨by rfl, by (intro wq hSw; (try dsimp only at hSw); go_simp)⟩) hHeld ?_
                simp only [Act.put, List.setIfInBounds_toArray, List.set_cons_zero, List.set_cons_succ]
                refine wpAnyH_tk (i := 18) (d := 45) (v := (.bool true)) rfl rfl (by kernel_rfl) (by kernel_rfl) (by kernel_rfl) (fun _ _ _ h => h) (.inl ⟨by rfl, by (intro wq hSw; (try dsimp only at hSw); go_simp)⟩) hHeld ?_
                simp only [Act.put, List.setIfInBounds_toArray, List.set_cons_zero, List.set_cons_succ]
                refine wpAnyH_tk (i := 19) (d := 46) (v := (.bool true)) rfl rfl (by kernel_rfl) (by kernel_rfl) (by kernel_rfl) (fun _ _ _ h => h) (.inl ⟨by rfl, by (intro wq hSw; (try dsimp only at hSw); go_simp)⟩) hHeld ?_
                simp only [Act.put, List.setIfInBounds_toArray, List.set_cons_zero, List.set_cons_succ]
                refine wpAnyH_done (by kernel_rfl) ?_ _
                clear hHeld
                go_wp2
                exact ⟨⟨i + 1, i, by omega, by go_num, rfl, HNX.out, HBJ.out⟩, by simp [intOf]; omega⟩
              · have q1 : decide (Y < X) = false := decide_eq_false hXY
                have q2 : X ≤ Y := by omega
                have HNX : Hid (BestR ws k (i + 1) b) := best_old HBE.out (by rw [← HX.out, ← HY.out]; exact hXY)
                go_wp2
                refine wp_region_held_drew (S := fun w' => w'.cell? ⟨w.heap.size + 1, i, none⟩ = some (.bool false) ∧ w'.cell? ⟨wb, wq + i, none⟩ = some (.int .i64 X) ∧ w'.cell? ⟨wb, wq + b, none⟩ = some (.int .i64 Y)) (by kernel_rfl) ⟨hdc, hci, hcb⟩ (fun hHeld => ?_)
                refine wpAnyH_tk (i := 0) (d := 27) (v := (.slice (some ⟨w.heap.size + 1, 0, none⟩) N N)) rfl rfl (by kernel_rfl) (by kernel_rfl) (by kernel_rfl) (fun _ _ _ h => h) (.inl ⟨by rfl, by (intro wq hSw; (try dsimp only at hSw); go_simp)⟩) hHeld ?_
                simp only [Act.put, List.setIfInBounds_toArray, List.set_cons_zero, List.set_cons_succ]
                refine wpAnyH_tk (i := 1) (d := 28) (v := (.int .i64 i)) rfl rfl (by kernel_rfl) (by kernel_rfl) (by kernel_rfl) (fun _ _ _ h => h) (.inl ⟨by rfl, by (intro wq hSw; (try dsimp only at hSw); go_simp)⟩) hHeld ?_
                simp only [Act.put, List.setIfInBounds_toArray, List.set_cons_zero, List.set_cons_succ]
                refine wpAnyH_tk (i := 2) (d := 29) (v := (.pointer (some ⟨w.heap.size + 1, i, none⟩))) rfl rfl (by kernel_rfl) (by kernel_rfl) (by kernel_rfl) (fun _ _ _ h => h) (.inl ⟨by rfl, by (intro wq hSw; (try dsimp only at hSw); go_simp)⟩) hHeld ?_
                simp only [Act.put, List.setIfInBounds_toArray, List.set_cons_zero, List.set_cons_succ]
                refine wpAnyH_tk (i := 3) (d := 30) (v := (.bool false)) rfl rfl (by kernel_rfl) (by kernel_rfl) (by kernel_rfl) (fun _ _ _ h => h) (.inl ⟨by rfl, by (intro wq hSw; (try dsimp only at hSw); go_simp)⟩) hHeld ?_
                simp only [Act.put, List.setIfInBounds_toArray, List.set_cons_zero, List.set_cons_succ]
                refine wpAnyH_tk (i := 4) (d := 31) (v := (.bool true)) rfl rfl (by kernel_rfl) (by kernel_rfl) (by kernel_rfl) (fun _ _ _ h => h) (.inl ⟨by rfl, by (intro wq hSw; (try dsimp only at hSw); go_simp)⟩) hHeld ?_
                simp only [Act.put, List.setIfInBounds_toArray, List.set_cons_zero, List.set_cons_succ]
                refine wpAnyH_tk (i := 5) (d := 32) (v := (.bool true)) rfl rfl (by kernel_rfl) (by kernel_rfl) (by kernel_rfl) (fun _ _ _ h => h) (.inl ⟨by rfl, by (intro wq hSw; (try dsimp only at hSw); go_simp)⟩) hHeld ?_
                simp only [Act.put, List.setIfInBounds_toArray, List.set_cons_zero, List.set_cons_succ]
                refine wpAnyH_tk (i := 6) (d := 33) (v := (.int .i64 b)) rfl rfl (by kernel_rfl) (by kernel_rfl) (by kernel_rfl) (fun _ _ _ h => h) (.inl ⟨by rfl, by (intro wq hSw; (try dsimp only at hSw); go_simp)⟩) hHeld ?_
                simp only [Act.put, List.setIfInBounds_toArray, List.set_cons_zero, List.set_cons_succ]
                refine wpAnyH_tk (i := 7) (d := 34) (v := (.bool false)) rfl rfl (by kernel_rfl) (by kernel_rfl) (by kernel_rfl) (fun _ _ _ h => h) (.inl ⟨by rfl, by (intro wq hSw; (try dsimp only at hSw); go_simp)⟩) hHeld ?_
                simp only [Act.put, List.setIfInBounds_toArray, List.set_cons_zero, List.set_cons_succ]
                refine wpAnyH_tk (i := 8) (d := 35) (v := (.bool false)) rfl rfl (by kernel_rfl) (by kernel_rfl) (by kernel_rfl) (fun _ _ _ h => h) (.inl ⟨by rfl, by (intro wq hSw; (try dsimp only at hSw); go_simp)⟩) hHeld ?_
                simp only [Act.put, List.setIfInBounds_toArray, List.set_cons_zero, List.set_cons_succ]
                refine wpAnyH_tk (i := 9) (d := 36) (v := (.slice (some ⟨wb, wq, none⟩) N wc)) rfl rfl (by kernel_rfl) (by kernel_rfl) (by kernel_rfl) (fun _ _ _ h => h) (.inl ⟨by rfl, by (intro wq hSw; (try dsimp only at hSw); go_simp)⟩) hHeld ?_
                simp only [Act.put, List.setIfInBounds_toArray, List.set_cons_zero, List.set_cons_succ]
                refine wpAnyH_tk (i := 10) (d := 37) (v := (.int .i64 i)) rfl rfl (by kernel_rfl) (by kernel_rfl) (by kernel_rfl) (fun _ _ _ h => h) (.inl ⟨by rfl, by (intro wq hSw; (try dsimp only at hSw); go_simp)⟩) hHeld ?_
                simp only [Act.put, List.setIfInBounds_toArray, List.set_cons_zero, List.set_cons_succ]
                refine wpAnyH_tk (i := 11) (d := 38) (v := (.pointer (some ⟨wb, wq + i, none⟩))) rfl rfl (by kernel_rfl) (by kernel_rfl) (by kernel_rfl) (fun _ _ _ h => h) (.inl ⟨by rfl, by (intro wq hSw; (try dsimp only at hSw); go_simp)⟩) hHeld ?_
                simp only [Act.put, List.setIfInBounds_toArray, List.set_cons_zero, List.set_cons_succ]
                refine wpAnyH_tk (i := 12) (d := 39) (v := (.int .i64 X)) rfl rfl (by kernel_rfl) (by kernel_rfl) (by kernel_rfl) (fun _ _ _ h => h) (.inl ⟨by rfl, by (intro wq hSw; (try dsimp only at hSw); go_simp)⟩) hHeld ?_
                simp only [Act.put, List.setIfInBounds_toArray, List.set_cons_zero, List.set_cons_succ]
                refine wpAnyH_tk (i := 13) (d := 40) (v := (.slice (some ⟨wb, wq, none⟩) N wc)) rfl rfl (by kernel_rfl) (by kernel_rfl) (by kernel_rfl) (fun _ _ _ h => h) (.inl ⟨by rfl, by (intro wq hSw; (try dsimp only at hSw); go_simp)⟩) hHeld ?_
                simp only [Act.put, List.setIfInBounds_toArray, List.set_cons_zero, List.set_cons_succ]
                refine wpAnyH_tk (i := 14) (d := 41) (v := (.int .i64 b)) rfl rfl (by kernel_rfl) (by kernel_rfl) (by kernel_rfl) (fun _ _ _ h => h) (.inl ⟨by rfl, by (intro wq hSw; (try dsimp only at hSw); go_simp)⟩) hHeld ?_
                simp only [Act.put, List.setIfInBounds_toArray, List.set_cons_zero, List.set_cons_succ]
                refine wpAnyH_tk (i := 15) (d := 42) (v := (.pointer (some ⟨wb, wq + b, none⟩))) rfl rfl (by kernel_rfl) (by kernel_rfl) (by kernel_rfl) (fun _ _ _ h => h) (.inl ⟨by rfl, by (intro wq hSw; (try dsimp only at hSw); go_simp)⟩) hHeld ?_
                simp only [Act.put, List.setIfInBounds_toArray, List.set_cons_zero, List.set_cons_succ]
                refine wpAnyH_tk (i := 16) (d := 43) (v := (.int .i64 Y)) rfl rfl (by kernel_rfl) (by kernel_rfl) (by kernel_rfl) (fun _ _ _ h => h) (.inl ⟨by rfl, by (intro wq hSw; (try dsimp only at hSw); go_simp)⟩) hHeld ?_
                simp only [Act.put, List.setIfInBounds_toArray, List.set_cons_zero, List.set_cons_succ]
                refine wpAnyH_tk (i := 17) (d := 44) (v := (.bool false)) rfl rfl (by kernel_rfl) (by kernel_rfl) (by kernel_rfl) (fun _ _ _ h => h) (.inl ⟨by rfl, by (intro wq hSw; (try dsimp only at hSw); go_simp)⟩) hHeld ?_
                simp only [Act.put, List.setIfInBounds_toArray, List.set_cons_zero, List.set_cons_succ]
                refine wpAnyH_tk (i := 18) (d := 45) (v := (.bool false)) rfl rfl (by kernel_rfl) (by kernel_rfl) (by kernel_rfl) (fun _ _ _ h => h) (.inl ⟨by rfl, by (intro wq hSw; (try dsimp only at hSw); go_simp)⟩) hHeld ?_
                simp only [Act.put, List.setIfInBounds_toArray, List.set_cons_zero, List.set_cons_succ]
                refine wpAnyH_tk (i := 19) (d := 46) (v := (.bool false)) rfl rfl (by kernel_rfl) (by kernel_rfl) (by kernel_rfl) (fun _ _ _ h => h) (.inl ⟨by rfl, by (intro wq hSw; (try dsimp only at hSw); go_simp)⟩) hHeld ?_
                simp only [Act.put, List.setIfInBounds_toArray, List.set_cons_zero, List.set_cons_succ]
                refine wpAnyH_done (by kernel_rfl) ?_ _
                clear hHeld
                go_wp2
                exact ⟨⟨i + 1, b, by omega, by go_num, rfl, HNX.out, HBJ.out⟩, by simp [intOf]; omega⟩
          · rw [hdn] at hdc
            have HNX : Hid (BestR ws k (i + 1) bv) := best_done HBE.out hdn
            clear hdn hil2
            go_wp2
            refine wp_region_held_drew (S := fun w' => w'.cell? ⟨w.heap.size + 1, i, none⟩ = some (.bool true) ∧ w'.cell? ⟨wb, wq + i, none⟩ = some (.int .i64 X)) (by kernel_rfl) ⟨hdc, hci⟩ (fun hHeld => ?_)
            refine wpAnyH_tk (i := 0) (d := 27) (v := (.slice (some ⟨w.heap.size + 1, 0, none⟩) N N)) rfl rfl (by kernel_rfl) (by kernel_rfl) (by kernel_rfl) (fun _ _ _ h => h) (.inl ⟨by rfl, by (intro wq hSw; (try dsimp only at hSw); go_simp)⟩) hHeld ?_
            simp only [Act.put, List.setIfInBounds_toArray, List.set_cons_zero, List.set_cons_succ]
            refine wpAnyH_tk (i := 1) (d := 28) (v := (.int .i64 i)) rfl rfl (by kernel_rfl) (by kernel_rfl) (by kernel_rfl) (fun _ _ _ h => h) (.inl ⟨by rfl, by (intro wq hSw; (try dsimp only at hSw); go_simp)⟩) hHeld ?_
            simp only [Act.put, List.setIfInBounds_toArray, List.set_cons_zero, List.set_cons_succ]
            refine wpAnyH_tk (i := 2) (d := 29) (v := (.pointer (some ⟨w.heap.size + 1, i, none⟩))) rfl rfl (by kernel_rfl) (by kernel_rfl) (by kernel_rfl) (fun _ _ _ h => h) (.inl ⟨by rfl, by (intro wq hSw; (try dsimp only at hSw); go_simp)⟩) hHeld ?_
            simp only [Act.put, List.setIfInBounds_toArray, List.set_cons_zero, List.set_cons_succ]
            refine wpAnyH_tk (i := 3) (d := 30) (v := (.bool true)) rfl rfl (by kernel_rfl) (by kernel_rfl) (by kernel_rfl) (fun _ _ _ h => h) (.inl ⟨by rfl, by (intro wq hSw; (try dsimp only at hSw); go_simp)⟩) hHeld ?_
            simp only [Act.put, List.setIfInBounds_toArray, List.set_cons_zero, List.set_cons_succ]
            refine wpAnyH_tk (i := 4) (d := 31) (v := (.bool false)) rfl rfl (by kernel_rfl) (by kernel_rfl) (by kernel_rfl) (fun _ _ _ h => h) (.inl ⟨by rfl, by (intro wq hSw; (try dsimp only at hSw); go_simp)⟩) hHeld ?_
            simp only [Act.put, List.setIfInBounds_toArray, List.set_cons_zero, List.set_cons_succ]
            refine wpAnyH_tk (i := 5) (d := 32) (v := (.bool false)) rfl rfl (by kernel_rfl) (by kernel_rfl) (by kernel_rfl) (fun _ _ _ h => h) (.inl ⟨by rfl, by (intro wq hSw; (try dsimp only at hSw); go_simp)⟩) hHeld ?_
            simp only [Act.put, List.setIfInBounds_toArray, List.set_cons_zero, List.set_cons_succ]
            refine wpAnyH_tk (i := 6) (d := 33) (v := undef) rfl rfl (by kernel_rfl) (by kernel_rfl) (by kernel_rfl) (fun _ _ _ h => h) (.inr ⟨by rfl, rfl⟩) hHeld ?_
            simp only [Act.put, List.setIfInBounds_toArray, List.set_cons_zero, List.set_cons_succ]
            refine wpAnyH_tk (i := 7) (d := 34) (v := undef) rfl rfl (by kernel_rfl) (by kernel_rfl) (by kernel_rfl) (fun _ _ _ h => h) (.inr ⟨by rfl, rfl⟩) hHeld ?_
            simp only [Act.put, List.setIfInBounds_toArray, List.set_cons_zero, List.set_cons_succ]
            refine wpAnyH_tk (i := 8) (d := 35) (v := undef) rfl rfl (by kernel_rfl) (by kernel_rfl) (by kernel_rfl) (fun _ _ _ h => h) (.inr ⟨by rfl, rfl⟩) hHeld ?_
            simp only [Act.put, List.setIfInBounds_toArray, List.set_cons_zero, List.set_cons_succ]
            refine wpAnyH_tk (i := 9) (d := 36) (v := undef) rfl rfl (by kernel_rfl) (by kernel_rfl) (by kernel_rfl) (fun _ _ _ h => h) (.inr ⟨by rfl, rfl⟩) hHeld ?_
            simp only [Act.put, List.setIfInBounds_toArray, List.set_cons_zero, List.set_cons_succ]
            refine wpAnyH_tk (i := 10) (d := 37) (v := undef) rfl rfl (by kernel_rfl) (by kernel_rfl) (by kernel_rfl) (fun _ _ _ h => h) (.inr ⟨by rfl, rfl⟩) hHeld ?_
            simp only [Act.put, List.setIfInBounds_toArray, List.set_cons_zero, List.set_cons_succ]
            refine wpAnyH_tk (i := 11) (d := 38) (v := undef) rfl rfl (by kernel_rfl) (by kernel_rfl) (by kernel_rfl) (fun _ _ _ h => h) (.inr ⟨by rfl, rfl⟩) hHeld ?_
            simp only [Act.put, List.setIfInBounds_toArray, List.set_cons_zero, List.set_cons_succ]
            refine wpAnyH_tk (i := 12) (d := 39) (v := undef) rfl rfl (by kernel_rfl) (by kernel_rfl) (by kernel_rfl) (fun _ _ _ h => h) (.inr ⟨by rfl, rfl⟩) hHeld ?_
            simp only [Act.put, List.setIfInBounds_toArray, List.set_cons_zero, List.set_cons_succ]
            refine wpAnyH_tk (i := 13) (d := 40) (v := undef) rfl rfl (by kernel_rfl) (by kernel_rfl) (by kernel_rfl) (fun _ _ _ h => h) (.inr ⟨by rfl, rfl⟩) hHeld ?_
            simp only [Act.put, List.setIfInBounds_toArray, List.set_cons_zero, List.set_cons_succ]
            refine wpAnyH_tk (i := 14) (d := 41) (v := undef) rfl rfl (by kernel_rfl) (by kernel_rfl) (by kernel_rfl) (fun _ _ _ h => h) (.inr ⟨by rfl, rfl⟩) hHeld ?_
            simp only [Act.put, List.setIfInBounds_toArray, List.set_cons_zero, List.set_cons_succ]
            refine wpAnyH_tk (i := 15) (d := 42) (v := undef) rfl rfl (by kernel_rfl) (by kernel_rfl) (by kernel_rfl) (fun _ _ _ h => h) (.inr ⟨by rfl, rfl⟩) hHeld ?_
            simp only [Act.put, List.setIfInBounds_toArray, List.set_cons_zero, List.set_cons_succ]
            refine wpAnyH_tk (i := 16) (d := 43) (v := undef) rfl rfl (by kernel_rfl) (by kernel_rfl) (by kernel_rfl) (fun _ _ _ h => h) (.inr ⟨by rfl, rfl⟩) hHeld ?_
            simp only [Act.put, List.setIfInBounds_toArray, List.set_cons_zero, List.set_cons_succ]
            refine wpAnyH_tk (i := 17) (d := 44) (v := undef) rfl rfl (by kernel_rfl) (by kernel_rfl) (by kernel_rfl) (fun _ _ _ h => h) (.inr ⟨by rfl, rfl⟩) hHeld ?_
            simp only [Act.put, List.setIfInBounds_toArray, List.set_cons_zero, List.set_cons_succ]
            refine wpAnyH_tk (i := 18) (d := 45) (v := undef) rfl rfl (by kernel_rfl) (by kernel_rfl) (by kernel_rfl) (fun _ _ _ h => h) (.inr ⟨by rfl, rfl⟩) hHeld ?_
            simp only [Act.put, List.setIfInBounds_toArray, List.set_cons_zero, List.set_cons_succ]
            refine wpAnyH_tk (i := 19) (d := 46) (v := (.bool false)) rfl rfl (by kernel_rfl) (by kernel_rfl) (by kernel_rfl) (fun _ _ _ h => h) (.inl ⟨by rfl, by (intro wq hSw; (try dsimp only at hSw); go_simp)⟩) hHeld ?_
            simp only [Act.put, List.setIfInBounds_toArray, List.set_cons_zero, List.set_cons_succ]
            refine wpAnyH_done (by kernel_rfl) ?_ _
            clear hHeld
            go_wp2
            exact ⟨⟨i + 1, bv, by omega, by go_num, rfl, HNX.out, HBJ.out⟩, by simp [intOf]; omega⟩
        · have hie : N = i := by omega
          subst hie
          have hle : k < ws.length := by rw [← HN.out]; exact hlt
          obtain ⟨hbe, hb0, hbl⟩ := best_end hle (by rw [← HN.out]; exact HBE.out)
          obtain ⟨b, rfl⟩ : ∃ b : Nat, bv = (b : Int) := ⟨bv.toNat, by omega⟩
          have hbN : b < N := by rw [HN.out]; omega
          have hdb : dnB ws k b = false := by
            have := best_next hle
            rw [← hbe] at this
            exact this
          obtain ⟨hs8, hm1, hm2⟩ := HBD.out k (by omega)
          have hnb : (grT bs ws (hvL ws) k).1.testBit b = false := by
            rw [← Bool.not_eq_true]
            intro h
            rw [grT_dn k b (by omega) h] at hdb
            cases hdb
          have hor := or_num _ hs8 b (by omega) hnb
          obtain ⟨pb, hpb⟩ : ∃ pb : Nat, pb = 2 ^ b := ⟨_, rfl⟩
          have hpbi : (2 : Int) ^ b = (pb : Int) := by rw [hpb]; simp
          have hp1 := pow8_le b (by omega)
          rw [hpbi] at hp1
          have HGT : Hid (grT bs ws (hvL ws) (k + 1) = if freeB bs ((grT bs ws (hvL ws) k).1 ||| 2 ^ b) = true then ((grT bs ws (hvL ws) k).1 ||| 2 ^ b, (grT bs ws (hvL ws) k).2 + ws.getD b 0) else grT bs ws (hvL ws) k) := by
            show _ = _
            rw [grT, ← hbe, Int.toNat_natCast]
          have hs28 : (grT bs ws (hvL ws) k).1 ||| 2 ^ b < 256 := Nat.or_lt_two_pow (n := 8) hs8 (Nat.pow_lt_pow_right (by omega) (by omega))
          obtain ⟨s2, hs2⟩ : ∃ s2, s2 = (grT bs ws (hvL ws) k).1 ||| 2 ^ b := ⟨_, rfl⟩
          rw [← hs2] at HGT hs28 hor
          rw [← hpb] at hor
          clear hs2
          generalize hgk : grT bs ws (hvL ws) k = g0 at *
          obtain ⟨s0, m0⟩ := g0
          simp only at hs8 hm1 hm2 hor HGT hnb
          have hwb := HWB.out b
          have hbl2 : b < ws.length := by omega
          obtain ⟨wb, wq, _, hs, _, hcb⟩ := sl_cell HDV.out hbl2
          simp only [Value.slice.injEq] at hs
          obtain ⟨rfl, -, -⟩ := hs
          obtain ⟨Y, hY⟩ : ∃ Y, Y = ws.getD b 0 := ⟨_, rfl⟩
          rw [← hY] at hcb hwb HGT
          have q1 : IntKind.i64.wrap (pb : Int) = (pb : Int) := wrap_small (by omega)
          have q2 : IntKind.i64.wrap ((s0 : Int) + (pb : Int)) = (s2 : Int) := by
            rw [show ((s0 : Int) + (pb : Int)) = (s2 : Int) by omega]; exact wrap_small (by omega)
          have q3 : IntKind.i64.wrap (m0 + Y) = m0 + Y := by
            rw [IntWalk.i64_left]
            exact IntWalk.wrap64_in _ ⟨by omega, by omega⟩
          have hdc := HRI.out.cell hbN
          have hfz := HRI.out.frozen b
          obtain ⟨wS, hwS⟩ : ∃ wS, wS = wi.setCell ⟨w.heap.size + 1, b, none⟩ (.bool true) := ⟨_, rfl⟩
          have HBS : Hid (Below W.heap.size W wS) := by
            rw [hwS]
            exact ⟨HBK.out.os, HBK.out.tape, HBK.out.output, by simp only [World.setCell, Array.size_modify]; exact HBK.out.size, fun c hc => (Below.heap_setCell _ _ _ _ (by show c ≠ w.heap.size + 1; rw [← HWS.out]; omega)).trans (HBK.out.block c hc)⟩
          have HRS : Hid (wS.rowIs (w.heap.size + 1) 4 N (fun i => .bool (dnB ws (k + 1) i))) := by
            rw [hwS]
            refine (HRI.out.set b (.bool true)).congr fun j hj => ?_
            rw [dn_succ hle hbe.symm j]
            by_cases h : j = b
            · rw [if_pos h, if_pos h]
            · rw [if_neg h, if_neg h]
          obtain ⟨f0, f1, -, f3, -⟩ := HC.out wS HBS.out
          have hcs : wS.cell? ⟨wb, wq + b, none⟩ = some (.int .i64 Y) := by
            obtain ⟨wb', wq', _, hs, _, hc⟩ := sl_cell f3 hbl2
            simp only [Value.slice.injEq, Option.some.injEq, Addr.mk.injEq, and_true] at hs
            obtain ⟨⟨rfl, rfl⟩, -, -⟩ := hs
            rw [hY]; exact hc
          have HCA := HIF.out wS.drew s2 ⟨HBS.out.os, HBS.out.tape, HBS.out.output, HBS.out.size, HBS.out.block⟩ hs28
          have HCB : Hid (Calls Tryd.prog 13 #[.agg #[.int .i64 N, .slice ao bs.length cap], .int .i64 s2] wS.drew fun e w' => e = .returned (.bool (freeB bs s2)) ∧ Below wS.heap.size wS w') := HCA.mono (by
            rintro e w' ⟨h1, h2⟩
            exact ⟨h1, h2.os, h2.tape, h2.output, h2.size, h2.block⟩)
          have HKS : Hid (∀ W', Below wS.heap.size wS W' → W'.rowIs (w.heap.size + 1) 4 N (fun i => .bool (dnB ws (k + 1) i)) ∧ Below W.heap.size W W' ∧ W'.cell? ⟨w.heap.size, 0, none⟩ = some (.int .i64 N) ∧ W'.cell? ⟨w.heap.size, 1, none⟩ = some (.slice ao bs.length cap) ∧ W'.cell? ⟨wb, wq + b, none⟩ = some (.int .i64 Y)) := fun W' h =>
            ⟨HRS.out.of_block (h.block _ HRS.out.lt), HBS.out.trans (h.mono HBS.out.size), (h.cell (lt_of_cell f0)).trans f0, (h.cell (lt_of_cell f1)).trans f1, (h.cell (lt_of_cell hcs)).trans hcs⟩
          have bI2 : (b : Int) < (N : Int) := by omega
          have bI0 : (0 : Int) ≤ (b : Int) := by omega
          clear hY hp1 hpb hor hs28 hs8 hm1 hm2 hnb hdb hbe hgk f3 HCA hb0 hbl hwb hbl2 hcb
          generalize freeB bs s2 = fb at *
          go_wp2
          rw [← hwS]
          clear hwS hdc hfz
          refine wp_region_held_drew (S := fun w' => w'.cell? ⟨w.heap.size, 0, none⟩ = some (.int .i64 N) ∧ w'.cell? ⟨w.heap.size, 1, none⟩ = some (.slice ao bs.length cap)) (by kernel_rfl) ⟨f0, f1⟩ (fun hHeld => ?_)
          refine wpAnyH_tk (i := 0) (d := 51) (v := (.agg #[.int .i64 N, .slice ao bs.length cap])) rfl rfl (by kernel_rfl) (by kernel_rfl) (by kernel_rfl) (fun _ _ _ h => h) (.inl ⟨by rfl, by (intro wq hSw; (try dsimp only at hSw); go_simp)⟩) hHeld ?_
          simp only [Act.put, List.setIfInBounds_toArray, List.set_cons_zero, List.set_cons_succ]
          refine wpAnyH_tk (i := 1) (d := 52) (v := (.int .i64 s0)) rfl rfl (by kernel_rfl) (by kernel_rfl) (by kernel_rfl) (fun _ _ _ h => h) (.inl ⟨by rfl, by (intro wq hSw; (try dsimp only at hSw); go_simp)⟩) hHeld ?_
          simp only [Act.put, List.setIfInBounds_toArray, List.set_cons_zero, List.set_cons_succ]
          refine wpAnyH_tk (i := 2) (d := 53) (v := (.int .i64 b)) rfl rfl (by kernel_rfl) (by kernel_rfl) (by kernel_rfl) (fun _ _ _ h => h) (.inl ⟨by rfl, by (intro wq hSw; (try dsimp only at hSw); go_simp)⟩) hHeld ?_
          simp only [Act.put, List.setIfInBounds_toArray, List.set_cons_zero, List.set_cons_succ]
          refine wpAnyH_tk (i := 3) (d := 54) (v := (.int .i64 pb)) rfl rfl (by kernel_rfl) (by kernel_rfl) (by kernel_rfl) (fun _ _ _ h => h) (.inl ⟨by rfl, by (intro wq hSw; (try dsimp only at hSw); go_simp)⟩) hHeld ?_
          simp only [Act.put, List.setIfInBounds_toArray, List.set_cons_zero, List.set_cons_succ]
          refine wpAnyH_tk (i := 4) (d := 55) (v := (.int .i64 s2)) rfl rfl (by kernel_rfl) (by kernel_rfl) (by kernel_rfl) (fun _ _ _ h => h) (.inl ⟨by rfl, by (intro wq hSw; (try dsimp only at hSw); go_simp)⟩) hHeld ?_
          simp only [Act.put, List.setIfInBounds_toArray, List.set_cons_zero, List.set_cons_succ]
          refine wpAnyH_ready (rs := [5]) (by kernel_rfl) (by simp) ?_
          refine ready_tk (i := 5) rfl (by rfl) (fun K hK => ?_) AllReadyH.nil
          go_simp
          refine HCB.out.mono ?_
          rintro e w3 ⟨rfl, hb3⟩
          obtain ⟨g1', g2', g3', g4', g5'⟩ := HKS.out w3 hb3
          have HG1 : Hid (w3.rowIs (w.heap.size + 1) 4 N (fun i => .bool (dnB ws (k + 1) i))) := g1'
          have HG2 : Hid (Below W.heap.size W w3) := g2'
          clear hb3 g1' g2' HKS
          refine hK.out _ _ ⟨g3', g4'⟩ (fun hHeld => ?_)
          clear hK K
          refine wpAnyH_done (by kernel_rfl) ?_ _
          clear hHeld f0 f1
          cases fb
          · have HG : Hid (grT bs ws (hvL ws) (k + 1) = (s0, m0)) := by
              show _ = _
              rw [HGT.out, if_neg (by decide)]
            go_wp2
            exact ⟨⟨k + 1, by omega, by go_num, by rw [HG.out], by rw [HG.out], HG1.out, HG2.out⟩, by simp [intOf]; omega⟩
          · have HG : Hid (grT bs ws (hvL ws) (k + 1) = (s2, m0 + Y)) := by
              show _ = _
              rw [HGT.out, if_pos rfl]
            go_wp2
            exact ⟨⟨k + 1, by omega, by go_num, by rw [HG.out], by rw [HG.out], HG1.out, HG2.out⟩, by simp [intOf]; omega⟩
    · have hke : N = k := by omega
      subst hke
      have HBW : Hid (Below w.heap.size w wk) := (HC.out wk HBR.out).2.2.2.2
      generalize hG : grT bs ws (hvL ws) N = gg at *
      obtain ⟨T1, T2⟩ := gg
      have HGG : Hid (grT bs ws (hvL ws) N = (T1, T2)) := hG
      clear hG
      go_wp2
      exact bodyPost_ret (v := .tuple #[.int .i64 (T1 : Int), .int .i64 T2]) (by simp [results, Tryd.results6, go_sem]) rfl ⟨by rw [HGG.out], HBW.out⟩

end Go.Proofs.YtkimhomkeneddaaDoor
