import Derived.Test.YtcmemhdlendlkaaDoorDc1
import Derived.Test.YtcmemhdlendlkaaDoorTkA
/- facetref.FiltersOf. -/
namespace Go.Proofs.YtcmemhdlendlkaaDoor
open Go.RowKit
attribute [local go_sem ↓] Go.wp_at_zero Go.wp_at_succ

theorem and64filOf : ∀ s : Nat, s < 64 → ∀ a : Nat, a < 64 → bits .and .i64 (a : Int) (s : Int) = ((a &&& s : Nat) : Int) ∧ ((((a &&& s : Nat) : Int)) == (a : Int)) = filQ s a := by decide +kernel

set_option maxRecDepth 100000 in
set_option maxHeartbeats 3200000 in
theorem filOf_any (n : Nat) (f : Nat → Nat) (hf : ∀ i, i < n → f i < 64) (hn1 : 1 ≤ n) (hn : n ≤ 6) (v : Value) (w : World) (hv : Sl w.heap.size 3 w v (ints (upL n f))) :
    Calls Tryd.prog 7 #[v] w fun e w' => ∃ x, e = .returned x ∧ w'.ownsRow w.heap.size 3 1 x (stTo filQ f (2 ^ n)).length (ints (stTo filQ f (2 ^ n))) ∧ Below w.heap.size w w' := by
  obtain ⟨i3, hi3, hz30, hz31, hz32⟩ := info_parts Tryd.info3
  obtain ⟨ub, uo, uc, hvv, hcap, -⟩ := sl_cell hv (k := 0) (by rw [upL_len]; omega)
  rw [upL_len] at hvv hcap
  subst hvv
  have HUC : Hid (∀ i, i < n → w.cell? ⟨ub, uo + i, none⟩ = some (.int .i64 ((f i : Nat) : Int))) := fun i hi => by
    obtain ⟨b2, o2, c2, hs, _, hc⟩ := sl_cell hv (k := i) (by rw [upL_len]; exact hi)
    simp only [Value.slice.injEq, Option.some.injEq, Addr.mk.injEq, and_true] at hs
    obtain ⟨⟨rfl, rfl⟩, -, rfl⟩ := hs
    rw [upL_at f hi] at hc
    exact hc
  have hN64 : 2 ^ n ≤ 64 := (Nat.pow_le_pow_right (by omega) hn : 2 ^ n ≤ 2 ^ 6)
  have HX : Hid (∀ i, i < n → f i < 64) := hf
  have HM8 : Hid (∀ s k, s < 2 ^ n → k < (mem8 s).length → ∃ i : Nat, (mem8 s).getD k 0 = (i : Int) ∧ i < n) := fun s k h1 h2 => mem8_at h1 h2
  have eN2 : (2 : Int) ^ n = ((2 ^ n : Nat) : Int) := by simp
  have eN : IntKind.i64.wrap ((2 ^ n : Nat) : Int) = ((2 ^ n : Nat) : Int) := by
    rw [IntWalk.i64_left]
    generalize 2 ^ n = q2 at *
    exact IntWalk.wrap64_in _ ⟨by omega, by omega⟩
  have HSU : Hid (∀ k, stTo filQ f (k + 1) = stTo filQ f k ++ if stB filQ f k then [(k : Int)] else []) := stTo_succ filQ f
  have HSL : Hid (∀ k, (stTo filQ f k).length ≤ k) := stTo_len filQ f
  have HS0 : Hid (stTo filQ f 0 = []) := rfl
  have HSB : Hid (∀ s, stB filQ f s = (mem8 s).all fun x => filQ s (f x.toNat)) := fun _ => rfl
  obtain ⟨N2, hN2⟩ : ∃ N2, N2 = 2 ^ n := ⟨_, rfl⟩
  rw [← hN2] at eN eN2 hN64 HM8
  rw [← hN2]
  have HO0 : Hid (w.ownsRow w.heap.size 3 1 (.slice none 0 0) (stTo filQ f 0).length (ints (stTo filQ f 0))) := by rw [HS0.out]; exact World.ownsRow_nil _ _ _ _
  clear hN2 hv hf
  go_enter Tryd.func7, Tryd.ntmps7
  go_wp2
  go_loopw [3, 4] (fun sv iv wr => ∃ k : Nat, k ≤ N2 ∧ iv = .int .i64 (k : Int) ∧ wr.ownsRow w.heap.size 3 1 sv (stTo filQ f k).length (ints (stTo filQ f k)) ∧ Below w.heap.size w wr) (fun _ iv _ => N2 - (intOf iv).toNat)
  case atStart => exact ⟨0, Nat.zero_le _, rfl, HO0.out, Below.refl _ _⟩
  case round =>
    obtain ⟨s, hs, rfl, ho, hb⟩ := hrel
    clear HO0
    obtain ⟨so, sc, hsv⟩ := owns_form ho
    subst hsv
    have hszr : w.heap.size ≤ wr.heap.size := hb.size
    by_cases hlt : s < N2
    · have HLI := members8_any s wr (by omega)
      have HO : Hid (wr.ownsRow w.heap.size 3 1 (.slice so (stTo filQ f s).length sc) (stTo filQ f s).length (ints (stTo filQ f s))) := ho
      have HB : Hid (Below w.heap.size w wr) := hb
      have HS1 := HSU.out s
      have hLk := HSL.out s
      have HM : Hid (∀ j, j < (mem8 s).length → ∃ i : Nat, (mem8 s).getD j 0 = (i : Int) ∧ i < n) := fun j hj => HM8.out s j hlt hj
      have HAL := HSB.out s
      have hL8 := mem8_len s
      clear ho hb
      generalize mem8 s = L at *
      generalize stTo filQ f s = S at *
      obtain ⟨sl, hsl⟩ : ∃ sl, sl = S.length := ⟨_, rfl⟩
      have HSLN : Hid (sl = S.length) := hsl
      rw [← hsl] at HO hLk
      rw [← hsl]
      clear hsl
      obtain ⟨S1, hS1⟩ : ∃ S1, S1 = stTo filQ f (s + 1) := ⟨_, rfl⟩
      rw [← hS1] at HS1
      have HSE : Hid (S1 = stTo filQ f (s + 1)) := hS1
      have HSV : Hid (S1 = S ++ if stB filQ f s then [(s : Int)] else []) := HS1
      have HAV : Hid (stB filQ f s = L.all fun x => filQ s (f x.toNat)) := HAL
      clear hS1 HS1 HAL
      have kI : (s : Int) < (N2 : Int) := by omega
      have hk64 : s < 64 := by omega
      go_wp2_with fail
      refine HLI.mono ?_
      rintro e w3 ⟨u, rfl, hu, hb3⟩
      obtain ⟨ul, lc, huv⟩ := owns_form hu
      subst huv
      have HU : Hid (Sl 0 3 w3 (.slice ul L.length lc) (ints L)) := Sl.own hu
      have HO3 : Hid (w3.ownsRow w.heap.size 3 1 (.slice so sl sc) sl (ints S)) := owns_below HO.out hb3 (Nat.le_refl _)
      have HB3 : Hid (Below w.heap.size w w3) := HB.out.trans (hb3.mono HB.out.size)
      have hsz3 : w.heap.size ≤ w3.heap.size := HB3.out.size
      clear hu hb3 HLI HO HB
      go_wp2
      go_loopw [6, 7] (fun ov jv wq => ∃ j : Nat, j ≤ L.length ∧ jv = .int .i64 (j : Int) ∧ ov = .bool ((L.take j).all fun x => filQ s (f x.toNat)) ∧ Below w3.heap.size w3 wq) (fun _ jv _ => L.length - (intOf jv).toNat)
      case atStart => exact ⟨0, Nat.zero_le _, rfl, rfl, Below.refl _ _⟩
      case round =>
        obtain ⟨j, hj, rfl, rfl, hbq⟩ := hrel
        rename World => wq
        have HBQ : Hid (Below w3.heap.size w3 wq) := hbq
        clear hbq
        by_cases hlj : j < L.length
        · obtain ⟨i, hi, hin⟩ := HM.out j hlj
          obtain ⟨lb, lo, lc2, hs2, _, hcc⟩ := sl_cell HU.out hlj
          simp only [Value.slice.injEq, true_and] at hs2
          obtain ⟨rfl, rfl⟩ := hs2
          have HN1 : Hid ((L.take (j + 1)).all (fun x => filQ s (f x.toNat)) = ((L.take j).all (fun x => filQ s (f x.toNat)) && filQ s (f i))) := by
            show _ = _
            rw [take_snoc_int L j hlj, List.all_append, hi]
            simp
          rw [hi] at hcc
          have hc1 : wq.cell? ⟨lb, lo + j, none⟩ = some (.int .i64 (i : Int)) := (HBQ.out.cell (lt_of_cell hcc)).trans hcc
          have hc2 : wq.cell? ⟨ub, uo + i, none⟩ = some (.int .i64 ((f i : Nat) : Int)) := ((HB3.out.trans (HBQ.out.mono hsz3)).cell (lt_of_cell (HUC.out i hin))).trans (HUC.out i hin)
          obtain ⟨ea, eq1⟩ := and64filOf s hk64 (f i) (HX.out i hin)
          generalize (L.take j).all (fun x => filQ s (f x.toNat)) = ob at *
          generalize filQ s (f i) = qb at *
          generalize f i &&& s = z at *
          generalize f i = fi at *
          have iI : (i : Int) < (n : Int) := by omega
          have iI0 : (0 : Int) ≤ (i : Int) := by omega
          have jI : (j : Int) < (L.length : Int) := by omega
          have jI0 : (0 : Int) ≤ (j : Int) := by omega
          clear hi hcc
          cases ob
          · have HN2 : Hid ((L.take (j + 1)).all (fun x => filQ s (f x.toNat)) = false) := HN1.out.trans (by simp)
            clear HN1
            go_wp2
            refine wp_region_held_drew (S := fun w' => True) (by kernel_rfl) trivial (fun hHeld => ?_)
            refine wpAnyH_tk (i := 0) (d := 23) (v := (.bool false)) rfl rfl (by kernel_rfl) (by kernel_rfl) (by kernel_rfl) (fun _ _ _ h => h) (.inl ⟨by rfl, by (intro wq hSw; (try dsimp only at hSw); go_simp; (try (first | rfl | omega)))⟩) hHeld ?_
            simp only [Act.put, List.setIfInBounds_toArray, List.set_cons_zero, List.set_cons_succ]
            refine wpAnyH_tk (i := 1) (d := 24) (v := (.bool false)) rfl rfl (by kernel_rfl) (by kernel_rfl) (by kernel_rfl) (fun _ _ _ h => h) (.inl ⟨by rfl, by (intro wq hSw; (try dsimp only at hSw); go_simp; (try (first | rfl | omega)))⟩) hHeld ?_
            simp only [Act.put, List.setIfInBounds_toArray, List.set_cons_zero, List.set_cons_succ]
            refine wpAnyH_tk (i := 2) (d := 25) (v := undef) rfl rfl (by kernel_rfl) (by kernel_rfl) (by kernel_rfl) (fun _ _ _ h => h) (.inr ⟨by rfl, rfl⟩) hHeld ?_
            simp only [Act.put, List.setIfInBounds_toArray, List.set_cons_zero, List.set_cons_succ]
            refine wpAnyH_tk (i := 3) (d := 26) (v := undef) rfl rfl (by kernel_rfl) (by kernel_rfl) (by kernel_rfl) (fun _ _ _ h => h) (.inr ⟨by rfl, rfl⟩) hHeld ?_
            simp only [Act.put, List.setIfInBounds_toArray, List.set_cons_zero, List.set_cons_succ]
            refine wpAnyH_tk (i := 4) (d := 27) (v := undef) rfl rfl (by kernel_rfl) (by kernel_rfl) (by kernel_rfl) (fun _ _ _ h => h) (.inr ⟨by rfl, rfl⟩) hHeld ?_
            simp only [Act.put, List.setIfInBounds_toArray, List.set_cons_zero, List.set_cons_succ]
            refine wpAnyH_tk (i := 5) (d := 28) (v := undef) rfl rfl (by kernel_rfl) (by kernel_rfl) (by kernel_rfl) (fun _ _ _ h => h) (.inr ⟨by rfl, rfl⟩) hHeld ?_
            simp only [Act.put, List.setIfInBounds_toArray, List.set_cons_zero, List.set_cons_succ]
            refine wpAnyH_tk (i := 6) (d := 29) (v := undef) rfl rfl (by kernel_rfl) (by kernel_rfl) (by kernel_rfl) (fun _ _ _ h => h) (.inr ⟨by rfl, rfl⟩) hHeld ?_
            simp only [Act.put, List.setIfInBounds_toArray, List.set_cons_zero, List.set_cons_succ]
            refine wpAnyH_tk (i := 7) (d := 30) (v := undef) rfl rfl (by kernel_rfl) (by kernel_rfl) (by kernel_rfl) (fun _ _ _ h => h) (.inr ⟨by rfl, rfl⟩) hHeld ?_
            simp only [Act.put, List.setIfInBounds_toArray, List.set_cons_zero, List.set_cons_succ]
            refine wpAnyH_tk (i := 8) (d := 31) (v := undef) rfl rfl (by kernel_rfl) (by kernel_rfl) (by kernel_rfl) (fun _ _ _ h => h) (.inr ⟨by rfl, rfl⟩) hHeld ?_
            simp only [Act.put, List.setIfInBounds_toArray, List.set_cons_zero, List.set_cons_succ]
            refine wpAnyH_tk (i := 9) (d := 32) (v := undef) rfl rfl (by kernel_rfl) (by kernel_rfl) (by kernel_rfl) (fun _ _ _ h => h) (.inr ⟨by rfl, rfl⟩) hHeld ?_
            simp only [Act.put, List.setIfInBounds_toArray, List.set_cons_zero, List.set_cons_succ]
            refine wpAnyH_tk (i := 10) (d := 33) (v := undef) rfl rfl (by kernel_rfl) (by kernel_rfl) (by kernel_rfl) (fun _ _ _ h => h) (.inr ⟨by rfl, rfl⟩) hHeld ?_
            simp only [Act.put, List.setIfInBounds_toArray, List.set_cons_zero, List.set_cons_succ]
            refine wpAnyH_tk (i := 11) (d := 34) (v := undef) rfl rfl (by kernel_rfl) (by kernel_rfl) (by kernel_rfl) (fun _ _ _ h => h) (.inr ⟨by rfl, rfl⟩) hHeld ?_
            simp only [Act.put, List.setIfInBounds_toArray, List.set_cons_zero, List.set_cons_succ]
            refine wpAnyH_tk (i := 12) (d := 35) (v := undef) rfl rfl (by kernel_rfl) (by kernel_rfl) (by kernel_rfl) (fun _ _ _ h => h) (.inr ⟨by rfl, rfl⟩) hHeld ?_
            simp only [Act.put, List.setIfInBounds_toArray, List.set_cons_zero, List.set_cons_succ]
            refine wpAnyH_tk (i := 13) (d := 36) (v := undef) rfl rfl (by kernel_rfl) (by kernel_rfl) (by kernel_rfl) (fun _ _ _ h => h) (.inr ⟨by rfl, rfl⟩) hHeld ?_
            simp only [Act.put, List.setIfInBounds_toArray, List.set_cons_zero, List.set_cons_succ]
            refine wpAnyH_tk (i := 14) (d := 37) (v := undef) rfl rfl (by kernel_rfl) (by kernel_rfl) (by kernel_rfl) (fun _ _ _ h => h) (.inr ⟨by rfl, rfl⟩) hHeld ?_
            simp only [Act.put, List.setIfInBounds_toArray, List.set_cons_zero, List.set_cons_succ]
            refine wpAnyH_tk (i := 15) (d := 38) (v := undef) rfl rfl (by kernel_rfl) (by kernel_rfl) (by kernel_rfl) (fun _ _ _ h => h) (.inr ⟨by rfl, rfl⟩) hHeld ?_
            simp only [Act.put, List.setIfInBounds_toArray, List.set_cons_zero, List.set_cons_succ]
            refine wpAnyH_tk (i := 16) (d := 39) (v := undef) rfl rfl (by kernel_rfl) (by kernel_rfl) (by kernel_rfl) (fun _ _ _ h => h) (.inr ⟨by rfl, rfl⟩) hHeld ?_
            simp only [Act.put, List.setIfInBounds_toArray, List.set_cons_zero, List.set_cons_succ]
            refine wpAnyH_tk (i := 17) (d := 40) (v := undef) rfl rfl (by kernel_rfl) (by kernel_rfl) (by kernel_rfl) (fun _ _ _ h => h) (.inr ⟨by rfl, rfl⟩) hHeld ?_
            simp only [Act.put, List.setIfInBounds_toArray, List.set_cons_zero, List.set_cons_succ]
            refine wpAnyH_tk (i := 18) (d := 41) (v := undef) rfl rfl (by kernel_rfl) (by kernel_rfl) (by kernel_rfl) (fun _ _ _ h => h) (.inr ⟨by rfl, rfl⟩) hHeld ?_
            simp only [Act.put, List.setIfInBounds_toArray, List.set_cons_zero, List.set_cons_succ]
            refine wpAnyH_tk (i := 19) (d := 42) (v := (.bool false)) rfl rfl (by kernel_rfl) (by kernel_rfl) (by kernel_rfl) (fun _ _ _ h => h) (.inl ⟨by rfl, by (intro wq hSw; (try dsimp only at hSw); go_simp; (try (first | rfl | omega)))⟩) hHeld ?_
            simp only [Act.put, List.setIfInBounds_toArray, List.set_cons_zero, List.set_cons_succ]
            refine wpAnyH_tk (i := 20) (d := 6) (v := (.bool false)) rfl rfl (by kernel_rfl) (by kernel_rfl) (by kernel_rfl) (fun _ _ _ h => h) (.inl ⟨by rfl, by (intro wq hSw; (try dsimp only at hSw); go_simp; (try (first | rfl | omega)))⟩) hHeld ?_
            simp only [Act.put, List.setIfInBounds_toArray, List.set_cons_zero, List.set_cons_succ]
            refine wpAnyH_done (by kernel_rfl) ?_ _
            clear hHeld
            go_wp2
            go_roundw
            case rel => exact ⟨j + 1, by omega, by go_num, by rw [HN2.out], HBQ.out.trans ⟨rfl, rfl, rfl, Nat.le_refl _, fun _ _ => rfl⟩⟩
            case measure => simp [intOf]; omega
          · have HN2 : Hid ((L.take (j + 1)).all (fun x => filQ s (f x.toNat)) = qb) := HN1.out.trans (by simp)
            clear HN1
            go_wp2
            refine wp_region_held_drew (S := fun w' => w'.cell? ⟨lb, lo + j, none⟩ = some (.int .i64 (i : Int)) ∧ w'.cell? ⟨ub, uo + i, none⟩ = some (.int .i64 (fi : Int))) (by kernel_rfl) ⟨hc1, hc2⟩ (fun hHeld => ?_)
            refine wpAnyH_tk (i := 0) (d := 23) (v := (.bool true)) rfl rfl (by kernel_rfl) (by kernel_rfl) (by kernel_rfl) (fun _ _ _ h => h) (.inl ⟨by rfl, by (intro wq hSw; (try dsimp only at hSw); go_simp; (try (first | rfl | omega)))⟩) hHeld ?_
            simp only [Act.put, List.setIfInBounds_toArray, List.set_cons_zero, List.set_cons_succ]
            refine wpAnyH_tk (i := 1) (d := 24) (v := (.bool true)) rfl rfl (by kernel_rfl) (by kernel_rfl) (by kernel_rfl) (fun _ _ _ h => h) (.inl ⟨by rfl, by (intro wq hSw; (try dsimp only at hSw); go_simp; (try (first | rfl | omega)))⟩) hHeld ?_
            simp only [Act.put, List.setIfInBounds_toArray, List.set_cons_zero, List.set_cons_succ]
            refine wpAnyH_tk (i := 2) (d := 25) (v := (.slice (some ⟨ub, uo, none⟩) n uc)) rfl rfl (by kernel_rfl) (by kernel_rfl) (by kernel_rfl) (fun _ _ _ h => h) (.inl ⟨by rfl, by (intro wq hSw; (try dsimp only at hSw); go_simp; (try (first | rfl | omega)))⟩) hHeld ?_
            simp only [Act.put, List.setIfInBounds_toArray, List.set_cons_zero, List.set_cons_succ]
            refine wpAnyH_tk (i := 3) (d := 26) (v := (.slice (some ⟨lb, lo, none⟩) L.length lc)) rfl rfl (by kernel_rfl) (by kernel_rfl) (by kernel_rfl) (fun _ _ _ h => h) (.inl ⟨by rfl, by (intro wq hSw; (try dsimp only at hSw); go_simp; (try (first | rfl | omega)))⟩) hHeld ?_
            simp only [Act.put, List.setIfInBounds_toArray, List.set_cons_zero, List.set_cons_succ]
            refine wpAnyH_tk (i := 4) (d := 27) (v := (.int .i64 (j : Int))) rfl rfl (by kernel_rfl) (by kernel_rfl) (by kernel_rfl) (fun _ _ _ h => h) (.inl ⟨by rfl, by (intro wq hSw; (try dsimp only at hSw); go_simp; (try (first | rfl | omega)))⟩) hHeld ?_
            simp only [Act.put, List.setIfInBounds_toArray, List.set_cons_zero, List.set_cons_succ]
            refine wpAnyH_tk (i := 5) (d := 28) (v := (.pointer (some ⟨lb, lo + j, none⟩))) rfl rfl (by kernel_rfl) (by kernel_rfl) (by kernel_rfl) (fun _ _ _ h => h) (.inl ⟨by rfl, by (intro wq hSw; (try dsimp only at hSw); go_simp; (try (first | rfl | omega)))⟩) hHeld ?_
            simp only [Act.put, List.setIfInBounds_toArray, List.set_cons_zero, List.set_cons_succ]
            refine wpAnyH_tk (i := 6) (d := 29) (v := (.int .i64 (i : Int))) rfl rfl (by kernel_rfl) (by kernel_rfl) (by kernel_rfl) (fun _ _ _ h => h) (.inl ⟨by rfl, by (intro wq hSw; (try dsimp only at hSw); go_simp; (try (first | rfl | omega)))⟩) hHeld ?_
            simp only [Act.put, List.setIfInBounds_toArray, List.set_cons_zero, List.set_cons_succ]
            refine wpAnyH_tk (i := 7) (d := 30) (v := (.pointer (some ⟨ub, uo + i, none⟩))) rfl rfl (by kernel_rfl) (by kernel_rfl) (by kernel_rfl) (fun _ _ _ h => h) (.inl ⟨by rfl, by (intro wq hSw; (try dsimp only at hSw); go_simp; (try (first | rfl | omega)))⟩) hHeld ?_
            simp only [Act.put, List.setIfInBounds_toArray, List.set_cons_zero, List.set_cons_succ]
            refine wpAnyH_tk (i := 8) (d := 31) (v := (.int .i64 (fi : Int))) rfl rfl (by kernel_rfl) (by kernel_rfl) (by kernel_rfl) (fun _ _ _ h => h) (.inl ⟨by rfl, by (intro wq hSw; (try dsimp only at hSw); go_simp; (try (first | rfl | omega)))⟩) hHeld ?_
            simp only [Act.put, List.setIfInBounds_toArray, List.set_cons_zero, List.set_cons_succ]
            refine wpAnyH_tk (i := 9) (d := 32) (v := (.int .i64 (s : Int))) rfl rfl (by kernel_rfl) (by kernel_rfl) (by kernel_rfl) (fun _ _ _ h => h) (.inl ⟨by rfl, by (intro wq hSw; (try dsimp only at hSw); go_simp; (try (first | rfl | omega)))⟩) hHeld ?_
            simp only [Act.put, List.setIfInBounds_toArray, List.set_cons_zero, List.set_cons_succ]
            refine wpAnyH_tk (i := 10) (d := 33) (v := (.int .i64 (z : Int))) rfl rfl (by kernel_rfl) (by kernel_rfl) (by kernel_rfl) (fun _ _ _ h => h) (.inl ⟨by rfl, by (intro wq hSw; (try dsimp only at hSw); go_simp; (try (first | rfl | omega)))⟩) hHeld ?_
            simp only [Act.put, List.setIfInBounds_toArray, List.set_cons_zero, List.set_cons_succ]
            refine wpAnyH_tk (i := 11) (d := 34) (v := (.slice (some ⟨ub, uo, none⟩) n uc)) rfl rfl (by kernel_rfl) (by kernel_rfl) (by kernel_rfl) (fun _ _ _ h => h) (.inl ⟨by rfl, by (intro wq hSw; (try dsimp only at hSw); go_simp; (try (first | rfl | omega)))⟩) hHeld ?_
            simp only [Act.put, List.setIfInBounds_toArray, List.set_cons_zero, List.set_cons_succ]
            refine wpAnyH_tk (i := 12) (d := 35) (v := (.slice (some ⟨lb, lo, none⟩) L.length lc)) rfl rfl (by kernel_rfl) (by kernel_rfl) (by kernel_rfl) (fun _ _ _ h => h) (.inl ⟨by rfl, by (intro wq hSw; (try dsimp only at hSw); go_simp; (try (first | rfl | omega)))⟩) hHeld ?_
            simp only [Act.put, List.setIfInBounds_toArray, List.set_cons_zero, List.set_cons_succ]
            refine wpAnyH_tk (i := 13) (d := 36) (v := (.int .i64 (j : Int))) rfl rfl (by kernel_rfl) (by kernel_rfl) (by kernel_rfl) (fun _ _ _ h => h) (.inl ⟨by rfl, by (intro wq hSw; (try dsimp only at hSw); go_simp; (try (first | rfl | omega)))⟩) hHeld ?_
            simp only [Act.put, List.setIfInBounds_toArray, List.set_cons_zero, List.set_cons_succ]
            refine wpAnyH_tk (i := 14) (d := 37) (v := (.pointer (some ⟨lb, lo + j, none⟩))) rfl rfl (by kernel_rfl) (by kernel_rfl) (by kernel_rfl) (fun _ _ _ h => h) (.inl ⟨by rfl, by (intro wq hSw; (try dsimp only at hSw); go_simp; (try (first | rfl | omega)))⟩) hHeld ?_
            simp only [Act.put, List.setIfInBounds_toArray, List.set_cons_zero, List.set_cons_succ]
            refine wpAnyH_tk (i := 15) (d := 38) (v := (.int .i64 (i : Int))) rfl rfl (by kernel_rfl) (by kernel_rfl) (by kernel_rfl) (fun _ _ _ h => h) (.inl ⟨by rfl, by (intro wq hSw; (try dsimp only at hSw); go_simp; (try (first | rfl | omega)))⟩) hHeld ?_
            simp only [Act.put, List.setIfInBounds_toArray, List.set_cons_zero, List.set_cons_succ]
            refine wpAnyH_tk (i := 16) (d := 39) (v := (.pointer (some ⟨ub, uo + i, none⟩))) rfl rfl (by kernel_rfl) (by kernel_rfl) (by kernel_rfl) (fun _ _ _ h => h) (.inl ⟨by rfl, by (intro wq hSw; (try dsimp only at hSw); go_simp; (try (first | rfl | omega)))⟩) hHeld ?_
            simp only [Act.put, List.setIfInBounds_toArray, List.set_cons_zero, List.set_cons_succ]
            refine wpAnyH_tk (i := 17) (d := 40) (v := (.int .i64 (fi : Int))) rfl rfl (by kernel_rfl) (by kernel_rfl) (by kernel_rfl) (fun _ _ _ h => h) (.inl ⟨by rfl, by (intro wq hSw; (try dsimp only at hSw); go_simp; (try (first | rfl | omega)))⟩) hHeld ?_
            simp only [Act.put, List.setIfInBounds_toArray, List.set_cons_zero, List.set_cons_succ]
            refine wpAnyH_tk (i := 18) (d := 41) (v := (.bool qb)) rfl rfl (by kernel_rfl) (by kernel_rfl) (by kernel_rfl) (fun _ _ _ h => h) (.inl ⟨by rfl, by (intro wq hSw; (try dsimp only at hSw); go_simp; (try (first | rfl | omega)))⟩) hHeld ?_
            simp only [Act.put, List.setIfInBounds_toArray, List.set_cons_zero, List.set_cons_succ]
            refine wpAnyH_tk (i := 19) (d := 42) (v := (.bool qb)) rfl rfl (by kernel_rfl) (by kernel_rfl) (by kernel_rfl) (fun _ _ _ h => h) (.inl ⟨by rfl, by (intro wq hSw; (try dsimp only at hSw); go_simp; (try (first | rfl | omega)))⟩) hHeld ?_
            simp only [Act.put, List.setIfInBounds_toArray, List.set_cons_zero, List.set_cons_succ]
            refine wpAnyH_tk (i := 20) (d := 6) (v := (.bool qb)) rfl rfl (by kernel_rfl) (by kernel_rfl) (by kernel_rfl) (fun _ _ _ h => h) (.inl ⟨by rfl, by (intro wq hSw; (try dsimp only at hSw); go_simp; (try (first | rfl | omega)))⟩) hHeld ?_
            simp only [Act.put, List.setIfInBounds_toArray, List.set_cons_zero, List.set_cons_succ]
            refine wpAnyH_done (by kernel_rfl) ?_ _
            clear hHeld
            go_wp2
            go_roundw
            case rel => exact ⟨j + 1, by omega, by go_num, by rw [HN2.out], HBQ.out.trans ⟨rfl, rfl, rfl, Nat.le_refl _, fun _ _ => rfl⟩⟩
            case measure => simp [intOf]; omega
        · have hje : j = L.length := by omega
          subst hje
          have HO4 : Hid (wq.ownsRow w.heap.size 3 1 (.slice so sl sc) sl (ints S)) := owns_below HO3.out HBQ.out (Nat.le_refl _)
          have HB4 : Hid (Below w.heap.size w wq) := HB3.out.trans (HBQ.out.mono hsz3)
          have hsz4 : w.heap.size ≤ wq.heap.size := HB4.out.size
          rw [List.take_length]
          have HSW : Hid (S1 = S ++ if (L.all fun x => filQ s (f x.toNat)) then [(s : Int)] else []) := by
            show _ = _
            rw [← HAV.out]
            exact HSV.out
          clear HAV HSV HBQ HO3
          generalize (L.all fun x => filQ s (f x.toNat)) = ob at *
          cases ob
          · have HOX : Hid (wq.ownsRow w.heap.size 3 1 (.slice so sl sc) (stTo filQ f (s + 1)).length (ints (stTo filQ f (s + 1)))) := by
              have e1 : S1 = S := HSW.out.trans (by simp)
              rw [← HSE.out, e1, ← HSLN.out]
              exact HO4.out
            go_wp2
            go_roundw
            case rel => exact ⟨s + 1, by omega, by go_num, HOX.out, HB4.out⟩
            case measure => simp [intOf]; omega
          · have HS2 : Hid (S1 = S ++ [(s : Int)]) := HSW.out.trans (by simp)
            go_wp2_with (first | (at_builtin; refine wpList_append_own _ rfl _ _ 27 rfl w.heap.size 3 i3 (.int .i64 0) 1 8 Tryd.underlying27 hi3 hz30 hz31 hz32 rfl (by decide) _ _ _ rfl (HO4.out.alloc _) ⟨wq.heap.size, 0, none⟩ 1 1 [.int .i64 (s : Int)] rfl rfl (one_new _ _ _) (one_int _) ?c3 ?c4 ?c5 ?_))
            case c3 => unfold maxLen; omega
            case c4 => omega
            case c5 => first | exact hsz4 | omega | (simp; omega)
            intro v2 w4 ho hg _
            have R1 : Hid (w4.ownsRow w.heap.size 3 1 v2 (stTo filQ f (s + 1)).length (ints (stTo filQ f (s + 1)))) := by
              have e1 : (S ++ [(s : Int)]).length = sl + 1 := by rw [List.length_append, ← HSLN.out]; rfl
              have e2 : ints (S ++ [(s : Int)]) = ints S ++ [.int .i64 (s : Int)] := by simp [ints]
              show World.ownsRow _ _ _ _ _ _ _
              rw [← HSE.out, HS2.out, e1, e2]
              exact ho
            have R3 : Hid (Below w.heap.size w w4) := (HB4.out.alloc hsz4 _).grown hg (by simp; omega) (fun x hx => (HO4.out.lt x hx).1)
            clear ho hg
            go_wp2
            go_roundw
            case rel => exact ⟨s + 1, by omega, by go_num, R1.out, R3.out⟩
            case measure => simp [intOf]; omega
    · have hke : N2 = s := by omega
      subst hke
      have HO : Hid (wr.ownsRow w.heap.size 3 1 (.slice so (stTo filQ f N2).length sc) (stTo filQ f N2).length (ints (stTo filQ f N2))) := ho
      have HB : Hid (Below w.heap.size w wr) := hb
      clear ho hb hlt hs
      go_wp2
      go_ret
      exact ⟨_, rfl, HO.out, HB.out⟩

end Go.Proofs.YtcmemhdlendlkaaDoor

/- facetref.ApartOf. -/
namespace Go.Proofs.YtcmemhdlendlkaaDoor
open Go.RowKit
attribute [local go_sem ↓] Go.wp_at_zero Go.wp_at_succ

theorem and64apaOf : ∀ s : Nat, s < 64 → ∀ a : Nat, a < 64 → bits .and .i64 (a : Int) (s : Int) = ((a &&& s : Nat) : Int) ∧ ((((a &&& s : Nat) : Int)) == 0) = apaQ s a := by decide +kernel

set_option maxRecDepth 100000 in
set_option maxHeartbeats 3200000 in
theorem apaOf_any (n : Nat) (f : Nat → Nat) (hf : ∀ i, i < n → f i < 64) (hn1 : 1 ≤ n) (hn : n ≤ 6) (v : Value) (w : World) (hv : Sl w.heap.size 3 w v (ints (upL n f))) :
    Calls Tryd.prog 8 #[v] w fun e w' => ∃ x, e = .returned x ∧ w'.ownsRow w.heap.size 3 1 x (stTo apaQ f (2 ^ n)).length (ints (stTo apaQ f (2 ^ n))) ∧ Below w.heap.size w w' := by
  obtain ⟨i3, hi3, hz30, hz31, hz32⟩ := info_parts Tryd.info3
  obtain ⟨ub, uo, uc, hvv, hcap, -⟩ := sl_cell hv (k := 0) (by rw [upL_len]; omega)
  rw [upL_len] at hvv hcap
  subst hvv
  have HUC : Hid (∀ i, i < n → w.cell? ⟨ub, uo + i, none⟩ = some (.int .i64 ((f i : Nat) : Int))) := fun i hi => by
    obtain ⟨b2, o2, c2, hs, _, hc⟩ := sl_cell hv (k := i) (by rw [upL_len]; exact hi)
    simp only [Value.slice.injEq, Option.some.injEq, Addr.mk.injEq, and_true] at hs
    obtain ⟨⟨rfl, rfl⟩, -, rfl⟩ := hs
    rw [upL_at f hi] at hc
    exact hc
  have hN64 : 2 ^ n ≤ 64 := (Nat.pow_le_pow_right (by omega) hn : 2 ^ n ≤ 2 ^ 6)
  have HX : Hid (∀ i, i < n → f i < 64) := hf
  have HM8 : Hid (∀ s k, s < 2 ^ n → k < (mem8 s).length → ∃ i : Nat, (mem8 s).getD k 0 = (i : Int) ∧ i < n) := fun s k h1 h2 => mem8_at h1 h2
  have eN2 : (2 : Int) ^ n = ((2 ^ n : Nat) : Int) := by simp
  have eN : IntKind.i64.wrap ((2 ^ n : Nat) : Int) = ((2 ^ n : Nat) : Int) := by
    rw [IntWalk.i64_left]
    generalize 2 ^ n = q2 at *
    exact IntWalk.wrap64_in _ ⟨by omega, by omega⟩
  have HSU : Hid (∀ k, stTo apaQ f (k + 1) = stTo apaQ f k ++ if stB apaQ f k then [(k : Int)] else []) := stTo_succ apaQ f
  have HSL : Hid (∀ k, (stTo apaQ f k).length ≤ k) := stTo_len apaQ f
  have HS0 : Hid (stTo apaQ f 0 = []) := rfl
  have HSB : Hid (∀ s, stB apaQ f s = (mem8 s).all fun x => apaQ s (f x.toNat)) := fun _ => rfl
  obtain ⟨N2, hN2⟩ : ∃ N2, N2 = 2 ^ n := ⟨_, rfl⟩
  rw [← hN2] at eN eN2 hN64 HM8
  rw [← hN2]
  have HO0 : Hid (w.ownsRow w.heap.size 3 1 (.slice none 0 0) (stTo apaQ f 0).length (ints (stTo apaQ f 0))) := by rw [HS0.out]; exact World.ownsRow_nil _ _ _ _
  clear hN2 hv hf
  go_enter Tryd.func8, Tryd.ntmps8
  go_wp2
  go_loopw [3, 4] (fun sv iv wr => ∃ k : Nat, k ≤ N2 ∧ iv = .int .i64 (k : Int) ∧ wr.ownsRow w.heap.size 3 1 sv (stTo apaQ f k).length (ints (stTo apaQ f k)) ∧ Below w.heap.size w wr) (fun _ iv _ => N2 - (intOf iv).toNat)
  case atStart => exact ⟨0, Nat.zero_le _, rfl, HO0.out, Below.refl _ _⟩
  case round =>
    obtain ⟨s, hs, rfl, ho, hb⟩ := hrel
    clear HO0
    obtain ⟨so, sc, hsv⟩ := owns_form ho
    subst hsv
    have hszr : w.heap.size ≤ wr.heap.size := hb.size
    by_cases hlt : s < N2
    · have HLI := members8_any s wr (by omega)
      have HO : Hid (wr.ownsRow w.heap.size 3 1 (.slice so (stTo apaQ f s).length sc) (stTo apaQ f s).length (ints (stTo apaQ f s))) := ho
      have HB : Hid (Below w.heap.size w wr) := hb
      have HS1 := HSU.out s
      have hLk := HSL.out s
      have HM : Hid (∀ j, j < (mem8 s).length → ∃ i : Nat, (mem8 s).getD j 0 = (i : Int) ∧ i < n) := fun j hj => HM8.out s j hlt hj
      have HAL := HSB.out s
      have hL8 := mem8_len s
      clear ho hb
      generalize mem8 s = L at *
      generalize stTo apaQ f s = S at *
      obtain ⟨sl, hsl⟩ : ∃ sl, sl = S.length := ⟨_, rfl⟩
      have HSLN : Hid (sl = S.length) := hsl
      rw [← hsl] at HO hLk
      rw [← hsl]
      clear hsl
      obtain ⟨S1, hS1⟩ : ∃ S1, S1 = stTo apaQ f (s + 1) := ⟨_, rfl⟩
      rw [← hS1] at HS1
      have HSE : Hid (S1 = stTo apaQ f (s + 1)) := hS1
      have HSV : Hid (S1 = S ++ if stB apaQ f s then [(s : Int)] else []) := HS1
      have HAV : Hid (stB apaQ f s = L.all fun x => apaQ s (f x.toNat)) := HAL
      clear hS1 HS1 HAL
      have kI : (s : Int) < (N2 : Int) := by omega
      have hk64 : s < 64 := by omega
      go_wp2_with fail
      refine HLI.mono ?_
      rintro e w3 ⟨u, rfl, hu, hb3⟩
      obtain ⟨ul, lc, huv⟩ := owns_form hu
      subst huv
      have HU : Hid (Sl 0 3 w3 (.slice ul L.length lc) (ints L)) := Sl.own hu
      have HO3 : Hid (w3.ownsRow w.heap.size 3 1 (.slice so sl sc) sl (ints S)) := owns_below HO.out hb3 (Nat.le_refl _)
      have HB3 : Hid (Below w.heap.size w w3) := HB.out.trans (hb3.mono HB.out.size)
      have hsz3 : w.heap.size ≤ w3.heap.size := HB3.out.size
      clear hu hb3 HLI HO HB
      go_wp2
      go_loopw [6, 7] (fun ov jv wq => ∃ j : Nat, j ≤ L.length ∧ jv = .int .i64 (j : Int) ∧ ov = .bool ((L.take j).all fun x => apaQ s (f x.toNat)) ∧ Below w3.heap.size w3 wq) (fun _ jv _ => L.length - (intOf jv).toNat)
      case atStart => exact ⟨0, Nat.zero_le _, rfl, rfl, Below.refl _ _⟩
      case round =>
        obtain ⟨j, hj, rfl, rfl, hbq⟩ := hrel
        rename World => wq
        have HBQ : Hid (Below w3.heap.size w3 wq) := hbq
        clear hbq
        by_cases hlj : j < L.length
        · obtain ⟨i, hi, hin⟩ := HM.out j hlj
          obtain ⟨lb, lo, lc2, hs2, _, hcc⟩ := sl_cell HU.out hlj
          simp only [Value.slice.injEq, true_and] at hs2
          obtain ⟨rfl, rfl⟩ := hs2
          have HN1 : Hid ((L.take (j + 1)).all (fun x => apaQ s (f x.toNat)) = ((L.take j).all (fun x => apaQ s (f x.toNat)) && apaQ s (f i))) := by
            show _ = _
            rw [take_snoc_int L j hlj, List.all_append, hi]
            simp
          rw [hi] at hcc
          have hc1 : wq.cell? ⟨lb, lo + j, none⟩ = some (.int .i64 (i : Int)) := (HBQ.out.cell (lt_of_cell hcc)).trans hcc
          have hc2 : wq.cell? ⟨ub, uo + i, none⟩ = some (.int .i64 ((f i : Nat) : Int)) := ((HB3.out.trans (HBQ.out.mono hsz3)).cell (lt_of_cell (HUC.out i hin))).trans (HUC.out i hin)
          obtain ⟨ea, eq1⟩ := and64apaOf s hk64 (f i) (HX.out i hin)
          generalize (L.take j).all (fun x => apaQ s (f x.toNat)) = ob at *
          generalize apaQ s (f i) = qb at *
          generalize f i &&& s = z at *
          generalize f i = fi at *
          have iI : (i : Int) < (n : Int) := by omega
          have iI0 : (0 : Int) ≤ (i : Int) := by omega
          have jI : (j : Int) < (L.length : Int) := by omega
          have jI0 : (0 : Int) ≤ (j : Int) := by omega
          clear hi hcc
          cases ob
          · have HN2 : Hid ((L.take (j + 1)).all (fun x => apaQ s (f x.toNat)) = false) := HN1.out.trans (by simp)
            clear HN1
            go_wp2
            exact ⟨⟨j + 1, by omega, by go_num, by rw [HN2.out], HBQ.out⟩, by simp [intOf]; omega⟩
          · have HN2 : Hid ((L.take (j + 1)).all (fun x => apaQ s (f x.toNat)) = qb) := HN1.out.trans (by simp)
            clear HN1
            go_wp2
            exact ⟨⟨j + 1, by omega, by go_num, by rw [HN2.out], HBQ.out⟩, by simp [intOf]; omega⟩
        · have hje : j = L.length := by omega
          subst hje
          have HO4 : Hid (wq.ownsRow w.heap.size 3 1 (.slice so sl sc) sl (ints S)) := owns_below HO3.out HBQ.out (Nat.le_refl _)
          have HB4 : Hid (Below w.heap.size w wq) := HB3.out.trans (HBQ.out.mono hsz3)
          have hsz4 : w.heap.size ≤ wq.heap.size := HB4.out.size
          rw [List.take_length]
          have HSW : Hid (S1 = S ++ if (L.all fun x => apaQ s (f x.toNat)) then [(s : Int)] else []) := by
            show _ = _
            rw [← HAV.out]
            exact HSV.out
          clear HAV HSV HBQ HO3
          generalize (L.all fun x => apaQ s (f x.toNat)) = ob at *
          cases ob
          · have HOX : Hid (wq.ownsRow w.heap.size 3 1 (.slice so sl sc) (stTo apaQ f (s + 1)).length (ints (stTo apaQ f (s + 1)))) := by
              have e1 : S1 = S := HSW.out.trans (by simp)
              rw [← HSE.out, e1, ← HSLN.out]
              exact HO4.out
            go_wp2
            go_roundw
            case rel => exact ⟨s + 1, by omega, by go_num, HOX.out, HB4.out⟩
            case measure => simp [intOf]; omega
          · have HS2 : Hid (S1 = S ++ [(s : Int)]) := HSW.out.trans (by simp)
            go_wp2_with (first | (at_builtin; refine wpList_append_own _ rfl _ _ 27 rfl w.heap.size 3 i3 (.int .i64 0) 1 8 Tryd.underlying27 hi3 hz30 hz31 hz32 rfl (by decide) _ _ _ rfl (HO4.out.alloc _) ⟨wq.heap.size, 0, none⟩ 1 1 [.int .i64 (s : Int)] rfl rfl (one_new _ _ _) (one_int _) ?c3 ?c4 ?c5 ?_))
            case c3 => unfold maxLen; omega
            case c4 => omega
            case c5 => first | exact hsz4 | omega | (simp; omega)
            intro v2 w4 ho hg _
            have R1 : Hid (w4.ownsRow w.heap.size 3 1 v2 (stTo apaQ f (s + 1)).length (ints (stTo apaQ f (s + 1)))) := by
              have e1 : (S ++ [(s : Int)]).length = sl + 1 := by rw [List.length_append, ← HSLN.out]; rfl
              have e2 : ints (S ++ [(s : Int)]) = ints S ++ [.int .i64 (s : Int)] := by simp [ints]
              show World.ownsRow _ _ _ _ _ _ _
              rw [← HSE.out, HS2.out, e1, e2]
              exact ho
            have R3 : Hid (Below w.heap.size w w4) := (HB4.out.alloc hsz4 _).grown hg (by simp; omega) (fun x hx => (HO4.out.lt x hx).1)
            clear ho hg
            go_wp2
            go_roundw
            case rel => exact ⟨s + 1, by omega, by go_num, R1.out, R3.out⟩
            case measure => simp [intOf]; omega
    · have hke : N2 = s := by omega
      subst hke
      have HO : Hid (wr.ownsRow w.heap.size 3 1 (.slice so (stTo apaQ f N2).length sc) (stTo apaQ f N2).length (ints (stTo apaQ f N2))) := ho
      have HB : Hid (Below w.heap.size w wr) := hb
      clear ho hb hlt hs
      go_wp2
      go_ret
      exact ⟨_, rfl, HO.out, HB.out⟩

end Go.Proofs.YtcmemhdlendlkaaDoor
