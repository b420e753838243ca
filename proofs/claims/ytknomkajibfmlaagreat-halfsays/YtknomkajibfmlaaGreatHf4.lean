/- half.isOpen (over cone.Reaches as it stood at 26d2028). -/
import Derived.Test.YtknomkajibfmlaaGreatMgAV
import Derived.Test.YtknomkajibfmlaaGreatMgAR
namespace Go.Proofs.YtknomkajibfmlaaGreat
open Go.RowKit
attribute [local go_sem ↓] Go.wp_at_zero Go.wp_at_succ

/-- One step along an axis. -/
def axG (d i : Nat) (s : Int) : List Int := (List.range d).map fun j => if j = i then s else 0
theorem axG_len (d i : Nat) (s : Int) : (axG d i s).length = d := by simp [axG]
theorem axG_neg (d i : Nat) : (axG d i 1).map (fun z => -z) = axG d i (-1) := by
  unfold axG
  rw [List.map_map]
  refine List.map_congr_left fun j _ => ?_
  show -(if j = i then (1 : Int) else 0) = _
  split <;> simp_all
theorem axG_bd {d i : Nat} {s : Int} (hs : s.natAbs ≤ 1) : ∀ z ∈ axG d i s, z.natAbs ≤ 1 := fun z hz => by
  simp only [axG, List.mem_map] at hz
  obtain ⟨j, _, rfl⟩ := hz
  split
  · exact hs
  · decide

def opI (d : Nat) (rows : List (List Int)) (i : Nat) : Bool := (waysL rows (axG d i 1)).isEmpty || (waysL rows (axG d i (-1))).isEmpty
def opB (d : Nat) (rows : List (List Int)) : Bool := (List.range d).any (opI d rows)

theorem ax_rowG {w : World} {d k : Nat} (hk : k < d) (hd : d ≤ 100) {o : Obj} (ho : o = .cells ((madeCells #[.int .i64 0] d).setIfInBounds k (.int .i64 1)) 3) : Sl 0 3 (w.alloc o) (.slice (some ⟨w.heap.size, 0, none⟩) d d) (ints (axG d k 1)) := by
  subst ho
  have n3 := alloc_new w (.cells ((madeCells #[.int .i64 0] d).setIfInBounds k (.int .i64 1)) 3)
  have hgrow : (w.alloc (.cells ((madeCells #[.int .i64 0] d).setIfInBounds k (.int .i64 1)) 3)).rowIs w.heap.size 3 d (fun j => if j = k then .int .i64 1 else .int .i64 0) := by
    refine ⟨_, n3, ?_, fun i hi => ?_⟩
    · simp only [Array.size_setIfInBounds]
      rw [← Array.length_toList, toList_madeCells_one]; simp
    · rw [Array.getElem?_setIfInBounds]
      by_cases e : k = i
      · subst e
        have hz : k < (madeCells #[.int .i64 0] d).size := by rw [← Array.length_toList, toList_madeCells_one]; simpa using hk
        simp [hz]
      · rw [if_neg e, ← Array.getElem?_toList, toList_madeCells_one]
        simp [hi, show ¬ i = k from fun h => e h.symm]
  refine Sl.row' hgrow (by unfold maxLen; omega) (by simp [ints, axG]) (fun i hi => ?_)
  rw [ints_get _ _ (by rw [axG_len]; exact hi)]
  by_cases e : i = k
  · subst e; simp [axG, hi]
  · simp [axG, hi, e]

set_option maxRecDepth 100000 in
set_option maxHeartbeats 1600000 in
theorem isOpen_ok (d : Nat) (rows : List (List Int)) (v : Value) (w : World) {B0 : Nat} (hv : Mat B0 38 3 w v rows) (hc : CutF d rows) :
    Calls Tryz.prog 29 #[.agg #[.int .i64 d, v]] w fun e w' => e = .returned (.bool (opB d rows)) ∧ Below w.heap.size w w' := by
  obtain ⟨ro, rc, hvv, hlc, hcm⟩ := mat_open hv
  subst hvv
  obtain ⟨W, hW, hbW, hsW, hcW⟩ := cut_box w d (.slice ro rows.length rc)
  have HWW : Hid (W = w.alloc (.cells #[.int .i64 d, .slice ro rows.length rc] 24)) := hW
  have HBW : Hid (∀ X, Below W.heap.size W X → Below w.heap.size w X) := fun X hX => hbW.trans (hX.mono hbW.size)
  have HCC : Hid (∀ X, Below W.heap.size W X → X.cell? ⟨w.heap.size, 0, none⟩ = some (.int .i64 d) ∧ X.cell? ⟨w.heap.size, 1, none⟩ = some (.slice ro rows.length rc)) := hcW
  have HRC : Hid (∀ X, Below W.heap.size W X → ∀ (i : Nat) (s : Int) (go : Option Addr) (gc : Nat), s.natAbs ≤ 1 → Sl 0 3 X (.slice go d gc) (ints (axG d i s)) → Calls Tryz.prog 46 #[.slice ro rows.length rc, .slice go d gc] X fun e w' => e = .returned (.bool (!(waysL rows (axG d i s)).isEmpty)) ∧ Below X.heap.size X w') := fun X hX i s go gc hs hg =>
    reaches_any rows (axG d i s) _ _ X (hv.below (HBW.out X hX) (Nat.le_refl _)) hg (fun r hr => ⟨by rw [axG_len, hc.len r hr]; omega, fun z hz => by have := hc.bd r hr z hz; omega⟩) (fun z hz => by have := axG_bd hs z hz; omega) (by rw [axG_len]; exact hc.d1) (by rw [axG_len]; have := hc.d4; omega) (by have := hc.n12; omega)
  have hd1 := hc.d1
  have hd3 := hc.d4
  have hmk := run_make_row' (P := Tryz.prog) 38 3 (.int .i64 0) 8 Tryz.underlying38 Tryz.info3 rfl .i64 .i64 d (by omega) (by omega)
  obtain ⟨c0, c1⟩ := hcW W (Below.refl _ _)
  clear hv hc hW hbW hsW hcW
  go_enter Tryz.func29, Tryz.ntmps29
  go_upto_region 1 with fail
  rw [← HWW.out]
  go_wp2
  go_loopw [7] (fun i X => ∃ k : Nat, k ≤ d ∧ i = .int .i64 k ∧ (∀ j, j < k → opI d rows j = false) ∧ Below W.heap.size W X) (fun i _ => d - (intOf i).toNat)
  case atStart => exact ⟨0, Nat.zero_le _, rfl, fun j hj => by omega, Below.refl _ _⟩
  case round =>
    clear c0 c1
    obtain ⟨k, hk, rfl, hno, hb⟩ := hrel
    have HNO : Hid (∀ j, j < k → opI d rows j = false) := hno
    have HB : Hid (Below W.heap.size W wr) := hb
    obtain ⟨c0, c1⟩ := HCC.out wr hb
    clear hno hb
    by_cases hlt : k < d
    · have hkI : (k : Int) < (d : Int) := by omega
      have hkI0 : (0 : Int) ≤ (k : Int) := by omega
      have hmc : (madeCells #[.int .i64 0] d)[k]? = some (.int .i64 0) := by
        rw [← Array.getElem?_toList, toList_madeCells_one, List.getElem?_replicate, if_pos (by omega)]
      obtain ⟨W3, hW3⟩ : ∃ W3, W3 = wr.alloc (.cells ((madeCells #[.int .i64 0] d).setIfInBounds k (.int .i64 1)) 3) := ⟨_, rfl⟩
      have hsl : Sl 0 3 W3 (.slice (some ⟨wr.heap.size, 0, none⟩) d d) (ints (axG d k 1)) := by rw [hW3]; exact ax_rowG hlt (by omega) rfl
      have hb3 : Below wr.heap.size wr W3 := by rw [hW3]; exact alloc_keep _ _
      have HB3 : Hid (Below W.heap.size W W3) := HB.out.trans (hb3.mono HB.out.size)
      have HR1 : Hid (∀ X, Below W3.heap.size W3 X → Calls Tryz.prog 46 #[.slice ro rows.length rc, .slice (some ⟨wr.heap.size, 0, none⟩) d d] X fun e w' => e = .returned (.bool (!(waysL rows (axG d k 1)).isEmpty)) ∧ Below X.heap.size X w') := fun X hX => HRC.out X (HB3.out.trans (hX.mono HB3.out.size)) k 1 _ _ (by decide) (hsl.below hX (Nat.le_refl _))
      have HN1 : Hid (∀ X, Below W3.heap.size W3 X → Calls Tryz.prog 47 #[.slice (some ⟨wr.heap.size, 0, none⟩) d d] X fun e w' => ∃ uo uc, e = .returned (.slice uo d uc) ∧ Sl 0 3 w' (.slice uo d uc) (ints (axG d k (-1))) ∧ Below X.heap.size X w') := fun X hX => by
        refine (negated_own 0 (axG d k 1) _ X (hsl.below hX (Nat.le_refl _)) (by rw [axG_len]; omega) (fun z hz => by have := axG_bd (s := 1) (by decide) z hz; omega)).mono ?_
        rintro e w' ⟨u, rfl, ho, hb⟩
        rw [axG_neg, axG_len] at ho
        obtain ⟨uo, uc, rfl⟩ := owns_form ho
        exact ⟨uo, uc, rfl, Sl.own ho, hb⟩
      have HS : Hid (∀ X, Below W3.heap.size W3 X → X.cell? ⟨w.heap.size, 1, none⟩ = some (.slice ro rows.length rc)) := fun X hX => (HCC.out X (HB3.out.trans (hX.mono HB3.out.size))).2
      have HW3 : Hid (W3 = wr.alloc (.cells ((madeCells #[.int .i64 0] d).setIfInBounds k (.int .i64 1)) 3)) := hW3
      have HNX : Hid (opI d rows k = ((waysL rows (axG d k 1)).isEmpty || (waysL rows (axG d k (-1))).isEmpty)) := rfl
      have HHIT : Hid (opI d rows k = true → opB d rows = true) := fun h => by
        unfold opB
        rw [List.any_eq_true]
        exact ⟨k, List.mem_range.2 hlt, h⟩
      have HGO : Hid (opI d rows k = false → ∀ j, j < k + 1 → opI d rows j = false) := fun h j hj => by
        by_cases e : j = k
        · rw [e]; exact h
        · exact HNO.out j (by omega)
      have HR2 : Hid (∀ X uo uc, Below W3.heap.size W3 X → Sl 0 3 X (.slice uo d uc) (ints (axG d k (-1))) → Calls Tryz.prog 46 #[.slice ro rows.length rc, .slice uo d uc] X fun e w' => e = .returned (.bool (!(waysL rows (axG d k (-1))).isEmpty)) ∧ Below X.heap.size X w') := fun X uo uc hX hg => HRC.out X (HB3.out.trans (hX.mono HB3.out.size)) k (-1) uo uc (by decide) hg
      clear hsl hb3 hW3
      generalize (waysL rows (axG d k 1)).isEmpty = b1 at *
      generalize (waysL rows (axG d k (-1))).isEmpty = b2 at *
      go_upto_region 6 with fail
      rw [← HW3.out]
      clear hmc
      refine wp_region_held_drew (S := fun X => Below W3.heap.size W3 X ∧ X.cell? ⟨w.heap.size, 1, none⟩ = some (.slice ro rows.length rc)) (by kernel_rfl) ⟨(Below.refl _ _).drew, HS.out _ (Below.refl _ _).drew⟩ (fun hHeld => ?_)
      refine wpAnyH_tk (i := 0) (d := 16) (v := (.pointer (some ⟨w.heap.size, 1, none⟩))) rfl rfl (by kernel_rfl) (by kernel_rfl) (by kernel_rfl) (fun _ _ _ h => h) (.inl ⟨by rfl, by (intro wq hSw; (try dsimp only at hSw); go_simp; (try (first | rfl | omega)))⟩) hHeld ?_
      simp only [Act.put, List.setIfInBounds_toArray, List.set_cons_zero, List.set_cons_succ]
      refine wpAnyH_tk (i := 1) (d := 17) (v := (.slice ro rows.length rc)) rfl rfl (by kernel_rfl) (by kernel_rfl) (by kernel_rfl) (fun _ _ _ h => h) (.inl ⟨by rfl, by (intro wq hSw; (try dsimp only at hSw); go_simp; (try (first | rfl | omega)))⟩) hHeld ?_
      simp only [Act.put, List.setIfInBounds_toArray, List.set_cons_zero, List.set_cons_succ]
      refine wpAnyH_tk (i := 2) (d := 18) (v := (.slice (some ⟨wr.heap.size, 0, none⟩) d d)) rfl rfl (by kernel_rfl) (by kernel_rfl) (by kernel_rfl) (fun _ _ _ h => h) (.inl ⟨by rfl, by (intro wq hSw; (try dsimp only at hSw); go_simp; (try (first | rfl | omega)))⟩) hHeld ?_
      simp only [Act.put, List.setIfInBounds_toArray, List.set_cons_zero, List.set_cons_succ]
      refine wpAnyH_ready (rs := [3]) (by kernel_rfl) (by simp) ?_
      refine ready_tk (i := 3) rfl (by rfl) (fun K hK => ?_) AllReadyH.nil
      go_simp
      refine (HR1.out W3.drew (Below.refl _ _).drew).mono ?_
      rintro e w5 ⟨rfl, hb5⟩
      have hb35 : Below W3.heap.size W3 w5 := (Below.refl _ _).drew.trans hb5
      refine hK.out _ _ ⟨hb35, HS.out w5 hb35⟩ (fun hHeld => ?_)
      clear hK K
      cases b1
      · skip
        refine wpAnyH_tk (i := 4) (d := 20) (v := (.bool false)) rfl rfl (by kernel_rfl) (by kernel_rfl) (by kernel_rfl) (fun _ _ _ h => h) (.inl ⟨by rfl, by (intro wq hSw; (try dsimp only at hSw); go_simp; (try (first | rfl | omega)))⟩) hHeld ?_
        simp only [Act.put, List.setIfInBounds_toArray, List.set_cons_zero, List.set_cons_succ]
        refine wpAnyH_tk (i := 5) (d := 21) (v := (.bool false)) rfl rfl (by kernel_rfl) (by kernel_rfl) (by kernel_rfl) (fun _ _ _ h => h) (.inl ⟨by rfl, by (intro wq hSw; (try dsimp only at hSw); go_simp; (try (first | rfl | omega)))⟩) hHeld ?_
        simp only [Act.put, List.setIfInBounds_toArray, List.set_cons_zero, List.set_cons_succ]
        refine wpAnyH_tk (i := 6) (d := 22) (v := (.pointer (some ⟨w.heap.size, 1, none⟩))) rfl rfl (by kernel_rfl) (by kernel_rfl) (by kernel_rfl) (fun _ _ _ h => h) (.inl ⟨by rfl, by (intro wq hSw; (try dsimp only at hSw); go_simp; (try (first | rfl | omega)))⟩) hHeld ?_
        simp only [Act.put, List.setIfInBounds_toArray, List.set_cons_zero, List.set_cons_succ]
        refine wpAnyH_tk (i := 7) (d := 23) (v := (.slice ro rows.length rc)) rfl rfl (by kernel_rfl) (by kernel_rfl) (by kernel_rfl) (fun _ _ _ h => h) (.inl ⟨by rfl, by (intro wq hSw; (try dsimp only at hSw); go_simp; (try (first | rfl | omega)))⟩) hHeld ?_
        simp only [Act.put, List.setIfInBounds_toArray, List.set_cons_zero, List.set_cons_succ]
        refine wpAnyH_tk (i := 8) (d := 24) (v := (.slice (some ⟨wr.heap.size, 0, none⟩) d d)) rfl rfl (by kernel_rfl) (by kernel_rfl) (by kernel_rfl) (fun _ _ _ h => h) (.inl ⟨by rfl, by (intro wq hSw; (try dsimp only at hSw); go_simp; (try (first | rfl | omega)))⟩) hHeld ?_
        simp only [Act.put, List.setIfInBounds_toArray, List.set_cons_zero, List.set_cons_succ]
        refine wpAnyH_ready (rs := [9]) (by kernel_rfl) (by simp) ?_
        refine ready_tk (i := 9) rfl (by rfl) (fun K hK => ?_) AllReadyH.nil
        go_simp
        refine (HN1.out w5 hb35).mono ?_
        rintro e w6 ⟨uo, uc, rfl, hs6, hb6⟩
        have hb36 : Below W3.heap.size W3 w6 := hb35.trans (hb6.mono hb35.size)
        refine hK.out _ _ ⟨hb36, HS.out w6 hb36⟩ (fun hHeld => ?_)
        clear hK K
        refine wpAnyH_ready (rs := [10]) (by kernel_rfl) (by simp) ?_
        refine ready_tk (i := 10) rfl (by rfl) (fun K hK => ?_) AllReadyH.nil
        go_simp
        refine (HR2.out w6 uo uc hb36 hs6).mono ?_
        rintro e w7 ⟨rfl, hb7⟩
        have hb37 : Below W3.heap.size W3 w7 := hb36.trans (hb7.mono hb36.size)
        refine hK.out _ _ ⟨hb37, HS.out w7 hb37⟩ (fun hHeld => ?_)
        clear hK K
        have HB7 : Hid (Below W.heap.size W w7) := HB3.out.trans (hb37.mono HB3.out.size)
        cases b2
        · skip
          refine wpAnyH_tk (i := 11) (d := 27) (v := (.bool false)) rfl rfl (by kernel_rfl) (by kernel_rfl) (by kernel_rfl) (fun _ _ _ h => h) (.inl ⟨by rfl, by (intro wq hSw; (try dsimp only at hSw); go_simp; (try (first | rfl | omega)))⟩) hHeld ?_
          simp only [Act.put, List.setIfInBounds_toArray, List.set_cons_zero, List.set_cons_succ]
          refine wpAnyH_tk (i := 12) (d := 28) (v := (.bool false)) rfl rfl (by kernel_rfl) (by kernel_rfl) (by kernel_rfl) (fun _ _ _ h => h) (.inl ⟨by rfl, by (intro wq hSw; (try dsimp only at hSw); go_simp; (try (first | rfl | omega)))⟩) hHeld ?_
          simp only [Act.put, List.setIfInBounds_toArray, List.set_cons_zero, List.set_cons_succ]
          refine wpAnyH_done (by kernel_rfl) ?_ _
          have HN : Hid (∀ j, j < k + 1 → opI d rows j = false) := HGO.out (by rw [HNX.out]; rfl)
          clear hHeld hb35 hb5 hb36 hb6 hb37 hb7 hs6 c0 c1
          go_wp2
          exact ⟨⟨k + 1, hlt, by go_num, HN.out, HB7.out⟩, by simp [intOf]; omega⟩
        · skip
          refine wpAnyH_tk (i := 11) (d := 27) (v := (.bool true)) rfl rfl (by kernel_rfl) (by kernel_rfl) (by kernel_rfl) (fun _ _ _ h => h) (.inl ⟨by rfl, by (intro wq hSw; (try dsimp only at hSw); go_simp; (try (first | rfl | omega)))⟩) hHeld ?_
          simp only [Act.put, List.setIfInBounds_toArray, List.set_cons_zero, List.set_cons_succ]
          refine wpAnyH_tk (i := 12) (d := 28) (v := (.bool true)) rfl rfl (by kernel_rfl) (by kernel_rfl) (by kernel_rfl) (fun _ _ _ h => h) (.inl ⟨by rfl, by (intro wq hSw; (try dsimp only at hSw); go_simp; (try (first | rfl | omega)))⟩) hHeld ?_
          simp only [Act.put, List.setIfInBounds_toArray, List.set_cons_zero, List.set_cons_succ]
          refine wpAnyH_done (by kernel_rfl) ?_ _
          have HT : Hid (opB d rows = true) := HHIT.out (by rw [HNX.out]; rfl)
          clear hHeld hb35 hb5 hb36 hb6 hb37 hb7 hs6 c0 c1
          go_wp2
          go_ret
          exact ⟨by rw [HT.out]; rfl, HBW.out _ HB7.out⟩
      · skip
        refine wpAnyH_tk (i := 4) (d := 20) (v := (.bool true)) rfl rfl (by kernel_rfl) (by kernel_rfl) (by kernel_rfl) (fun _ _ _ h => h) (.inl ⟨by rfl, by (intro wq hSw; (try dsimp only at hSw); go_simp; (try (first | rfl | omega)))⟩) hHeld ?_
        simp only [Act.put, List.setIfInBounds_toArray, List.set_cons_zero, List.set_cons_succ]
        refine wpAnyH_tk (i := 5) (d := 21) (v := (.bool true)) rfl rfl (by kernel_rfl) (by kernel_rfl) (by kernel_rfl) (fun _ _ _ h => h) (.inl ⟨by rfl, by (intro wq hSw; (try dsimp only at hSw); go_simp; (try (first | rfl | omega)))⟩) hHeld ?_
        simp only [Act.put, List.setIfInBounds_toArray, List.set_cons_zero, List.set_cons_succ]
        refine wpAnyH_tk (i := 6) (d := 22) (v := undef) rfl rfl (by kernel_rfl) (by kernel_rfl) (by kernel_rfl) (fun _ _ _ h => h) (.inr ⟨by rfl, rfl⟩) hHeld ?_
        simp only [Act.put, List.setIfInBounds_toArray, List.set_cons_zero, List.set_cons_succ]
        refine wpAnyH_tk (i := 7) (d := 23) (v := undef) rfl rfl (by kernel_rfl) (by kernel_rfl) (by kernel_rfl) (fun _ _ _ h => h) (.inr ⟨by rfl, rfl⟩) hHeld ?_
        simp only [Act.put, List.setIfInBounds_toArray, List.set_cons_zero, List.set_cons_succ]
        refine wpAnyH_tk (i := 8) (d := 24) (v := undef) rfl rfl (by kernel_rfl) (by kernel_rfl) (by kernel_rfl) (fun _ _ _ h => h) (.inr ⟨by rfl, rfl⟩) hHeld ?_
        simp only [Act.put, List.setIfInBounds_toArray, List.set_cons_zero, List.set_cons_succ]
        refine wpAnyH_tk (i := 9) (d := 25) (v := undef) rfl rfl (by kernel_rfl) (by kernel_rfl) (by kernel_rfl) (fun _ _ _ h => h) (.inr ⟨by rfl, rfl⟩) hHeld ?_
        simp only [Act.put, List.setIfInBounds_toArray, List.set_cons_zero, List.set_cons_succ]
        refine wpAnyH_tk (i := 10) (d := 26) (v := undef) rfl rfl (by kernel_rfl) (by kernel_rfl) (by kernel_rfl) (fun _ _ _ h => h) (.inr ⟨by rfl, rfl⟩) hHeld ?_
        simp only [Act.put, List.setIfInBounds_toArray, List.set_cons_zero, List.set_cons_succ]
        refine wpAnyH_tk (i := 11) (d := 27) (v := undef) rfl rfl (by kernel_rfl) (by kernel_rfl) (by kernel_rfl) (fun _ _ _ h => h) (.inr ⟨by rfl, rfl⟩) hHeld ?_
        simp only [Act.put, List.setIfInBounds_toArray, List.set_cons_zero, List.set_cons_succ]
        refine wpAnyH_tk (i := 12) (d := 28) (v := (.bool true)) rfl rfl (by kernel_rfl) (by kernel_rfl) (by kernel_rfl) (fun _ _ _ h => h) (.inl ⟨by rfl, by (intro wq hSw; (try dsimp only at hSw); go_simp; (try (first | rfl | omega)))⟩) hHeld ?_
        simp only [Act.put, List.setIfInBounds_toArray, List.set_cons_zero, List.set_cons_succ]
        refine wpAnyH_done (by kernel_rfl) ?_ _
        have HT : Hid (opB d rows = true) := HHIT.out (by rw [HNX.out]; rfl)
        have HB5 : Hid (Below W.heap.size W w5) := HB3.out.trans (hb35.mono HB3.out.size)
        clear hHeld hb35 hb5 c0 c1
        go_wp2
        go_ret
        exact ⟨by rw [HT.out]; rfl, HBW.out _ HB5.out⟩
    · obtain rfl : k = d := by omega
      have HOF : Hid (opB k rows = false) := by
        show _ = _
        unfold opB
        rw [List.any_eq_false]
        intro j hj
        rw [HNO.out j (List.mem_range.1 hj)]
        decide
      go_wp2
      go_ret
      exact ⟨by rw [HOF.out]; rfl, HBW.out _ HB.out⟩

end Go.Proofs.YtknomkajibfmlaaGreat
