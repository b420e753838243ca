import Derived.Test.YtpbahagfhkpfhaaGreatHfE
import Derived.Test.YtpbahagfhkpfhaaGreatRgA
import Derived.Test.YtpbahagfhkpfhaaGreatEmY
import Derived.Laws.AppendOwnNone
import Derived.Deep.DeepCutAuto
import Derived.Deep.RegionHeld3
/- half.isOpen (over cone.Reaches as it stood at 26d2028). -/
namespace Go.Proofs.YtpbahagfhkpfhaaGreat
open Go.RowKit
attribute [local go_sem ↓] Go.wp_at_zero Go.wp_at_succ

/-- One step along an axis. -/
def axG (d i : Nat) (s : Int) : List Int := (List.range d).map fun j => if j = i then s else 0
theorem axG_len (d i : Nat) (s : Int) : (axG d i s).length = d := by simp [axG]
theorem axG_neg (d i : Nat) : (axG d i 1).map (fun z => -z) = axG d i (-1) := by
  unfold axG
  rw [List.map_map]
  refine List.map_congr_left fun j _ => ?_
  show -(if j = i then (1 : Int) else 0) = _
  split <;> simp_all
theorem axG_bd {d i : Nat} {s : Int} (hs : s.natAbs ≤ 1) : ∀ z ∈ axG d i s, z.natAbs ≤ 1 := fun z hz => by
  simp only [axG, List.mem_map] at hz
  obtain ⟨j, _, rfl⟩ := hz
  split
  · exact hs
  · decide

def opI (d : Nat) (rows : List (List Int)) (i : Nat) : Bool := (waysL rows (axG d i 1)).isEmpty || (waysL rows (axG d i (-1))).isEmpty
def opB (d : Nat) (rows : List (List Int)) : Bool := (List.range d).any (opI d rows)

theorem ax_rowG {w : World} {d k : Nat} (hk : k < d) (hd : d ≤ 100) {o : Obj} (ho : o = .cells ((madeCells #[.int .i64 0] d).setIfInBounds k (.int .i64 1)) 3) : Sl 0 3 (w.alloc o) (.slice (some ⟨w.heap.size, 0, none⟩) d d) (ints (axG d k 1)) := by
  subst ho
  have n3 := alloc_new w (.cells ((madeCells #[.int .i64 0] d).setIfInBounds k (.int .i64 1)) 3)
  have hgrow : (w.alloc (.cells ((madeCells #[.int .i64 0] d).setIfInBounds k (.int .i64 1)) 3)).rowIs w.heap.size 3 d (fun j => if j = k then .int .i64 1 else .int .i64 0) := by
    refine ⟨_, n3, ?_, fun i hi => ?_⟩
    · simp only [Array.size_setIfInBounds]
      rw [← Array.length_toList, toList_madeCells_one]; simp
    · rw [Array.getElem?_setIfInBounds]
      by_cases e : k = i
      · subst e
        have hz : k < (madeCells #[.int .i64 0] d).size := by rw [← Array.length_toList, toList_madeCells_one]; simpa using hk
        simp [hz]
      · rw [if_neg e, ← Array.getElem?_toList, toList_madeCells_one]
        simp [hi, show ¬ i = k from fun h => e h.symm]
  refine Sl.row' hgrow (by unfold maxLen; omega) (by simp [ints, axG]) (fun i hi => ?_)
  rw [ints_get _ _ (by rw [axG_len]; exact hi)]
  by_cases e : i = k
  · subst e; simp [axG, hi]
  · simp [axG, hi, e]

set_option maxRecDepth 100000 in
set_option maxHeartbeats 1600000 in
theorem isOpen_ok (d : Nat) (rows : List (List Int)) (v : Value) (w : World) (hv : Mat 0 22 3 w v rows) (hc : CutOk d rows) :
    Calls Tryz.prog 22 #[.agg #[.int .i64 d, v]] w fun e w' => e = .returned (.bool (opB d rows)) ∧ Below w.heap.size w w' := by
  obtain ⟨ro, rc, hvv, hlc, hcm⟩ := mat_open hv
  subst hvv
  obtain ⟨W, hW, hbW, hsW, hcW⟩ := cut_box w d (.slice ro rows.length rc)
  have HWW : Hid (W = w.alloc (.cells #[.int .i64 d, .slice ro rows.length rc] 36)) := hW
  have HBW : Hid (∀ X, Below W.heap.size W X → Below w.heap.size w X) := fun X hX => hbW.trans (hX.mono hbW.size)
  have HCC : Hid (∀ X, Below W.heap.size W X → X.cell? ⟨w.heap.size, 0, none⟩ = some (.int .i64 d) ∧ X.cell? ⟨w.heap.size, 1, none⟩ = some (.slice ro rows.length rc)) := hcW
  have HRC : Hid (∀ X, Below W.heap.size W X → ∀ (i : Nat) (s : Int) (go : Option Addr) (gc : Nat), s.natAbs ≤ 1 → Sl 0 3 X (.slice go d gc) (ints (axG d i s)) → Calls Tryz.prog 32 #[.slice ro rows.length rc, .slice go d gc] X fun e w' => e = .returned (.bool (!(waysL rows (axG d i s)).isEmpty)) ∧ Below X.heap.size X w') := fun X hX i s go gc hs hg =>
    reaches_any rows (axG d i s) _ _ X (hv.below (HBW.out X hX) (Nat.le_refl _)) hg (fun r hr => ⟨by rw [axG_len, hc.len r hr]; omega, fun z hz => by have := hc.bd r hr z hz; omega⟩) (fun z hz => by have := axG_bd hs z hz; omega) (by rw [axG_len]; exact hc.d1) (by rw [axG_len]; have := hc.d3; omega) (by have := hc.n12; omega)
  have hd1 := hc.d1
  have hd3 := hc.d3
  have hmk := run_make_row' (P := Tryz.prog) 22 3 (.int .i64 0) 8 Tryz.underlying22 Tryz.info3 rfl .i64 .i64 d (by omega) (by omega)
  obtain ⟨c0, c1⟩ := hcW W (Below.refl _ _)
  clear hv hc hW hbW hsW hcW
  go_enter Tryz.func22, Tryz.ntmps22
  go_upto_region 1 with fail
  rw [← HWW.out]
  go_wp2
  go_loopw [7] (fun i X => ∃ k : Nat, k ≤ d ∧ i = .int .i64 k ∧ (∀ j, j < k → opI d rows j = false) ∧ Below W.heap.size W X) (fun i _ => d - (intOf i).toNat)
  case atStart => exact ⟨0, Nat.zero_le _, rfl, fun j hj => by omega, Below.refl _ _⟩
  case round =>
    clear c0 c1
    obtain ⟨k, hk, rfl, hno, hb⟩ := hrel
    have HNO : Hid (∀ j, j < k → opI d rows j = false) := hno
    have HB : Hid (Below W.heap.size W wr) := hb
    obtain ⟨c0, c1⟩ := HCC.out wr hb
    clear hno hb
    by_cases hlt : k < d
    · have hkI : (k : Int) < (d : Int) := by omega
      have hkI0 : (0 : Int) ≤ (k : Int) := by omega
      have hmc : (madeCells #[.int .i64 0] d)[k]? = some (.int .i64 0) := by
        rw [← Array.getElem?_toList, toList_madeCells_one, List.getElem?_replicate, if_pos (by omega)]
      obtain ⟨W3, hW3⟩ : ∃ W3, W3 = wr.alloc (.cells ((madeCells #[.int .i64 0] d).setIfInBounds k (.int .i64 1)) 3) := ⟨_, rfl⟩
      have hsl : Sl 0 3 W3 (.slice (some ⟨wr.heap.size, 0, none⟩) d d) (ints (axG d k 1)) := by rw [hW3]; exact ax_rowG hlt (by omega) rfl
      have hb3 : Below wr.heap.size wr W3 := by rw [hW3]; exact alloc_keep _ _
      have HB3 : Hid (Below W.heap.size W W3) := HB.out.trans (hb3.mono HB.out.size)
      have HR1 : Hid (∀ X, Below W3.heap.size W3 X → Calls Tryz.prog 32 #[.slice ro rows.length rc, .slice (some ⟨wr.heap.size, 0, none⟩) d d] X fun e w' => e = .returned (.bool (!(waysL rows (axG d k 1)).isEmpty)) ∧ Below X.heap.size X w') := fun X hX => HRC.out X (HB3.out.trans (hX.mono HB3.out.size)) k 1 _ _ (by decide) (hsl.below hX (Nat.le_refl _))
      have HN1 : Hid (∀ X, Below W3.heap.size W3 X → Calls Tryz.prog 33 #[.slice (some ⟨wr.heap.size, 0, none⟩) d d] X fun e w' => ∃ uo uc, e = .returned (.slice uo d uc) ∧ Sl 0 3 w' (.slice uo d uc) (ints (axG d k (-1))) ∧ Below X.heap.size X w') := fun X hX => by
        refine (negated_own 0 (axG d k 1) _ X (hsl.below hX (Nat.le_refl _)) (by rw [axG_len]; omega) (fun z hz => by have := axG_bd (s := 1) (by decide) z hz; omega)).mono ?_
        rintro e w' ⟨u, rfl, ho, hb⟩
        rw [axG_neg, axG_len] at ho
        obtain ⟨uo, uc, rfl⟩ := owns_form ho
        exact ⟨uo, uc, rfl, Sl.own ho, hb⟩
      have HS : Hid (∀ X, Below W3.heap.size W3 X → X.cell? ⟨w.heap.size, 1, none⟩ = some (.slice ro rows.length rc)) := fun X hX => (HCC.out X (HB3.out.trans (hX.mono HB3.out.size))).2
      have HW3 : Hid (W3 = wr.alloc (.cells ((madeCells #[.int .i64 0] d).setIfInBounds k (.int .i64 1)) 3)) := hW3
      have HNX : Hid (opI d rows k = ((waysL rows (axG d k 1)).isEmpty || (waysL rows (axG d k (-1))).isEmpty)) := rfl
      have HHIT : Hid (opI d rows k = true → opB d rows = true) := fun h => by
        unfold opB
        rw [List.any_eq_true]
        exact ⟨k, List.mem_range.2 hlt, h⟩
      have HGO : Hid (opI d rows k = false → ∀ j, j < k + 1 → opI d rows j = false) := fun h j hj => by
        by_cases e : j = k
        · rw [e]; exact h
        · exact HNO.out j (by omega)
      have HR2 : Hid (∀ X uo uc, Below W3.heap.size W3 X → Sl 0 3 X (.slice uo d uc) (ints (axG d k (-1))) → Calls Tryz.prog 32 #[.slice ro rows.length rc, .slice uo d uc] X fun e w' => e = .returned (.bool (!(waysL rows (axG d k (-1))).isEmpty)) ∧ Below X.heap.size X w') := fun X uo uc hX hg => HRC.out X (HB3.out.trans (hX.mono HB3.out.size)) k (-1) uo uc (by decide) hg
      clear hsl hb3 hW3
      generalize (waysL rows (axG d k 1)).isEmpty = b1 at *
      generalize (waysL rows (axG d k (-1))).isEmpty = b2 at *
      go_upto_region 6 with fail
      rw [← HW3.out]
      clear hmc
      refine wp_region_held_drew (S := fun X => Below W3.heap.size W3 X ∧ X.cell? ⟨w.heap.size, 1, none⟩ = some (.slice ro rows.length rc)) (by kernel_rfl) ⟨(Below.refl _ _).drew, HS.out _ (Below.refl _ _).drew⟩ (fun hHeld => ?_)
      refine wpAnyH_tk (i := 0) (d := 16) (v := (.pointer (some ⟨w.heap.size, 1, none⟩))) rfl rfl (by kernel_rfl) (by kernel_rfl) (by kernel_rfl) (fun _ _ _ h => h) (.inl ⟨by rfl, by (intro wq hSw; (try dsimp only at hSw); go_simp; (try (first | rfl | omega)))⟩) hHeld ?_
      simp only [Act.put, List.setIfInBounds_toArray, List.set_cons_zero, List.set_cons_succ]
      refine wpAnyH_tk (i := 1) (d := 17) (v := (.slice ro rows.length rc)) rfl rfl (by kernel_rfl) (by kernel_rfl) (by kernel_rfl) (fun _ _ _ h => h) (.inl ⟨by rfl, by (intro wq hSw; (try dsimp only at hSw); go_simp; (try (first | rfl | omega)))⟩) hHeld ?_
      simp only [Act.put, List.setIfInBounds_toArray, List.set_cons_zero, List.set_cons_succ]
      refine wpAnyH_tk (i := 2) (d := 18) (v := (.slice (some ⟨wr.heap.size, 0, none⟩) d d)) rfl rfl (by kernel_rfl) (by kernel_rfl) (by kernel_rfl) (fun _ _ _ h => h) (.inl ⟨by rfl, by (intro wq hSw; (try dsimp only at hSw); go_simp; (try (first | rfl | omega)))⟩) hHeld ?_
      simp only [Act.put, List.setIfInBounds_toArray, List.set_cons_zero, List.set_cons_succ]
      refine wpAnyH_ready (rs := [3]) (by kernel_rfl) (by simp) ?_
      refine ready_tk (i := 3) rfl (by rfl) (fun K hK => ?_) AllReadyH.nil
      go_simp
      refine (HR1.out W3.drew (Below.refl _ _).drew).mono ?_
      rintro e w5 ⟨rfl, hb5⟩
      have hb35 : Below W3.heap.size W3 w5 := (Below.refl _ _).drew.trans hb5
      refine hK.out _ _ ⟨hb35, HS.out w5 hb35⟩ (fun hHeld => ?_)
      clear hK K
      cases b1
      · skip
        refine wpAnyH_tk (i := 4) (d := 20) (v := (.bool false)) rfl rfl (by kernel_rfl) (by kernel_rfl) (by kernel_rfl) (fun _ _ _ h => h) (.inl ⟨by rfl, by (intro wq hSw; (try dsimp only at hSw); go_simp; (try (first | rfl | omega)))⟩) hHeld ?_
        simp only [Act.put, List.setIfInBounds_toArray, List.set_cons_zero, List.set_cons_succ]
        refine wpAnyH_tk (i := 5) (d := 21) (v := (.bool false)) rfl rfl (by kernel_rfl) (by kernel_rfl) (by kernel_rfl) (fun _ _ _ h => h) (.inl ⟨by rfl, by (intro wq hSw; (try dsimp only at hSw); go_simp; (try (first | rfl | omega)))⟩) hHeld ?_
        simp only [Act.put, List.setIfInBounds_toArray, List.set_cons_zero, List.set_cons_succ]
        refine wpAnyH_tk (i := 6) (d := 22) (v := (.pointer (some ⟨w.heap.size, 1, none⟩))) rfl rfl (by kernel_rfl) (by kernel_rfl) (by kernel_rfl) (fun _ _ _ h => h) (.inl ⟨by rfl, by (intro wq hSw; (try dsimp only at hSw); go_simp; (try (first | rfl | omega)))⟩) hHeld ?_
        simp only [Act.put, List.setIfInBounds_toArray, List.set_cons_zero, List.set_cons_succ]
        refine wpAnyH_tk (i := 7) (d := 23) (v := (.slice ro rows.length rc)) rfl rfl (by kernel_rfl) (by kernel_rfl) (by kernel_rfl) (fun _ _ _ h => h) (.inl ⟨by rfl, by (intro wq hSw; (try dsimp only at hSw); go_simp; (try (first | rfl | omega)))⟩) hHeld ?_
        simp only [Act.put, List.setIfInBounds_toArray, List.set_cons_zero, List.set_cons_succ]
        refine wpAnyH_tk (i := 8) (d := 24) (v := (.slice (some ⟨wr.heap.size, 0, none⟩) d d)) rfl rfl (by kernel_rfl) (by kernel_rfl) (by kernel_rfl) (fun _ _ _ h => h) (.inl ⟨by rfl, by (intro wq hSw; (try dsimp only at hSw); go_simp; (try (first | rfl | omega)))⟩) hHeld ?_
        simp only [Act.put, List.setIfInBounds_toArray, List.set_cons_zero, List.set_cons_succ]
        refine wpAnyH_ready (rs := [9]) (by kernel_rfl) (by simp) ?_
        refine ready_tk (i := 9) rfl (by rfl) (fun K hK => ?_) AllReadyH.nil
        go_simp
        refine (HN1.out w5 hb35).mono ?_
        rintro e w6 ⟨uo, uc, rfl, hs6, hb6⟩
        have hb36 : Below W3.heap.size W3 w6 := hb35.trans (hb6.mono hb35.size)
        refine hK.out _ _ ⟨hb36, HS.out w6 hb36⟩ (fun hHeld => ?_)
        clear hK K
        refine wpAnyH_ready (rs := [10]) (by kernel_rfl) (by simp) ?_
        refine ready_tk (i := 10) rfl (by rfl) (fun K hK => ?_) AllReadyH.nil
        go_simp
        refine (HR2.out w6 uo uc hb36 hs6).mono ?_
        rintro e w7 ⟨rfl, hb7⟩
        have hb37 : Below W3.heap.size W3 w7 := hb36.trans (hb7.mono hb36.size)
        refine hK.out _ _ ⟨hb37, HS.out w7 hb37⟩ (fun hHeld => ?_)
        clear hK K
        have HB7 : Hid (Below W.heap.size W w7) := HB3.out.trans (hb37.mono HB3.out.size)
        cases b2
        · skip
          refine wpAnyH_tk (i := 11) (d := 27) (v := (.bool false)) rfl rfl (by kernel_rfl) (by kernel_rfl) (by kernel_rfl) (fun _ _ _ h => h) (.inl ⟨by rfl, by (intro wq hSw; (try dsimp only at hSw); go_simp; (try (first | rfl | omega)))⟩) hHeld ?_
          simp only [Act.put, List.setIfInBounds_toArray, List.set_cons_zero, List.set_cons_succ]
          refine wpAnyH_tk (i := 12) (d := 28) (v := (.bool false)) rfl rfl (by kernel_rfl) (by kernel_rfl) (by kernel_rfl) (fun _ _ _ h => h) (.inl ⟨by rfl, by (intro wq hSw; (try dsimp only at hSw); go_simp; (try (first | rfl | omega)))⟩) hHeld ?_
          simp only [Act.put, List.setIfInBounds_toArray, List.set_cons_zero, List.set_cons_succ]
          refine wpAnyH_done (by kernel_rfl) ?_ _
          have HN : Hid (∀ j, j < k + 1 → opI d rows j = false) := HGO.out (by rw [HNX.out]; rfl)
          clear hHeld hb35 hb5 hb36 hb6 hb37 hb7 hs6 c0 c1
          go_wp2
          exact ⟨⟨k + 1, hlt, by go_num, HN.out, HB7.out⟩, by simp [intOf]; omega⟩
        · skip
          refine wpAnyH_tk (i := 11) (d := 27) (v := (.bool true)) rfl rfl (by kernel_rfl) (by kernel_rfl) (by kernel_rfl) (fun _ _ _ h => h) (.inl ⟨by rfl, by (intro wq hSw; (try dsimp only at hSw); go_simp; (try (first | rfl | omega)))⟩) hHeld ?_
          simp only [Act.put, List.setIfInBounds_toArray, List.set_cons_zero, List.set_cons_succ]
          refine wpAnyH_tk (i := 12) (d := 28) (v := (.bool true)) rfl rfl (by kernel_rfl) (by kernel_rfl) (by kernel_rfl) (fun _ _ _ h => h) (.inl ⟨by rfl, by (intro wq hSw; (try dsimp only at hSw); go_simp; (try (first | rfl | omega)))⟩) hHeld ?_
          simp only [Act.put, List.setIfInBounds_toArray, List.set_cons_zero, List.set_cons_succ]
          refine wpAnyH_done (by kernel_rfl) ?_ _
          have HT : Hid (opB d rows = true) := HHIT.out (by rw [HNX.out]; rfl)
          clear hHeld hb35 hb5 hb36 hb6 hb37 hb7 hs6 c0 c1
          go_wp2
          go_ret
          exact ⟨by rw [HT.out]; rfl, HBW.out _ HB7.out⟩
      · skip
        refine wpAnyH_tk (i := 4) (d := 20) (v := (.bool true)) rfl rfl (by kernel_rfl) (by kernel_rfl) (by kernel_rfl) (fun _ _ _ h => h) (.inl ⟨by rfl, by (intro wq hSw; (try dsimp only at hSw); go_simp; (try (first | rfl | omega)))⟩) hHeld ?_
        simp only [Act.put, List.setIfInBounds_toArray, List.set_cons_zero, List.set_cons_succ]
        refine wpAnyH_tk (i := 5) (d := 21) (v := (.bool true)) rfl rfl (by kernel_rfl) (by kernel_rfl) (by kernel_rfl) (fun _ _ _ h => h) (.inl ⟨by rfl, by (intro wq hSw; (try dsimp only at hSw); go_simp; (try (first | rfl | omega)))⟩) hHeld ?_
        simp only [Act.put, List.setIfInBounds_toArray, List.set_cons_zero, List.set_cons_succ]
        refine wpAnyH_tk (i := 6) (d := 22) (v := undef) rfl rfl (by kernel_rfl) (by kernel_rfl) (by kernel_rfl) (fun _ _ _ h => h) (.inr ⟨by rfl, rfl⟩) hHeld ?_
        simp only [Act.put, List.setIfInBounds_toArray, List.set_cons_zero, List.set_cons_succ]
        refine wpAnyH_tk (i := 7) (d := 23) (v := undef) rfl rfl (by kernel_rfl) (by kernel_rfl) (by kernel_rfl) (fun _ _ _ h => h) (.inr ⟨by rfl, rfl⟩) hHeld ?_
        simp only [Act.put, List.setIfInBounds_toArray, List.set_cons_zero, List.set_cons_succ]
        refine wpAnyH_tk (i := 8) (d := 24) (v := undef) rfl rfl (by kernel_rfl) (by kernel_rfl) (by kernel_rfl) (fun _ _ _ h => h) (.inr ⟨by rfl, rfl⟩) hHeld ?_
        simp only [Act.put, List.setIfInBounds_toArray, List.set_cons_zero, List.set_cons_succ]
        refine wpAnyH_tk (i := 9) (d := 25) (v := undef) rfl rfl (by kernel_rfl) (by kernel_rfl) (by kernel_rfl) (fun _ _ _ h => h) (.inr ⟨by rfl, rfl⟩) hHeld ?_
        simp only [Act.put, List.setIfInBounds_toArray, List.set_cons_zero, List.set_cons_succ]
        refine wpAnyH_tk (i := 10) (d := 26) (v := undef) rfl rfl (by kernel_rfl) (by kernel_rfl) (by kernel_rfl) (fun _ _ _ h => h) (.inr ⟨by rfl, rfl⟩) hHeld ?_
        simp only [Act.put, List.setIfInBounds_toArray, List.set_cons_zero, List.set_cons_succ]
        refine wpAnyH_tk (i := 11) (d := 27) (v := undef) rfl rfl (by kernel_rfl) (by kernel_rfl) (by kernel_rfl) (fun _ _ _ h => h) (.inr ⟨by rfl, rfl⟩) hHeld ?_
        simp only [Act.put, List.setIfInBounds_toArray, List.set_cons_zero, List.set_cons_succ]
        refine wpAnyH_tk (i := 12) (d := 28) (v := (.bool true)) rfl rfl (by kernel_rfl) (by kernel_rfl) (by kernel_rfl) (fun _ _ _ h => h) (.inl ⟨by rfl, by (intro wq hSw; (try dsimp only at hSw); go_simp; (try (first | rfl | omega)))⟩) hHeld ?_
        simp only [Act.put, List.setIfInBounds_toArray, List.set_cons_zero, List.set_cons_succ]
        refine wpAnyH_done (by kernel_rfl) ?_ _
        have HT : Hid (opB d rows = true) := HHIT.out (by rw [HNX.out]; rfl)
        have HB5 : Hid (Below W.heap.size W w5) := HB3.out.trans (hb35.mono HB3.out.size)
        clear hHeld hb35 hb5 c0 c1
        go_wp2
        go_ret
        exact ⟨by rw [HT.out]; rfl, HBW.out _ HB5.out⟩
    · obtain rfl : k = d := by omega
      have HOF : Hid (opB k rows = false) := by
        show _ = _
        unfold opB
        rw [List.any_eq_false]
        intro j hj
        rw [HNO.out j (List.mem_range.1 hj)]
        decide
      go_wp2
      go_ret
      exact ⟨by rw [HOF.out]; rfl, HBW.out _ HB.out⟩

end Go.Proofs.YtpbahagfhkpfhaaGreat

/- exact.Product of small by great; is there a row that ..: by half.isIn's closure. Made by mkhas3.py. -/
namespace Go.Proofs.YtpbahagfhkpfhaaGreat
open Go.RowKit
attribute [local go_sem ↓] Go.wp_at_zero Go.wp_at_succ

set_option maxRecDepth 100000 in
set_option maxHeartbeats 400000 in
theorem productE_any (B : Nat) (a x : List Int) (u v : Value) (w : World) (hu : Sl B 3 w u (ints a)) (hv : Sl B 3 w v (ints x)) (hs : Swe a x) :
    Calls Tryz.prog 60 #[u, v] w fun e w' => e = .returned (.int .i64 (dotL a x)) ∧ ∃ n, w' = w.drewN n := by
  obtain ⟨ao, cap, hvv, hlc, hcm⟩ := sl_open hu
  obtain ⟨bo, cbp, huu, hlb, hcb⟩ := sl_open hv
  subst hvv huu
  have HU : Hid (Sl B 3 w (.slice ao a.length cap) (ints a)) := hu
  have HV : Hid (Sl B 3 w (.slice bo x.length cbp) (ints x)) := hv
  have HS : Hid (Swe a x) := hs
  have hle : a.length ≤ x.length := hs.1
  have hl8 : a.length ≤ 8 := hs.2.1
  clear hu hv hs
  go_enter Tryz.func60, Tryz.ntmps60
  go_wp2
  go_loopw [5, 9] (fun s i wr => ∃ k : Nat, k ≤ a.length ∧ i = .int .i64 k ∧ s = .int .i64 (Lin.sumN k fun i => a.getD i 0 * x.getD i 0) ∧ ∃ n, wr = w.drewN n) (fun _ i _ => a.length - (intOf i).toNat)
  case atStart => exact ⟨0, Nat.zero_le _, rfl, rfl, 0, rfl⟩
  case round =>
    obtain ⟨k, hk, rfl, rfl, n, rfl⟩ := hrel
    by_cases hlt : k < a.length
    · have hlt2 : k < x.length := by omega
      obtain ⟨b, o, cp, hs, hc1, hcc⟩ := sl_cell HU.out hlt
      simp only [Value.slice.injEq] at hs
      obtain ⟨rfl, _, rfl⟩ := hs
      obtain ⟨b2, o2, cp2, hs2, hc2, hcc2⟩ := sl_cell HV.out hlt2
      simp only [Value.slice.injEq] at hs2
      obtain ⟨rfl, _, rfl⟩ := hs2
      have h1 := sum_swe HS.out k hk
      have h2 := sum_swe HS.out (k + 1) (by omega)
      have h3 : (a.getD k 0 * x.getD k 0).natAbs ≤ 1000000000000000 := mul_bwe (HS.out.2.2.1 _ (by simp [hlt])) (HS.out.2.2.2 _ (by simp [hlt2]))
      have HSU : Hid ((Lin.sumN (k + 1) fun i => a.getD i 0 * x.getD i 0) = (Lin.sumN k fun i => a.getD i 0 * x.getD i 0) + a.getD k 0 * x.getD k 0) := rfl
      rw [HSU.out] at h2
      generalize (Lin.sumN k fun i => a.getD i 0 * x.getD i 0) = S at *
      generalize a.getD k 0 = p at *
      generalize x.getD k 0 = q at *
      have e2 : wrap64 (S + wrap64 (p * q)) = S + p * q := by
        rw [IntWalk.wrap64_in (p * q) ⟨by omega, by omega⟩, IntWalk.wrap64_in _ ⟨by omega, by omega⟩]
      clear h1 h2 h3
      go_wp2
      go_quiet (fail)
      go_wp2
      go_roundw
      case rel => exact ⟨k + 1, by omega, by go_num, by rw [HSU.out, e2], _, rfl⟩
      case measure => simp [intOf]; omega
    · have hke : k = a.length := by omega
      subst hke
      go_wp2
      go_ret
      exact ⟨rfl, n, rfl⟩


set_option maxRecDepth 100000 in
set_option maxHeartbeats 800000 in
theorem idxI_any (B : Nat) (f : List Int → Bool) (m : List (List Int)) (v : Value) (p1 p2 p3 : Addr) (w : World) (hv : Mat B 22 3 w v m)
    (hc : ∀ r ∈ m, ∀ (W : World) (rv : Value), Below w.heap.size w W → Sl B 3 W rv (ints r) → Calls Tryz.prog 59 #[rv, .pointer (some p1), .pointer (some p2), .pointer (some p3)] W fun e w' => e = .returned (.bool (f r)) ∧ Below w.heap.size w w') :
    Calls Tryz.prog 75 #[v, .func (.func 59) #[] #[.pointer (some p1), .pointer (some p2), .pointer (some p3)]] w fun e w' => (∃ z, e = .returned (.int .i64 z) ∧ -1 ≤ z ∧ z < m.length ∧ decide (0 ≤ z) = m.any f) ∧ Below w.heap.size w w' := by
  obtain ⟨ao, cap, hvv, hlc, hcm⟩ := mat_open hv
  subst hvv
  have HV : Hid (Mat B 22 3 w (.slice ao m.length cap) m) := hv
  have HC : Hid (∀ r ∈ m, ∀ (W : World) (rv : Value), Below w.heap.size w W → Sl B 3 W rv (ints r) → Calls Tryz.prog 59 #[rv, .pointer (some p1), .pointer (some p2), .pointer (some p3)] W fun e w' => e = .returned (.bool (f r)) ∧ Below w.heap.size w w') := hc
  clear hv hc
  go_enter Tryz.func75, Tryz.ntmps75
  go_wp2
  go_loopw [8] (fun i wr => ∃ k : Nat, k ≤ m.length ∧ i = .int .i64 k ∧ (m.take k).any f = false ∧ Below w.heap.size w wr) (fun i _ => m.length - (intOf i).toNat)
  case atStart => exact ⟨0, Nat.zero_le _, rfl, by simp, Below.refl _ _⟩
  case round =>
    obtain ⟨k, hk, rfl, hno, hb⟩ := hrel
    have HN : Hid ((m.take k).any f = false) := hno
    have HB : Hid (Below w.heap.size w wr) := hb
    clear hno hb
    by_cases hlt : k < m.length
    · obtain ⟨b1, o, cp, r1, hs, hc1, hcc, hr1⟩ := mat_cell (HV.out.below HB.out (Nat.le_refl _)) hlt
      simp only [Value.slice.injEq] at hs
      obtain ⟨rfl, hxx, rfl⟩ := hs
      clear hxx
      have HS1 : Hid ((m.take (k + 1)).any f = f (m.getD k [])) := anyR_snoc (p := f) hlt HN.out
      have HME : Hid (m.getD k [] ∈ m) := by
        show _ ∈ _
        simp [hlt]
      have HCA : Hid (Calls Tryz.prog 59 #[r1, .pointer (some p1), .pointer (some p2), .pointer (some p3)] wr fun e w' => e = .returned (.bool (f (m.getD k []))) ∧ Below w.heap.size w w') := HC.out _ HME.out wr r1 HB.out hr1
      clear hr1
      generalize m.getD k [] = x at *
      obtain ⟨fb, hfb⟩ : ∃ fb, fb = f x := ⟨_, rfl⟩
      have HFB : Hid (fb = f x) := hfb
      rw [← hfb] at HCA
      clear hfb
      go_wp2_with fail
      refine HCA.out.mono ?_
      rintro e w2 ⟨rfl, hb2⟩
      have HB2 : Hid (Below w.heap.size w w2) := hb2
      clear hb2 HCA
      cases hf : fb
      · have HF : Hid (f x = false) := by rw [← hf]; exact HFB.out.symm
        clear hf
        go_wp2
        go_roundw
        case rel => exact ⟨k + 1, by omega, by go_num, by rw [HS1.out]; exact HF.out, HB2.out⟩
        case measure => simp [intOf]; omega
      · have HF : Hid (f x = true) := by rw [← hf]; exact HFB.out.symm
        clear hf
        go_wp2
        go_ret
        refine ⟨⟨_, rfl, by omega, by omega, ?_⟩, HB2.out⟩
        rw [decide_eq_true (by omega)]
        exact (List.any_eq_true.2 ⟨x, HME.out, HF.out⟩).symm
    · have HTK : Hid (m.take k = m) := List.take_of_length_le (by omega)
      go_wp2
      go_ret
      exact ⟨⟨-1, rfl, by omega, by omega, by rw [← HTK.out, HN.out]; rfl⟩, HB.out⟩

set_option maxRecDepth 100000 in
theorem hasI_any (B : Nat) (f : List Int → Bool) (m : List (List Int)) (v : Value) (p1 p2 p3 : Addr) (w : World) (hv : Mat B 22 3 w v m)
    (hc : ∀ r ∈ m, ∀ (W : World) (rv : Value), Below w.heap.size w W → Sl B 3 W rv (ints r) → Calls Tryz.prog 59 #[rv, .pointer (some p1), .pointer (some p2), .pointer (some p3)] W fun e w' => e = .returned (.bool (f r)) ∧ Below w.heap.size w w') :
    Calls Tryz.prog 46 #[v, .func (.func 59) #[] #[.pointer (some p1), .pointer (some p2), .pointer (some p3)]] w fun e w' => e = .returned (.bool (m.any f)) ∧ Below w.heap.size w w' := by
  have HI : Hid (Calls Tryz.prog 75 #[v, .func (.func 59) #[] #[.pointer (some p1), .pointer (some p2), .pointer (some p3)]] w fun e w' => (∃ z, e = .returned (.int .i64 z) ∧ -1 ≤ z ∧ z < m.length ∧ decide (0 ≤ z) = m.any f) ∧ Below w.heap.size w w') := idxI_any B f m v p1 p2 p3 w hv hc
  obtain ⟨ao, cap, hvv, hlc, hcm⟩ := mat_open hv
  subst hvv
  clear hv hc
  generalize m.any f = R at *
  go_enter Tryz.func46, Tryz.ntmps46
  go_wp2_with fail
  refine HI.out.mono ?_
  rintro e w' ⟨⟨z, rfl, hz1, hz2, hz3⟩, hb⟩
  have HZ : Hid (decide (0 ≤ z) = R) := hz3
  have HB : Hid (Below w.heap.size w w') := hb
  clear hz3 hb
  go_wp2
  go_ret
  exact ⟨ret_bool HZ.out, HB.out⟩

set_option maxRecDepth 100000 in
set_option maxHeartbeats 800000 in
theorem isIn1_any (d : Nat) (r y : List Int) (ww : Int) (ro : Option Addr) (rc : Nat) (xo : Option Addr) (xc : Nat) (b1 b2 b3 : Nat) (w : World) (hr : Sl 0 3 w (.slice ro (d + 1) rc) (ints r)) (hx : Sl 0 3 w (.slice xo d xc) (ints y)) (hrl : r.length = d + 1) (hyl : y.length = d) (hrb : ∀ z ∈ r, z.natAbs ≤ 20) (hyb : ∀ z ∈ y, z.natAbs ≤ 1000000000000) (hwb : ww.natAbs ≤ 1000000000000) (hd : d ≤ 3)
    (c1 : w.cell? ⟨b1, 0, none⟩ = some (.int .i64 d)) (c2 : w.cell? ⟨b2, 0, none⟩ = some (.slice xo d xc)) (c3 : w.cell? ⟨b3, 0, none⟩ = some (.int .i64 ww)) :
    Calls Tryz.prog 59 #[.slice ro (d + 1) rc, .pointer (some ⟨b1, 0, none⟩), .pointer (some ⟨b2, 0, none⟩), .pointer (some ⟨b3, 0, none⟩)] w fun e w' => e = .returned (.bool (decide (r.getD d 0 * ww < dotL (r.take d) y))) ∧ ∃ n, w' = w.drewN n := by
  obtain ⟨rb, rf, rcc, hrv, hrc, hrd⟩ := sl_cell hr (k := d) (by rw [hrl]; omega)
  rw [hrl] at hrv hrc
  simp only [Value.slice.injEq] at hrv
  obtain ⟨rfl, -, rfl⟩ := hrv
  have hr' := hr
  rw [← hrl] at hr'
  have htk := Sl.takeE (n := d) hr' (by rw [hrl]; omega)
  have HPD : Hid (∀ m, Calls Tryz.prog 60 #[.slice (some ⟨rb, rf, none⟩) d rc, .slice xo d xc] (w.drewN m) fun e w' => e = .returned (.int .i64 (dotL (r.take d) y)) ∧ ∃ k, w' = (w.drewN m).drewN k) := fun m =>
    productE_any 0 _ y _ _ _ (htk.drewN m) (hx.drewN m) ⟨by rw [hyl]; simp; omega, by simp; omega, fun z hz => by have := hrb z (List.mem_of_mem_take hz); omega, hyb⟩
  have hb1 := hrb (r.getD d 0) (getD_mem (by rw [hrl]; omega))
  have hpb : (r.getD d 0 * ww).natAbs ≤ 20 * 1000000000000 := by rw [Int.natAbs_mul]; exact Nat.mul_le_mul hb1 hwb
  generalize dotL (r.take d) y = D at *
  generalize r.getD d 0 = rd at *
  have hw1 : wrap64 (rd * ww) = rd * ww := IntWalk.wrap64_in _ ⟨by omega, by omega⟩
  have hw2 : IntKind.i64.wrap (rd * ww) = rd * ww := by rw [IntWalk.i64_left]; exact hw1
  have hdI : (d : Int) < (d : Int) + 1 := by omega
  have hdI0 : (0 : Int) ≤ (d : Int) := by omega
  have hdc : (d : Int) ≤ (rc : Int) := by omega
  have hdc2 : d ≤ rc := by omega
  clear hr hr' hx htk hrb hyb hb1 hpb hwb
  go_enter Tryz.func59, Tryz.ntmps59
  go_wp2
  go_quiet ((go_at_call 60; exact Calls.quiet_of (w := w) (HPD.out _)))
  go_wp2
  go_ret
  exact ⟨rfl, _, rfl⟩

end Go.Proofs.YtpbahagfhkpfhaaGreat

/- half.isIn: do all rows hold at a place? -/
namespace Go.Proofs.YtpbahagfhkpfhaaGreat
open Go.RowKit
attribute [local go_sem ↓] Go.wp_at_zero Go.wp_at_succ

def inK (rows : List (List Int)) (d : Nat) (p : List Int) : Bool := !(rows.any fun r => decide (r.getD d 0 * p.getD d 0 < dotL (r.take d) (p.take d)))

theorem two_al (W : World) (o1 o2 : Obj) : ((W.alloc o1).alloc o2).drew.heap[W.heap.size]? = some o1 ∧ ((W.alloc o1).alloc o2).drew.heap[W.heap.size + 1]? = some o2 ∧ Below W.heap.size W ((W.alloc o1).alloc o2).drew := by
  have k1 := alloc_keep W o1
  have k2 := alloc_keep (W.alloc o1) o2
  have n2 := alloc_new (W.alloc o1) o2
  rw [size_alloc] at n2
  exact ⟨(k2.block _ (by rw [size_alloc]; omega)).trans (alloc_new _ _), n2, (k1.trans (k2.mono k1.size)).drew⟩

set_option maxRecDepth 100000 in
set_option maxHeartbeats 1600000 in
theorem isIn_any (d : Nat) (rows : List (List Int)) (p : List Int) (v : Value) (po : Option Addr) (pc : Nat) (w : World) (hv : Mat 0 22 3 w v rows) (hp : Sl 0 3 w (.slice po (d + 1) pc) (ints p)) (hpl : p.length = d + 1) (hpb : ∀ z ∈ p, z.natAbs ≤ 1000000000000) (hc : CutOk d rows) :
    Calls Tryz.prog 37 #[.agg #[.int .i64 d, v], .slice po (d + 1) pc] w fun e w' => e = .returned (.bool (inK rows d p)) ∧ Below w.heap.size w w' := by
  obtain ⟨ro, rc, hvv, hlc, hcm⟩ := mat_open hv
  subst hvv
  obtain ⟨pb, pf, pcc, hpv, hpc, hpd⟩ := sl_cell hp (k := d) (by rw [hpl]; omega)
  rw [hpl] at hpv hpc
  simp only [Value.slice.injEq] at hpv
  obtain ⟨rfl, -, rfl⟩ := hpv
  have hp' := hp
  rw [← hpl] at hp'
  have htk := Sl.takeE (n := d) hp' (by rw [hpl]; omega)
  obtain ⟨W0, hW0, hb0, hs0, hc0⟩ := cut_box w d (.slice ro rows.length rc)
  have hzb := hpb (p.getD d 0) (getD_mem (by rw [hpl]; omega))
  have HHS : Hid (∀ W b2 b3, Below W0.heap.size W0 W → W.heap[b2]? = some (.cells #[.slice (some ⟨pb, pf, none⟩) d pc] 22 (0, 0)) → W.heap[b3]? = some (.cells #[.int .i64 (p.getD d 0)] 3 (0, 0)) → Calls Tryz.prog 46 #[.slice ro rows.length rc, .func (.func 59) #[] #[.pointer (some ⟨w.heap.size, 0, none⟩), .pointer (some ⟨b2, 0, none⟩), .pointer (some ⟨b3, 0, none⟩)]] W fun e w' => e = .returned (.bool (rows.any fun r => decide (r.getD d 0 * p.getD d 0 < dotL (r.take d) (p.take d)))) ∧ Below W.heap.size W w') := fun W b2 b3 hB h2 h3 => by
    have hbW : Below w.heap.size w W := hb0.trans (hB.mono hb0.size)
    refine hasI_any 0 (fun r => decide (r.getD d 0 * p.getD d 0 < dotL (r.take d) (p.take d))) rows _ ⟨w.heap.size, 0, none⟩ ⟨b2, 0, none⟩ ⟨b3, 0, none⟩ W (hv.below hbW (Nat.le_refl _)) fun r hr X rv hX hrs => ?_
    obtain ⟨uo, uc, hu, _, _⟩ := sl_open hrs
    rw [hc.len r hr] at hu
    subst hu
    have q2 := (hX.block b2 (Array.getElem?_eq_some_iff.1 h2).1).trans h2
    have q3 := (hX.block b3 (Array.getElem?_eq_some_iff.1 h3).1).trans h3
    have hbX : Below w.heap.size w X := hbW.trans (hX.mono hbW.size)
    refine (isIn1_any d r (p.take d) (p.getD d 0) uo uc (some ⟨pb, pf, none⟩) pc w.heap.size b2 b3 X hrs (htk.below hbX (Nat.le_refl _)) (hc.len r hr) (by rw [List.length_take, hpl]; omega) (hc.bd r hr) (fun z hz => hpb z (List.mem_of_mem_take hz)) hzb hc.d3 (hc0 X (hB.trans (hX.mono hB.size))).1 (by simp [World.cell?, q2]) (by simp [World.cell?, q3])).mono ?_
    rintro e w' ⟨rfl, n, rfl⟩
    exact ⟨rfl, hX.trans (Qe.below ⟨n, rfl⟩)⟩
  have HB0 : Hid (Below w.heap.size w W0) := hb0
  have HCC : Hid (∀ W, Below W0.heap.size W0 W → W.cell? ⟨w.heap.size, 1, none⟩ = some (.slice ro rows.length rc)) := fun W hB => (hc0 W hB).2
  have HIK : Hid (inK rows d p = !(rows.any fun r => decide (r.getD d 0 * p.getD d 0 < dotL (r.take d) (p.take d)))) := rfl
  have hpd0 : W0.cell? ⟨pb, pf + d, none⟩ = some (.int .i64 (p.getD d 0)) := (hb0.cell (lt_of_cell hpd)).trans hpd
  have HW0 : Hid (W0 = w.alloc (.cells #[.int .i64 d, .slice ro rows.length rc] 36)) := hW0
  obtain ⟨c0, c1⟩ := hc0 W0 (Below.refl _ _)
  have HKS : Hid (∀ X, Below W0.heap.size W0 X → X.cell? ⟨w.heap.size, 0, none⟩ = some (.int .i64 d) ∧ X.cell? ⟨pb, pf + d, none⟩ = some (.int .i64 (p.getD d 0))) := fun X hX => ⟨(hc0 X hX).1, (hX.cell (lt_of_cell hpd0)).trans hpd0⟩
  have KS1 : ∀ o, Below W0.heap.size W0 (W0.drew.alloc o) := fun o => ((Below.refl _ _).drew).alloc (Nat.le_refl _) o
  have KS2 : ∀ o, Below W0.heap.size W0 (W0.alloc o) := fun o => (Below.refl _ _).alloc (Nat.le_refl _) o
  have KS3 : ∀ o o', Below W0.heap.size W0 ((W0.drew.alloc o).alloc o') := fun o o' => (KS1 o).alloc (KS1 o).size o'
  have KS4 : ∀ o o' (a : Addr) (x : Value), W0.heap.size ≤ a.block → Below W0.heap.size W0 (((W0.drew.alloc o).alloc o').setCell a x) := fun o o' a x h => (KS3 o o').setCell h x
  have hdI : (d : Int) < (d : Int) + 1 := by omega
  have hdI0 : (0 : Int) ≤ (d : Int) := by omega
  have hdc : (d : Int) ≤ (pc : Int) := by omega
  have hdc2 : d ≤ pc := by omega
  clear hv hp hp' htk hb0 hs0 hc0 hW0 hzb hpb hpd hc
  generalize (rows.any fun r => decide (r.getD d 0 * p.getD d 0 < dotL (r.take d) (p.take d))) = R at *
  generalize inK rows d p = K at *
  generalize p.getD d 0 = z at *
  go_enter Tryz.func37, Tryz.ntmps37
  go_upto_region 1 with fail
  rw [← HW0.out]
  go_cut [5, 6] from 7 (fun x y wx => ∃ b2 b3, x = .pointer (some ⟨b2, 0, none⟩) ∧ y = .pointer (some ⟨b3, 0, none⟩) ∧ wx.heap[b2]? = some (.cells #[.slice (some ⟨pb, pf, none⟩) d pc] 22 (0, 0)) ∧ wx.heap[b3]? = some (.cells #[.int .i64 z] 3 (0, 0)) ∧ Below W0.heap.size W0 wx)
  case first =>
    go_region_held3 (fun X => X.cell? ⟨w.heap.size, 0, none⟩ = some (.int .i64 d) ∧ X.cell? ⟨pb, pf + d, none⟩ = some (.int .i64 z)) (first | exact HKS.out _ (KS1 _) | exact HKS.out _ (KS2 _) | exact HKS.out _ (KS3 _ _) | exact HKS.out _ (KS4 _ _ _ _) | go_keep) (fail)
    all_goals go_wp2
    all_goals go_meet
    all_goals first
      | exact ⟨W0.heap.size + 1, W0.heap.size, rfl, rfl, (two_al W0 _ _).2.1, (two_al W0 _ _).1, (two_al W0 _ _).2.2⟩
      | exact ⟨W0.heap.size, W0.heap.size + 1, rfl, rfl, (two_al W0 _ _).1, (two_al W0 _ _).2.1, (two_al W0 _ _).2.2⟩
  case rest =>
  obtain ⟨b2, b3, rfl, rfl, h2, h3, hB⟩ := hcut
  have HHS2 := HHS.out wc b2 b3 hB h2 h3
  have HBc : Hid (Below w.heap.size w wc) := HB0.out.trans (hB.mono HB0.out.size)
  have HHS3 : Hid (Calls Tryz.prog 46 #[.slice ro rows.length rc, .func (.func 59) #[] #[.pointer (some ⟨w.heap.size, 0, none⟩), .pointer (some ⟨b2, 0, none⟩), .pointer (some ⟨b3, 0, none⟩)]] wc fun e w' => e = .returned (.bool R) ∧ Below wc.heap.size wc w') := HHS2
  have c9 := HCC.out wc hB
  clear HHS2 hB h2 h3 c0 c1 hpd0
  go_wp2_with fail
  refine HHS3.out.mono ?_
  rintro e w5 ⟨rfl, hb5⟩
  have HB5 : Hid (Below w.heap.size w w5) := HBc.out.trans (hb5.mono HBc.out.size)
  clear hb5
  go_wp2
  go_ret
  exact ⟨by rw [HIK.out]; rfl, HB5.out⟩

end Go.Proofs.YtpbahagfhkpfhaaGreat
