import Derived.Test.YtknomkajibfmlaaGreatEm1
import Derived.Test.YtknomkajibfmlaaGreatMgAL
/- The document's CutMay (of cuts that may be) and GoalMay. -/
namespace Go.Proofs.YtknomkajibfmlaaGreat
open Go.RowKit Lin
attribute [local go_sem ↓] Go.wp_at_zero Go.wp_at_succ

/-- A cut in a box of its own. -/
theorem cut_box (w : World) (d : Nat) (v : Value) : ∃ W0, W0 = w.alloc (.cells #[.int .i64 d, v] 24) ∧ Below w.heap.size w W0 ∧ W0.heap.size = w.heap.size + 1 ∧ ∀ W', Below W0.heap.size W0 W' → W'.cell? ⟨w.heap.size, 0, none⟩ = some (.int .i64 d) ∧ W'.cell? ⟨w.heap.size, 1, none⟩ = some v := by
  refine ⟨_, rfl, alloc_keep _ _, size_alloc _ _, fun W' hB => ?_⟩
  have h0 := (hB.block w.heap.size (by rw [size_alloc]; omega)).trans (alloc_new w (.cells #[.int .i64 d, v] 24))
  exact ⟨by simp [World.cell?, h0], by simp [World.cell?, h0]⟩

theorem far20 {r : List Int} (h : ∀ z ∈ r, z.natAbs ≤ 20) : r.any (farB · 20) = false := far_no (n := 20) h

set_option maxRecDepth 100000 in
set_option maxHeartbeats 1600000 in
theorem cutMay_ok (d : Nat) (rows : List (List Int)) (v : Value) (w : World) {B0 : Nat} (hv : Mat B0 38 3 w v rows) (hc : CutF d rows) :
    Calls Tryz.prog 5 #[.agg #[.int .i64 d, v]] w fun e w' => e = .returned (.int .i64 0) ∧ Below w.heap.size w w' := by
  obtain ⟨ao, cap, hvv, hlc, hcm⟩ := mat_open hv
  subst hvv
  obtain ⟨W0, hW0, hb0, hs0, hc0⟩ := cut_box w d (.slice ao rows.length cap)
  have HV : Hid (∀ W', Below W0.heap.size W0 W' → Mat B0 38 3 W' (.slice ao rows.length cap) rows) := fun W' hB => (hv.below hb0 (Nat.le_refl _)).below hB (Nat.le_refl _)
  have HC : Hid (CutF d rows) := hc
  have HW0 : Hid (W0 = w.alloc (.cells #[.int .i64 d, .slice ao rows.length cap] 24)) := hW0
  have HB0 : Hid (Below w.heap.size w W0) := hb0
  have HC0 : Hid (∀ W', Below W0.heap.size W0 W' → W'.cell? ⟨w.heap.size, 0, none⟩ = some (.int .i64 d) ∧ W'.cell? ⟨w.heap.size, 1, none⟩ = some (.slice ao rows.length cap)) := hc0
  have h1 : decide ((d : Int) < 1) = false := decide_eq_false (by have := hc.d1; omega)
  have h4 : (d : Int) ≤ 4 := by have := hc.d4; omega
  have h4' : decide ((4 : Int) < (d : Int)) = false := decide_eq_false (by omega)
  have h12 := hc.n12
  have hd1 := hc.d1
  clear hv hc hW0 hb0 hs0 hc0
  go_enter Tryz.func5, Tryz.ntmps5
  go_wp2
  rw [← HW0.out]
  go_loopw [3] (fun i wr => ∃ k : Nat, k ≤ rows.length ∧ i = .int .i64 k ∧ Below W0.heap.size W0 wr) (fun i _ => rows.length - (intOf i).toNat)
  case atStart => exact ⟨0, Nat.zero_le _, rfl, Below.refl _ _⟩
  case round =>
    obtain ⟨k, hk, rfl, hb⟩ := hrel
    have HB : Hid (Below W0.heap.size W0 wr) := hb
    obtain ⟨c0, c1⟩ := HC0.out wr hb
    clear hb
    by_cases hlt : k < rows.length
    · obtain ⟨vb, voo, vcp, rv, hvs, _, hvcell, hrv⟩ := mat_cell (HV.out wr HB.out) hlt
      simp only [Value.slice.injEq] at hvs
      obtain ⟨rfl, _, rfl⟩ := hvs
      have hmem : rows.getD k [] ∈ rows := by simp [hlt]
      have hlen := HC.out.len _ hmem
      obtain ⟨uo, uc, huv, _, _⟩ := sl_open hrv
      rw [hlen] at huv
      subst huv
      have HFA : Hid (Calls Tryz.prog 14 #[.slice uo (d + 1) uc, .int .i64 20] wr.drew fun e w' => e = .returned (.bool false) ∧ w' = wr.drew) := by
        have h := farAny_any _ (rows.getD k []) (.slice uo (d + 1) uc) 20 wr.drew hrv.drew (by decide) (by decide)
        rw [far20 (HC.out.bd _ hmem)] at h
        exact h
      clear hrv hlen hmem
      have hkI : (0 : Int) ≤ (k : Int) := by omega
      have hkJ : (k : Int) < (rows.length : Int) := by omega
      have hdd : (((d + 1 : Nat) : Int) != (d : Int) + 1) = false := by rw [bne_eq_false_iff_eq]; omega
      go_wp2
      go_region
      go_wp2_with fail
      refine HFA.out.mono ?_
      rintro e w1 ⟨rfl, hw1⟩
      rw [hw1]
      clear hw1
      go_wp2
      go_roundw
      case rel => exact ⟨k + 1, by omega, by go_num, HB.out.drew⟩
      case measure => simp [intOf]; omega
    · go_wp2
      go_ret
      exact ⟨rfl, HB0.out.trans (HB.out.mono HB0.out.size)⟩

theorem CutF.rw {d : Nat} {rows : List (List Int)} (h : CutF d rows) : RwE d rows := fun r hr => ⟨h.len r hr, h.bd r hr⟩
theorem CutOk.rw {d : Nat} {rows : List (List Int)} (h : CutOk d rows) : RwE d rows := h.f.rw

end Go.Proofs.YtknomkajibfmlaaGreat

/- The errors of a cut: half.Check and the document's CutMay, of any cut. -/
namespace Go.Proofs.YtknomkajibfmlaaGreat
open Go.RowKit Lin
attribute [local go_sem ↓] Go.wp_at_zero Go.wp_at_succ

def rwE (n : Nat) (r : List Int) : Int := if r.length ≠ n then 3 else if r.any (farB · 20) then 4 else 0
def rwsE (n : Nat) : List (List Int) → Int
  | [] => 0
  | r :: t => if rwE n r ≠ 0 then rwE n r else rwsE n t
/-- What is wrong with a cut. -/
def cmE (dm : Int) (rows : List (List Int)) : Int := if dm < 1 ∨ 4 < dm then 1 else if 12 < rows.length then 2 else rwsE (dm.toNat + 1) rows

theorem rwsE_at {n : Nat} : ∀ {rows : List (List Int)} {k : Nat}, k < rows.length → (∀ j, j < k → rwE n (rows.getD j []) = 0) → rwE n (rows.getD k []) ≠ 0 → rwsE n rows = rwE n (rows.getD k [])
  | [], _, hk, _, _ => by simp at hk
  | r :: t, 0, _, _, hn => by simp only [List.getD_cons_zero] at hn ⊢; rw [rwsE, if_pos hn]
  | r :: t, k + 1, hk, h, hn => by
    have h0 := h 0 (by omega)
    simp only [List.getD_cons_zero] at h0
    rw [rwsE, if_neg (by rw [h0]; simp)]
    simp only [List.getD_cons_succ] at hn ⊢
    exact rwsE_at (by simpa using hk) (fun j hj => by have := h (j + 1) (by omega); simpa using this) hn
theorem rwsE_end {n : Nat} : ∀ {rows : List (List Int)}, (∀ j, j < rows.length → rwE n (rows.getD j []) = 0) → rwsE n rows = 0
  | [], _ => rfl
  | r :: t, h => by
    have h0 := h 0 (by simp)
    simp only [List.getD_cons_zero] at h0
    rw [rwsE, if_neg (by rw [h0]; simp)]
    exact rwsE_end (fun j hj => by have := h (j + 1) (by simpa using hj); simpa using this)
theorem rwsE_mem {n : Nat} : ∀ {rows : List (List Int)}, rwsE n rows = 0 → ∀ r ∈ rows, rwE n r = 0
  | [], _, r, hr => by simp at hr
  | q :: t, h, r, hr => by
    rw [rwsE] at h
    split at h
    · rename_i h1; exact absurd h h1
    · rename_i h1
      rcases List.mem_cons.1 hr with rfl | hr
      · exact Classical.byContradiction h1
      · exact rwsE_mem h r hr

theorem rwE_zero {n : Nat} {r : List Int} (h : rwE n r = 0) : r.length = n ∧ ∀ z ∈ r, z.natAbs ≤ 20 := by
  unfold rwE at h
  split at h
  · simp at h
  · rename_i h1
    split at h
    · simp at h
    · rename_i h2
      refine ⟨Classical.byContradiction h1, fun z hz => ?_⟩
      have h3 : r.any (farB · 20) = false := by simpa using h2
      have := (List.any_eq_false.1 h3) z hz
      simp only [farB, Bool.or_eq_true, decide_eq_true_eq, not_or] at this
      omega

theorem cmE_ok {dm : Int} {rows : List (List Int)} (h : cmE dm rows = 0) : ∃ d : Nat, dm = d ∧ CutF d rows := by
  unfold cmE at h
  split at h
  · simp at h
  · rename_i h1
    split at h
    · simp at h
    · rename_i h2
      have hm := rwsE_mem h
      exact ⟨dm.toNat, by omega, by omega, by omega, by omega, fun r hr => (rwE_zero (hm r hr)).1, fun r hr => (rwE_zero (hm r hr)).2⟩

theorem CutF.cm {d : Nat} {rows : List (List Int)} (h : CutF d rows) : cmE d rows = 0 := by
  unfold cmE
  have h1 := h.d1
  have h4 := h.d4
  have h12 := h.n12
  rw [if_neg (by omega), if_neg (by omega), show ((d : Int)).toNat = d by omega]
  refine rwsE_end fun j hj => ?_
  have hm : rows.getD j [] ∈ rows := by simp [hj]
  unfold rwE
  rw [if_neg (by rw [h.len _ hm]; simp), far20 (h.bd _ hm)]
  simp

/-- A cut in a box of its own, of any dimension. -/
theorem cut_boxI (w : World) (d : Int) (v : Value) : ∃ W0, W0 = w.alloc (.cells #[.int .i64 d, v] 24) ∧ Below w.heap.size w W0 ∧ W0.heap.size = w.heap.size + 1 ∧ ∀ W', Below W0.heap.size W0 W' → W'.cell? ⟨w.heap.size, 0, none⟩ = some (.int .i64 d) ∧ W'.cell? ⟨w.heap.size, 1, none⟩ = some v := by
  refine ⟨_, rfl, alloc_keep _ _, size_alloc _ _, fun W' hB => ?_⟩
  have h0 := (hB.block w.heap.size (by rw [size_alloc]; omega)).trans (alloc_new w (.cells #[.int .i64 d, v] 24))
  exact ⟨by simp [World.cell?, h0], by simp [World.cell?, h0]⟩

set_option maxRecDepth 100000 in
set_option maxHeartbeats 1600000 in
theorem halfCheck_out (dm : Int) (rows : List (List Int)) (v : Value) (w : World) {B0 : Nat} (hv : Mat B0 38 3 w v rows) (h : dm < 1 ∨ 4 < dm) :
    Calls Tryz.prog 8 #[.agg #[.int .i64 dm, v]] w fun e w' => e = .returned (.int .i64 1) ∧ Below w.heap.size w w' := by
  obtain ⟨ao, cap, hvv, hlc, hcm⟩ := mat_open hv
  subst hvv
  have HB : Hid (Below w.heap.size w (w.alloc (.cells #[.int .i64 dm, .slice ao rows.length cap] 24))) := alloc_keep _ _
  clear hv
  by_cases h1 : dm < 1
  · have h1' : decide (dm < 1) = true := decide_eq_true h1
    go_enter Tryz.func8, Tryz.ntmps8
    go_wp2
    go_ret
    exact ⟨rfl, HB.out⟩
  · have h4 : 4 < dm := by omega
    have h1' : decide (dm < 1) = false := decide_eq_false h1
    have h4' : decide (4 < dm) = true := decide_eq_true h4
    go_enter Tryz.func8, Tryz.ntmps8
    go_wp2
    go_ret
    exact ⟨rfl, HB.out⟩

set_option maxRecDepth 100000 in
set_option maxHeartbeats 1600000 in
theorem halfCheck_many (d : Nat) (rows : List (List Int)) (v : Value) (w : World) {B0 : Nat} (hv : Mat B0 38 3 w v rows) (h1 : 1 ≤ d) (h4 : d ≤ 4) (h12 : 12 < rows.length) :
    Calls Tryz.prog 8 #[.agg #[.int .i64 d, v]] w fun e w' => e = .returned (.int .i64 2) ∧ Below w.heap.size w w' := by
  obtain ⟨ao, cap, hvv, hlc, hcm⟩ := mat_open hv
  subst hvv
  have HB : Hid (Below w.heap.size w (w.alloc (.cells #[.int .i64 d, .slice ao rows.length cap] 24))) := alloc_keep _ _
  clear hv
  have e1 : ¬ (d : Int) < 1 := by omega
  have e1' : decide ((d : Int) < 1) = false := decide_eq_false e1
  have e4 : ¬ (4 : Int) < (d : Int) := by omega
  have e4' : decide ((4 : Int) < (d : Int)) = false := decide_eq_false e4
  have e12 : decide ((12 : Int) < (rows.length : Int)) = true := decide_eq_true (by omega)
  go_enter Tryz.func8, Tryz.ntmps8
  go_wp2
  go_ret
  exact ⟨rfl, HB.out⟩

set_option maxRecDepth 100000 in
set_option maxHeartbeats 1600000 in
theorem halfCheck_rows (d : Nat) (rows : List (List Int)) (v : Value) (w : World) {B0 : Nat} (hv : Mat B0 38 3 w v rows) (hd1 : 1 ≤ d) (hd4 : d ≤ 4) (h12 : rows.length ≤ 12) :
    Calls Tryz.prog 8 #[.agg #[.int .i64 d, v]] w fun e w' => e = .returned (.int .i64 (rwsE (d + 1) rows)) ∧ Below w.heap.size w w' := by
  obtain ⟨ao, cap, hvv, hlc, hcm⟩ := mat_open hv
  subst hvv
  have h1' : ¬ (d : Int) < 1 := by omega
  have h4 : (d : Int) ≤ 4 := by omega
  have hdd1 : decide ((d : Int) < 1) = false := by simp; omega
  obtain ⟨W0, hW0, hb0, hs0, hc0⟩ := cut_box w d (.slice ao rows.length cap)
  have HV : Hid (∀ W', Below W0.heap.size W0 W' → Mat B0 38 3 W' (.slice ao rows.length cap) rows) := fun W' hB => (hv.below hb0 (Nat.le_refl _)).below hB (Nat.le_refl _)
  have HW0 : Hid (W0 = w.alloc (.cells #[.int .i64 d, .slice ao rows.length cap] 24)) := hW0
  have HB0 : Hid (Below w.heap.size w W0) := hb0
  have HC0 : Hid (∀ W', Below W0.heap.size W0 W' → W'.cell? ⟨w.heap.size, 0, none⟩ = some (.int .i64 d) ∧ W'.cell? ⟨w.heap.size, 1, none⟩ = some (.slice ao rows.length cap)) := hc0
  obtain ⟨R, hR⟩ : ∃ R, R = rwsE (d + 1) rows := ⟨_, rfl⟩
  rw [← hR]
  have HRR : Hid (R = rwsE (d + 1) rows) := hR
  clear hv hW0 hb0 hs0 hc0 hR
  go_enter Tryz.func8, Tryz.ntmps8
  go_wp2
  rw [← HW0.out]
  go_loopw [21] (fun i wr => ∃ k : Nat, k ≤ rows.length ∧ i = .int .i64 k ∧ Below W0.heap.size W0 wr ∧ ∀ j, j < k → rwE (d + 1) (rows.getD j []) = 0) (fun i _ => rows.length - (intOf i).toNat)
  case atStart => exact ⟨0, Nat.zero_le _, rfl, Below.refl _ _, fun j hj => by omega⟩
  case round =>
    obtain ⟨k, hk, rfl, hb, hz⟩ := hrel
    have HB : Hid (Below W0.heap.size W0 wr) := hb
    have HBW : Hid (Below w.heap.size w wr) := HB0.out.trans (hb.mono HB0.out.size)
    have HZ : Hid (∀ j, j < k → rwE (d + 1) (rows.getD j []) = 0) := hz
    obtain ⟨hcc, c1⟩ := HC0.out wr hb
    clear hb hz
    by_cases hlt : k < rows.length
    · obtain ⟨vb, voo, vcp, rv, hvs, _, hvcell, hrv⟩ := mat_cell (HV.out wr HB.out) hlt
      simp only [Value.slice.injEq] at hvs
      obtain ⟨rfl, _, rfl⟩ := hvs
      have HLC : Hid (Calls Tryz.prog 21 #[rv, .int .i64 ((d : Int) + 1), .int .i64 20] wr fun e w' => e = .returned (.int .i64 (rwE (d + 1) (rows.getD k []))) ∧ Below wr.heap.size wr w') := by
        have h := chkL_any _ (d + 1) 20 (rows.getD k []) rv wr hrv (by decide) (by decide)
        rw [show (((d + 1 : Nat) : Int)) = (d : Int) + 1 by omega] at h
        exact h
      have HEQ : Hid (rwE (d + 1) (rows.getD k []) ≠ 0 → R = rwE (d + 1) (rows.getD k [])) := fun h => HRR.out.trans (rwsE_at hlt HZ.out h)
      have HNX : Hid (rwE (d + 1) (rows.getD k []) = 0 → ∀ j, j < k + 1 → rwE (d + 1) (rows.getD j []) = 0) := fun h j hj => by
        rcases Nat.lt_or_eq_of_le (Nat.le_of_lt_succ hj) with h1 | rfl
        · exact HZ.out j h1
        · exact h
      clear hrv
      generalize rwE (d + 1) (rows.getD k []) = E at *
      have hkI : (0 : Int) ≤ (k : Int) := by omega
      have hkJ : (k : Int) < (rows.length : Int) := by omega
      go_wp2_with fail
      refine HLC.out.mono ?_
      rintro e w1 ⟨rfl, hb1⟩
      have HB1 : Hid (Below W0.heap.size W0 w1) := HB.out.trans (hb1.mono HB.out.size)
      clear hb1 hvcell hcc c1 HLC
      by_cases hE : E = 0
      · subst hE
        have HN2 : Hid (∀ j, j < k + 1 → rwE (d + 1) (rows.getD j []) = 0) := HNX.out rfl
        clear HNX HEQ
        go_wp2
        go_roundw
        case rel => exact ⟨k + 1, by omega, by go_num, HB1.out, HN2.out⟩
        case measure => simp [intOf]; omega
      · have hEb : (E != 0) = true := by simp [hE]
        obtain rfl : R = E := HEQ.out hE
        clear HNX HEQ
        go_wp2
        go_ret
        exact ⟨rfl, HB0.out.trans (HB1.out.mono HB0.out.size)⟩
    · obtain rfl : R = 0 := HRR.out.trans (rwsE_end fun j hj => HZ.out j (by omega))
      go_wp2
      go_ret
      exact ⟨rfl, HBW.out⟩

theorem halfCheck_all (dm : Int) (rows : List (List Int)) (v : Value) (w : World) {B0 : Nat} (hv : Mat B0 38 3 w v rows) :
    Calls Tryz.prog 8 #[.agg #[.int .i64 dm, v]] w fun e w' => e = .returned (.int .i64 (cmE dm rows)) ∧ Below w.heap.size w w' := by
  unfold cmE
  by_cases h : dm < 1 ∨ 4 < dm
  · rw [if_pos h]; exact halfCheck_out dm rows v w hv h
  · rw [if_neg h]
    obtain ⟨d, rfl⟩ : ∃ d : Nat, dm = d := ⟨dm.toNat, by omega⟩
    by_cases h2 : 12 < rows.length
    · rw [if_pos h2]; exact halfCheck_many d rows v w hv (by omega) (by omega) h2
    · rw [if_neg h2]
      have := halfCheck_rows d rows v w hv (by omega) (by omega) (by omega)
      rwa [show ((d : Int)).toNat = d by omega]

end Go.Proofs.YtknomkajibfmlaaGreat
