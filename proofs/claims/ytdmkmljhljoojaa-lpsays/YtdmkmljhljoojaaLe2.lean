/- The errors of a cut, and of a goal: the document's CutMay and GoalMay. -/
import Derived.Test.YtdmkmljhljoojaaLe1
namespace Go.Proofs.Ytdmkmljhljoojaa
open Go.RowKit Lin
attribute [local go_sem ↓] Go.wp_at_zero Go.wp_at_succ

theorem rwE_cases (n : Nat) (r : List Int) : (r.length ≠ n ∧ rwE n r = 3) ∨ (r.length = n ∧ r.any (farB · 20) = true ∧ rwE n r = 4) ∨ (r.length = n ∧ r.any (farB · 20) = false ∧ rwE n r = 0) := by
  unfold rwE
  by_cases h : r.length = n
  · refine .inr ?_
    rw [if_neg (fun hn => hn h)]
    cases hf : r.any (farB · 20) with
    | true => exact .inl ⟨h, rfl, rfl⟩
    | false => exact .inr ⟨h, rfl, by simp⟩
  · exact .inl ⟨h, if_pos h⟩

set_option maxRecDepth 100000 in
set_option maxHeartbeats 1600000 in
theorem cutMay_out (dm : Int) (rows : List (List Int)) (v : Value) (w : World) {B0 : Nat} (hv : Mat B0 25 3 w v rows) (h : dm < 1 ∨ 4 < dm) :
    Calls Try.prog 10 #[.agg #[.int .i64 dm, v]] w fun e w' => e = .returned (.int .i64 1) ∧ Below w.heap.size w w' := by
  obtain ⟨ao, cap, hvv, hlc, hcm⟩ := mat_open hv
  subst hvv
  have HB : Hid (Below w.heap.size w (w.alloc (.cells #[.int .i64 dm, .slice ao rows.length cap] 24))) := alloc_keep _ _
  clear hv
  by_cases h1 : dm < 1
  · have h1' : decide (dm < 1) = true := decide_eq_true h1
    go_enter Try.func10, Try.ntmps10
    go_wp2
    go_ret
    exact ⟨rfl, HB.out⟩
  · have h4 : 4 < dm := by omega
    have h1' : decide (dm < 1) = false := decide_eq_false h1
    have h4' : decide (4 < dm) = true := decide_eq_true h4
    go_enter Try.func10, Try.ntmps10
    go_wp2
    go_ret
    exact ⟨rfl, HB.out⟩

set_option maxRecDepth 100000 in
set_option maxHeartbeats 1600000 in
theorem cutMay_many (d : Nat) (rows : List (List Int)) (v : Value) (w : World) {B0 : Nat} (hv : Mat B0 25 3 w v rows) (h1 : 1 ≤ d) (h4 : d ≤ 4) (h12 : 12 < rows.length) :
    Calls Try.prog 10 #[.agg #[.int .i64 d, v]] w fun e w' => e = .returned (.int .i64 2) ∧ Below w.heap.size w w' := by
  obtain ⟨ao, cap, hvv, hlc, hcm⟩ := mat_open hv
  subst hvv
  have HB : Hid (Below w.heap.size w (w.alloc (.cells #[.int .i64 d, .slice ao rows.length cap] 24))) := alloc_keep _ _
  clear hv
  have e1 : ¬ (d : Int) < 1 := by omega
  have e1' : decide ((d : Int) < 1) = false := decide_eq_false e1
  have e4 : ¬ (4 : Int) < (d : Int) := by omega
  have e4' : decide ((4 : Int) < (d : Int)) = false := decide_eq_false e4
  have e12 : decide ((12 : Int) < (rows.length : Int)) = true := decide_eq_true (by omega)
  go_enter Try.func10, Try.ntmps10
  go_wp2
  go_ret
  exact ⟨rfl, HB.out⟩

set_option maxRecDepth 100000 in
set_option maxHeartbeats 1600000 in
theorem cutMay_rows (d : Nat) (rows : List (List Int)) (v : Value) (w : World) {B0 : Nat} (hv : Mat B0 25 3 w v rows) (hd1 : 1 ≤ d) (hd4 : d ≤ 4) (h12 : rows.length ≤ 12) :
    Calls Try.prog 10 #[.agg #[.int .i64 d, v]] w fun e w' => e = .returned (.int .i64 (rwsE (d + 1) rows)) ∧ Below w.heap.size w w' := by
  obtain ⟨ao, cap, hvv, hlc, hcm⟩ := mat_open hv
  subst hvv
  obtain ⟨W0, hW0, hb0, hs0, hc0⟩ := cut_box w d (.slice ao rows.length cap)
  have HV : Hid (∀ W', Below W0.heap.size W0 W' → Mat B0 25 3 W' (.slice ao rows.length cap) rows) := fun W' hB => (hv.below hb0 (Nat.le_refl _)).below hB (Nat.le_refl _)
  have HW0 : Hid (W0 = w.alloc (.cells #[.int .i64 d, .slice ao rows.length cap] 24)) := hW0
  have HB0 : Hid (Below w.heap.size w W0) := hb0
  have HC0 : Hid (∀ W', Below W0.heap.size W0 W' → W'.cell? ⟨w.heap.size, 0, none⟩ = some (.int .i64 d) ∧ W'.cell? ⟨w.heap.size, 1, none⟩ = some (.slice ao rows.length cap)) := hc0
  have h1 : decide ((d : Int) < 1) = false := decide_eq_false (by omega)
  have h4 : (d : Int) ≤ 4 := by omega
  have h4' : decide ((4 : Int) < (d : Int)) = false := decide_eq_false (by omega)
  obtain ⟨R, hR⟩ : ∃ R, R = rwsE (d + 1) rows := ⟨_, rfl⟩
  rw [← hR]
  have HRR : Hid (R = rwsE (d + 1) rows) := hR
  clear hv hW0 hb0 hs0 hc0 hR
  go_enter Try.func10, Try.ntmps10
  go_wp2
  rw [← HW0.out]
  go_loopw [3] (fun i wr => ∃ k : Nat, k ≤ rows.length ∧ i = .int .i64 k ∧ Below W0.heap.size W0 wr ∧ ∀ j, j < k → rwE (d + 1) (rows.getD j []) = 0) (fun i _ => rows.length - (intOf i).toNat)
  case atStart => exact ⟨0, Nat.zero_le _, rfl, Below.refl _ _, fun j hj => by omega⟩
  case round =>
    obtain ⟨k, hk, rfl, hb, hz⟩ := hrel
    have HB : Hid (Below W0.heap.size W0 wr) := hb
    have HZ : Hid (∀ j, j < k → rwE (d + 1) (rows.getD j []) = 0) := hz
    obtain ⟨c0, c1⟩ := HC0.out wr hb
    clear hb hz
    by_cases hlt : k < rows.length
    · obtain ⟨vb, voo, vcp, rv, hvs, _, hvcell, hrv⟩ := mat_cell (HV.out wr HB.out) hlt
      simp only [Value.slice.injEq] at hvs
      obtain ⟨rfl, _, rfl⟩ := hvs
      obtain ⟨uo, uc, huv, _, _⟩ := sl_open hrv
      have HFA : Hid (Calls Try.prog 14 #[rv, .int .i64 20] wr.drew fun e w' => e = .returned (.bool ((rows.getD k []).any (farB · 20))) ∧ w' = wr.drew) := farAny_any _ (rows.getD k []) rv 20 wr.drew hrv.drew (by decide) (by decide)
      have HEQ : Hid (rwE (d + 1) (rows.getD k []) ≠ 0 → R = rwE (d + 1) (rows.getD k [])) := fun h => HRR.out.trans (rwsE_at hlt HZ.out h)
      have HNX : Hid (rwE (d + 1) (rows.getD k []) = 0 → ∀ j, j < k + 1 → rwE (d + 1) (rows.getD j []) = 0) := fun h j hj => by
        rcases Nat.lt_or_eq_of_le (Nat.le_of_lt_succ hj) with h1 | rfl
        · exact HZ.out j h1
        · exact h
      obtain ⟨rl, hrl⟩ : ∃ rl, rl = (rows.getD k []).length := ⟨_, rfl⟩
      have HRE : Hid ((rl ≠ d + 1 ∧ rwE (d + 1) (rows.getD k []) = 3) ∨ (rl = d + 1 ∧ (rows.getD k []).any (farB · 20) = true ∧ rwE (d + 1) (rows.getD k []) = 4) ∨ (rl = d + 1 ∧ (rows.getD k []).any (farB · 20) = false ∧ rwE (d + 1) (rows.getD k []) = 0)) := by
        rw [hrl]; exact rwE_cases _ _
      rw [← hrl] at huv
      subst huv
      clear hrv hrl
      generalize (rows.getD k []).any (farB · 20) = fb at *
      have hkI : (0 : Int) ≤ (k : Int) := by omega
      have hkJ : (k : Int) < (rows.length : Int) := by omega
      rcases HRE.out with ⟨hl, hE⟩ | ⟨rfl, rfl, hE⟩ | ⟨rfl, rfl, hE⟩
      · have hdd : ((rl : Int) != (d : Int) + 1) = true := by rw [bne_iff_ne]; omega
        obtain rfl : R = 3 := (HEQ.out (by rw [hE]; decide)).trans hE
        clear HNX HEQ HRE hE
        go_wp2
        go_region
        go_wp2
        go_ret
        exact ⟨rfl, HB0.out.trans (HB.out.drew.mono HB0.out.size)⟩
      · have hdd : (((d + 1 : Nat) : Int) != (d : Int) + 1) = false := by rw [bne_eq_false_iff_eq]; omega
        obtain rfl : R = 4 := (HEQ.out (by rw [hE]; decide)).trans hE
        clear HNX HEQ HRE hE
        go_wp2
        go_region
        go_wp2_with fail
        refine HFA.out.mono ?_
        rintro e w1 ⟨rfl, hw1⟩
        rw [hw1]
        clear hw1
        go_wp2
        go_ret
        exact ⟨rfl, HB0.out.trans (HB.out.drew.mono HB0.out.size)⟩
      · have hdd : (((d + 1 : Nat) : Int) != (d : Int) + 1) = false := by rw [bne_eq_false_iff_eq]; omega
        have HN2 : Hid (∀ j, j < k + 1 → rwE (d + 1) (rows.getD j []) = 0) := HNX.out hE
        clear HNX HEQ HRE hE
        go_wp2
        go_region
        go_wp2_with fail
        refine HFA.out.mono ?_
        rintro e w1 ⟨rfl, hw1⟩
        rw [hw1]
        clear hw1
        go_wp2
        go_roundw
        case rel => exact ⟨k + 1, by omega, by go_num, HB.out.drew, HN2.out⟩
        case measure => simp [intOf]; omega
    · obtain rfl : R = 0 := HRR.out.trans (rwsE_end fun j hj => HZ.out j (by omega))
      go_wp2
      go_ret
      exact ⟨rfl, HB0.out.trans (HB.out.mono HB0.out.size)⟩

theorem cutMay_all (dm : Int) (rows : List (List Int)) (v : Value) (w : World) {B0 : Nat} (hv : Mat B0 25 3 w v rows) :
    Calls Try.prog 10 #[.agg #[.int .i64 dm, v]] w fun e w' => e = .returned (.int .i64 (cmE dm rows)) ∧ Below w.heap.size w w' := by
  unfold cmE
  by_cases h : dm < 1 ∨ 4 < dm
  · rw [if_pos h]; exact cutMay_out dm rows v w hv h
  · rw [if_neg h]
    obtain ⟨d, rfl⟩ : ∃ d : Nat, dm = d := ⟨dm.toNat, by omega⟩
    by_cases h2 : 12 < rows.length
    · rw [if_pos h2]; exact cutMay_many d rows v w hv (by omega) (by omega) h2
    · rw [if_neg h2]
      have := cutMay_rows d rows v w hv (by omega) (by omega) (by omega)
      rwa [show ((d : Int)).toNat = d by omega]

/-- What is wrong with a cut and a goal before anything is counted. -/
def ggE (dm : Int) (rows : List (List Int)) (g : List Int) : Int := if cmE dm rows ≠ 0 then cmE dm rows else rwE dm.toNat g

theorem gg_cases {dm : Int} {rows : List (List Int)} {g : List Int} (hE : ggE dm rows g ≠ 0) : (cmE dm rows ≠ 0 ∧ ggE dm rows g = cmE dm rows) ∨ ∃ d : Nat, dm = d ∧ CutF d rows ∧ cmE dm rows = 0 ∧ ((g.length ≠ d ∧ ggE dm rows g = 3) ∨ (g.length = d ∧ g.any (farB · 20) = true ∧ ggE dm rows g = 4)) := by
  by_cases h : cmE dm rows = 0
  · obtain ⟨d, hd, hc⟩ := cmE_ok h
    refine .inr ⟨d, hd, hc, h, ?_⟩
    have h2 : ggE dm rows g = rwE d g := by
      unfold ggE
      rw [if_neg (by rw [h]; simp), hd, show ((d : Int)).toNat = d by omega]
    rw [h2] at hE ⊢
    rcases rwE_cases d g with ⟨h3, h4⟩ | ⟨h3, h4, h5⟩ | ⟨h3, h4, h5⟩
    · exact .inl ⟨h3, h4⟩
    · exact .inr ⟨h3, h4, h5⟩
    · exact absurd h5 hE
  · exact .inl ⟨h, by unfold ggE; rw [if_pos h]⟩

set_option maxRecDepth 100000 in
set_option maxHeartbeats 1600000 in
theorem goalMay_err (dm : Int) (rows : List (List Int)) (g : List Int) (v gv : Value) (w : World) {B0 B1 : Nat} (hv : Mat B0 25 3 w v rows) (hgs : Sl B1 3 w gv (ints g)) (hE : ggE dm rows g ≠ 0) :
    Calls Try.prog 5 #[.agg #[.int .i64 dm, v], gv] w fun e w' => e = .returned (.int .i64 (ggE dm rows g)) ∧ Below w.heap.size w w' := by
  obtain ⟨ao, cap, hvv, hlc, hcm⟩ := mat_open hv
  obtain ⟨go, gc, hgv, hgl, hgm⟩ := sl_open hgs
  subst hvv hgv
  obtain ⟨W0, hW0, hb0, hs0, hc0⟩ := cut_boxI w dm (.slice ao rows.length cap)
  have HW0 : Hid (W0 = w.alloc (.cells #[.int .i64 dm, .slice ao rows.length cap] 24)) := hW0
  have HB0 : Hid (Below w.heap.size w W0) := hb0
  have HC0 : Hid (∀ W', Below W0.heap.size W0 W' → W'.cell? ⟨w.heap.size, 0, none⟩ = some (.int .i64 dm) ∧ W'.cell? ⟨w.heap.size, 1, none⟩ = some (.slice ao rows.length cap)) := hc0
  have HCM : Hid (Calls Try.prog 10 #[.agg #[.int .i64 dm, .slice ao rows.length cap]] W0 fun e w' => e = .returned (.int .i64 (cmE dm rows)) ∧ Below W0.heap.size W0 w') := cutMay_all dm rows _ W0 (hv.below hb0 (Nat.le_refl _))
  have HFA : Hid (∀ W', Below W0.heap.size W0 W' → Calls Try.prog 14 #[.slice go g.length gc, .int .i64 20] W' fun e w' => e = .returned (.bool (g.any (farB · 20))) ∧ w' = W') := fun W' hB =>
    farAny_any _ g (.slice go g.length gc) 20 W' ((hgs.below hb0 (Nat.le_refl _)).below hB (Nat.le_refl _)) (by decide) (by decide)
  have hgc := gg_cases hE
  generalize ggE dm rows g = R at *
  generalize cmE dm rows = cm at *
  clear hv hgs hW0 hb0 hs0 hc0 hE
  go_enter Try.func5, Try.ntmps5
  go_wp2_with fail
  rw [← HW0.out]
  refine HCM.out.mono ?_
  rintro e w1 ⟨rfl, hb1⟩
  have HB1 : Hid (Below W0.heap.size W0 w1) := hb1
  obtain ⟨c0, c1⟩ := HC0.out w1 hb1
  clear hb1 HCM
  rcases hgc with ⟨hcm0, rfl⟩ | ⟨d, rfl, _, rfl, ⟨hl, rfl⟩ | ⟨rfl, hf, rfl⟩⟩
  · have hEb : (R != 0) = true := by simp [hcm0]
    go_wp2
    go_ret
    exact ⟨rfl, HB0.out.trans (HB1.out.mono HB0.out.size)⟩
  · have hgd : ((g.length : Int) != (d : Int)) = true := by rw [bne_iff_ne]; omega
    go_wp2
    go_ret
    exact ⟨rfl, HB0.out.trans (HB1.out.mono HB0.out.size)⟩
  · have hgd : ((g.length : Int) != (g.length : Int)) = false := by simp
    rw [hf] at HFA
    clear hf
    go_wp2_with fail
    refine (HFA.out w1 HB1.out).mono ?_
    rintro e w' ⟨rfl, hw'⟩
    rw [hw']
    clear hw' HFA
    go_wp2
    go_ret
    exact ⟨rfl, HB0.out.trans (HB1.out.mono HB0.out.size)⟩

end Go.Proofs.Ytdmkmljhljoojaa
