/- The errors of lp.checkGoal, leastWay, Shows, Best and Farkas. -/
import Derived.Test.YtdmkmljhljoojaaLe2
import Derived.Test.YtdmkmljhljoojaaLp5
namespace Go.Proofs.Ytdmkmljhljoojaa
open Go.RowKit Lin
attribute [local go_sem ↓] Go.wp_at_zero Go.wp_at_succ

theorem cut_resI (w : World) (d : Int) (v : Value) : ∃ W, W = (w.alloc (.cells #[.int .i64 d, v] 24)).alloc (.cells #[.slice none 0 0, .slice none 0 0, .int .i64 0] 34) ∧ Below w.heap.size w W ∧ W.heap.size = w.heap.size + 2 ∧ W.heap[w.heap.size]? = some (.cells #[.int .i64 d, v] 24 (0, 0)) ∧ W.heap[w.heap.size + 1]? = some (.cells #[.slice none 0 0, .slice none 0 0, .int .i64 0] 34 (0, 0)) := by
  have k1 := alloc_keep w (.cells #[.int .i64 d, v] 24)
  have k2 := alloc_keep (w.alloc (.cells #[.int .i64 d, v] 24)) (.cells #[.slice none 0 0, .slice none 0 0, .int .i64 0] 34)
  refine ⟨_, rfl, k1.trans (k2.mono k1.size), by rw [size_alloc, size_alloc], (k2.block _ (by rw [size_alloc]; omega)).trans (alloc_new _ _), ?_⟩
  have := alloc_new (w.alloc (.cells #[.int .i64 d, v] 24)) (.cells #[.slice none 0 0, .slice none 0 0, .int .i64 0] 34)
  rw [size_alloc] at this
  exact this

set_option maxRecDepth 100000 in
set_option maxHeartbeats 1600000 in
theorem checkGoal_err (dm : Int) (rows : List (List Int)) (g : List Int) (v gv : Value) (w : World) {B0 B1 : Nat} (hv : Mat B0 25 3 w v rows) (hg : Sl B1 3 w gv (ints g)) (hE : ggE dm rows g ≠ 0) :
    Calls Try.prog 32 #[.agg #[.int .i64 dm, v], gv] w fun e w' => e = .returned (.int .i64 (ggE dm rows g)) ∧ Below w.heap.size w w' := by
  obtain ⟨ro, rc, hvv, hlc, hcm⟩ := mat_open hv
  obtain ⟨go, gc, hgg, _, _⟩ := sl_open hg
  subst hvv hgg
  obtain ⟨W, hW, hb0, hs0, hc0⟩ := cut_boxI w dm (.slice ro rows.length rc)
  have HWW : Hid (W = w.alloc (.cells #[.int .i64 dm, .slice ro rows.length rc] 24)) := hW
  have HBW : Hid (∀ X, Below W.heap.size W X → Below w.heap.size w X) := fun X hX => hb0.trans (hX.mono hb0.size)
  have HCC : Hid (∀ X, Below W.heap.size W X → X.cell? ⟨w.heap.size, 0, none⟩ = some (.int .i64 dm) ∧ X.cell? ⟨w.heap.size, 1, none⟩ = some (.slice ro rows.length rc)) := hc0
  have H1 : Hid (Calls Try.prog 25 #[.agg #[.int .i64 dm, .slice ro rows.length rc]] W fun e w' => e = .returned (.int .i64 (cmE dm rows)) ∧ Below W.heap.size W w') := halfCheck_all dm rows _ W (hv.below hb0 (Nat.le_refl _))
  have H2 : Hid (∀ X, Below W.heap.size W X → ∀ d : Nat, Calls Try.prog 39 #[.slice go g.length gc, .int .i64 d, .int .i64 20] X fun e w' => e = .returned (.int .i64 (rwE d g)) ∧ Below X.heap.size X w') := fun X hX d =>
    chkL_any _ d 20 g _ X (hg.below (HBW.out X hX) (Nat.le_refl _)) (by decide) (by decide)
  have hgc : (cmE dm rows ≠ 0 ∧ ggE dm rows g = cmE dm rows) ∨ ∃ d : Nat, dm = d ∧ cmE dm rows = 0 ∧ rwE d g ≠ 0 ∧ ggE dm rows g = rwE d g := by
    by_cases h : cmE dm rows = 0
    · obtain ⟨d, hd, hc⟩ := cmE_ok h
      have h2 : ggE dm rows g = rwE d g := by
        unfold ggE
        rw [if_neg (by rw [h]; simp), hd, show ((d : Int)).toNat = d by omega]
      exact .inr ⟨d, hd, h, by rw [← h2]; exact hE, h2⟩
    · exact .inl ⟨h, by unfold ggE; rw [if_pos h]⟩
  clear hv hg hW hb0 hs0 hc0 hE
  obtain ⟨c0, c1⟩ := HCC.out W (Below.refl _ _)
  generalize ggE dm rows g = R at *
  generalize cmE dm rows = cm at *
  go_enter Try.func32, Try.ntmps32
  go_upto_region 1 with fail
  rw [← HWW.out]
  go_wp2_with fail
  refine H1.out.mono ?_
  rintro e w1 ⟨rfl, hb1⟩
  have HB1 : Hid (Below W.heap.size W w1) := hb1
  clear hb1 c0 c1
  obtain ⟨c0, c1⟩ := HCC.out w1 HB1.out
  rcases hgc with ⟨hcm0, rfl⟩ | ⟨d, rfl, rfl, hn, hR⟩
  · have hEb : (R != 0) = true := by simp [hcm0]
    go_wp2
    go_ret
    exact ⟨rfl, HBW.out _ HB1.out⟩
  · have H2d : Hid (Calls Try.prog 39 #[.slice go g.length gc, .int .i64 d, .int .i64 20] w1 fun e w' => e = .returned (.int .i64 R) ∧ Below w1.heap.size w1 w') := by rw [hR]; exact H2.out w1 HB1.out d
    have hEb : (R != 0) = true := by rw [hR]; simp [hn]
    clear H2 hn hR
    go_wp2_with fail
    refine H2d.out.mono ?_
    rintro e w2 ⟨rfl, hb2⟩
    have HB2 : Hid (Below W.heap.size W w2) := HB1.out.trans (hb2.mono HB1.out.size)
    clear hb2 c0 c1
    go_wp2
    go_ret
    exact ⟨rfl, HBW.out _ HB2.out⟩

set_option maxRecDepth 100000 in
set_option maxHeartbeats 1600000 in
theorem leastWay_err (dm : Int) (rows : List (List Int)) (g : List Int) (v gv : Value) (w : World) {B0 B1 : Nat} (hv : Mat B0 25 3 w v rows) (hg : Sl B1 3 w gv (ints g)) (hE : ggE dm rows g ≠ 0) :
    Calls Try.prog 21 #[.agg #[.int .i64 dm, v], gv] w fun e w' => e = .returned (.tuple #[nilW, .int .i64 (ggE dm rows g)]) ∧ Below w.heap.size w w' := by
  obtain ⟨ro, rc, hvv, hlc, hcm⟩ := mat_open hv
  obtain ⟨go, gc, hgg, _, _⟩ := sl_open hg
  subst hvv hgg
  obtain ⟨W, hW, hbW, hsW, hkC, hkR⟩ := cut_resI w dm (.slice ro rows.length rc)
  have HWW : Hid (W = (w.alloc (.cells #[.int .i64 dm, .slice ro rows.length rc] 24)).alloc (.cells #[.slice none 0 0, .slice none 0 0, .int .i64 0] 34)) := hW
  have HBW : Hid (∀ X, Below W.heap.size W X → Below w.heap.size w X) := fun X hX => hbW.trans (hX.mono hbW.size)
  have HSW : Hid (W.heap.size = w.heap.size + 2) := hsW
  have HKR : Hid (∀ X, Below W.heap.size W X → Wb (w.heap.size + 1) X) := fun X hX => ⟨_, _, _, (hX.block _ (by omega)).trans hkR⟩
  have HCG : Hid (Calls Try.prog 32 #[.agg #[.int .i64 dm, .slice ro rows.length rc], .slice go g.length gc] W fun e w' => e = .returned (.int .i64 (ggE dm rows g)) ∧ Below W.heap.size W w') := checkGoal_err dm rows g _ _ W (hv.below hbW (Nat.le_refl _)) (hg.below hbW (Nat.le_refl _)) hE
  have c0 : W.cell? ⟨w.heap.size, 0, none⟩ = some (.int .i64 dm) := by simp [World.cell?, hkC]
  have c1 : W.cell? ⟨w.heap.size, 1, none⟩ = some (.slice ro rows.length rc) := by simp [World.cell?, hkC]
  generalize ggE dm rows g = E at *
  have hEb : (E != 0) = true := by simp [hE]
  clear hv hg hW hbW hsW hkC hkR
  refine callsIn_wide (n := 0).1 ?_
  refine callsIn_of_wp_marks Try.func21 rfl trivial ?_ rfl
  simp only [Try.ntmps21, List.size_toArray, List.length_cons, List.length_nil, Nat.reduceAdd, Nat.reduceSub, Array.replicate_succ, Array.replicate_zero, List.push_toArray, List.append_toArray, List.nil_append, List.cons_append]
  gi_upto_region 1 with fail
  rw [← HWW.out]
  gi_wp2_with fail
  refine ⟨trivial, rfl, ?_⟩
  refine (callsIn_wide.2 HCG.out).mono ?_
  rintro e w1 ⟨rfl, hb1⟩
  have HB1 : Hid (Below W.heap.size W w1) := hb1
  have hsz1 := hb1.size
  obtain ⟨f0, f1, f2⟩ := (HKR.out w1 hb1).frozen
  obtain ⟨x0, x1, x2, r0, r1, r2⟩ := (HKR.out w1 hb1).cells
  clear hb1 HCG c0 c1
  gi_wp2
  obtain ⟨Ws, hWs, g1, g2, g3, g4, g5, g6⟩ := three_sets (.slice none 0 0) (.slice none 0 0) (.int .i64 0) (HKR.out w1 HB1.out)
  rw [← hWs]
  have hs1 := HSW.out
  have hs2 := HB1.out.size
  have hbw := HBW.out w1 HB1.out
  refine leaves_mks [] Ws (by simp) (fun r hr => by simp at hr) (fun w' hc => ⟨.tuple #[nilW, .int .i64 E], ?_, ?_⟩)
  · have q1 : w'.heap[w.heap.size + 1]? = _ := (hc.block _ (by omega) (by simp)).trans g1
    simp [results, Try.results21, go_sem, World.cell?, q1, nilW]
  · refine ⟨rfl, hc.os.trans (g4.trans hbw.os), hc.tape.trans (g5.trans hbw.tape), hc.output.trans (g6.trans hbw.output), by have := hc.size; omega, fun b hb => ?_⟩
    exact (hc.block b (by omega) (by simp)).trans ((g2 b (by omega)).trans (hbw.block b hb))

set_option maxRecDepth 100000 in
set_option maxHeartbeats 1600000 in
theorem shows_err (dm : Int) (rows : List (List Int)) (g : List Int) (v gv : Value) (w : World) {B0 B1 : Nat} (hv : Mat B0 25 3 w v rows) (hg : Sl B1 3 w gv (ints g)) (hE : ggE dm rows g ≠ 0) :
    Calls Try.prog 8 #[.agg #[.int .i64 dm, v], gv] w fun e w' => e = .returned (.tuple #[nilW, .int .i64 (ggE dm rows g)]) ∧ Below w.heap.size w w' := by
  obtain ⟨ro, rc, hvv, hlc, hcm⟩ := mat_open hv
  obtain ⟨go, gc, hgg, _, _⟩ := sl_open hg
  subst hvv hgg
  obtain ⟨W, hW, hbW, hsW, hkC, hkR⟩ := cut_resI w dm (.slice ro rows.length rc)
  have HWW : Hid (W = (w.alloc (.cells #[.int .i64 dm, .slice ro rows.length rc] 24)).alloc (.cells #[.slice none 0 0, .slice none 0 0, .int .i64 0] 34)) := hW
  have HBW : Hid (Below w.heap.size w W) := hbW
  have HSW : Hid (W.heap.size = w.heap.size + 2) := hsW
  have HKR : Hid (∀ X, Below W.heap.size W X → Wb (w.heap.size + 1) X) := fun X hX => ⟨_, _, _, (hX.block _ (by omega)).trans hkR⟩
  have HLW : Hid (Calls Try.prog 21 #[.agg #[.int .i64 dm, .slice ro rows.length rc], .slice go g.length gc] W fun e w' => e = .returned (.tuple #[nilW, .int .i64 (ggE dm rows g)]) ∧ Below W.heap.size W w') :=
    leastWay_err dm rows g _ _ W (hv.below hbW (Nat.le_refl _)) (hg.below hbW (Nat.le_refl _)) hE
  have c0 : W.cell? ⟨w.heap.size, 0, none⟩ = some (.int .i64 dm) := by simp [World.cell?, hkC]
  have c1 : W.cell? ⟨w.heap.size, 1, none⟩ = some (.slice ro rows.length rc) := by simp [World.cell?, hkC]
  generalize ggE dm rows g = E at *
  clear hv hg hW hbW hsW hkC hkR
  unfold nilW at *
  go_enter Try.func8, Try.ntmps8
  go_upto_region 1 with fail
  rw [← HWW.out]
  go_wp2_with fail
  refine HLW.out.mono ?_
  rintro e w1 ⟨rfl, hb1⟩
  have HB1 : Hid (Below W.heap.size W w1) := hb1
  have HR1 : Hid (Wb (w.heap.size + 1) w1) := HKR.out w1 hb1
  obtain ⟨f0, f1, f2⟩ := HR1.out.frozen
  obtain ⟨x0, x1, x2, r0, r1, r2⟩ := HR1.out.cells
  clear hb1 HLW c0 c1
  go_wp2
  obtain ⟨Ws, hWs, g1, g2, g3, g4, g5, g6⟩ := three_sets (.slice none 0 0) (.slice none 0 0) (.int .i64 0) HR1.out
  rw [← hWs]
  have q0 : Ws.cell? ⟨w.heap.size + 1, 0, none⟩ = some (.slice none 0 0) := by simp [World.cell?, g1]
  have q1 : Ws.cell? ⟨w.heap.size + 1, 1, none⟩ = some (.slice none 0 0) := by simp [World.cell?, g1]
  have q2 : Ws.cell? ⟨w.heap.size + 1, 2, none⟩ = some (.int .i64 0) := by simp [World.cell?, g1]
  have hs1 := HSW.out
  have hs2 := HB1.out.size
  refine bodyPost_ret (v := .tuple #[.agg #[.slice none 0 0, .slice none 0 0, .int .i64 0], .int .i64 E]) (by simp [results, Try.results8, go_sem, q0, q1, q2]) rfl ⟨rfl, g4.trans (HB1.out.os.trans HBW.out.os), g5.trans (HB1.out.tape.trans HBW.out.tape), g6.trans (HB1.out.output.trans HBW.out.output), by omega, fun k hk => ?_⟩
  exact (g2 k (by omega)).trans ((HB1.out.block k (by omega)).trans (HBW.out.block k hk))

set_option maxRecDepth 100000 in
set_option maxHeartbeats 1600000 in
theorem best_err (dm : Int) (rows : List (List Int)) (g : List Int) (v gv : Value) (w : World) {B0 B1 : Nat} (hv : Mat B0 25 3 w v rows) (hg : Sl B1 3 w gv (ints g)) (hE : ggE dm rows g ≠ 0) :
    Calls Try.prog 7 #[.agg #[.int .i64 dm, v], gv] w fun e w' => e = .returned (.tuple #[.int .i64 0, .int .i64 0, .int .i64 (ggE dm rows g)]) ∧ Below w.heap.size w w' := by
  obtain ⟨ro, rc, hvv, hlc, hcm⟩ := mat_open hv
  obtain ⟨go, gc, hgg, _, _⟩ := sl_open hg
  subst hvv hgg
  obtain ⟨W, hW, hbW, hsW, hcW⟩ := cut_boxI w dm (.slice ro rows.length rc)
  have HWW : Hid (W = w.alloc (.cells #[.int .i64 dm, .slice ro rows.length rc] 24)) := hW
  have HBW : Hid (∀ X, Below W.heap.size W X → Below w.heap.size w X) := fun X hX => hbW.trans (hX.mono hbW.size)
  have HLW : Hid (Calls Try.prog 21 #[.agg #[.int .i64 dm, .slice ro rows.length rc], .slice go g.length gc] W fun e w' => e = .returned (.tuple #[nilW, .int .i64 (ggE dm rows g)]) ∧ Below W.heap.size W w') :=
    leastWay_err dm rows g _ _ W (hv.below hbW (Nat.le_refl _)) (hg.below hbW (Nat.le_refl _)) hE
  obtain ⟨c0, c1⟩ := hcW W (Below.refl _ _)
  generalize ggE dm rows g = E at *
  have hEb : (E != 0) = true := by simp [hE]
  clear hv hg hW hbW hsW hcW
  unfold nilW at *
  go_enter Try.func7, Try.ntmps7
  go_upto_region 1 with fail
  rw [← HWW.out]
  go_wp2_with fail
  refine HLW.out.mono ?_
  rintro e w1 ⟨rfl, hb1⟩
  have HB1 : Hid (Below W.heap.size W w1) := hb1
  have hsz1 := hb1.size
  clear HLW c0 c1 hb1
  go_wp2
  refine bodyPost_ret (v := .tuple #[.int .i64 0, .int .i64 0, .int .i64 E]) (by simp [results, Try.results7, go_sem]) rfl ⟨rfl, ?_⟩
  exact HBW.out _ (HB1.out.alloc hsz1 _)

set_option maxRecDepth 100000 in
set_option maxHeartbeats 1600000 in
theorem farkas_err (dm : Int) (rows : List (List Int)) (v : Value) (w : World) {B0 : Nat} (hv : Mat B0 25 3 w v rows) (hE : cmE dm rows ≠ 0) :
    Calls Try.prog 12 #[.agg #[.int .i64 dm, v]] w fun e w' => e = .returned (.tuple #[nilW, .int .i64 (cmE dm rows)]) ∧ Below w.heap.size w w' := by
  obtain ⟨ro, rc, hvv, hlc, hcm⟩ := mat_open hv
  subst hvv
  obtain ⟨W, hW, hbW, hsW, hkC, hkR⟩ := cut_resI w dm (.slice ro rows.length rc)
  have HWW : Hid (W = (w.alloc (.cells #[.int .i64 dm, .slice ro rows.length rc] 24)).alloc (.cells #[.slice none 0 0, .slice none 0 0, .int .i64 0] 34)) := hW
  have HBW : Hid (∀ X, Below W.heap.size W X → Below w.heap.size w X) := fun X hX => hbW.trans (hX.mono hbW.size)
  have HSW : Hid (W.heap.size = w.heap.size + 2) := hsW
  have HKR : Hid (∀ X, Below W.heap.size W X → Wb (w.heap.size + 1) X) := fun X hX => ⟨_, _, _, (hX.block _ (by omega)).trans hkR⟩
  have H1 : Hid (Calls Try.prog 25 #[.agg #[.int .i64 dm, .slice ro rows.length rc]] W fun e w' => e = .returned (.int .i64 (cmE dm rows)) ∧ Below W.heap.size W w') := halfCheck_all dm rows _ W (hv.below hbW (Nat.le_refl _))
  have c0 : W.cell? ⟨w.heap.size, 0, none⟩ = some (.int .i64 dm) := by simp [World.cell?, hkC]
  have c1 : W.cell? ⟨w.heap.size, 1, none⟩ = some (.slice ro rows.length rc) := by simp [World.cell?, hkC]
  generalize cmE dm rows = E at *
  have hEb : (E != 0) = true := by simp [hE]
  clear hv hW hbW hsW hkC hkR
  go_enter Try.func12, Try.ntmps12
  go_upto_region 1 with fail
  rw [← HWW.out]
  go_wp2_with fail
  refine H1.out.mono ?_
  rintro e w1 ⟨rfl, hb1⟩
  have HB1 : Hid (Below W.heap.size W w1) := hb1
  have HR3 : Hid (Wb (w.heap.size + 1) w1) := HKR.out w1 hb1
  obtain ⟨f0, f1, f2⟩ := HR3.out.frozen
  obtain ⟨x0, x1, x2, r0, r1, r2⟩ := HR3.out.cells
  clear hb1 c0 c1
  go_wp2
  obtain ⟨Ws, hWs, g1, g2, g3, g4, g5, g6⟩ := three_sets (.slice none 0 0) (.slice none 0 0) (.int .i64 0) HR3.out
  rw [← hWs]
  have q0 : Ws.cell? ⟨w.heap.size + 1, 0, none⟩ = some (.slice none 0 0) := by simp [World.cell?, g1]
  have q1 : Ws.cell? ⟨w.heap.size + 1, 1, none⟩ = some (.slice none 0 0) := by simp [World.cell?, g1]
  have q2 : Ws.cell? ⟨w.heap.size + 1, 2, none⟩ = some (.int .i64 0) := by simp [World.cell?, g1]
  have hs1 := HSW.out
  have hbw := HBW.out _ HB1.out
  have hs2 := hbw.size
  refine bodyPost_ret (v := .tuple #[nilW, .int .i64 E]) (by simp [results, Try.results12, go_sem, q0, q1, q2, nilW]) rfl ⟨rfl, g4.trans hbw.os, g5.trans hbw.tape, g6.trans hbw.output, by omega, fun k hk => ?_⟩
  exact (g2 k (by omega)).trans (hbw.block k hk)

end Go.Proofs.Ytdmkmljhljoojaa
