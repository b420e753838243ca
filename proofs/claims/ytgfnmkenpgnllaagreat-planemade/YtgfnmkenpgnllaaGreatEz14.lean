/- PlaneSays of planes that may be, and PlaneMade: the law's walk. -/
import Derived.Test.YtgfnmkenpgnllaaGreatEz8
import Derived.Test.YtgfnmkenpgnllaaGreatEz9
import Derived.Test.YtgfnmkenpgnllaaGreatEz11
import Derived.Test.YtgfnmkenpgnllaaGreatEz12
import Derived.Test.YtgfnmkenpgnllaaGreatEz13
import Derived.Test.YtgfnmkenpgnllaaGreatLs1
import Derived.Test.YtgfnmkenpgnllaaGreatHv1
namespace Go.Proofs.YtgfnmkenpgnllaaGreat
open Go.RowKit Lin
attribute [local go_sem ↓] Go.wp_at_zero Go.wp_at_succ

set_option maxRecDepth 100000 in
theorem listsE_same (B : Nat) (x : List (List Int)) (u v : Value) (w : World) (hu : Mat B 22 3 w u x) (hv : Mat B 22 3 w v x) :
    Calls Tryz.prog 19 #[u, .int .i64 0, v, .int .i64 0] w fun x w' => x = .returned (.bool true) ∧ Below w.heap.size w w' := by
  obtain ⟨uo, uc, rfl, _, _⟩ := mat_open hu
  obtain ⟨vo, vc, rfl, _, _⟩ := mat_open hv
  have HU : Hid (Mat B 22 3 w (.slice uo x.length uc) x) := hu
  have HV : Hid (Mat B 22 3 w (.slice vo x.length vc) x) := hv
  clear hu hv
  go_enter Tryz.func19, Tryz.ntmps19
  go_wp2_with fail
  refine (sameAll_any B x x _ _ w HU.out HV.out).mono ?_
  rintro e w' ⟨rfl, n, rfl⟩
  have hxx : (x == x) = true := by simp
  rw [hxx]
  go_wp2
  go_ret
  exact ⟨rfl, ⟨rfl, rfl, rfl, Nat.le_refl _, fun _ _ => rfl⟩⟩

set_option maxRecDepth 100000 in
set_option maxHeartbeats 8000000 in
theorem planeSays_ok (d : Nat) (P : List (List Int)) (v : Value) (w : World) (hd1 : 1 ≤ d) (hd3 : d ≤ 3) (hG : PlG d P) (h3 : P3 P) (h5 : P.length ≤ 5) (hv : Mat 0 22 3 w v P) :
    Calls Tryz.prog 5 #[.int .i64 d, v] w fun e w' => e = .returned (.bool true) ∧ Below w.heap.size w w' := by
  obtain ⟨ro, rc, hvv, hlc, hcm⟩ := mat_open hv
  subst hvv
  have hPP : ∀ p ∈ P, p.length = d + 1 ∧ ∀ z ∈ p, z.natAbs ≤ 3 := fun p hp => ⟨(hG.row p hp).1, h3 p hp⟩
  have HHV : Hid (Calls Tryz.prog 7 #[.slice ro P.length rc] w fun e w' => ∃ b, e = .returned (.bool b) ∧ w' = w) := by
    refine (heavy_any 0 P _ w hv).mono ?_
    rintro e w' ⟨b, rfl, _, rfl⟩
    exact ⟨b, rfl, rfl⟩
  have S0 : Hid (∀ X, Below w.heap.size w X → Calls Tryz.prog 8 #[.int .i64 d, .slice ro P.length rc] X fun e w' => e = .returned (.int .i64 0) ∧ Below X.heap.size X w') := fun X hX => planesMay_any d P _ X hd1 hd3 hG (by omega) (hv.below hX (Nat.le_refl _))
  obtain ⟨GL, hGL⟩ : ∃ GL, GL = grTR d P P.length := ⟨_, rfl⟩
  obtain ⟨FL, hFL⟩ : ∃ FL, FL = GL.filter fun t => !opB d (clR P t) := ⟨_, rfl⟩
  obtain ⟨WL, hWL⟩ : ∃ WL, WL = (List.range (d + 1)).map (whC d P) := ⟨_, rfl⟩
  have hWn : WL.length = d + 1 := by rw [hWL]; simp
  obtain ⟨TL, hTL⟩ : ∃ TL, TL = grT d P P.length := ⟨_, rfl⟩
  have S1 : Hid (∀ X, Below w.heap.size w X → Calls Tryz.prog 9 #[.int .i64 d, .slice ro P.length rc, .string ⟨#[43, 45]⟩, .string ⟨#[]⟩] X fun e w' => ∃ xo xc, e = .returned (.slice xo GL.length xc) ∧ Sl 0 9 w' (.slice xo GL.length xc) (strs GL) ∧ Below X.heap.size X w') := fun X hX => by
    refine (signsOf_any d P [43, 45] ⟨#[43, 45]⟩ _ hPP hd1 hd3 (by omega) (by simp) (by simp) (.inl (by simp)) rfl P.length [] ⟨#[]⟩ X (by simp) (by simp) rfl (hv.below hX (Nat.le_refl _))).mono ?_
    rintro e w' ⟨x, rfl, ho, hb⟩
    rw [sg_reg, ← hGL] at ho
    obtain ⟨xo, xc, rfl⟩ := owns_form ho
    exact ⟨xo, xc, rfl, Sl.own ho, hb⟩
  have hGm : ∀ t ∈ GL, t.length = P.length ∧ ∀ c ∈ t, c = 43 ∨ c = 45 := fun t ht => by
    rw [hGL] at ht
    obtain ⟨⟨h1, _⟩, h2⟩ := grr_iff.1 ht
    exact ⟨h1, h2⟩
  have hGn : GL.length ≤ 100000 := by rw [hGL]; exact Nat.le_trans (grr_len d P P.length) (Nat.le_trans (Nat.pow_le_pow_right (by decide) h5) (by decide))
  have S2 : Hid (∀ X xo xc, Below w.heap.size w X → Sl 0 9 X (.slice xo GL.length xc) (strs GL) → Calls Tryz.prog 10 #[.int .i64 d, .slice ro P.length rc, .slice xo GL.length xc] X fun e w' => ∃ yo yc, e = .returned (.slice yo FL.length yc) ∧ Sl 0 9 w' (.slice yo FL.length yc) (strs FL) ∧ Below X.heap.size X w') := fun X xo xc hX hx => by
    refine (boundedOf_any d P GL _ _ X (hv.below hX (Nat.le_refl _)) hx hG.row hd1 hd3 (by omega) hGm hGn).mono ?_
    rintro e w' ⟨x, rfl, ho, hb⟩
    rw [← hFL] at ho
    obtain ⟨yo, yc, rfl⟩ := owns_form ho
    exact ⟨yo, yc, rfl, Sl.own ho, hb⟩
  have S3 : Hid (∀ X, Below w.heap.size w X → Calls Tryz.prog 11 #[.int .i64 d, .slice ro P.length rc] X fun e w' => ∃ oo oc O rv, e = .returned (.tuple #[.slice oo (List.length O) oc, rv]) ∧ Mat 0 22 3 w' (.slice oo (List.length O) oc) O ∧ FlQ d P (d + 1) O ∧ Below X.heap.size X w') := fun X hX => by
    refine (planeFlats_any d P _ X (hv.below hX (Nat.le_refl _)) hG.row hd1 hd3 (by omega)).mono ?_
    rintro e w' ⟨ov, rv, O, rfl, hf, hq, hb⟩
    have hm := hf.mat0
    obtain ⟨oo, oc, rfl, _, _⟩ := mat_open hm
    exact ⟨oo, oc, O, rv, rfl, hm, hq, hb⟩
  have S4 : Hid (∀ X, Below w.heap.size w X → Calls Tryz.prog 12 #[.int .i64 d, .slice ro P.length rc] X fun e w' => ∃ co cc, e = .returned (.slice co (d + 1) cc) ∧ Sl 0 3 w' (.slice co (d + 1) cc) (ints WL) ∧ Below X.heap.size X w') := fun X hX => by
    rw [hWL]
    exact polyOf_any d P _ X (hv.below hX (Nat.le_refl _)) hG.row hd1 hd3 (by omega)
  have S5 : Hid (∀ X, Below w.heap.size w X → Calls Tryz.prog 13 #[.int .i64 d, .slice ro P.length rc] X fun e w' => ∃ uo uc, e = .returned (.tuple #[.slice uo GL.length uc, .int .i64 0]) ∧ Sl 0 9 w' (.slice uo GL.length uc) (strs GL) ∧ Below X.heap.size X w') := fun X hX => by
    rw [hGL]
    refine (regions_any d P _ X hd1 hd3 hG (by omega) (hv.below hX (Nat.le_refl _))).mono ?_
    rintro e w' ⟨uo, uc, rfl, ho, hb⟩
    exact ⟨uo, uc, rfl, Sl.own ho, hb⟩
  have S6 : Hid (∀ X, Below w.heap.size w X → Calls Tryz.prog 14 #[.int .i64 d, .slice ro P.length rc] X fun e w' => ∃ uo uc, e = .returned (.tuple #[.slice uo FL.length uc, .int .i64 0]) ∧ Sl 0 9 w' (.slice uo FL.length uc) (strs FL) ∧ Below X.heap.size X w') := fun X hX => by
    rw [hFL, hGL]
    exact boundedC_any d P _ X hd1 hd3 hG (by omega) (hv.below hX (Nat.le_refl _))
  have S7 : Hid (∀ X O', FlQ d P (d + 1) O' → Below w.heap.size w X → Calls Tryz.prog 15 #[.int .i64 d, .slice ro P.length rc] X fun e w' => ∃ uo uc, e = .returned (.tuple #[.slice uo O'.length uc, .int .i64 0]) ∧ Mat 0 22 3 w' (.slice uo O'.length uc) O' ∧ Below X.heap.size X w') := fun X O' hO hX => by
    refine (planeFlatsP_any d P _ X hd1 hd3 hG h5 (hv.below hX (Nat.le_refl _))).mono ?_
    rintro e w' ⟨uo, ul, uc, rfl, ⟨O, hm, hall⟩, hb⟩
    have hOO := hall O' hO
    subst hOO
    obtain ⟨oo, oc, hh, _, _⟩ := mat_open hm
    simp only [Value.slice.injEq] at hh
    obtain ⟨rfl, rfl, rfl⟩ := hh
    exact ⟨_, _, rfl, hm, hb⟩
  have S8 : Hid (∀ X, Below w.heap.size w X → Calls Tryz.prog 16 #[.int .i64 d, .slice ro P.length rc] X fun e w' => ∃ co cc, e = .returned (.tuple #[.slice co (d + 1) cc, .int .i64 0]) ∧ Sl 0 3 w' (.slice co (d + 1) cc) (ints WL) ∧ Below X.heap.size X w') := fun X hX => by
    rw [hWL]
    exact poly_any d P _ X hd1 hd3 hG h5 (hv.below hX (Nat.le_refl _))
  have S9 : Hid (∀ X, Below w.heap.size w X → Calls Tryz.prog 17 #[.int .i64 d, .slice ro P.length rc] X fun e w' => e = .returned (.int .i64 0) ∧ Below X.heap.size X w') := fun X hX => planeCheck_any d P _ X hd1 hd3 hG (by omega) (hv.below hX (Nat.le_refl _))
  have SA : Hid (P.length ≤ 4 → ∀ X, Below w.heap.size w X → Calls Tryz.prog 9 #[.int .i64 d, .slice ro P.length rc, .string ⟨#[43, 45, 48]⟩, .string ⟨#[]⟩] X fun e w' => ∃ xo xc, e = .returned (.slice xo TL.length xc) ∧ Sl 0 9 w' (.slice xo TL.length xc) (strs TL) ∧ Below X.heap.size X w') := fun h4 X hX => by
    refine (signsOf_any d P [43, 45, 48] ⟨#[43, 45, 48]⟩ _ hPP hd1 hd3 (by omega) (by simp) (by simp) (.inr h4) rfl P.length [] ⟨#[]⟩ X (by simp) (by simp) rfl (hv.below hX (Nat.le_refl _))).mono ?_
    rintro e w' ⟨x, rfl, ho, hb⟩
    rw [sg_all, ← hTL] at ho
    obtain ⟨xo, xc, rfl⟩ := owns_form ho
    exact ⟨xo, xc, rfl, Sl.own ho, hb⟩
  have SB : Hid (∀ X, Below w.heap.size w X → Calls Tryz.prog 21 #[.int .i64 d, .slice ro P.length rc] X fun e w' => ∃ uo uc, e = .returned (.tuple #[.slice uo TL.length uc, .int .i64 0]) ∧ Sl 0 9 w' (.slice uo TL.length uc) (strs TL) ∧ Below X.heap.size X w') := fun X hX => by
    rw [hTL]
    exact faces_any d P _ X hd1 hd3 hG (by omega) (hv.below hX (Nat.le_refl _))
  have TX : Hid (∀ (x : List (List UInt8)) X uo uc vo vc, Sl 0 9 X (.slice uo x.length uc) (strs x) → Sl 0 9 X (.slice vo x.length vc) (strs x) → Calls Tryz.prog 18 #[.slice uo x.length uc, .int .i64 0, .slice vo x.length vc, .int .i64 0] X fun e w' => e = .returned (.bool true) ∧ Below X.heap.size X w') := fun x X uo uc vo vc h1 h2 => texts_same x _ _ X h1 h2
  have LL : Hid (∀ (x : List (List Int)) X uo uc vo vc, Mat 0 22 3 X (.slice uo x.length uc) x → Mat 0 22 3 X (.slice vo x.length vc) x → Calls Tryz.prog 19 #[.slice uo x.length uc, .int .i64 0, .slice vo x.length vc, .int .i64 0] X fun e w' => e = .returned (.bool true) ∧ Below X.heap.size X w') := fun x X uo uc vo vc h1 h2 => listsE_same 0 x _ _ X h1 h2
  have LI : Hid (∀ X uo uc vo vc, Sl 0 3 X (.slice uo (d + 1) uc) (ints WL) → Sl 0 3 X (.slice vo (d + 1) vc) (ints WL) → Calls Tryz.prog 20 #[.slice uo (d + 1) uc, .int .i64 0, .slice vo (d + 1) vc, .int .i64 0] X fun e w' => e = .returned (.bool true) ∧ Below X.heap.size X w') := fun X uo uc vo vc h1 h2 => list_same 0 WL _ _ X h1 h2
  clear hv hG h3 hPP hGm hGn hGL hFL hWL hTL hWn
  go_enter Tryz.func5, Tryz.ntmps5
  go_wp2_with fail
  refine HHV.out.mono ?_
  rintro e w0 ⟨b, rfl, hw0⟩
  obtain rfl := hw0.symm
  clear hw0 HHV
  cases b with
  | true =>
    go_wp2
    go_ret
    exact ⟨rfl, Below.refl _ _⟩
  | false =>
    have HC1 := S0.out w (Below.refl _ _)
    go_wp2_with fail
    refine HC1.mono ?_
    rintro e z1 ⟨rfl, hb⟩
    have HBz1 : Hid (Below w.heap.size w z1) := hb
    clear hb HC1 
    have HC2 := S1.out z1 HBz1.out
    go_wp2_with fail
    refine HC2.mono ?_
    rintro e z2 ⟨xo, xc, rfl, hs, hb⟩
    have HBz2 : Hid (Below w.heap.size w z2) := HBz1.out.trans (hb.mono HBz1.out.size)
    have FA_z2 : Hid (Sl 0 9 z2 (.slice xo GL.length xc) (strs GL)) := hs
    clear hb HC2 hs
    have HC3 := S2.out z2 xo xc HBz2.out FA_z2.out
    go_wp2_with fail
    refine HC3.mono ?_
    rintro e z3 ⟨yo, yc, rfl, hs, hb⟩
    have HBz3 : Hid (Below w.heap.size w z3) := HBz2.out.trans (hb.mono HBz2.out.size)
    have FA_z3 : Hid (Sl 0 9 z3 (.slice xo GL.length xc) (strs GL)) := FA_z2.out.below hb (Nat.le_refl _)
    have FB_z3 : Hid (Sl 0 9 z3 (.slice yo FL.length yc) (strs FL)) := hs
    clear hb HC3 hs
    clear FA_z2
    have HC4 := S3.out z3 HBz3.out
    go_wp2_with fail
    refine HC4.mono ?_
    rintro e z4 ⟨oo, oc, O, rv, rfl, hs, hq, hb⟩
    have HBz4 : Hid (Below w.heap.size w z4) := HBz3.out.trans (hb.mono HBz3.out.size)
    have FA_z4 : Hid (Sl 0 9 z4 (.slice xo GL.length xc) (strs GL)) := FA_z3.out.below hb (Nat.le_refl _)
    have FB_z4 : Hid (Sl 0 9 z4 (.slice yo FL.length yc) (strs FL)) := FB_z3.out.below hb (Nat.le_refl _)
    have FC_z4 : Hid (Mat 0 22 3 z4 (.slice oo O.length oc) O) := hs
    clear hb HC4 hs
    clear FA_z3
    clear FB_z3
    have HQ : Hid (FlQ d P (d + 1) O) := hq
    clear hq
    have HC5 := S4.out z4 HBz4.out
    go_wp2_with fail
    refine HC5.mono ?_
    rintro e z5 ⟨co, cc, rfl, hs, hb⟩
    have HBz5 : Hid (Below w.heap.size w z5) := HBz4.out.trans (hb.mono HBz4.out.size)
    have FA_z5 : Hid (Sl 0 9 z5 (.slice xo GL.length xc) (strs GL)) := FA_z4.out.below hb (Nat.le_refl _)
    have FB_z5 : Hid (Sl 0 9 z5 (.slice yo FL.length yc) (strs FL)) := FB_z4.out.below hb (Nat.le_refl _)
    have FC_z5 : Hid (Mat 0 22 3 z5 (.slice oo O.length oc) O) := FC_z4.out.below hb (Nat.le_refl _)
    have FD_z5 : Hid (Sl 0 3 z5 (.slice co (d + 1) cc) (ints WL)) := hs
    clear hb HC5 hs
    clear FA_z4
    clear FB_z4
    clear FC_z4
    have HC6 := S5.out z5 HBz5.out
    go_wp2_with fail
    refine HC6.mono ?_
    rintro e z6 ⟨ao, ac, rfl, hs, hb⟩
    have HBz6 : Hid (Below w.heap.size w z6) := HBz5.out.trans (hb.mono HBz5.out.size)
    have FA_z6 : Hid (Sl 0 9 z6 (.slice xo GL.length xc) (strs GL)) := FA_z5.out.below hb (Nat.le_refl _)
    have FB_z6 : Hid (Sl 0 9 z6 (.slice yo FL.length yc) (strs FL)) := FB_z5.out.below hb (Nat.le_refl _)
    have FC_z6 : Hid (Mat 0 22 3 z6 (.slice oo O.length oc) O) := FC_z5.out.below hb (Nat.le_refl _)
    have FD_z6 : Hid (Sl 0 3 z6 (.slice co (d + 1) cc) (ints WL)) := FD_z5.out.below hb (Nat.le_refl _)
    have FE_z6 : Hid (Sl 0 9 z6 (.slice ao GL.length ac) (strs GL)) := hs
    clear hb HC6 hs
    clear FA_z5
    clear FB_z5
    clear FC_z5
    clear FD_z5
    have HC7 := S6.out z6 HBz6.out
    go_wp2_with fail
    refine HC7.mono ?_
    rintro e z7 ⟨bo, bc, rfl, hs, hb⟩
    have HBz7 : Hid (Below w.heap.size w z7) := HBz6.out.trans (hb.mono HBz6.out.size)
    have FA_z7 : Hid (Sl 0 9 z7 (.slice xo GL.length xc) (strs GL)) := FA_z6.out.below hb (Nat.le_refl _)
    have FB_z7 : Hid (Sl 0 9 z7 (.slice yo FL.length yc) (strs FL)) := FB_z6.out.below hb (Nat.le_refl _)
    have FC_z7 : Hid (Mat 0 22 3 z7 (.slice oo O.length oc) O) := FC_z6.out.below hb (Nat.le_refl _)
    have FD_z7 : Hid (Sl 0 3 z7 (.slice co (d + 1) cc) (ints WL)) := FD_z6.out.below hb (Nat.le_refl _)
    have FE_z7 : Hid (Sl 0 9 z7 (.slice ao GL.length ac) (strs GL)) := FE_z6.out.below hb (Nat.le_refl _)
    have FF_z7 : Hid (Sl 0 9 z7 (.slice bo FL.length bc) (strs FL)) := hs
    clear hb HC7 hs
    clear FA_z6
    clear FB_z6
    clear FC_z6
    clear FD_z6
    clear FE_z6
    have HC8 := S7.out z7 O HQ.out HBz7.out
    go_wp2_with fail
    refine HC8.mono ?_
    rintro e z8 ⟨po, pc, rfl, hs, hb⟩
    have HBz8 : Hid (Below w.heap.size w z8) := HBz7.out.trans (hb.mono HBz7.out.size)
    have FA_z8 : Hid (Sl 0 9 z8 (.slice xo GL.length xc) (strs GL)) := FA_z7.out.below hb (Nat.le_refl _)
    have FB_z8 : Hid (Sl 0 9 z8 (.slice yo FL.length yc) (strs FL)) := FB_z7.out.below hb (Nat.le_refl _)
    have FC_z8 : Hid (Mat 0 22 3 z8 (.slice oo O.length oc) O) := FC_z7.out.below hb (Nat.le_refl _)
    have FD_z8 : Hid (Sl 0 3 z8 (.slice co (d + 1) cc) (ints WL)) := FD_z7.out.below hb (Nat.le_refl _)
    have FE_z8 : Hid (Sl 0 9 z8 (.slice ao GL.length ac) (strs GL)) := FE_z7.out.below hb (Nat.le_refl _)
    have FF_z8 : Hid (Sl 0 9 z8 (.slice bo FL.length bc) (strs FL)) := FF_z7.out.below hb (Nat.le_refl _)
    have FG_z8 : Hid (Mat 0 22 3 z8 (.slice po O.length pc) O) := hs
    clear hb HC8 hs
    clear FA_z7
    clear FB_z7
    clear FC_z7
    clear FD_z7
    clear FE_z7
    clear FF_z7
    have HC9 := S8.out z8 HBz8.out
    go_wp2_with fail
    refine HC9.mono ?_
    rintro e z9 ⟨qo, qc, rfl, hs, hb⟩
    have HBz9 : Hid (Below w.heap.size w z9) := HBz8.out.trans (hb.mono HBz8.out.size)
    have FA_z9 : Hid (Sl 0 9 z9 (.slice xo GL.length xc) (strs GL)) := FA_z8.out.below hb (Nat.le_refl _)
    have FB_z9 : Hid (Sl 0 9 z9 (.slice yo FL.length yc) (strs FL)) := FB_z8.out.below hb (Nat.le_refl _)
    have FC_z9 : Hid (Mat 0 22 3 z9 (.slice oo O.length oc) O) := FC_z8.out.below hb (Nat.le_refl _)
    have FD_z9 : Hid (Sl 0 3 z9 (.slice co (d + 1) cc) (ints WL)) := FD_z8.out.below hb (Nat.le_refl _)
    have FE_z9 : Hid (Sl 0 9 z9 (.slice ao GL.length ac) (strs GL)) := FE_z8.out.below hb (Nat.le_refl _)
    have FF_z9 : Hid (Sl 0 9 z9 (.slice bo FL.length bc) (strs FL)) := FF_z8.out.below hb (Nat.le_refl _)
    have FG_z9 : Hid (Mat 0 22 3 z9 (.slice po O.length pc) O) := FG_z8.out.below hb (Nat.le_refl _)
    have FH_z9 : Hid (Sl 0 3 z9 (.slice qo (d + 1) qc) (ints WL)) := hs
    clear hb HC9 hs
    clear FA_z8
    clear FB_z8
    clear FC_z8
    clear FD_z8
    clear FE_z8
    clear FF_z8
    clear FG_z8
    have HC10 := S9.out z9 HBz9.out
    go_wp2_with fail
    refine HC10.mono ?_
    rintro e z10 ⟨rfl, hb⟩
    have HBz10 : Hid (Below w.heap.size w z10) := HBz9.out.trans (hb.mono HBz9.out.size)
    have FA_z10 : Hid (Sl 0 9 z10 (.slice xo GL.length xc) (strs GL)) := FA_z9.out.below hb (Nat.le_refl _)
    have FB_z10 : Hid (Sl 0 9 z10 (.slice yo FL.length yc) (strs FL)) := FB_z9.out.below hb (Nat.le_refl _)
    have FC_z10 : Hid (Mat 0 22 3 z10 (.slice oo O.length oc) O) := FC_z9.out.below hb (Nat.le_refl _)
    have FD_z10 : Hid (Sl 0 3 z10 (.slice co (d + 1) cc) (ints WL)) := FD_z9.out.below hb (Nat.le_refl _)
    have FE_z10 : Hid (Sl 0 9 z10 (.slice ao GL.length ac) (strs GL)) := FE_z9.out.below hb (Nat.le_refl _)
    have FF_z10 : Hid (Sl 0 9 z10 (.slice bo FL.length bc) (strs FL)) := FF_z9.out.below hb (Nat.le_refl _)
    have FG_z10 : Hid (Mat 0 22 3 z10 (.slice po O.length pc) O) := FG_z9.out.below hb (Nat.le_refl _)
    have FH_z10 : Hid (Sl 0 3 z10 (.slice qo (d + 1) qc) (ints WL)) := FH_z9.out.below hb (Nat.le_refl _)
    clear hb HC10 
    clear FA_z9
    clear FB_z9
    clear FC_z9
    clear FD_z9
    clear FE_z9
    clear FF_z9
    clear FG_z9
    clear FH_z9
    have HC11 := TX.out GL z10 ao ac xo xc FE_z10.out FA_z10.out
    go_wp2_with fail
    refine HC11.mono ?_
    rintro e z11 ⟨rfl, hb⟩
    have HBz11 : Hid (Below w.heap.size w z11) := HBz10.out.trans (hb.mono HBz10.out.size)
    have FA_z11 : Hid (Sl 0 9 z11 (.slice xo GL.length xc) (strs GL)) := FA_z10.out.below hb (Nat.le_refl _)
    have FB_z11 : Hid (Sl 0 9 z11 (.slice yo FL.length yc) (strs FL)) := FB_z10.out.below hb (Nat.le_refl _)
    have FC_z11 : Hid (Mat 0 22 3 z11 (.slice oo O.length oc) O) := FC_z10.out.below hb (Nat.le_refl _)
    have FD_z11 : Hid (Sl 0 3 z11 (.slice co (d + 1) cc) (ints WL)) := FD_z10.out.below hb (Nat.le_refl _)
    have FE_z11 : Hid (Sl 0 9 z11 (.slice ao GL.length ac) (strs GL)) := FE_z10.out.below hb (Nat.le_refl _)
    have FF_z11 : Hid (Sl 0 9 z11 (.slice bo FL.length bc) (strs FL)) := FF_z10.out.below hb (Nat.le_refl _)
    have FG_z11 : Hid (Mat 0 22 3 z11 (.slice po O.length pc) O) := FG_z10.out.below hb (Nat.le_refl _)
    have FH_z11 : Hid (Sl 0 3 z11 (.slice qo (d + 1) qc) (ints WL)) := FH_z10.out.below hb (Nat.le_refl _)
    clear hb HC11 
    clear FA_z10
    clear FB_z10
    clear FC_z10
    clear FD_z10
    clear FE_z10
    clear FF_z10
    clear FG_z10
    clear FH_z10
    have HC12 := TX.out FL z11 bo bc yo yc FF_z11.out FB_z11.out
    go_wp2_with fail
    refine HC12.mono ?_
    rintro e z12 ⟨rfl, hb⟩
    have HBz12 : Hid (Below w.heap.size w z12) := HBz11.out.trans (hb.mono HBz11.out.size)
    have FA_z12 : Hid (Sl 0 9 z12 (.slice xo GL.length xc) (strs GL)) := FA_z11.out.below hb (Nat.le_refl _)
    have FB_z12 : Hid (Sl 0 9 z12 (.slice yo FL.length yc) (strs FL)) := FB_z11.out.below hb (Nat.le_refl _)
    have FC_z12 : Hid (Mat 0 22 3 z12 (.slice oo O.length oc) O) := FC_z11.out.below hb (Nat.le_refl _)
    have FD_z12 : Hid (Sl 0 3 z12 (.slice co (d + 1) cc) (ints WL)) := FD_z11.out.below hb (Nat.le_refl _)
    have FE_z12 : Hid (Sl 0 9 z12 (.slice ao GL.length ac) (strs GL)) := FE_z11.out.below hb (Nat.le_refl _)
    have FF_z12 : Hid (Sl 0 9 z12 (.slice bo FL.length bc) (strs FL)) := FF_z11.out.below hb (Nat.le_refl _)
    have FG_z12 : Hid (Mat 0 22 3 z12 (.slice po O.length pc) O) := FG_z11.out.below hb (Nat.le_refl _)
    have FH_z12 : Hid (Sl 0 3 z12 (.slice qo (d + 1) qc) (ints WL)) := FH_z11.out.below hb (Nat.le_refl _)
    clear hb HC12 
    clear FA_z11
    clear FB_z11
    clear FC_z11
    clear FD_z11
    clear FE_z11
    clear FF_z11
    clear FG_z11
    clear FH_z11
    have HC13 := LL.out O z12 po pc oo oc FG_z12.out FC_z12.out
    go_wp2_with fail
    refine HC13.mono ?_
    rintro e z13 ⟨rfl, hb⟩
    have HBz13 : Hid (Below w.heap.size w z13) := HBz12.out.trans (hb.mono HBz12.out.size)
    have FA_z13 : Hid (Sl 0 9 z13 (.slice xo GL.length xc) (strs GL)) := FA_z12.out.below hb (Nat.le_refl _)
    have FB_z13 : Hid (Sl 0 9 z13 (.slice yo FL.length yc) (strs FL)) := FB_z12.out.below hb (Nat.le_refl _)
    have FC_z13 : Hid (Mat 0 22 3 z13 (.slice oo O.length oc) O) := FC_z12.out.below hb (Nat.le_refl _)
    have FD_z13 : Hid (Sl 0 3 z13 (.slice co (d + 1) cc) (ints WL)) := FD_z12.out.below hb (Nat.le_refl _)
    have FE_z13 : Hid (Sl 0 9 z13 (.slice ao GL.length ac) (strs GL)) := FE_z12.out.below hb (Nat.le_refl _)
    have FF_z13 : Hid (Sl 0 9 z13 (.slice bo FL.length bc) (strs FL)) := FF_z12.out.below hb (Nat.le_refl _)
    have FG_z13 : Hid (Mat 0 22 3 z13 (.slice po O.length pc) O) := FG_z12.out.below hb (Nat.le_refl _)
    have FH_z13 : Hid (Sl 0 3 z13 (.slice qo (d + 1) qc) (ints WL)) := FH_z12.out.below hb (Nat.le_refl _)
    clear hb HC13 
    clear FA_z12
    clear FB_z12
    clear FC_z12
    clear FD_z12
    clear FE_z12
    clear FF_z12
    clear FG_z12
    clear FH_z12
    have HC14 := LI.out z13 qo qc co cc FH_z13.out FD_z13.out
    go_wp2_with fail
    refine HC14.mono ?_
    rintro e z14 ⟨rfl, hb⟩
    have HBz14 : Hid (Below w.heap.size w z14) := HBz13.out.trans (hb.mono HBz13.out.size)
    have FA_z14 : Hid (Sl 0 9 z14 (.slice xo GL.length xc) (strs GL)) := FA_z13.out.below hb (Nat.le_refl _)
    have FB_z14 : Hid (Sl 0 9 z14 (.slice yo FL.length yc) (strs FL)) := FB_z13.out.below hb (Nat.le_refl _)
    have FC_z14 : Hid (Mat 0 22 3 z14 (.slice oo O.length oc) O) := FC_z13.out.below hb (Nat.le_refl _)
    have FD_z14 : Hid (Sl 0 3 z14 (.slice co (d + 1) cc) (ints WL)) := FD_z13.out.below hb (Nat.le_refl _)
    have FE_z14 : Hid (Sl 0 9 z14 (.slice ao GL.length ac) (strs GL)) := FE_z13.out.below hb (Nat.le_refl _)
    have FF_z14 : Hid (Sl 0 9 z14 (.slice bo FL.length bc) (strs FL)) := FF_z13.out.below hb (Nat.le_refl _)
    have FG_z14 : Hid (Mat 0 22 3 z14 (.slice po O.length pc) O) := FG_z13.out.below hb (Nat.le_refl _)
    have FH_z14 : Hid (Sl 0 3 z14 (.slice qo (d + 1) qc) (ints WL)) := FH_z13.out.below hb (Nat.le_refl _)
    clear hb HC14 
    clear FA_z13
    clear FB_z13
    clear FC_z13
    clear FD_z13
    clear FE_z13
    clear FF_z13
    clear FG_z13
    clear FH_z13
    by_cases h4 : 4 < P.length
    · have h4I : decide ((4 : Int) < (P.length : Int)) = true := decide_eq_true (by omega)
      go_wp2
      go_ret
      exact ⟨rfl, HBz14.out⟩
    · have h4I : decide ((4 : Int) < (P.length : Int)) = false := decide_eq_false (by omega)
      clear FA_z14
      clear FB_z14
      clear FC_z14
      clear FD_z14
      clear FE_z14
      clear FF_z14
      clear FG_z14
      clear FH_z14
      have HC15 := SA.out (by omega) z14 HBz14.out
      go_wp2_with fail
      refine HC15.mono ?_
      rintro e z15 ⟨xo2, xc2, rfl, hs, hb⟩
      have HBz15 : Hid (Below w.heap.size w z15) := HBz14.out.trans (hb.mono HBz14.out.size)
      have FI_z15 : Hid (Sl 0 9 z15 (.slice xo2 TL.length xc2) (strs TL)) := hs
      clear hb HC15 hs
      have HC16 := SB.out z15 HBz15.out
      go_wp2_with fail
      refine HC16.mono ?_
      rintro e z16 ⟨yo2, yc2, rfl, hs, hb⟩
      have HBz16 : Hid (Below w.heap.size w z16) := HBz15.out.trans (hb.mono HBz15.out.size)
      have FI_z16 : Hid (Sl 0 9 z16 (.slice xo2 TL.length xc2) (strs TL)) := FI_z15.out.below hb (Nat.le_refl _)
      have FJ_z16 : Hid (Sl 0 9 z16 (.slice yo2 TL.length yc2) (strs TL)) := hs
      clear hb HC16 hs
      clear FI_z15
      have HC17 := TX.out TL z16 yo2 yc2 xo2 xc2 FJ_z16.out FI_z16.out
      go_wp2_with fail
      refine HC17.mono ?_
      rintro e z17 ⟨rfl, hb⟩
      have HBz17 : Hid (Below w.heap.size w z17) := HBz16.out.trans (hb.mono HBz16.out.size)
      have FI_z17 : Hid (Sl 0 9 z17 (.slice xo2 TL.length xc2) (strs TL)) := FI_z16.out.below hb (Nat.le_refl _)
      have FJ_z17 : Hid (Sl 0 9 z17 (.slice yo2 TL.length yc2) (strs TL)) := FJ_z16.out.below hb (Nat.le_refl _)
      clear hb HC17 
      clear FI_z16
      clear FJ_z16
      go_wp2
      go_ret
      exact ⟨rfl, HBz17.out⟩

set_option maxRecDepth 100000 in
set_option maxHeartbeats 1600000 in
theorem planeMade_any (l : List Int) (dm my : Int) (v : Value) (w : World) (hv : Sl w.heap.size 3 w v (ints l)) (hr : ∀ z ∈ l, In64 z) (h1 : In64 dm) (h2 : In64 my) :
    Calls Tryz.prog 3 #[v, .int .i64 dm, .int .i64 my] w fun e w' => e = .returned (.bool true) ∧ Below w.heap.size w w' := by
  obtain ⟨vo, vc, rfl, hvc, hvm⟩ := sl_open hv
  have HV : Hid (Sl w.heap.size 3 w (.slice vo l.length vc) (ints l)) := hv
  have HR : Hid (∀ z ∈ l, In64 z) := hr
  have HPK : Hid (∀ (c : Int) (n : Nat) (X : World), In64 c → 1 ≤ n → n ≤ 100000 → Calls Tryz.prog 4 #[.int .i64 c, .int .i64 (n : Int)] X fun e w' => ∃ z : Nat, e = .returned (.int .i64 (z : Int)) ∧ z < n ∧ w' = X) := fun c n X hc h1 h2 => by
    refine (pick_any c n X (by omega) (by omega) hc).mono ?_
    rintro e w' ⟨z, rfl, hz, hw⟩
    exact ⟨z.toNat, by rw [show ((z.toNat : Nat) : Int) = z by omega], by omega, hw⟩
  have H1 : Hid (In64 dm) := h1
  have H2 : Hid (In64 my) := h2
  clear hv hr h1 h2
  by_cases hbig : 256 < l.length
  · have t1 : (256 : Int) < (l.length : Int) := by omega
    go_enter Tryz.func3, Tryz.ntmps3
    go_wp2
    go_ret
    exact ⟨rfl, Below.refl _ _⟩
  · have t1 : ¬ (256 : Int) < (l.length : Int) := by omega
    have HPL : Hid (∀ (d m : Nat) X, 1 ≤ d → d ≤ 3 → m ≤ 5 → Below w.heap.size w X → Calls Tryz.prog 6 #[.slice vo l.length vc, .int .i64 (d : Int), .int .i64 (m : Int)] X fun e w' => ∃ uo uc P, e = .returned (.slice uo P.length uc) ∧ Mat 0 22 3 w' (.slice uo P.length uc) P ∧ P.length ≤ m ∧ (PlG d P ∧ P3 P) ∧ Below X.heap.size X w') := fun d m X a1 a2 a3 hX => planesOf3_any w.heap.size l d m _ X (HV.out.below hX (Nat.le_refl _)) HR.out (by omega) a1 a2 (by omega)
    go_enter Tryz.func3, Tryz.ntmps3
    go_wp2_with fail
    refine (HPK.out dm 3 w H1.out (by decide) (by decide)).mono ?_
    rintro e w' ⟨z1, rfl, hz1, hw⟩
    obtain rfl := hw.symm
    clear hw
    have hdI : IntKind.i64.wrap (1 + (z1 : Int)) = ((z1 + 1 : Nat) : Int) := by rw [IntKind.wrap_i64]; omega
    go_wp2_with fail
    refine (HPK.out my 6 w H2.out (by decide) (by decide)).mono ?_
    rintro e w' ⟨m, rfl, hm, hw⟩
    obtain rfl := hw.symm
    clear hw
    go_wp2_with fail
    refine (HPL.out (z1 + 1) m w (by omega) (by omega) (by omega) (Below.refl _ _)).mono ?_
    rintro e w1 ⟨uo, uc, P, rfl, hM, hPl, ⟨hG, h3⟩, hb1⟩
    have HS := planeSays_ok (z1 + 1) P _ w1 (by omega) (by omega) hG h3 (by omega) hM
    have HB1 : Hid (Below w.heap.size w w1) := hb1
    clear hb1 hM hG h3 HPL HPK
    go_wp2_with fail
    refine HS.mono ?_
    rintro e w2 ⟨rfl, hb2⟩
    have HB2 : Hid (Below w.heap.size w w2) := HB1.out.trans (hb2.mono HB1.out.size)
    clear hb2 HS
    go_wp2
    go_ret
    exact ⟨rfl, HB2.out⟩
end Go.Proofs.YtgfnmkenpgnllaaGreat
