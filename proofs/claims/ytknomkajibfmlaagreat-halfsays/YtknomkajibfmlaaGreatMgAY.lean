import Derived.Test.YtknomkajibfmlaaGreatHg0
import Derived.Test.YtknomkajibfmlaaGreatMgAA
import Derived.Test.YtknomkajibfmlaaGreatMgAF
import Derived.Test.YtknomkajibfmlaaGreatHg2
import Derived.Test.YtknomkajibfmlaaGreatHg3
import Derived.Test.YtknomkajibfmlaaGreatMgAR
import Derived.Test.YtknomkajibfmlaaGreatMgAL
import Derived.Test.YtknomkajibfmlaaGreatMgAJ
/- half.Corners, of a cut that may be. -/
namespace Go.Proofs.YtknomkajibfmlaaGreat
open Go.RowKit
attribute [local go_sem ↓] Go.wp_at_zero Go.wp_at_succ

/-- What it gives. -/
def CoW (d : Nat) (rows : List (List Int)) (w : World) (u : Value) (e : Int) : Prop :=
  (empB d rows = true ∧ u = .slice none 0 0 ∧ e = 6) ∨ (empB d rows = false ∧ opB d rows = true ∧ u = .slice none 0 0 ∧ e = 7) ∨ (empB d rows = false ∧ opB d rows = false ∧ e = 0 ∧ ∃ m, Mat 0 38 3 w u m ∧ Inor m (crL d rows (ext rows.length d 0)))

set_option maxRecDepth 100000 in
set_option maxHeartbeats 1600000 in
theorem halfCornersG_ok (d : Nat) (rows : List (List Int)) (v : Value) (w : World) {B0 : Nat} (hv : Mat B0 38 3 w v rows) (hc : CutF d rows) :
    Calls Tryz.prog 13 #[.agg #[.int .i64 d, v]] w fun e w' => ∃ uo ul uc E, e = .returned (.tuple #[.slice uo ul uc, .int .i64 E]) ∧ CoW d rows w' (.slice uo ul uc) E ∧ Below w.heap.size w w' := by
  obtain ⟨ro, rc, hvv, hlc, hcm⟩ := mat_open hv
  subst hvv
  obtain ⟨W, hW, hbW, hsW, hcW⟩ := cut_box w d (.slice ro rows.length rc)
  have HWW : Hid (W = w.alloc (.cells #[.int .i64 d, .slice ro rows.length rc] 24)) := hW
  have HBW : Hid (∀ X, Below W.heap.size W X → Below w.heap.size w X) := fun X hX => hbW.trans (hX.mono hbW.size)
  have HCC : Hid (∀ X, Below W.heap.size W X → X.cell? ⟨w.heap.size, 0, none⟩ = some (.int .i64 d) ∧ X.cell? ⟨w.heap.size, 1, none⟩ = some (.slice ro rows.length rc)) := hcW
  have HVW : ∀ X, Below W.heap.size W X → Mat B0 38 3 X (.slice ro rows.length rc) rows := fun X hX => hv.below (HBW.out X hX) (Nat.le_refl _)
  have H1 : Hid (∀ X, Below W.heap.size W X → Calls Tryz.prog 8 #[.agg #[.int .i64 d, .slice ro rows.length rc]] X fun e w' => e = .returned (.int .i64 0) ∧ Below X.heap.size X w') := fun X hX => halfCheckF_ok d rows _ X ((HVW X hX).any (Nat.le_refl _)) hc
  have H2 : Hid (∀ X, Below W.heap.size W X → Calls Tryz.prog 20 #[.agg #[.int .i64 d, .slice ro rows.length rc]] X fun e w' => e = .returned (.bool (empB d rows)) ∧ Below X.heap.size X w') := fun X hX => isEmptyF_ok d rows _ X ((HVW X hX).any (Nat.le_refl _)) hc
  have H3 : Hid (∀ X, Below W.heap.size W X → Calls Tryz.prog 29 #[.agg #[.int .i64 d, .slice ro rows.length rc]] X fun e w' => e = .returned (.bool (opB d rows)) ∧ Below X.heap.size X w') := fun X hX => isOpen_ok d rows _ X (HVW X hX) hc
  have H4 : Hid (∀ X, Below W.heap.size W X → Calls Tryz.prog 30 #[.agg #[.int .i64 d, .slice ro rows.length rc]] X fun e w' => ∃ xo xc m, e = .returned (.slice xo m.length xc) ∧ Mat 0 38 3 w' (.slice xo m.length xc) m ∧ Inor m (crL d rows (ext rows.length d 0)) ∧ Below X.heap.size X w') := fun X hX => by
    refine (corners_any d rows _ X (HVW X hX) hc).mono ?_
    rintro e w' ⟨u, m, rfl, g1, g2, g3⟩
    have g4 := fr_matE g1
    obtain ⟨xo, xc, rfl, _, _⟩ := mat_open g4
    exact ⟨xo, xc, m, rfl, g4, g2, g3⟩
  obtain ⟨c0, c1⟩ := hcW W (Below.refl _ _)
  clear hv hc hW hbW hsW hcW HVW
  go_enter Tryz.func13, Tryz.ntmps13
  go_upto_region 1 with fail
  rw [← HWW.out]
  go_wp2_with fail
  refine (H1.out W (Below.refl _ _)).mono ?_
  rintro e w1 ⟨rfl, hb1⟩
  have HB1 : Hid (Below W.heap.size W w1) := hb1
  clear hb1 c0 c1
  obtain ⟨c0, c1⟩ := HCC.out w1 HB1.out
  go_wp2_with fail
  refine (H2.out w1 HB1.out).mono ?_
  rintro e w2 ⟨rfl, hb2⟩
  have HB2 : Hid (Below W.heap.size W w2) := HB1.out.trans (hb2.mono HB1.out.size)
  clear hb2 c0 c1
  obtain ⟨c0, c1⟩ := HCC.out w2 HB2.out
  cases he : empB d rows with
  | true =>
    have HE : Hid (empB d rows = true) := he
    clear he
    go_wp2
    exact bodyPost_ret (v := .tuple #[.slice none 0 0, .int .i64 6]) (by simp [results, Tryz.results13, go_sem]) rfl ⟨_, _, _, _, rfl, .inl ⟨HE.out, rfl, rfl⟩, HBW.out _ HB2.out⟩
  | false =>
    have HE : Hid (empB d rows = false) := he
    clear he
    go_wp2_with fail
    refine (H3.out w2 HB2.out).mono ?_
    rintro e w3 ⟨rfl, hb3⟩
    have HB3 : Hid (Below W.heap.size W w3) := HB2.out.trans (hb3.mono HB2.out.size)
    clear hb3 c0 c1
    obtain ⟨c0, c1⟩ := HCC.out w3 HB3.out
    cases ho : opB d rows with
    | true =>
      have HO : Hid (opB d rows = true) := ho
      clear ho
      go_wp2
      exact bodyPost_ret (v := .tuple #[.slice none 0 0, .int .i64 7]) (by simp [results, Tryz.results13, go_sem]) rfl ⟨_, _, _, _, rfl, .inr (.inl ⟨HE.out, HO.out, rfl, rfl⟩), HBW.out _ HB3.out⟩
    | false =>
      have HO : Hid (opB d rows = false) := ho
      clear ho
      go_wp2_with fail
      refine (H4.out w3 HB3.out).mono ?_
      rintro e w4 ⟨xo, xc, m, rfl, hm, hin, hb4⟩
      have HB4 : Hid (Below W.heap.size W w4) := HB3.out.trans (hb4.mono HB3.out.size)
      have HM : Hid (Mat 0 38 3 w4 (.slice xo m.length xc) m) := hm
      have HIN : Hid (Inor m (crL d rows (ext rows.length d 0))) := hin
      clear hb4 c0 c1 hm hin
      go_wp2
      exact bodyPost_ret (v := .tuple #[.slice xo m.length xc, .int .i64 0]) (by simp [results, Tryz.results13, go_sem]) rfl ⟨_, _, _, _, rfl, .inr (.inr ⟨HE.out, HO.out, rfl, m, HM.out, HIN.out⟩), HBW.out _ HB4.out⟩

end Go.Proofs.YtknomkajibfmlaaGreat

/- What the laws don't look at, and how they hold two numbers against each other. -/
namespace Go.Proofs.YtknomkajibfmlaaGreat
open Go.RowKit
attribute [local go_sem ↓] Go.wp_at_zero Go.wp_at_succ

set_option maxRecDepth 100000 in
set_option maxHeartbeats 800000 in
theorem heavy_any (B : Nat) (m : List (List Int)) (v : Value) (w : World) (hv : Mat B 38 3 w v m) :
    Calls Tryz.prog 4 #[v] w fun e w' => ∃ b, e = .returned (.bool b) ∧ (b = false → m.length ≤ 300) ∧ w' = w := by
  obtain ⟨ao, cap, hvv, hlc, hcm⟩ := mat_open hv
  subst hvv
  have HV : Hid (Mat B 38 3 w (.slice ao m.length cap) m) := hv
  clear hv
  by_cases h1 : 300 < m.length
  · have b1 : decide ((300 : Int) < (m.length : Int)) = true := decide_eq_true (by omega)
    go_enter Tryz.func4, Tryz.ntmps4
    go_wp2
    go_ret
    exact ⟨true, rfl, (fun h => absurd h (by decide)), rfl⟩
  · have b1 : decide ((300 : Int) < (m.length : Int)) = false := decide_eq_false (by omega)
    have HL : Hid (m.length ≤ 300) := by show _ ≤ _; omega
    go_enter Tryz.func4, Tryz.ntmps4
    go_wp2
    go_loopw [3, 4] (fun n i wr => ∃ t s : Nat, t ≤ m.length ∧ s ≤ 300 * t ∧ n = .int .i64 s ∧ i = .int .i64 t ∧ wr = w) (fun _ i _ => m.length - (intOf i).toNat)
    case atStart => exact ⟨0, 0, Nat.zero_le _, Nat.le_refl _, rfl, rfl, rfl⟩
    case round =>
      obtain ⟨t, s, ht, hs, rfl, rfl, rfl⟩ := hrel
      by_cases htn : t < m.length
      · obtain ⟨b, o, cp, u, hs, _, hcc, hu⟩ := mat_cell HV.out htn
        simp only [Value.slice.injEq, true_and] at hs
        obtain ⟨rfl, rfl⟩ := hs
        obtain ⟨uo, uc, hue, hul, hum⟩ := sl_open hu
        subst hue
        generalize (m.getD t []).length = l at *
        clear hu
        by_cases hl : 300 < l
        · have b2 : decide ((300 : Int) < (l : Int)) = true := decide_eq_true (by omega)
          go_wp2
          go_ret
          exact ⟨true, rfl, (fun h => absurd h (by decide)), rfl⟩
        · have b2 : decide ((300 : Int) < (l : Int)) = false := decide_eq_false (by omega)
          go_wp2
          go_roundw
          case rel => exact ⟨t + 1, s + l, by omega, by omega, by go_num, by go_num, trivial⟩
          case measure => simp [intOf]; omega
      · go_wp2
        go_ret
        exact ⟨_, rfl, fun _ => HL.out, rfl⟩

end Go.Proofs.YtknomkajibfmlaaGreat

/- HalfSays, of a cut that may be and a direction of it; HalfMade. -/
namespace Go.Proofs.YtknomkajibfmlaaGreat
open Go.RowKit
attribute [local go_sem ↓] Go.wp_at_zero Go.wp_at_succ

set_option maxRecDepth 100000 in
theorem listsG_no (E : Int) (hE : (E == 0) = false) (w : World) :
    Calls Tryz.prog 11 #[.slice none 0 0, .int .i64 E, .slice none 0 0, .int .i64 E] w fun x w' => x = .returned (.bool true) ∧ w' = w := by
  have hE2 : (E != 0) = true := by simpa using hE
  go_enter Tryz.func11, Tryz.ntmps11
  go_wp2
  go_ret
  exact ⟨rfl, rfl⟩

set_option maxRecDepth 100000 in
theorem listsG_same (B : Nat) (x : List (List Int)) (u v : Value) (w : World) (hu : Mat B 38 3 w u x) (hv : Mat B 38 3 w v x) :
    Calls Tryz.prog 11 #[u, .int .i64 0, v, .int .i64 0] w fun x w' => x = .returned (.bool true) ∧ Below w.heap.size w w' := by
  obtain ⟨uo, uc, rfl, _, _⟩ := mat_open hu
  obtain ⟨vo, vc, rfl, _, _⟩ := mat_open hv
  have HU : Hid (Mat B 38 3 w (.slice uo x.length uc) x) := hu
  have HV : Hid (Mat B 38 3 w (.slice vo x.length vc) x) := hv
  clear hu hv
  go_enter Tryz.func11, Tryz.ntmps11
  go_wp2_with fail
  refine (sameAll_any B x x _ _ w HU.out HV.out).mono ?_
  rintro e w' ⟨rfl, n, rfl⟩
  have hxx : (x == x) = true := by simp
  rw [hxx]
  go_wp2
  go_ret
  exact ⟨rfl, ⟨rfl, rfl, rfl, Nat.le_refl _, fun _ _ => rfl⟩⟩

set_option maxRecDepth 100000 in
set_option maxHeartbeats 4000000 in
theorem halfSays_ok (d k : Nat) (rows : List (List Int)) (v : Value) (w : World) {B0 : Nat} (hv : Mat B0 38 3 w v rows) (hc : CutF d rows) (hk : k < d) :
    Calls Tryz.prog 3 #[.agg #[.int .i64 d, v], .int .i64 k] w fun e w' => e = .returned (.bool true) ∧ Below w.heap.size w w' := by
  obtain ⟨ro, rc, hvv, hlc, hcm⟩ := mat_open hv
  subst hvv
  obtain ⟨W, hW, hbW, hsW, hcW⟩ := cut_box w d (.slice ro rows.length rc)
  have HWW : Hid (W = w.alloc (.cells #[.int .i64 d, .slice ro rows.length rc] 24)) := hW
  have HBW : Hid (∀ X, Below W.heap.size W X → Below w.heap.size w X) := fun X hX => hbW.trans (hX.mono hbW.size)
  have HCC : Hid (∀ X, Below W.heap.size W X → X.cell? ⟨w.heap.size, 0, none⟩ = some (.int .i64 d) ∧ X.cell? ⟨w.heap.size, 1, none⟩ = some (.slice ro rows.length rc)) := hcW
  have HVW : ∀ X, Below W.heap.size W X → Mat B0 38 3 X (.slice ro rows.length rc) rows := fun X hX => hv.below (HBW.out X hX) (Nat.le_refl _)
  have HHV : Hid (Calls Tryz.prog 4 #[.slice ro rows.length rc] W fun e w' => ∃ b, e = .returned (.bool b) ∧ w' = W) := by
    refine (heavy_any _ rows _ W (hv.below hbW (Nat.le_refl _))).mono ?_
    rintro e w' ⟨b, rfl, _, rfl⟩
    exact ⟨b, rfl, rfl⟩
  have HCM : Hid (∀ X, Below W.heap.size W X → Calls Tryz.prog 5 #[.agg #[.int .i64 d, .slice ro rows.length rc]] X fun e w' => e = .returned (.int .i64 0) ∧ Below X.heap.size X w') := fun X hX => cutMay_ok d rows _ X (HVW X hX) hc
  have HEM : Hid (∀ X, Below W.heap.size W X → Calls Tryz.prog 6 #[.slice ro rows.length rc, .int .i64 d] X fun e w' => e = .returned (.bool (empB d rows)) ∧ Below X.heap.size X w') := fun X hX => by
    have h := empty_any d rows _ X (HVW X hX) hc.d1 hc.d4 (by have := hc.n12; omega) hc.rw
    rw [doc_emp hc.len] at h
    exact h
  have HHE : Hid (∀ X, Below W.heap.size W X → Calls Tryz.prog 7 #[.agg #[.int .i64 d, .slice ro rows.length rc]] X fun e w' => e = .returned (.tuple #[.bool (empB d rows), .int .i64 0]) ∧ Below X.heap.size X w') := fun X hX => emptyF_ok d rows _ X ((HVW X hX).any (Nat.le_refl _)) hc
  have HCK : Hid (∀ X, Below W.heap.size W X → Calls Tryz.prog 8 #[.agg #[.int .i64 d, .slice ro rows.length rc]] X fun e w' => e = .returned (.int .i64 0) ∧ Below X.heap.size X w') := fun X hX => halfCheckF_ok d rows _ X ((HVW X hX).any (Nat.le_refl _)) hc
  have HWR : Hid (∀ X, Below W.heap.size W X → Calls Tryz.prog 9 #[.slice ro rows.length rc, .int .i64 k] X fun e w' => ∃ xo xc s, e = .returned (.slice xo s.length xc) ∧ Mat 0 38 3 w' (.slice xo s.length xc) s ∧ SAsc s ∧ (∀ r, r ∈ s ↔ r ∈ woAll rows k rows.length) ∧ Below X.heap.size X w') := fun X hX => by
    refine (withoutR_any d k rows _ X (HVW X hX) hc hk).mono ?_
    rintro e w' ⟨x, s, rfl, h1, h2, h3, h4⟩
    have g4 := fr_matE h1
    obtain ⟨xo, xc, rfl, _, _⟩ := mat_open g4
    exact ⟨xo, xc, s, rfl, g4, h2, h3, h4⟩
  have HWH : Hid (∀ X, Below W.heap.size W X → ∀ s, SAsc s → (∀ r, r ∈ s ↔ r ∈ woAll rows k rows.length) → Calls Tryz.prog 10 #[.agg #[.int .i64 d, .slice ro rows.length rc], .int .i64 k] X fun e w' => ∃ xo xc, e = .returned (.tuple #[.slice xo s.length xc, .int .i64 0]) ∧ Mat 0 38 3 w' (.slice xo s.length xc) s ∧ Below X.heap.size X w') := fun X hX s hs hm => by
    refine (halfWithout_ok d k rows _ X ((HVW X hX).any (Nat.le_refl _)) hc hk).mono ?_
    rintro e w' ⟨u, m', rfl, h1, h2, h3⟩
    have e1 : m' = s := sasc_ext m' s h2.asc hs fun r => by rw [h2.mem, hm]
    subst e1
    have g4 := fr_matE h1
    obtain ⟨xo, xc, rfl, _, _⟩ := mat_open g4
    exact ⟨xo, xc, rfl, g4, h3⟩
  have HKC : Hid (∀ X, Below W.heap.size W X → Calls Tryz.prog 12 #[.slice ro rows.length rc, .int .i64 d] X fun e w' => ∃ uo ul uc E, e = .returned (.tuple #[.slice uo ul uc, .int .i64 E]) ∧ Below X.heap.size X w' ∧
      ∀ Y, Below w'.heap.size w' Y → Calls Tryz.prog 13 #[.agg #[.int .i64 d, .slice ro rows.length rc]] Y fun e w2 => ∃ xo xl xc, e = .returned (.tuple #[.slice xo xl xc, .int .i64 E]) ∧ Below Y.heap.size Y w2 ∧ Calls Tryz.prog 11 #[.slice xo xl xc, .int .i64 E, .slice uo ul uc, .int .i64 E] w2 fun e w3 => e = .returned (.bool true) ∧ Below w2.heap.size w2 w3) := fun X hX => by
    refine (cutCorners_any d rows _ X (HVW X hX) hc).mono ?_
    rintro e w' ⟨uo, ul, uc, E, rfl, hq, hb⟩
    refine ⟨uo, ul, uc, E, rfl, hb, fun Y hY => ?_⟩
    have hbY : Below W.heap.size W Y := hX.trans ((hb.trans (hY.mono hb.size)).mono hX.size)
    refine (halfCornersG_ok d rows _ Y (HVW Y hbY) hc).mono ?_
    rintro e w2 ⟨xo, xl, xc, F, rfl, hf, hb2⟩
    rcases hq with ⟨a1, a2, rfl⟩ | ⟨a1, a2, a3, rfl⟩ | ⟨a1, a2, rfl, s, a3, a4, a5⟩
    · rcases hf with ⟨_, f2, rfl⟩ | ⟨f1, _⟩ | ⟨f1, _⟩
      · refine ⟨xo, xl, xc, rfl, hb2, ?_⟩
        rw [a2, f2]
        refine (listsG_no 6 (by decide) w2).mono ?_
        rintro e w3 ⟨rfl, rfl⟩
        exact ⟨rfl, Below.refl _ _⟩
      · rw [a1] at f1; cases f1
      · rw [a1] at f1; cases f1
    · rcases hf with ⟨f1, _⟩ | ⟨_, _, f2, rfl⟩ | ⟨_, f1, _⟩
      · rw [a1] at f1; cases f1
      · refine ⟨xo, xl, xc, rfl, hb2, ?_⟩
        rw [a3, f2]
        refine (listsG_no 7 (by decide) w2).mono ?_
        rintro e w3 ⟨rfl, rfl⟩
        exact ⟨rfl, Below.refl _ _⟩
      · rw [a2] at f1; cases f1
    · rcases hf with ⟨f1, _⟩ | ⟨_, f1, _⟩ | ⟨_, _, rfl, m, f2, f3⟩
      · rw [a1] at f1; cases f1
      · rw [a2] at f1; cases f1
      · refine ⟨xo, xl, xc, rfl, hb2, ?_⟩
        have e1 : m = s := sasc_ext m s f3.asc a4 fun r => by rw [f3.mem, a5, corners_same hc.len]
        subst e1
        exact listsG_same 0 m _ _ w2 f2 ((a3.below hY (Nat.le_refl _)).below hb2 (Nat.le_refl _))
  have HLS : Hid (∀ X x uo uc vo vc, Mat 0 38 3 X (.slice uo x.length uc) x → Mat 0 38 3 X (.slice vo x.length vc) x → Calls Tryz.prog 11 #[.slice uo x.length uc, .int .i64 0, .slice vo x.length vc, .int .i64 0] X fun e w' => e = .returned (.bool true) ∧ Below X.heap.size X w') := fun X x uo uc vo vc h1 h2 => listsG_same 0 x _ _ X h1 h2
  obtain ⟨c0, c1⟩ := hcW W (Below.refl _ _)
  have hk0 : (0 : Int) ≤ (k : Int) := by omega
  have hkb : decide ((k : Int) < 0) = false := decide_eq_false (by omega)
  have hkd : decide ((d : Int) ≤ (k : Int)) = false := decide_eq_false (by omega)
  have hkdN : decide (d ≤ k) = false := decide_eq_false (by omega)
  clear hv hc hW hbW hsW hcW HVW hk
  go_enter Tryz.func3, Tryz.ntmps3
  go_upto_region 1 with fail
  rw [← HWW.out]
  go_wp2_with fail
  refine HHV.out.mono ?_
  rintro e w' ⟨b, rfl, hww⟩
  rw [hww]
  clear hww w'
  cases b
  case true =>
    go_wp2
    go_ret
    exact ⟨rfl, HBW.out _ (Below.refl _ _)⟩
  case false =>
    go_wp2_with fail
    refine (HCM.out W (Below.refl _ _)).mono ?_
    rintro e w1 ⟨rfl, hb1⟩
    have HB1 : Hid (Below W.heap.size W w1) := hb1
    clear hb1 c0 c1 HCM HHV
    obtain ⟨c0, c1⟩ := HCC.out w1 HB1.out
    go_wp2_with fail
    refine (HEM.out w1 HB1.out).mono ?_
    rintro e w2 ⟨rfl, hb2⟩
    have HB2 : Hid (Below W.heap.size W w2) := HB1.out.trans (hb2.mono HB1.out.size)
    clear hb2 c0 c1 HEM
    obtain ⟨c0, c1⟩ := HCC.out w2 HB2.out
    generalize empB d rows = E at *
    go_wp2_with fail
    refine (HHE.out w2 HB2.out).mono ?_
    rintro e w3 ⟨rfl, hb3⟩
    have HB3 : Hid (Below W.heap.size W w3) := HB2.out.trans (hb3.mono HB2.out.size)
    clear hb3 c0 c1 HHE
    obtain ⟨c0, c1⟩ := HCC.out w3 HB3.out
    go_wp2_with fail
    refine (HCK.out w3 HB3.out).mono ?_
    rintro e w4 ⟨rfl, hb4⟩
    have HB4 : Hid (Below W.heap.size W w4) := HB3.out.trans (hb4.mono HB3.out.size)
    clear hb4 c0 c1 HCK
    obtain ⟨c0, c1⟩ := HCC.out w4 HB4.out
    have hEE : (E != E) = false := by simp
    go_wp2_with fail
    refine (HWR.out w4 HB4.out).mono ?_
    rintro e w5 ⟨xo, xc, s, rfl, hm5, hs5, hq5, hb5⟩
    have HB5 : Hid (Below W.heap.size W w5) := HB4.out.trans (hb5.mono HB4.out.size)
    have HM5 : Hid (Mat 0 38 3 w5 (.slice xo s.length xc) s) := hm5
    have HWH5 : Hid (Calls Tryz.prog 10 #[.agg #[.int .i64 d, .slice ro rows.length rc], .int .i64 k] w5 fun e w' => ∃ xo xc, e = .returned (.tuple #[.slice xo s.length xc, .int .i64 0]) ∧ Mat 0 38 3 w' (.slice xo s.length xc) s ∧ Below w5.heap.size w5 w') := HWH.out w5 HB5.out s hs5 hq5
    clear hm5 hs5 hq5 hb5 c0 c1 HWR HWH
    obtain ⟨c0, c1⟩ := HCC.out w5 HB5.out
    go_wp2_with fail
    refine HWH5.out.mono ?_
    rintro e w6 ⟨yo, yc, rfl, hm6, hb6⟩
    have HB6 : Hid (Below W.heap.size W w6) := HB5.out.trans (hb6.mono HB5.out.size)
    have HL6 : Hid (Calls Tryz.prog 11 #[.slice yo s.length yc, .int .i64 0, .slice xo s.length xc, .int .i64 0] w6 fun e w' => e = .returned (.bool true) ∧ Below w6.heap.size w6 w') := HLS.out w6 s yo yc xo xc hm6 (HM5.out.below hb6 (Nat.le_refl _))
    clear hm6 hb6 c0 c1 HWH5 HLS
    go_wp2_with fail
    refine HL6.out.mono ?_
    rintro e w7 ⟨rfl, hb7⟩
    have HB7 : Hid (Below W.heap.size W w7) := HB6.out.trans (hb7.mono HB6.out.size)
    clear hb7 HL6
    obtain ⟨c0, c1⟩ := HCC.out w7 HB7.out
    go_wp2_with fail
    refine (HKC.out w7 HB7.out).mono ?_
    rintro e w8 ⟨uo, ul, uc, F, rfl, hb8, hco⟩
    have HB8 : Hid (Below W.heap.size W w8) := HB7.out.trans (hb8.mono HB7.out.size)
    have HCO : Hid (Calls Tryz.prog 13 #[.agg #[.int .i64 d, .slice ro rows.length rc]] w8 fun e w2 => ∃ xo xl xc, e = .returned (.tuple #[.slice xo xl xc, .int .i64 F]) ∧ Below w8.heap.size w8 w2 ∧ Calls Tryz.prog 11 #[.slice xo xl xc, .int .i64 F, .slice uo ul uc, .int .i64 F] w2 fun e w3 => e = .returned (.bool true) ∧ Below w2.heap.size w2 w3) := hco w8 (Below.refl _ _)
    clear hb8 hco c0 c1 HKC
    obtain ⟨c0, c1⟩ := HCC.out w8 HB8.out
    go_wp2_with fail
    refine HCO.out.mono ?_
    rintro e w9 ⟨zo, zl, zc, rfl, hb9, hls⟩
    have HB9 : Hid (Below W.heap.size W w9) := HB8.out.trans (hb9.mono HB8.out.size)
    have HLZ : Hid (Calls Tryz.prog 11 #[.slice zo zl zc, .int .i64 F, .slice uo ul uc, .int .i64 F] w9 fun e w3 => e = .returned (.bool true) ∧ Below w9.heap.size w9 w3) := hls
    clear hb9 hls c0 c1 HCO
    go_wp2_with fail
    refine HLZ.out.mono ?_
    rintro e wz ⟨rfl, hbz⟩
    have HBZ : Hid (Below W.heap.size W wz) := HB9.out.trans (hbz.mono HB9.out.size)
    clear hbz HLZ
    go_wp2
    go_ret
    exact ⟨rfl, HBW.out _ HBZ.out⟩

end Go.Proofs.YtknomkajibfmlaaGreat
