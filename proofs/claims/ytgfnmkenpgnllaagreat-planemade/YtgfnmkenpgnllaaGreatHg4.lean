/- half.Corners, of a cut that may be. -/
import Derived.Test.YtgfnmkenpgnllaaGreatHg0
namespace Go.Proofs.YtgfnmkenpgnllaaGreat
open Go.RowKit
attribute [local go_sem ↓] Go.wp_at_zero Go.wp_at_succ

/-- What it gives. -/
def CoW (d : Nat) (rows : List (List Int)) (w : World) (u : Value) (e : Int) : Prop :=
  (empB d rows = true ∧ u = .slice none 0 0 ∧ e = 6) ∨ (empB d rows = false ∧ opB d rows = true ∧ u = .slice none 0 0 ∧ e = 7) ∨ (empB d rows = false ∧ opB d rows = false ∧ e = 0 ∧ ∃ m, Mat 0 22 3 w u m ∧ Inor m (crL d rows (ext rows.length d 0)))

set_option maxRecDepth 100000 in
set_option maxHeartbeats 1600000 in
theorem halfCornersG_ok (d : Nat) (rows : List (List Int)) (v : Value) (w : World) (hv : Mat 0 22 3 w v rows) (hc : CutOk d rows) :
    Calls Tryz.prog 36 #[.agg #[.int .i64 d, v]] w fun e w' => ∃ uo ul uc E, e = .returned (.tuple #[.slice uo ul uc, .int .i64 E]) ∧ CoW d rows w' (.slice uo ul uc) E ∧ Below w.heap.size w w' := by
  obtain ⟨ro, rc, hvv, hlc, hcm⟩ := mat_open hv
  subst hvv
  obtain ⟨W, hW, hbW, hsW, hcW⟩ := cut_box w d (.slice ro rows.length rc)
  have HWW : Hid (W = w.alloc (.cells #[.int .i64 d, .slice ro rows.length rc] 61)) := hW
  have HBW : Hid (∀ X, Below W.heap.size W X → Below w.heap.size w X) := fun X hX => hbW.trans (hX.mono hbW.size)
  have HCC : Hid (∀ X, Below W.heap.size W X → X.cell? ⟨w.heap.size, 0, none⟩ = some (.int .i64 d) ∧ X.cell? ⟨w.heap.size, 1, none⟩ = some (.slice ro rows.length rc)) := hcW
  have HVW : ∀ X, Below W.heap.size W X → Mat 0 22 3 X (.slice ro rows.length rc) rows := fun X hX => hv.below (HBW.out X hX) (Nat.le_refl _)
  have H1 : Hid (∀ X, Below W.heap.size W X → Calls Tryz.prog 50 #[.agg #[.int .i64 d, .slice ro rows.length rc]] X fun e w' => e = .returned (.int .i64 0) ∧ Below X.heap.size X w') := fun X hX => halfCheck_ok d rows _ X ((HVW X hX).more (Nat.zero_le _)) hc
  have H2 : Hid (∀ X, Below W.heap.size W X → Calls Tryz.prog 51 #[.agg #[.int .i64 d, .slice ro rows.length rc]] X fun e w' => e = .returned (.bool (empB d rows)) ∧ Below X.heap.size X w') := fun X hX => isEmpty_ok d rows _ X ((HVW X hX).more (Nat.zero_le _)) hc
  have H3 : Hid (∀ X, Below W.heap.size W X → Calls Tryz.prog 52 #[.agg #[.int .i64 d, .slice ro rows.length rc]] X fun e w' => e = .returned (.bool (opB d rows)) ∧ Below X.heap.size X w') := fun X hX => isOpen_ok d rows _ X (HVW X hX) hc
  have H4 : Hid (∀ X, Below W.heap.size W X → Calls Tryz.prog 53 #[.agg #[.int .i64 d, .slice ro rows.length rc]] X fun e w' => ∃ xo xc m, e = .returned (.slice xo m.length xc) ∧ Mat 0 22 3 w' (.slice xo m.length xc) m ∧ Inor m (crL d rows (ext rows.length d 0)) ∧ Below X.heap.size X w') := fun X hX => by
    refine (corners_any d rows _ X (HVW X hX) hc).mono ?_
    rintro e w' ⟨u, m, rfl, g1, g2, g3⟩
    have g4 := fr_matE g1
    obtain ⟨xo, xc, rfl, _, _⟩ := mat_open g4
    exact ⟨xo, xc, m, rfl, g4, g2, g3⟩
  obtain ⟨c0, c1⟩ := hcW W (Below.refl _ _)
  clear hv hc hW hbW hsW hcW HVW
  go_enter Tryz.func36, Tryz.ntmps36
  go_upto_region 1 with fail
  rw [← HWW.out]
  go_wp2_with fail
  refine (H1.out W (Below.refl _ _)).mono ?_
  rintro e w1 ⟨rfl, hb1⟩
  have HB1 : Hid (Below W.heap.size W w1) := hb1
  clear hb1 c0 c1
  obtain ⟨c0, c1⟩ := HCC.out w1 HB1.out
  go_wp2_with fail
  refine (H2.out w1 HB1.out).mono ?_
  rintro e w2 ⟨rfl, hb2⟩
  have HB2 : Hid (Below W.heap.size W w2) := HB1.out.trans (hb2.mono HB1.out.size)
  clear hb2 c0 c1
  obtain ⟨c0, c1⟩ := HCC.out w2 HB2.out
  cases he : empB d rows with
  | true =>
    have HE : Hid (empB d rows = true) := he
    clear he
    go_wp2
    exact bodyPost_ret (v := .tuple #[.slice none 0 0, .int .i64 6]) (by simp [results, Tryz.results36, go_sem]) rfl ⟨_, _, _, _, rfl, .inl ⟨HE.out, rfl, rfl⟩, HBW.out _ HB2.out⟩
  | false =>
    have HE : Hid (empB d rows = false) := he
    clear he
    go_wp2_with fail
    refine (H3.out w2 HB2.out).mono ?_
    rintro e w3 ⟨rfl, hb3⟩
    have HB3 : Hid (Below W.heap.size W w3) := HB2.out.trans (hb3.mono HB2.out.size)
    clear hb3 c0 c1
    obtain ⟨c0, c1⟩ := HCC.out w3 HB3.out
    cases ho : opB d rows with
    | true =>
      have HO : Hid (opB d rows = true) := ho
      clear ho
      go_wp2
      exact bodyPost_ret (v := .tuple #[.slice none 0 0, .int .i64 7]) (by simp [results, Tryz.results36, go_sem]) rfl ⟨_, _, _, _, rfl, .inr (.inl ⟨HE.out, HO.out, rfl, rfl⟩), HBW.out _ HB3.out⟩
    | false =>
      have HO : Hid (opB d rows = false) := ho
      clear ho
      go_wp2_with fail
      refine (H4.out w3 HB3.out).mono ?_
      rintro e w4 ⟨xo, xc, m, rfl, hm, hin, hb4⟩
      have HB4 : Hid (Below W.heap.size W w4) := HB3.out.trans (hb4.mono HB3.out.size)
      have HM : Hid (Mat 0 22 3 w4 (.slice xo m.length xc) m) := hm
      have HIN : Hid (Inor m (crL d rows (ext rows.length d 0))) := hin
      clear hb4 c0 c1 hm hin
      go_wp2
      exact bodyPost_ret (v := .tuple #[.slice xo m.length xc, .int .i64 0]) (by simp [results, Tryz.results36, go_sem]) rfl ⟨_, _, _, _, rfl, .inr (.inr ⟨HE.out, HO.out, rfl, m, HM.out, HIN.out⟩), HBW.out _ HB4.out⟩

end Go.Proofs.YtgfnmkenpgnllaaGreat
